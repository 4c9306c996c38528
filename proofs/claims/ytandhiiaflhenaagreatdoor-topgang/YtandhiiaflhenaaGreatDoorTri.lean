/- A range over a function that keeps what is left in a box of its own: the law; strings.Lines. -/
import Derived.Test.YtandhiiaflhenaaGreatDoorTrx
import Derived.RangeFuncNested
import Derived.RangeFuncBox
import Derived.RangeFuncBound
import Derived.RangeFuncCalls
import Derived.RangeFuncLeaves
import Derived.Shelf.Abstract
import Derived.Shelf.RegionOpen
import Derived.OwnWalkIn
import Derived.TacticsInMore
import Derived.LoopNIn
import Derived.LoopIn
namespace Go.Proofs.YtandhiiaflhenaaGreatDoor
open Go.RowKit Go.Deep Go.Shelf

attribute [local go_sem] Oper.semAt_some

/-- What an iterator owes whose own box is block Bs: it writes that box alone between two rounds. -/
def SeqBox {α : Type} (F : Fence) (n : Nat) (P : Program) (g : Nat) (lb : Array Value) (Bs : Nat) (encs : α → Array Value) (S Sp : List α → Prop) (N : Nat) (w : World) : Prop :=
  ∀ (l : Nat) (J Jx : List α → World → Prop) (W : World), Below w.heap.size w W → (∀ s A B, J s A → A.grownBy B (some Bs) → J s B) →
    (∀ pre x W1, J pre W1 → pre.length < N → YieldAt F (n - 1) P l (encs x) W1 fun e W' => (e = .returned (.bool true) ∧ J (pre ++ [x]) W' ∧ W'.heap[Bs]? = W1.heap[Bs]?) ∨ (e = .returned (.bool false) ∧ Jx (pre ++ [x]) W')) →
    J [] W → CallsIn F n P g (#[.func (.yield l) #[] #[]] ++ lb) W fun e W' => (∃ v, e = .returned v) ∧ ((∃ xs, S xs ∧ J xs W') ∨ (∃ pre, Sp pre ∧ Jx pre W'))
/-- How a body is left: it goes on, or returns. -/
def boxPost {α : Type} (B Bs : Nat) (I Ix : List α → World → Prop) (xs : List α) (W : World) : Exit → Act → World → Prop
  | .normal, _, W' => KeepsFrom B W W' ∧ W'.heap[Bs]? = W.heap[Bs]? ∧ I xs W'
  | .ret, _, W' => KeepsFrom B W W' ∧ Ix xs W'
  | _, _, _ => False
theorem grown_other {A B : World} {Bs k : Nat} {o : Obj} (hg : A.grownBy B (some Bs)) (h : A.heap[k]? = some o) (hne : k ≠ Bs) : B.heap[k]? = some o :=
  (hg.block k (Array.getElem?_eq_some_iff.1 h).1 (fun e => hne (Option.some.inj e))).trans h
theorem range_box {F : Fence} {n : Nat} {P : Program} {α : Type} {g : Operand} {ps : Array Tmp} {assign body : Code} {Q : Exit → Act → World → Prop} {a : Act} {w : World}
    (hro : F.round = none) (h1 : 1 ≤ n) {gf : Nat} {lb : Array Value} (hg : a.eval g = .func (.func gf) #[] lb) (hFg : F.fn gf) (eg : ∀ args w, (callFunc gf args).run P w = .ok (.enter gf args) w)
    {Bs : Nat} {encs : α → Array Value} {S Sp : List α → Prop} {N : Nat} {w0 : World} (hseq : SeqBox F (n - 1) P gf lb Bs encs S Sp N w0) (hBs : Bs < w.heap.size) (hb0 : Below w0.heap.size w0 w) (hps : ∀ x, (encs x).size = ps.size)
    (I Ix : List α → World → Prop) (hI : OwnFrom w.heap.size I) (hIx : OwnFrom w.heap.size Ix) (hIB : ∀ s A B, I s A → A.grownBy B (some Bs) → I s B) (h0 : I [] w) (a₁ : α → Act)
    (hassign : ∀ (l : Nat) (x : α) (W : World) (K : Act → World → Prop), K (a₁ x) W → assign.wpIn (F.inRound l) (n - 1 - 1) P (Exit.then K (fun _ _ _ => False)) { tmps := (ps.zip (encs x)).foldl (fun t (p, v) => t.setIfInBounds p v) a.tmps, defers := [] } W)
    (hbody : ∀ (l : Nat) (pre : List α) (x : α) (W : World), I pre W → pre.length < N → body.wpIn (F.inRound l) (n - 1 - 1) P (boxPost w.heap.size Bs I Ix (pre ++ [x]) W) (a₁ x) W)
    (hdone : ∀ (D : Nat) (xs : List α) (W : World), w.heap.size ≤ D → S xs → I xs W → W.heap[D]? = some (.deferred (some [])) → Q .normal { a with defers := { target := .collected D, args := #[] } :: a.defers } W)
    (hstop : ∀ (D : Nat) (pre : List α) (W : World), w.heap.size ≤ D → Sp pre → Ix pre W → W.heap[D]? = some (.deferred (some [])) → Code.ret.wpIn F n P Q { a with defers := { target := .collected D, args := #[] } :: a.defers } W) :
    (Code.rangeFunc g ps assign body).wpIn F n P Q a w := by
  refine wpIn_rangeFunc (fun fn hfn => ?_)
  rw [hro]
  -- the loop's two blocks: L for its record, D for what the rounds defer
  generalize hD : w.heap.size = D at *
  obtain ⟨R, hR⟩ : ∃ R : LoopState → Option Code → Loop, R = fun st pe => { state := st, pending := pe, fn, tmps := a.tmps, params := ps, assign, body, defers := D } := ⟨_, rfl⟩
  obtain ⟨W1, hW1⟩ : ∃ W1, W1 = (w.alloc (.deferred (some []))).alloc (.loop (R .ready none)) := ⟨_, rfl⟩
  have sz : (w.alloc (.deferred (some []))).heap.size = D + 1 := by rw [World.size_alloc, hD]
  have r1 : W1.heap[D + 1]? = some (.loop (R .ready none)) := by
    have := World.alloc_heap_new (w.alloc (.deferred (some []))) (.loop (R .ready none))
    rw [sz] at this
    rw [hW1]; exact this
  have d1 : W1.heap[D]? = some (.deferred (some [])) := by
    have := World.alloc_heap_new w (.deferred (some []))
    rw [hD] at this
    rw [hW1]; exact (Below.heap_alloc _ _ _ (by rw [sz]; omega)).trans this
  have i1 : I [] W1 := by rw [hW1]; exact hI.alloc _ (hI.alloc _ h0)
  have b1 : Below w0.heap.size w0 W1 := by
    rw [hW1]; exact hb0.trans ((((Below.refl _ w).alloc (Nat.le_refl _) _).alloc (by simp) _).mono hb0.size)
  refine ⟨D + 1, [{ target := .collected D, args := #[] }], W1, { target := .fn (.func gf) lb, args := #[.func (.yield (D + 1)) #[] #[]] }, W1, gf, #[.func (.yield (D + 1)) #[] #[]] ++ lb, W1, ?_, ?_, ?_, ?_, fun _ => h1, ?_⟩
  · rw [hW1, hR, ← hD]; exact run_enterLoop_outer _ _ _ _ _
  · simp only [resolve, hg]
    simp [go_sem]
  · intro f' hf'
    simp [Target.leads] at hf'
    subst hf'
    exact hFg
  · simp [invoke, go_sem, eg]
  refine (hseq (D + 1) (fun pre W => I pre W ∧ W.heap[D + 1]? = some (.loop (R .ready none)) ∧ W.heap[D]? = some (.deferred (some []))) (fun pre W => Ix pre W ∧ W.heap[D + 1]? = some (.loop (R .done (some .ret))) ∧ W.heap[D]? = some (.deferred (some []))) W1 b1
    (fun s A B hs hgr => ⟨hIB s A B hs.1 hgr, grown_other hgr hs.2.1 (by omega), grown_other hgr hs.2.2 (by omega)⟩) ?_ ⟨i1, r1, d1⟩).mono ?_
  · rintro pre x W ⟨hi, hl, hk⟩ hlen
    have hlt : D + 1 < W.heap.size := (Array.getElem?_eq_some_iff.1 hl).1
    have hy := run_yield (P := P) (args := encs x) hl (by rw [hR]; exact hps x)
    rw [hR] at hy
    refine ⟨fn, _, assign, body, hy, roundIn_of_wpIn hfn (hassign _ x W _ ⟨_, run_beginRound hl (by rw [hR]), ?_⟩)⟩
    have l2 : (W.putObj (D + 1) (.loop { R .ready none with state := .busy })).heap[D + 1]? = some (.loop { R .ready none with state := .busy }) := World.putObj_heap_same hlt
    have k2 : (W.putObj (D + 1) (.loop { R .ready none with state := .busy })).heap[D]? = some (.deferred (some [])) := (World.putObj_heap_other (by omega)).trans hk
    have s2 : (W.putObj (D + 1) (.loop { R .ready none with state := .busy })).heap[Bs]? = W.heap[Bs]? := World.putObj_heap_other (by omega)
    refine wpIn_mono (hbody _ pre x _ (hI.putObj _ hi (by omega) hl rfl) hlen) (fun e a3 W3 hp => ?_)
    cases e with
    | normal =>
      obtain ⟨k3, s3, i3⟩ := hp
      have l3 := k3.same _ _ (by omega) l2 rfl
      have d3 := k3.same _ _ (Nat.le_refl _) k2 rfl
      have er := run_endRound (P := P) none l3
      rw [hR] at er l3 ⊢
      exact ⟨_, _, er, .inl ⟨rfl, ⟨hI.putObj _ i3 (by omega) l3 rfl, World.putObj_heap_same (Array.getElem?_eq_some_iff.1 l3).1, (World.putObj_heap_other (by omega)).trans d3⟩, (World.putObj_heap_other (by omega)).trans (s3.trans s2)⟩⟩
    | ret =>
      obtain ⟨k3, i3⟩ := hp
      have l3 := k3.same _ _ (by omega) l2 rfl
      have d3 := k3.same _ _ (Nat.le_refl _) k2 rfl
      have er := run_endRound (P := P) (some .ret) l3
      rw [hR] at er l3 ⊢
      exact ⟨_, _, er, .inr ⟨rfl, hIx.putObj _ i3 (by omega) l3 rfl, World.putObj_heap_same (Array.getElem?_eq_some_iff.1 l3).1, (World.putObj_heap_other (by omega)).trans d3⟩⟩
    | exit _ => exact hp.elim
    | goto _ => exact hp.elim
    | panic _ => exact hp.elim
    | outgrown => exact hp.elim
  · rintro e W2 ⟨⟨v, rfl⟩, (⟨xs, hS, hi, hl, hk⟩ | ⟨pre, hSp, hi, hl, hk⟩)⟩
    · have el := run_endLoop (P := P) hl (by rw [hR]; simp)
      rw [hR] at el
      exact ⟨none, _, el, hdone _ xs _ (Nat.le_refl _) hS (hI.putObj _ hi (by omega) hl rfl) ((World.putObj_heap_other (by omega)).trans hk)⟩
    · have el := run_endLoop (P := P) hl (by rw [hR]; simp)
      rw [hR] at el
      exact ⟨some .ret, _, el, hstop _ pre _ (Nat.le_refl _) hSp (hIx.putObj _ hi (by omega) hl rfl) ((World.putObj_heap_other (by omega)).trans hk)⟩
/-- A text's lines, each with its end. -/
def linesN (l : List UInt8) : List (List UInt8) := (splitC 10 l).dropLast.map (fun x => x ++ [10]) ++ (if (splitC 10 l).getLast? = some [] then [] else [(splitC 10 l).getLastD []])
theorem linesN_nil : linesN [] = [] := rfl
theorem linesN_hit {l : List UInt8} (h : (cutB 10 l).2.2 = true) : linesN l = ((cutB 10 l).1 ++ [10]) :: linesN (cutB 10 l).2.1 := by
  have e := splitC_cut 10 l
  rw [h, if_pos rfl] at e
  unfold linesN
  rw [e]
  cases hs : splitC 10 (cutB 10 l).2.1 with
  | nil => exact absurd hs (splitC_ne _ _)
  | cons x r => simp
theorem linesN_last {l : List UInt8} (h : (cutB 10 l).2.2 = false) (hne : l ≠ []) : linesN l = [l] := by
  have e := splitC_cut 10 l
  rw [h, (cutB_none 10 l h).1] at e
  unfold linesN
  rw [e]
  simp [hne]
def leftB (Bs : Nat) (w : World) : Nat := match w.cell? ⟨Bs, 0, none⟩ with | some (.string x) => x.size | _ => 0
theorem leftB_at {Bs : Nat} {w : World} {s : List UInt8} (h : w.heap[Bs]? = some (.cells #[strL s] 9 (0, 0))) : leftB Bs w = s.length := by
  unfold leftB
  have : w.cell? ⟨Bs, 0, none⟩ = some (strL s) := by simp [World.cell?, h]
  rw [this]
  exact bsize s
theorem grown_set (w : World) (Bs : Nat) (v : Value) : w.grownBy (w.setCell ⟨Bs, 0, none⟩ v) (some Bs) := ⟨rfl, rfl, rfl, by simp, fun k _ hk => Below.heap_setCell _ _ _ _ (by show k ≠ Bs; exact fun e => hk (by rw [e]))⟩
theorem linesN_len (s : List UInt8) (h : s ≠ []) : 0 < (linesN s).length := by
  cases hc : (cutB 10 s).2.2 with
  | true => rw [linesN_hit hc]; simp
  | false => rw [linesN_last hc h]; simp
set_option maxRecDepth 100000 in
set_option maxHeartbeats 4000000 in
theorem lines1_in (F : Fence) (n : Nat) (hF : ∀ f, F.fn f) (hwd : F = Fence.wide) (hro : F.round = none) (hn : 2 ≤ n) (l Bs N : Nat) (t : List UInt8) (ht : t.length ≤ 9223372036854775000) (hN : (linesN t).length ≤ N) (J Jx : List { x : List UInt8 // x.length ≤ 9223372036854775000 } → World → Prop)
    (hJB : ∀ s A B, J s A → A.grownBy B (some Bs) → J s B)
    (hY : ∀ pre x W1, J pre W1 → pre.length < N → YieldAt F (n - 1) Tryz.prog l #[strL x.1] W1 fun e W' => (e = .returned (.bool true) ∧ J (pre ++ [x]) W' ∧ W'.heap[Bs]? = W1.heap[Bs]?) ∨ (e = .returned (.bool false) ∧ Jx (pre ++ [x]) W'))
    (W : World) (hb : W.heap[Bs]? = some (.cells #[strL t] 9 (0, 0))) (h0 : J [] W) :
    CallsIn F n Tryz.prog 62 #[.func (.yield l) #[] #[], .pointer (some ⟨Bs, 0, none⟩)] W fun e W' => (∃ v, e = .returned v) ∧ ((∃ xs : List { x : List UInt8 // x.length ≤ 9223372036854775000 }, xs.map Subtype.val = linesN t ∧ J xs W') ∨ (∃ pre, pre.map Subtype.val <+: linesN t ∧ Jx pre W')) := by
  subst hwd
  have HY : Hid (∀ pre x W1, J pre W1 → pre.length < N → YieldAt Fence.wide (n - 1) Tryz.prog l #[strL x.1] W1 fun e W' => (e = .returned (.bool true) ∧ J (pre ++ [x]) W' ∧ W'.heap[Bs]? = W1.heap[Bs]?) ∨ (e = .returned (.bool false) ∧ Jx (pre ++ [x]) W')) := hY
  have HJB : Hid (∀ s A B, J s A → A.grownBy B (some Bs) → J s B) := hJB
  clear hY hJB
  have hn1 : 1 ≤ n := by omega
  refine callsIn_of_wp Tryz.func62 rfl (hF _) ?_ hro
  simp only [Tryz.ntmps62, List.size_toArray, List.length_cons, List.length_nil, Nat.reduceAdd, Nat.reduceSub, Array.replicate_succ, Array.replicate_zero, List.push_toArray, List.append_toArray, List.nil_append, List.cons_append]
  gi_wp2
  gi_loopw [] (fun wr => ∃ (pre : List { x : List UInt8 // x.length ≤ 9223372036854775000 }) (s : List UInt8), linesN t = pre.map Subtype.val ++ linesN s ∧ s.length ≤ 9223372036854775000 ∧ wr.heap[Bs]? = some (.cells #[strL s] 9 (0, 0)) ∧ J pre wr) (fun wr => leftB Bs wr)
  case atStart => exact ⟨[], t, by simp, ht, hb, h0⟩
  case round =>
    obtain ⟨pre, s, hsp, hsl, hbx, hJ⟩ := hrel
    have hc : wr.cell? ⟨Bs, 0, none⟩ = some (strL s) := by simp [World.cell?, hbx]
    have hfz : wr.frozen? ⟨Bs, 0, none⟩ = false := by simp [World.frozen?, hbx]
    have hsz := bsize s
    have HSP : Hid (linesN t = pre.map Subtype.val ++ linesN s) := hsp
    have HBX : Hid (wr.heap[Bs]? = some (.cells #[strL s] 9 (0, 0))) := hbx
    clear hsp hbx
    by_cases hs0 : s = []
    · subst hs0
      unfold strL at hc
      gi_wp2
      go_end0
      exact ⟨⟨_, rfl⟩, .inl ⟨pre, by rw [HSP.out, linesN_nil]; simp, hJ⟩⟩
    · have hpos : 0 < s.length := List.length_pos_iff.2 hs0
      have hpi : (0 : Int) < (s.length : Int) := by omega
      have hlen : pre.length < N := by
        have h1 := congrArg List.length HSP.out
        have h2 := linesN_len s hs0
        rw [List.length_append, List.length_map] at h1
        omega
      have hix := Tryz.strings_IndexByte ⟨s.toArray⟩ 10 wr
      have hdl : (⟨s.toArray⟩ : ByteArray).data.toList = s := by simp
      rw [hdl, show ((10 : Int).toNat.toUInt8) = 10 from rfl] at hix
      unfold strL at hc
      cases hcb : (cutB 10 s).2.2
      case false =>
        have hneg : Lib.indexByte s 10 = -1 := by
          have h3 := cutB_ix 10 s
          by_cases h : 0 ≤ Lib.indexByte s 10
          · rw [if_pos h] at h3; rw [h3] at hcb; cases hcb
          · have := Lib.indexByte_ge s 10; omega
        rw [hneg] at hix
        have hJ2 := HJB.out pre wr (wr.setCell ⟨Bs, 0, none⟩ (.string ⟨#[]⟩)) hJ (grown_set _ _ _)
        obtain ⟨fn, tmps, assign, body, hy, hR⟩ := HY.out pre ⟨s, hsl⟩ _ hJ2 hlen
        unfold strL at hy
        dsimp only at hy
        have HL : Hid (linesN s = [s]) := linesN_last hcb hs0
        have HB2 : Hid ((wr.setCell ⟨Bs, 0, none⟩ (.string ⟨#[]⟩)).heap[Bs]? = some (.cells #[strL []] 9 (0, 0))) := blk_set_same wr Bs 0 _ _ _ HBX.out
        clear hcb hneg hdl hs0 hJ hJ2
        gi_wp2_with fail
        refine (callsIn_wide.2 hix).mono ?_
        rintro e w2 ⟨rfl, rfl⟩
        gi_wp2
        refine hR.mono ?_
        rintro e W3 (⟨rfl, hJ3, hk3⟩ | ⟨rfl, hJx3⟩)
        · have HB3 : Hid (W3.heap[Bs]? = some (.cells #[strL []] 9 (0, 0))) := hk3.trans HB2.out
          gi_wp2
          go_roundw
          case rel => exact ⟨pre ++ [⟨s, hsl⟩], [], by rw [HSP.out, HL.out, linesN_nil]; simp, by simp, HB3.out, hJ3⟩
          case measure => rw [leftB_at HB3.out, leftB_at HBX.out]; exact hpos
        · gi_wp2
          refine bodyPost_ret (results_none rfl _ _ _) rfl ?_
          exact ⟨⟨_, rfl⟩, .inr ⟨_, by rw [HSP.out, HL.out]; simp, hJx3⟩⟩
      case true =>
        obtain ⟨i, hi⟩ : ∃ i : Nat, Lib.indexByte s 10 = (i : Int) := by
          have h3 := cutB_ix 10 s
          by_cases h : 0 ≤ Lib.indexByte s 10
          · exact Int.eq_ofNat_of_zero_le h
          · rw [if_neg h] at h3; rw [h3] at hcb; cases hcb
        have hcut : cutB 10 s = (s.take i, s.drop (i + 1), true) := by
          have h3 := cutB_ix 10 s
          rw [hi, if_pos (by omega), Int.toNat_natCast] at h3
          exact h3
        have hil := Lib.indexByte_some hi
        have hilt : i < s.length := (List.getElem?_eq_some_iff.1 hil.1).1
        have htk : s.take (i + 1) = s.take i ++ [10] := by
          rw [List.take_succ_eq_append_getElem hilt]
          congr 2
          exact (List.getElem?_eq_some_iff.1 hil.1).2
        have HL : Hid (linesN s = s.take (i + 1) :: linesN (s.drop (i + 1))) := (show _ = _ by rw [linesN_hit hcb, hcut, htk])
        rw [hi] at hix
        have e1 : (⟨s.toArray⟩ : ByteArray).extract 0 (i + 1) = ⟨(s.take (i + 1)).toArray⟩ := by rw [extract_bytes]; simp
        have e2 : (⟨s.toArray⟩ : ByteArray).extract (i + 1) s.length = ⟨(s.drop (i + 1)).toArray⟩ := by rw [extract_bytes, List.take_of_length_le (by simp)]
        have hw1 : IntKind.i64.wrap ((i : Int) + 1) = ((i + 1 : Nat) : Int) := by rw [IntKind.wrap_i64]; omega
        have b1 : ((i + 1 : Nat) : Int) ≤ (s.length : Int) := by omega
        have b2 : (i : Int) + 1 ≤ (s.length : Int) := by omega
        have b3 : i + 1 ≤ s.length := by omega
        have hge : (0 : Int) ≤ (i : Int) := by omega
        obtain ⟨W2, hW2⟩ : ∃ W2, W2 = (wr.setCell ⟨Bs, 0, none⟩ (.string ⟨(s.drop (i + 1)).toArray⟩)).drew := ⟨_, rfl⟩
        have hJ2 : J pre W2 := HJB.out pre wr W2 hJ (by rw [hW2]; exact ⟨rfl, rfl, rfl, by simp [World.drew], fun k _ hk => Below.heap_setCell _ _ _ _ (by show k ≠ Bs; exact fun e => hk (by rw [e]))⟩)
        have HB2 : Hid (W2.heap[Bs]? = some (.cells #[strL (s.drop (i + 1))] 9 (0, 0))) := by
          show W2.heap[Bs]? = _
          rw [hW2]; exact blk_set_same wr Bs 0 _ _ _ HBX.out
        obtain ⟨fn, tmps, assign, body, hy, hR⟩ := HY.out pre ⟨s.take (i + 1), by simp; omega⟩ W2 hJ2 hlen
        unfold strL at hy
        dsimp only at hy
        have HW2 : Hid (W2 = (wr.setCell ⟨Bs, 0, none⟩ (.string ⟨(s.drop (i + 1)).toArray⟩)).drew) := hW2
        have HDL : Hid ((s.drop (i + 1)).length ≤ 9223372036854775000 ∧ (s.drop (i + 1)).length < s.length) := ⟨by simp; omega, by simp; omega⟩
        clear hcb hi hdl hs0 hJ hJ2 hcut hil htk hW2
        gi_wp2_with fail
        refine (callsIn_wide.2 hix).mono ?_
        rintro e w2 ⟨rfl, rfl⟩
        gi_wp2
        gi_region
        rw [← HW2.out]
        gi_wp2
        refine hR.mono ?_
        rintro e W3 (⟨rfl, hJ3, hk3⟩ | ⟨rfl, hJx3⟩)
        · have HB3 : Hid (W3.heap[Bs]? = some (.cells #[strL (s.drop (i + 1))] 9 (0, 0))) := hk3.trans HB2.out
          gi_wp2
          go_roundw
          case rel => exact ⟨pre ++ [⟨s.take (i + 1), by simp; omega⟩], s.drop (i + 1), by rw [HSP.out, HL.out]; simp, HDL.out.1, HB3.out, hJ3⟩
          case measure => rw [leftB_at HB3.out, leftB_at HBX.out]; exact HDL.out.2
        · gi_wp2
          refine bodyPost_ret (results_none rfl _ _ _) rfl ?_
          exact ⟨⟨_, rfl⟩, .inr ⟨_, by rw [HSP.out, HL.out]; simp, hJx3⟩⟩
theorem lines_box (n : Nat) (hn : 2 ≤ n) (Bs : Nat) (t : List UInt8) (ht : t.length ≤ 9223372036854775000) (w : World) (hB : Bs < w.heap.size) (hb : w.heap[Bs]? = some (.cells #[strL t] 9 (0, 0))) :
    SeqBox Fence.wide n Tryz.prog 62 #[.pointer (some ⟨Bs, 0, none⟩)] Bs (fun x : { x : List UInt8 // x.length ≤ 9223372036854775000 } => #[strL x.1]) (fun xs => xs.map Subtype.val = linesN t) (fun pre => pre.map Subtype.val <+: linesN t) (linesN t).length w := fun l J Jx W hW hJB hY h0 =>
  lines1_in Fence.wide n (fun _ => trivial) rfl rfl hn l Bs (linesN t).length t ht (Nat.le_refl _) J Jx hJB hY W ((hW.block Bs hB).trans hb) h0
theorem lines_in (F : Fence) (n : Nat) (h : F.fn 36) (hro : F.round = none) (t : List UInt8) (w : World) :
    CallsIn F n Tryz.prog 36 #[strL t] w fun e w' => e = .returned (.func (.func 62) #[] #[.pointer (some ⟨w.heap.size, 0, none⟩)]) ∧ w' = w.alloc (.cells #[strL t] 9) := by
  unfold strL
  refine callsIn_of_wp Tryz.func36 rfl h ?_ hro
  simp only [Tryz.ntmps36, List.size_toArray, List.length_cons, List.length_nil, Nat.reduceAdd, Nat.reduceSub, Array.replicate_succ, Array.replicate_zero, List.push_toArray, List.append_toArray, List.nil_append, List.cons_append]
  gi_wp2
  go_ret
  exact ⟨rfl, rfl⟩
end Go.Proofs.YtandhiiaflhenaaGreatDoor
