/- yardsame.Ints; the document's Cutting. The document's own spill in memory; its Get. The document's Put. The document's spill as a part of the document's gang: cells 4 to 6 of its block; its Get. The document's Put into the spill of the document's gang. -/
import Derived.Test.YtchbncgifefegaaDoorSla
import Derived.Deep.RegionLaw
import Derived.BigQuiet

namespace Go.Proofs.YtchbncgifefegaaDoor.Spl
open Go.RowKit Go.Deep

set_option maxHeartbeats 1000000 in
theorem ints_same (A1 A2 : Nat → Prop) (v1 v2 : Value) (xs : List Int) (w : World) (h1 : Rds A1 w v1 xs) (h2 : Rds A2 w v2 xs) (hx : xs.length ≤ 100) :
    Calls Tryd.prog 12 #[v1, v2] w fun e w' => e = .returned (.bool true) ∧ ∃ q, w' = w.drewN q := by
  obtain ⟨a1, c1, rfl, hl1, h1⟩ := h1
  obtain ⟨a2, c2, rfl, hl2, h2⟩ := h2
  have H1 : Hid (∀ k, k < xs.length → ∃ b o, a1 = some ⟨b, o, none⟩ ∧ A1 b ∧ b < w.heap.size ∧ w.cell? ⟨b, o + k, none⟩ = some (.int .i64 (xs.getD k 0))) := h1
  have H2 : Hid (∀ k, k < xs.length → ∃ b o, a2 = some ⟨b, o, none⟩ ∧ A2 b ∧ b < w.heap.size ∧ w.cell? ⟨b, o + k, none⟩ = some (.int .i64 (xs.getD k 0))) := h2
  have hne : ((xs.length : Int) != (xs.length : Int)) = false := by simp
  clear h1 h2 hl1 hl2
  go_enter Tryd.func12, Tryd.ntmps12
  go_wp2
  go_loopw [5] (fun i wr => ∃ k n : Nat, k ≤ xs.length ∧ i = .int .i64 k ∧ wr = w.drewN n) (fun i _ => xs.length - (intOf i).toNat)
  case atStart => exact ⟨0, 0, Nat.zero_le _, rfl, rfl⟩
  case round =>
    obtain ⟨k, n, hk, rfl, rfl⟩ := hrel
    by_cases hkl : k < xs.length
    · obtain ⟨b1, o1, rfl, _, _, hc1⟩ := H1.out k hkl
      obtain ⟨b2, o2, rfl, _, _, hc2⟩ := H2.out k hkl
      generalize xs.getD k 0 = x at *
      have he : (x != x) = false := by simp
      go_wp2
      go_quiet (fail)
      go_wp2
      go_roundw
      case rel => exact ⟨k + 1, _, by omega, by go_num, rfl⟩
      case measure => simp [intOf]; omega
    · go_wp2
      go_ret
      exact ⟨rfl, n, rfl⟩

/-- Two rows that share no block. -/
def Apart (va vb : Value) : Prop := ∀ k, va.ownBlock = some k → vb.ownBlock = some k → False
theorem Apart.symm {va vb : Value} (h : Apart va vb) : Apart vb va := fun k h1 h2 => h k h2 h1
theorem two_grow {B : Nat} {w1 w2 : World} {va vb v' : Value} {nb : Nat} {xb : List Value} (hb : w1.ownsRow B 3 1 vb nb xb) (hap : Apart va vb) (hg : w1.grownBy w2 va.ownBlock) (hat : v'.ownBlock = va.ownBlock ∨ v'.ownBlock = some w1.heap.size) : w2.ownsRow B 3 1 vb nb xb ∧ Apart v' vb := by
  refine ⟨hb.kept hg ?_, fun k h1 h2 => ?_⟩
  · cases h : vb.ownBlock with
    | none => exact Or.inl rfl
    | some k => exact Or.inr (fun e => hap k e.symm h)
  · rcases hat with h | h
    · exact hap k (h.symm.trans h1) h2
    · have := (hb.lt k h2).2
      rw [h] at h1
      simp only [Option.some.injEq] at h1
      omega

/-- What Cutting's loop has come to: two rows of their own. -/
structure CutM (n k : Nat) (xs la lb : List Int) (w wr : World) (va vb : Value) : Prop where
  ea : la = xs.take (min k n)
  eb : lb = (xs.take k).drop n
  a : RowI w.heap.size wr va la
  b : RowI w.heap.size wr vb lb
  ap : Apart va vb
  below : Below w.heap.size w wr

theorem take_one (xs : List Int) {k : Nat} (h : k < xs.length) : xs.take (k + 1) = xs.take k ++ [xs.getD k 0] := by
  rw [List.take_succ_eq_append_getElem h, List.getD_eq_getElem?_getD, List.getElem?_eq_getElem h]; rfl
theorem one_rds (w : World) (x : Int) : Rds (fun _ => True) (w.alloc (.cells #[.int .i64 x] 3)) (.slice (some ⟨w.heap.size, 0, none⟩) 1 1) [x] :=
  ((RowI.whole _ _ 1 _ rfl (by omega) (heap_alloc_new w _)).rds).mono (fun _ _ => trivial)

set_option maxRecDepth 100000 in
set_option maxHeartbeats 2000000 in
theorem cutting_any (A : Nat → Prop) (v : Value) (xs : List Int) (n : Nat) (w : World) (h : Rds A w v xs) (hx : xs.length ≤ 100) :
    Calls Tryd.prog 30 #[v, .int .i64 n] w fun e w' => ∃ va vb, e = .returned (.tuple #[va, vb]) ∧ RowI w.heap.size w' va (xs.take n) ∧ RowI w.heap.size w' vb (xs.drop n) ∧ Apart va vb ∧ Below w.heap.size w w' := by
  obtain ⟨a1, c1, rfl, hl1, h⟩ := h
  have H : Hid (∀ k, k < xs.length → ∃ b o, a1 = some ⟨b, o, none⟩ ∧ A b ∧ b < w.heap.size ∧ w.cell? ⟨b, o + k, none⟩ = some (.int .i64 (xs.getD k 0))) := h
  clear h hl1
  go_enter Tryd.func30, Tryd.ntmps30
  go_wp2
  go_loopw [6, 7, 8] (fun va vb s8 wr => ∃ (k : Nat) (la lb : List Int), k ≤ xs.length ∧ s8 = .int .i64 k ∧ Hid (CutM n k xs la lb w wr va vb)) (fun _ _ s8 _ => xs.length - (intOf s8).toNat)
  case atStart => exact ⟨0, [], [], Nat.zero_le _, rfl, ⟨by simp, by simp, RowI.nil _ _, RowI.nil _ _, fun k h => by simp [Value.ownBlock] at h, Below.refl _ _⟩⟩
  case round =>
    obtain ⟨k, la, lb, hk, rfl, hM⟩ := hrel
    obtain ⟨aa, ac, rfl⟩ := hM.out.a.shape
    obtain ⟨ba, bc, rfl⟩ := hM.out.b.shape
    have hla : la.length ≤ 100 := by rw [hM.out.ea]; simp; omega
    have hlb : lb.length ≤ 100 := by rw [hM.out.eb]; simp; omega
    by_cases hkl : k < xs.length
    · obtain ⟨b1, o1, rfl, _, hb1, hc1⟩ := H.out k hkl
      have hc2 := (hM.out.below.cell (p := ⟨b1, o1 + k, none⟩) hb1).trans hc1
      have hT := take_one xs hkl
      have HT : Hid (xs.take (k + 1) = xs.take k ++ [xs.getD k 0]) := hT
      clear hc1 hT
      generalize xs.getD k 0 = x at *
      have hsz := hM.out.below.size
      have HO : Hid (Rds (fun _ => True) (wr.alloc (.cells #[.int .i64 x] 3)) (.slice (some ⟨wr.heap.size, 0, none⟩) 1 1) [x]) := one_rds wr x
      by_cases hkn : k < n
      · have hkn' : (k : Int) < (n : Int) := by omega
        have hoa := hM.out.a.alloc (.cells #[.int .i64 x] 3)
        go_wp2_with (first | (at_builtin; refine wpList_append_rows rfl (.tmp 18) (.tmp 23) rfl w.heap.size (fun _ => True) (.slice aa la.length ac) (.slice (some ⟨wr.heap.size, 0, none⟩) 1 1) la [x] rfl rfl hoa HO.out (by simp; omega) (by simp; omega) ?_; intro v2 w2 hown2 hgr2 hat2))
        obtain ⟨hb2, hap2⟩ := two_grow (hM.out.b.alloc (.cells #[.int .i64 x] 3)) hM.out.ap hgr2 (by simpa using hat2)
        have hM2 : Hid (CutM n (k + 1) xs (la ++ [x]) lb w w2 v2 (.slice ba lb.length bc)) := by
          refine ⟨?_, ?_, hown2, hb2, hap2, (hM.out.below.alloc hsz _).grown hgr2 (by simp; omega) (fun j e => (hM.out.a.low e).1)⟩
          · rw [show min (k + 1) n = k + 1 by omega, HT.out, hM.out.ea, show min k n = k by omega]
          · rw [hM.out.eb, List.drop_eq_nil_of_le (by simp; omega), List.drop_eq_nil_of_le (by simp; omega)]
        clear hM hown2 hgr2 hat2 hb2 hap2 hoa HO
        go_wp2
        go_roundw
        case rel => exact ⟨k + 1, _, _, by omega, by go_num, hM2⟩
        case measure => simp [intOf]; omega
      · have hkn' : ¬ (k : Int) < (n : Int) := by omega
        have hob := hM.out.b.alloc (.cells #[.int .i64 x] 3)
        go_wp2_with (first | (at_builtin; refine wpList_append_rows rfl (.tmp 25) (.tmp 30) rfl w.heap.size (fun _ => True) (.slice ba lb.length bc) (.slice (some ⟨wr.heap.size, 0, none⟩) 1 1) lb [x] rfl rfl hob HO.out (by simp; omega) (by simp; omega) ?_; intro v2 w2 hown2 hgr2 hat2))
        obtain ⟨ha2, hap2⟩ := two_grow (hM.out.a.alloc (.cells #[.int .i64 x] 3)) hM.out.ap.symm hgr2 (by simpa using hat2)
        have hM2 : Hid (CutM n (k + 1) xs la (lb ++ [x]) w w2 (.slice aa la.length ac) v2) := by
          refine ⟨?_, ?_, ha2, hown2, hap2.symm, (hM.out.below.alloc hsz _).grown hgr2 (by simp; omega) (fun j e => (hM.out.b.low e).1)⟩
          · rw [show min (k + 1) n = min k n by omega]
            exact hM.out.ea
          · rw [HT.out, List.drop_append_of_le_length (by simp; omega), hM.out.eb]
        clear hM hown2 hgr2 hat2 ha2 hap2 hob HO
        go_wp2
        go_roundw
        case rel => exact ⟨k + 1, _, _, by omega, by go_num, hM2⟩
        case measure => simp [intOf]; omega
    · have hke : k = xs.length := by omega
      have hkl' : ¬ (k : Int) < (xs.length : Int) := by omega
      have HA : Hid (RowI w.heap.size wr (.slice aa la.length ac) (xs.take n)) := by
        have := hM.out.a
        have e := hM.out.ea
        rw [show xs.take (min k n) = xs.take n from by rw [hke, Nat.min_comm, ← List.take_eq_take_min]] at e
        rwa [e] at this ⊢
      have HBB : Hid (RowI w.heap.size wr (.slice ba lb.length bc) (xs.drop n)) := by
        have := hM.out.b
        have e := hM.out.eb
        rw [hke, List.take_length] at e
        rwa [e] at this ⊢
      have HL : Hid (Below w.heap.size w wr) := hM.out.below
      have HP : Hid (Apart (.slice aa la.length ac) (.slice ba lb.length bc)) := hM.out.ap
      clear hM
      go_wp2
      go_ret2
      exact ⟨_, _, rfl, HA.out, HBB.out, HP.out, HL.out⟩
end Go.Proofs.YtchbncgifefegaaDoor.Spl

namespace Go.Proofs.YtchbncgifefegaaDoor.Spl
open Go.RowKit Go.Deep

/-- What is kept: all blocks but those of X, and new ones. -/
structure Kx (X : Nat → Prop) (w w' : World) : Prop where
  os : w'.os = w.os
  tape : w'.tape = w.tape
  output : w'.output = w.output
  size : w.heap.size ≤ w'.heap.size
  block : ∀ k, k < w.heap.size → ¬ X k → w'.heap[k]? = w.heap[k]?
theorem Kx.refl (X : Nat → Prop) (w : World) : Kx X w w := ⟨rfl, rfl, rfl, Nat.le_refl _, fun _ _ _ => rfl⟩
theorem Kx.trans {X Y : Nat → Prop} {a b c : World} (h : Kx X a b) (k : Kx Y b c) (hY : ∀ j, Y j → X j ∨ a.heap.size ≤ j) : Kx X a c :=
  ⟨k.os.trans h.os, k.tape.trans h.tape, k.output.trans h.output, Nat.le_trans h.size k.size, fun i hi hX => by
    refine (k.block i (Nat.lt_of_lt_of_le hi h.size) (fun e => ?_)).trans (h.block i hi hX)
    rcases hY i e with h1 | h1
    · exact hX h1
    · omega⟩
theorem Kx.later {X : Nat → Prop} {w w1 w2 : World} (h : Kx X w w1) (hb : Below w1.heap.size w1 w2) : Kx X w w2 :=
  h.trans (Y := fun _ => False) ⟨hb.os, hb.tape, hb.output, hb.size, fun k hk _ => hb.block k hk⟩ (fun _ e => e.elim)
theorem Below.kx {X : Nat → Prop} {w w' : World} (h : Below w.heap.size w w') : Kx X w w' := ⟨h.os, h.tape, h.output, h.size, fun k hk _ => h.block k hk⟩
theorem Kx.set {X : Nat → Prop} {w0 w : World} (h : Kx X w0 w) {M : Nat} (hM : X M ∨ w0.heap.size ≤ M) (j : Nat) (u : Value) : Kx X w0 (w.setCell ⟨M, j, none⟩ u) :=
  h.trans (Y := fun k => k = M) ⟨rfl, rfl, rfl, by simp, fun k _ hk => Below.heap_setCell _ _ _ _ (by show k ≠ M; exact hk)⟩ (fun j e => by rw [e]; exact hM)
theorem Kx.below {X : Nat → Prop} {B : Nat} {w w' : World} (h : Kx X w w') (hX : ∀ j, X j → B ≤ j) (hB : B ≤ w.heap.size) : Below B w w' :=
  ⟨h.os, h.tape, h.output, h.size, fun k hk => h.block k (by omega) (fun e => by have := hX k e; omega)⟩
theorem Ks.kx {S : Nat} {o : Option Nat} {w w' : World} (h : Ks S o w w') : Kx (fun k => k = S ∨ o = some k) w w' :=
  ⟨h.os, h.tape, h.output, h.size, fun k hk hX => h.block k hk (fun e => hX (Or.inl e)) (fun e => hX (Or.inr e))⟩

/-- The document's spill lies in block M: as many in front as there is room for, the others behind. -/
structure Md (M room : Nat) (xs : List Int) (vf vh : Value) (w : World) : Prop where
  cells : w.heap[M]? = some (.cells #[.int .i64 room, vf, vh] 40 (0, 0))
  f : RowI (M + 1) w vf (xs.take room)
  h : RowI (M + 1) w vh (xs.drop room)
  ap : Apart vf vh
  le : xs.length ≤ 60
theorem Md.lt {M room : Nat} {xs : List Int} {vf vh : Value} {w : World} (h : Md M room xs vf vh w) : M < w.heap.size := (Array.getElem?_eq_some_iff.1 h.cells).1
theorem Md.c0 {M room : Nat} {xs : List Int} {vf vh : Value} {w : World} (h : Md M room xs vf vh w) : w.cell? ⟨M, 0, none⟩ = some (.int .i64 room) := by simp [World.cell?, h.cells]
theorem Md.c1 {M room : Nat} {xs : List Int} {vf vh : Value} {w : World} (h : Md M room xs vf vh w) : w.cell? ⟨M, 1, none⟩ = some vf := by simp [World.cell?, h.cells]
theorem Md.c2 {M room : Nat} {xs : List Int} {vf vh : Value} {w : World} (h : Md M room xs vf vh w) : w.cell? ⟨M, 2, none⟩ = some vh := by simp [World.cell?, h.cells]
theorem Md.fz {M room : Nat} {xs : List Int} {vf vh : Value} {w : World} (h : Md M room xs vf vh w) (j : Nat) : w.frozen? ⟨M, j, none⟩ = false := by simp [World.frozen?, h.cells]
theorem Md.of_blocks {M room : Nat} {xs : List Int} {vf vh : Value} {w w' : World} (h : Md M room xs vf vh w) (h1 : w'.heap[M]? = w.heap[M]?) (h2 : ∀ k, vf.ownBlock = some k → w'.heap[k]? = w.heap[k]?) (h3 : ∀ k, vh.ownBlock = some k → w'.heap[k]? = w.heap[k]?) : Md M room xs vf vh w' :=
  ⟨h1.trans h.cells, h.f.of_blocks h2, h.h.of_blocks h3, h.ap, h.le⟩
theorem Md.later {M room : Nat} {xs : List Int} {vf vh : Value} {w w' : World} (h : Md M room xs vf vh w) (hb : Below w.heap.size w w') : Md M room xs vf vh w' :=
  h.of_blocks (hb.block _ h.lt) (fun _ e => hb.block _ (h.f.low e).2) (fun _ e => hb.block _ (h.h.low e).2)
/-- Both its slices are others. -/
theorem Md.set2 {M room : Nat} {xs ys : List Int} {vf vh vc vd : Value} {w w1 : World} (h : Md M room xs vf vh w) (h1 : w1.heap[M]? = w.heap[M]?) (hc : RowI (M + 1) w1 vc (ys.take room)) (hd : RowI (M + 1) w1 vd (ys.drop room)) (hap : Apart vc vd) (hy : ys.length ≤ 60) :
    Md M room ys vc vd ((w1.setCell ⟨M, 1, none⟩ vc).setCell ⟨M, 2, none⟩ vd) := by
  have hM : w1.heap[M]? = some (.cells #[.int .i64 room, vf, vh] 40 (0, 0)) := h1.trans h.cells
  have hM2 : (w1.setCell ⟨M, 1, none⟩ vc).heap[M]? = some (.cells #[.int .i64 room, vc, vh] 40 (0, 0)) := by
    rw [setCell_eq_setRow w1 M 1 _ 40 (0, 0) vc hM, setRow_heap w1 M _ _ 40 _ hM]; rfl
  have hk : ∀ k, M + 1 ≤ k → ((w1.setCell ⟨M, 1, none⟩ vc).setCell ⟨M, 2, none⟩ vd).heap[k]? = w1.heap[k]? := fun k hk =>
    (Below.heap_setCell _ _ _ _ (by show k ≠ M; omega)).trans (Below.heap_setCell _ _ _ _ (by show k ≠ M; omega))
  refine ⟨?_, hc.of_blocks (fun k e => hk k (hc.low e).1), hd.of_blocks (fun k e => hk k (hd.low e).1), hap, hy⟩
  rw [setCell_eq_setRow _ M 2 _ 40 (0, 0) vd hM2, setRow_heap _ M _ _ 40 _ hM2]; rfl
theorem Md.set1 {M room : Nat} {xs ys : List Int} {vf vh vc : Value} {w w1 : World} (h : Md M room xs vf vh w) (h1 : w1.heap[M]? = w.heap[M]?) (hc : RowI (M + 1) w1 vc (ys.take room)) (hd : RowI (M + 1) w1 vh (ys.drop room)) (hap : Apart vc vh) (hy : ys.length ≤ 60) :
    Md M room ys vc vh (w1.setCell ⟨M, 1, none⟩ vc) := by
  have hM : w1.heap[M]? = some (.cells #[.int .i64 room, vf, vh] 40 (0, 0)) := h1.trans h.cells
  have hk : ∀ k, M + 1 ≤ k → (w1.setCell ⟨M, 1, none⟩ vc).heap[k]? = w1.heap[k]? := fun k hk => Below.heap_setCell _ _ _ _ (by show k ≠ M; omega)
  refine ⟨?_, hc.of_blocks (fun k e => hk k (hc.low e).1), hd.of_blocks (fun k e => hk k (hd.low e).1), hap, hy⟩
  rw [setCell_eq_setRow w1 M 1 _ 40 (0, 0) vc hM, setRow_heap w1 M _ _ 40 _ hM]; rfl
theorem Md.setH {M room : Nat} {xs ys : List Int} {vf vh vd : Value} {w w1 : World} (h : Md M room xs vf vh w) (h1 : w1.heap[M]? = w.heap[M]?) (hc : RowI (M + 1) w1 vf (ys.take room)) (hd : RowI (M + 1) w1 vd (ys.drop room)) (hap : Apart vf vd) (hy : ys.length ≤ 60) :
    Md M room ys vf vd (w1.setCell ⟨M, 2, none⟩ vd) := by
  have hM : w1.heap[M]? = some (.cells #[.int .i64 room, vf, vh] 40 (0, 0)) := h1.trans h.cells
  have hk : ∀ k, M + 1 ≤ k → (w1.setCell ⟨M, 2, none⟩ vd).heap[k]? = w1.heap[k]? := fun k hk => Below.heap_setCell _ _ _ _ (by show k ≠ M; omega)
  refine ⟨?_, hc.of_blocks (fun k e => hk k (hc.low e).1), hd.of_blocks (fun k e => hk k (hd.low e).1), hap, hy⟩
  rw [setCell_eq_setRow w1 M 2 _ 40 (0, 0) vd hM, setRow_heap w1 M _ _ 40 _ hM]; rfl

theorem grown_below {w w' : World} {o : Option Nat} {B : Nat} (h : w.grownBy w' o) (ho : ∀ k, o = some k → B ≤ k) (hB : B ≤ w.heap.size) : Below B w w' :=
  ⟨h.os, h.tape, h.output, h.size, fun k hk => h.block k (by omega) (fun e => by have := ho k e.symm; omega)⟩

set_option maxRecDepth 100000 in
set_option maxHeartbeats 2000000 in
theorem refGet_any (M room most : Nat) (xs : List Int) (vf vh : Value) (w : World) (h : Md M room xs vf vh w) (h1 : 1 ≤ most) (h2 : most ≤ 60) (hr : room ≤ 16) :
    Calls Tryd.prog 33 #[.pointer (some ⟨M, 0, none⟩), .int .i64 most] w fun e w' => ∃ ov vf' vh', e = .returned ov ∧ Rds (fun b => w.heap.size ≤ b) w' ov (xs.take most) ∧ Md M room (xs.drop most) vf' vh' w' ∧ Kx (fun k => k = M) w w' ∧ Near w.heap.size vf vf' ∧ Near w.heap.size vh vh' := by
  have HD : Hid (Md M room xs vf vh w) := h
  have hc1 := h.c1
  have hle := h.le
  have hlt := h.lt
  have HF := h.f
  have HH := h.h
  have hcat := List.take_append_drop room xs
  have hfl : (xs.take room).length ≤ 60 := by simp; omega
  have hhl : (xs.drop room).length ≤ 60 := by simp; omega
  generalize xs.take room = fs at *
  generalize xs.drop room = hs at *
  have HCat : Hid (fs ++ hs = xs) := hcat
  obtain ⟨fa, fc, rfl⟩ := HF.shape
  obtain ⟨ha, hc, rfl⟩ := HH.shape
  have HF1 : Hid (RowI (M + 1) w (.slice fa fs.length fc) fs) := HF
  have HH1 : Hid (RowI (M + 1) w (.slice ha hs.length hc) hs) := HH
  have hml : (xs.take most).length = min most xs.length := by simp
  have hdl : (xs.drop most).length ≤ 60 := by simp; omega
  have hdx : xs = [] → xs.drop most = xs := fun e => by subst e; simp
  have hmx : (xs.take most).length = 0 → xs = [] := fun e => by
    rw [hml] at e
    exact List.eq_nil_of_length_eq_zero (by omega)
  obtain ⟨os, hos⟩ : ∃ os, os = xs.take most := ⟨_, rfl⟩
  obtain ⟨rs, hrs⟩ : ∃ rs, rs = xs.drop most := ⟨_, rfl⟩
  rw [← hos] at hml hmx ⊢
  rw [← hrs] at hdl hdx ⊢
  have HOS : Hid (os = xs.take most) := hos
  have HRS : Hid (rs = xs.drop most) := hrs
  have HDX : Hid (xs = [] → rs = xs) := hdx
  have HMX : Hid (os.length = 0 → xs = []) := hmx
  have hol : os.length ≤ 60 := by omega
  clear h HF HH hcat hos hrs hml hdx hmx
  go_enter Tryd.func33, Tryd.ntmps33
  go_wp2_with (first | (at_builtin; refine wpList_append_rows rfl (.tmp 8) (.tmp 12) rfl w.heap.size _ (.slice none 0 0) (.slice fa fs.length fc) [] fs rfl rfl (RowI.nil _ _) HF1.out.rds (by simp; omega) (Nat.le_refl _) ?_; intro v2 w2 hown2 hgr2 hat2; rw [List.nil_append] at hown2; have HB2 : Hid (Below w.heap.size w w2) := grown_below hgr2 (fun k e => by simp [Value.ownBlock] at e) (Nat.le_refl _); have hd2 := HD.out.later HB2.out; have hc2 := hd2.c2; have HR2 : Hid (RowI w.heap.size w2 v2 fs) := hown2; obtain ⟨a2, k2, rfl⟩ := hown2.shape; have HH2 : Hid (RowI (M + 1) w2 (.slice ha hs.length hc) hs) := HH1.out.of_blocks (fun k e => HB2.out.block k (HH1.out.low e).2); clear hown2 hgr2 hat2 hc1 hd2) | (at_builtin; refine wpList_append_rows rfl (.tmp 14) (.tmp 18) rfl w.heap.size _ (.slice a2 fs.length k2) (.slice ha hs.length hc) fs hs rfl rfl HR2.out HH2.out.rds (by omega) HB2.out.size ?_; intro v3 w3 hown3 hgr3 hat3; rw [HCat.out] at hown3; have HB3 : Hid (Below w.heap.size w w3) := HB2.out.trans (grown_below hgr3 (fun k e => (HR2.out.low e).1) HB2.out.size); have hcut := cutting_any _ v3 xs most w3 hown3.rds (by omega); clear hown3 hgr3 hat3 hc2 HH2))
  refine hcut.mono ?_; clear hcut; rintro e w4 ⟨va, vb, rfl, hra, hrb, hap, hb4⟩
  rw [← HOS.out] at hra
  rw [← HRS.out] at hrb
  have HB4 : Hid (Below w.heap.size w w4) := HB3.out.trans (hb4.mono HB3.out.size)
  have HD4 : Hid (Md M room xs (.slice fa fs.length fc) (.slice ha hs.length hc) w4) := HD.out.later HB4.out
  have hc4 := HD4.out.c0
  have HA4 : Hid (RowI w.heap.size w4 va os) := hra.mono HB3.out.size
  have hcut := cutting_any _ vb rs room w4 hrb.rds (by omega)
  obtain ⟨aa, ac, rfl⟩ := hra.shape
  obtain ⟨ba, bc, rfl⟩ := hrb.shape
  clear hra hrb hap hb4
  obtain ⟨L, hL⟩ : ∃ L, L = os.length := ⟨_, rfl⟩
  have HL : Hid (L = os.length) := hL
  rw [← hL] at HA4 ⊢
  clear hL hol
  by_cases h0 : L = 0
  · subst h0
    clear hcut
    go_wp2
    go_ret
    have hx0 := HMX.out HL.out.symm
    have hos0 : os = [] := List.eq_nil_of_length_eq_zero HL.out.symm
    refine ⟨_, _, _, rfl, ?_, ?_, Below.kx HB4.out, fun k e => Or.inl e, fun k e => Or.inl e⟩
    · rw [hos0]; exact ⟨none, 0, rfl, Nat.le_refl _, fun k hk => by simp at hk⟩
    · rw [HDX.out hx0]; exact HD4.out
  · have h0b : ((L : Int) == 0) = false := by simp; omega
    go_wp2_with (first | (go_at_call 30; refine hcut.mono ?_; clear hcut; rintro e w5 ⟨vc, vd, rfl, hrc, hrd, hap, hb5⟩; have HB5 : Hid (Below w.heap.size w w5) := HB4.out.trans (hb5.mono HB4.out.size); have HD5 : Hid (Md M room xs (.slice fa fs.length fc) (.slice ha hs.length hc) w5) := HD.out.later HB5.out; have hm1 := HD5.out.c1; have hm2 := HD5.out.c2; have hz1 := HD5.out.fz 1; have hz2 := HD5.out.fz 2; have HA5 : Hid (RowI w.heap.size w5 (.slice aa L ac) os) := HA4.out.of_blocks (fun k e => hb5.block k (HA4.out.low e).2); have HC5 : Hid (RowI w4.heap.size w5 vc (rs.take room)) := hrc; have HD6 : Hid (RowI w4.heap.size w5 vd (rs.drop room)) := hrd; have HAP : Hid (Apart vc vd) := hap; obtain ⟨ca, cc, rfl⟩ := hrc.shape; obtain ⟨da, dc, rfl⟩ := hrd.shape; clear hrc hrd hap hb5 hc4 HA4))
    go_ret
    have hs4 := HB4.out.size
    have hrc := HC5.out
    have hrd := HD6.out
    have hap := HAP.out
    rw [List.length_take] at hrc hap
    rw [List.length_drop] at hrd hap
    have hro : RowI w.heap.size ((w5.setCell ⟨M, 1, none⟩ (.slice ca (min room rs.length) cc)).setCell ⟨M, 2, none⟩ (.slice da (rs.length - room) dc)) (.slice aa L ac) os := HA5.out.of_blocks (fun k e => (Below.heap_setCell _ _ _ _ (by show k ≠ M; have := (HA5.out.low e).1; omega)).trans (Below.heap_setCell _ _ _ _ (by show k ≠ M; have := (HA5.out.low e).1; omega)))
    exact ⟨_, _, _, rfl, hro.rds.mono (fun b e => (hro.low e).1), HD5.out.set2 rfl (hrc.mono (by omega)) (hrd.mono (by omega)) hap hdl, ((Below.kx (X := fun k => k = M) HB5.out).set (Or.inl rfl) _ _).set (Or.inl rfl) _ _, fun k e => Or.inr (by have := (hrc.low e).1; omega), fun k e => Or.inr (by have := (hrd.low e).1; omega)⟩
end Go.Proofs.YtchbncgifefegaaDoor.Spl

namespace Go.Proofs.YtchbncgifefegaaDoor.Spl
open Go.RowKit Go.Deep

theorem step_append_rows {ops : Array Oper} {o : Oper} {a : Act} {w : World} {K : Act → World → Prop} {Q : Exit → Act → World → Prop} {E : Prop} (hgd : o.guard = none) (s x : Operand) (ho : o.op = .call { callee := .builtin .append, args := #[s, x], argTypes := #[35, 35] })
    (B : Nat) (A : Nat → Prop) (v xv : Value) (zs ys : List Int) (hs : a.eval s = v) (hx : a.eval x = xv) (hv : RowI B w v zs) (hxv : Rds A w xv ys) (hb : zs.length + ys.length ≤ 1000) (hB : B ≤ w.heap.size)
    (h : ∀ v' w', RowI B w' v' (zs ++ ys) → w.grownBy w' v.ownBlock → (v'.ownBlock = v.ownBlock ∨ v'.ownBlock = some w.heap.size) → K (a.put o.dst v') w') :
    if Region.wanted o (yielded ops a.tmps) = true then Oper.wp Tryd.prog o a w K Q else E := by
  have hw : Region.wanted o (yielded ops a.tmps) = true := by simp [Region.wanted, hgd]
  rw [if_pos hw]
  obtain ⟨v', w', hr, h2, h3, h4⟩ := run_append_rows o.type hv hxv hb hB
  unfold Oper.wp execOp
  simp only [ho, resolve, invoke, builtin, Sem.run_bind, Sem.run_pure, Result.andThen_ok, List.map_toArray, List.map_cons, List.map_nil, hs, hx, hr]
  exact h v' w' h2 h3 h4

theorem refPut_full (M room : Nat) (xs ys : List Int) (vf vh lv : Value) (A : Nat → Prop) (w : World) (h : Md M room xs vf vh w) (hl : Rds A w lv ys) (hy : ys.length ≤ 9223372036854775000) (hf : 60 < xs.length + ys.length) :
    Calls Tryd.prog 26 #[.pointer (some ⟨M, 0, none⟩), lv] w fun e w' => e = .returned (.bool false) ∧ ∃ q, w' = w.drewN q := by
  have hc1 := h.c1
  have hc2 := h.c2
  have hle := h.le
  have hlen : (xs.take room).length + (xs.drop room).length = xs.length := by simp; omega
  obtain ⟨fa, fc, hvf⟩ := h.f.shape
  obtain ⟨ha, hc, hvh⟩ := h.h.shape
  obtain ⟨a', c', rfl⟩ := hl.shape
  generalize (xs.take room).length = F at *
  generalize (xs.drop room).length = G at *
  subst hvf hvh
  have hgt : (60 : Int) < (F : Int) + (G : Int) + (ys.length : Int) := by omega
  have hgt2 : decide ((60 : Int) < (F : Int) + (G : Int) + (ys.length : Int)) = true := decide_eq_true hgt
  clear h hl
  go_enter Tryd.func26, Tryd.ntmps26
  go_wp2
  go_quiet (fail)
  go_wp2
  go_ret
  exact ⟨rfl, _, rfl⟩

theorem Md.drewN {M room : Nat} {xs : List Int} {vf vh : Value} {w : World} (h : Md M room xs vf vh w) (q : Nat) : Md M room xs vf vh (w.drewN q) := h.of_blocks rfl (fun _ _ => rfl) (fun _ _ => rfl)

theorem Rds.at {A : Nat → Prop} {w : World} {a : Option Addr} {n c : Nat} {xs : List Int} (h : Rds A w (.slice a n c) xs) {k : Nat} (hk : k < xs.length) : ∃ b o, a = some ⟨b, o, none⟩ ∧ A b ∧ b < w.heap.size ∧ w.cell? ⟨b, o + k, none⟩ = some (.int .i64 (xs.getD k 0)) := by
  obtain ⟨a2, c2, hv, _, h⟩ := h
  simp only [Value.slice.injEq] at hv
  obtain ⟨rfl, _, rfl⟩ := hv
  exact h k hk

theorem take_grow {zs : List Int} {x : Int} {room : Nat} (h : zs.length < room) : zs.take room ++ [x] = (zs ++ [x]).take room ∧ (zs ++ [x]).drop room = zs.drop room := by
  rw [List.take_of_length_le (by omega), List.take_of_length_le (by simp; omega), List.drop_eq_nil_of_le (by simp; omega), List.drop_eq_nil_of_le (by omega)]
  exact ⟨rfl, rfl⟩
theorem drop_grow {zs : List Int} {x : Int} {room : Nat} (h : room ≤ zs.length) : zs.drop room ++ [x] = (zs ++ [x]).drop room ∧ (zs ++ [x]).take room = zs.take room := by
  rw [List.drop_append_of_le_length h, List.take_append_of_le_length h]
  exact ⟨rfl, rfl⟩

/-- What Put's loop has come to. -/
structure PutM (M room k : Nat) (xs ys : List Int) (vf vh : Value) (w : World) (vf' vh' : Value) (wr : World) : Prop where
  md : Md M room (xs ++ ys.take k) vf' vh' wr
  nf : Near w.heap.size vf vf'
  nh : Near w.heap.size vh vh'
  kx : Kx (fun j => j = M ∨ vf.ownBlock = some j ∨ vh.ownBlock = some j) w wr

theorem PutM.front {M room k q : Nat} {xs ys : List Int} {vf vh vf' vh' v2 : Value} {w wr w2 : World} {ob : Obj} (hM : PutM M room k xs ys vf vh w vf' vh' wr) (hgr : ((wr.drewN q).alloc ob).grownBy w2 vf'.ownBlock)
    (hat : v2.ownBlock = vf'.ownBlock ∨ v2.ownBlock = some ((wr.drewN q).alloc ob).heap.size) (hR : RowI (M + 1) w2 v2 ((xs ++ ys.take (k + 1)).take room)) (hE : (xs ++ ys.take (k + 1)).drop room = (xs ++ ys.take k).drop room) (hl : (xs ++ ys.take (k + 1)).length ≤ 60) :
    PutM M room (k + 1) xs ys vf vh w v2 vh' (w2.setCell ⟨M, 1, none⟩ v2) := by
  have hlt := hM.md.lt
  have hsz := hM.kx.size
  have hb1 : Below wr.heap.size wr ((wr.drewN q).alloc ob) := ⟨rfl, rfl, rfl, by simp, fun k hk => Below.heap_alloc (wr.drewN q) ob k hk⟩
  have hbk : w2.heap[M]? = wr.heap[M]? := (hgr.block M (by simp; omega) (fun e => by have := (hM.md.f.low e.symm).1; omega)).trans (hb1.block M hlt)
  have hh1 : RowI (M + 1) ((wr.drewN q).alloc ob) vh' ((xs ++ ys.take k).drop room) := hM.md.h.of_blocks (fun _ e => hb1.block _ (hM.md.h.low e).2)
  obtain ⟨hh2, hap⟩ := two_grow hh1 hM.md.ap hgr hat
  refine ⟨hM.md.set1 hbk hR (by rw [hE]; exact hh2) hap hl, fun j e => ?_, hM.nh, ?_⟩
  · rcases hat with h | h
    · exact hM.nf j (h.symm.trans e)
    · rw [h] at e
      simp only [Option.some.injEq] at e
      exact Or.inr (by have := hb1.size; omega)
  · have k2 : Kx (fun j => vf'.ownBlock = some j) ((wr.drewN q).alloc ob) w2 := ⟨hgr.os, hgr.tape, hgr.output, hgr.size, fun j hj hX => hgr.block j hj (fun e => hX e.symm)⟩
    refine ((hM.kx.later hb1).trans k2 (fun j e => ?_)).set (Or.inl (Or.inl rfl)) _ _
    rcases hM.nf j e with h | h
    · exact Or.inl (Or.inr (Or.inl h))
    · exact Or.inr h
theorem PutM.behind {M room k q : Nat} {xs ys : List Int} {vf vh vf' vh' v2 : Value} {w wr w2 : World} {ob : Obj} (hM : PutM M room k xs ys vf vh w vf' vh' wr) (hgr : ((wr.drewN q).alloc ob).grownBy w2 vh'.ownBlock)
    (hat : v2.ownBlock = vh'.ownBlock ∨ v2.ownBlock = some ((wr.drewN q).alloc ob).heap.size) (hR : RowI (M + 1) w2 v2 ((xs ++ ys.take (k + 1)).drop room)) (hE : (xs ++ ys.take (k + 1)).take room = (xs ++ ys.take k).take room) (hl : (xs ++ ys.take (k + 1)).length ≤ 60) :
    PutM M room (k + 1) xs ys vf vh w vf' v2 (w2.setCell ⟨M, 2, none⟩ v2) := by
  have hlt := hM.md.lt
  have hsz := hM.kx.size
  have hb1 : Below wr.heap.size wr ((wr.drewN q).alloc ob) := ⟨rfl, rfl, rfl, by simp, fun k hk => Below.heap_alloc (wr.drewN q) ob k hk⟩
  have hbk : w2.heap[M]? = wr.heap[M]? := (hgr.block M (by simp; omega) (fun e => by have := (hM.md.h.low e.symm).1; omega)).trans (hb1.block M hlt)
  have hh1 : RowI (M + 1) ((wr.drewN q).alloc ob) vf' ((xs ++ ys.take k).take room) := hM.md.f.of_blocks (fun _ e => hb1.block _ (hM.md.f.low e).2)
  obtain ⟨hh2, hap⟩ := two_grow hh1 hM.md.ap.symm hgr hat
  refine ⟨hM.md.setH hbk (by rw [hE]; exact hh2) hR hap.symm hl, hM.nf, fun j e => ?_, ?_⟩
  · rcases hat with h | h
    · exact hM.nh j (h.symm.trans e)
    · rw [h] at e
      simp only [Option.some.injEq] at e
      exact Or.inr (by have := hb1.size; omega)
  · have k2 : Kx (fun j => vh'.ownBlock = some j) ((wr.drewN q).alloc ob) w2 := ⟨hgr.os, hgr.tape, hgr.output, hgr.size, fun j hj hX => hgr.block j hj (fun e => hX e.symm)⟩
    refine ((hM.kx.later hb1).trans k2 (fun j e => ?_)).set (Or.inl (Or.inl rfl)) _ _
    rcases hM.nh j e with h | h
    · exact Or.inl (Or.inr (Or.inr h))
    · exact Or.inr h

set_option maxRecDepth 100000 in
set_option maxHeartbeats 4000000 in
theorem refPut_good (M room : Nat) (xs ys : List Int) (vf vh lv : Value) (w : World) (h : Md M room xs vf vh w) (hl : Rds (fun b => b < M) w lv ys) (hf : xs.length + ys.length ≤ 60) (hr : room ≤ 16) :
    Calls Tryd.prog 26 #[.pointer (some ⟨M, 0, none⟩), lv] w fun e w' => e = .returned (.bool true) ∧ ∃ vf' vh', PutM M room ys.length xs ys vf vh w vf' vh' w' := by
  have HD : Hid (Md M room xs vf vh w) := h
  have hc1 := h.c1
  have hc2 := h.c2
  have hle := h.le
  have hlen : (xs.take room).length + (xs.drop room).length = xs.length := by simp; omega
  obtain ⟨fa, fc, hvf⟩ := h.f.shape
  obtain ⟨ha, hc, hvh⟩ := h.h.shape
  have HLV : Hid (Rds (fun b => b < M) w lv ys) := hl
  obtain ⟨a', c', rfl⟩ := hl.shape
  generalize (xs.take room).length = F at *
  generalize (xs.drop room).length = G at *
  subst hvf hvh
  have hgt : ¬ (60 : Int) < (F : Int) + (G : Int) + (ys.length : Int) := by omega
  have hgt2 : decide ((60 : Int) < (F : Int) + (G : Int) + (ys.length : Int)) = false := decide_eq_false hgt
  clear h hl
  go_enter Tryd.func26, Tryd.ntmps26
  go_wp2
  go_quiet (fail)
  go_wp2
  have HM0 : Hid (∀ q, PutM M room 0 xs ys (.slice fa F fc) (.slice ha G hc) w (.slice fa F fc) (.slice ha G hc) (w.drewN q)) := fun q => ⟨by rw [List.take_zero, List.append_nil]; exact HD.out.drewN q, fun k e => Or.inl e, fun k e => Or.inl e, ⟨rfl, rfl, rfl, Nat.le_refl _, fun _ _ _ => rfl⟩⟩
  clear hc1 hc2 hgt hgt2
  go_loopw [5] (fun s5 wr => ∃ (k : Nat) (vf' vh' : Value), k ≤ ys.length ∧ s5 = .int .i64 k ∧ Hid (PutM M room k xs ys (.slice fa F fc) (.slice ha G hc) w vf' vh' wr)) (fun s5 _ => ys.length - (intOf s5).toNat)
  case atStart => exact ⟨0, _, _, Nat.zero_le _, rfl, HM0.out _⟩
  case round =>
    clear HM0
    obtain ⟨k, vf', vh', hk, rfl, hM⟩ := hrel
    have hc0 := hM.out.md.c0
    have hc1 := hM.out.md.c1
    have hc2 := hM.out.md.c2
    have hfz1 := hM.out.md.fz 1
    have hfz2 := hM.out.md.fz 2
    have hlt := hM.out.md.lt
    have hle2 := hM.out.md.le
    obtain ⟨fa2, fc2, hvf⟩ := hM.out.md.f.shape
    obtain ⟨ha2, hc2', hvh⟩ := hM.out.md.h.shape
    have hF2 : ((xs ++ ys.take k).take room).length = min room (xs.length + k) := by simp; omega
    have hG2 : ((xs ++ ys.take k).drop room).length = xs.length + k - room := by simp; omega
    rw [hF2] at hvf
    rw [hG2] at hvh
    clear hF2 hG2
    by_cases hkl : k < ys.length
    · obtain ⟨b, o, rfl, hbM, hbl, hcc⟩ := HLV.out.at hkl
      have hcx := (World.cell?_of_block (a := ⟨b, o + k, none⟩) (hM.out.kx.block b hbl (by rintro (e | e | e); { omega }; { have := (HD.out.f.low e).1; omega }; { have := (HD.out.h.low e).1; omega }))).trans hcc
      have hT := take_one ys hkl
      have HT : Hid (ys.take (k + 1) = ys.take k ++ [ys.getD k 0]) := hT
      have hkl' : (k : Int) < (ys.length : Int) := by omega
      clear hcc hT
      generalize ys.getD k 0 = x at *
      subst hvf hvh
      have HRf : Hid (RowI (M + 1) wr (.slice fa2 (min room (xs.length + k)) fc2) ((xs ++ ys.take k).take room)) := hM.out.md.f
      have HRh : Hid (RowI (M + 1) wr (.slice ha2 (xs.length + k - room) hc2') ((xs ++ ys.take k).drop room)) := hM.out.md.h
      obtain ⟨F2, hF2⟩ : ∃ F2, F2 = min room (xs.length + k) := ⟨_, rfl⟩
      obtain ⟨G2, hG2⟩ : ∃ G2, G2 = xs.length + k - room := ⟨_, rfl⟩
      rw [← hF2] at HRf hc1 hM
      rw [← hG2] at HRh hc2 hM
      have HO : Hid (∀ q, Rds (fun _ => True) ((wr.drewN q).alloc (.cells #[.int .i64 x] 3)) (.slice (some ⟨(wr.drewN q).heap.size, 0, none⟩) 1 1) [x]) := fun q => one_rds (wr.drewN q) x
      have HL : Hid ((xs ++ ys.take (k + 1)).length ≤ 60) := by show _ ≤ _; simp only [List.length_take, List.length_append]; omega
      by_cases hroom : xs.length + k < room
      · obtain rfl : G2 = 0 := by omega
        have e1 : decide ((F2 : Int) < (room : Int)) = true := decide_eq_true (by omega)
        have e2 : (F2 : Int) < (room : Int) := by omega
        have hF60 : F2 ≤ 60 := by omega
        have hZ : ((xs ++ ys.take k).take room).length + [x].length ≤ 1000 := by simp only [List.length_take, List.length_append, List.length_singleton]; omega
        have hZS : ((xs ++ ys.take k).take room ++ [x]).length = F2 + 1 := by simp only [List.length_take, List.length_append, List.length_singleton]; omega
        have HE : Hid ((xs ++ ys.take k).take room ++ [x] = (xs ++ ys.take (k + 1)).take room ∧ (xs ++ ys.take (k + 1)).drop room = (xs ++ ys.take k).drop room) := by
          show _ ∧ _
          rw [HT.out, ← List.append_assoc]
          exact take_grow (by simp only [List.length_take, List.length_append]; omega)
        have hcA : ∀ q, ((wr.drewN q).alloc (.cells #[.int .i64 x] 3)).cell? ⟨M, 1, none⟩ = some (.slice fa2 F2 fc2) := fun q => (World.cell?_of_block (a := ⟨M, 1, none⟩) (Below.heap_alloc (wr.drewN q) _ _ hlt)).trans hc1
        clear hF2 hG2
        go_wp2
        go_quiet (fail)
        go_wp2
        go_region_law (refine step_append_rows rfl (.tmp 49) (.tmp 54) rfl (M + 1) (fun _ => True) (.slice fa2 F2 fc2) (.slice (some ⟨wr.heap.size, 0, none⟩) 1 1) ((xs ++ ys.take k).take room) [x] (by simp [Act.eval]) (by simp [Act.eval]) ((HRf.out.of_blocks (w' := wr.drewN (nq + 1)) (fun _ _ => rfl)).alloc _) (HO.out (nq + 1)) (by have := hZ; omega) (by simp; omega) ?_; intro v2 w2 hown2 hgr2 hat2; have HR2 : Hid (RowI (M + 1) w2 v2 ((xs ++ ys.take k).take room ++ [x])) := hown2; obtain ⟨a2, k2, rfl⟩ := hown2.shape; rw [hZS] at HR2 hat2 ⊢; have hbk : w2.heap[M]? = wr.heap[M]? := (hgr2.block M (by simp; omega) (fun e => by have := (HRf.out.low e.symm).1; omega)).trans (Below.heap_alloc _ _ _ hlt); have hz2 := (World.frozen?_of_block (a := ⟨M, 1, none⟩) hbk).trans hfz1; have hcm := (World.cell?_of_block (a := ⟨M, 1, none⟩) hbk).trans hc1; clear hown2)
        all_goals
          have hN : Hid (PutM M room (k + 1) xs ys (.slice fa F fc) (.slice ha G hc) w (.slice a2 (F2 + 1) k2) (.slice ha2 0 hc2') (w2.setCell ⟨M, 1, none⟩ (.slice a2 (F2 + 1) k2))) := hM.out.front hgr2 hat2 (by have := HR2.out; rw [HE.out.1] at this; exact this) HE.out.2 HL.out
          clear hgr2 hat2 HR2 hbk hz2 hcm
          go_wp2
          go_roundw
          case rel => exact ⟨k + 1, _, _, by omega, by go_num, hN⟩
          case measure => simp [intOf]; omega
      · have hZ : ((xs ++ ys.take k).drop room).length + [x].length ≤ 1000 := by simp only [List.length_take, List.length_drop, List.length_append, List.length_singleton]; omega
        have hZS : ((xs ++ ys.take k).drop room ++ [x]).length = G2 + 1 := by simp only [List.length_take, List.length_drop, List.length_append, List.length_singleton]; omega
        have HE : Hid ((xs ++ ys.take k).drop room ++ [x] = (xs ++ ys.take (k + 1)).drop room ∧ (xs ++ ys.take (k + 1)).take room = (xs ++ ys.take k).take room) := by
          show _ ∧ _
          rw [HT.out, ← List.append_assoc]
          exact drop_grow (by simp only [List.length_take, List.length_append]; omega)
        have hcA : ∀ q, ((wr.drewN q).alloc (.cells #[.int .i64 x] 3)).cell? ⟨M, 2, none⟩ = some (.slice ha2 G2 hc2') := fun q => (World.cell?_of_block (a := ⟨M, 2, none⟩) (Below.heap_alloc (wr.drewN q) _ _ hlt)).trans hc2
        have hG60 : G2 ≤ 60 := by omega
        by_cases hG0 : G2 = 0
        · have e1 : decide ((F2 : Int) < (room : Int)) = false := decide_eq_false (by omega)
          have e2 : ¬ (F2 : Int) < (room : Int) := by omega
          have e3 : ((G2 : Int) == 0) = true := by simp [hG0]
          clear hG0
          clear hF2 hG2
          go_wp2
          go_quiet (fail)
          go_wp2
          go_region_law (refine step_append_rows rfl (.tmp 62) (.tmp 67) rfl (M + 1) (fun _ => True) (.slice ha2 G2 hc2') (.slice (some ⟨wr.heap.size, 0, none⟩) 1 1) ((xs ++ ys.take k).drop room) [x] (by simp [Act.eval]) (by simp [Act.eval]) ((HRh.out.of_blocks (w' := wr.drewN (nq + 1)) (fun _ _ => rfl)).alloc _) (HO.out (nq + 1)) (by have := hZ; omega) (by simp; omega) ?_; intro v2 w2 hown2 hgr2 hat2; have HR2 : Hid (RowI (M + 1) w2 v2 ((xs ++ ys.take k).drop room ++ [x])) := hown2; obtain ⟨a2, k2, rfl⟩ := hown2.shape; rw [hZS] at HR2 hat2 ⊢; have hbk : w2.heap[M]? = wr.heap[M]? := (hgr2.block M (by simp; omega) (fun e => by have := (HRh.out.low e.symm).1; omega)).trans (Below.heap_alloc _ _ _ hlt); have hz2 := (World.frozen?_of_block (a := ⟨M, 2, none⟩) hbk).trans hfz2; have hcm := (World.cell?_of_block (a := ⟨M, 2, none⟩) hbk).trans hc2; clear hown2)
          all_goals
            have hN : Hid (PutM M room (k + 1) xs ys (.slice fa F fc) (.slice ha G hc) w (.slice fa2 F2 fc2) (.slice a2 (G2 + 1) k2) (w2.setCell ⟨M, 2, none⟩ (.slice a2 (G2 + 1) k2))) := hM.out.behind hgr2 hat2 (by have := HR2.out; rw [HE.out.1] at this; exact this) HE.out.2 HL.out
            clear hgr2 hat2 HR2 hbk hz2 hcm
            go_wp2
            go_roundw
            case rel => exact ⟨k + 1, _, _, by omega, by go_num, hN⟩
            case measure => simp [intOf]; omega
        · have e3 : ((G2 : Int) == 0) = false := by simp [hG0]
          clear hF2 hG2
          go_wp2
          go_quiet (fail)
          go_wp2
          go_region_law (refine step_append_rows rfl (.tmp 62) (.tmp 67) rfl (M + 1) (fun _ => True) (.slice ha2 G2 hc2') (.slice (some ⟨wr.heap.size, 0, none⟩) 1 1) ((xs ++ ys.take k).drop room) [x] (by simp [Act.eval]) (by simp [Act.eval]) ((HRh.out.of_blocks (w' := wr.drewN (nq + 1)) (fun _ _ => rfl)).alloc _) (HO.out (nq + 1)) (by have := hZ; omega) (by simp; omega) ?_; intro v2 w2 hown2 hgr2 hat2; have HR2 : Hid (RowI (M + 1) w2 v2 ((xs ++ ys.take k).drop room ++ [x])) := hown2; obtain ⟨a2, k2, rfl⟩ := hown2.shape; rw [hZS] at HR2 hat2 ⊢; have hbk : w2.heap[M]? = wr.heap[M]? := (hgr2.block M (by simp; omega) (fun e => by have := (HRh.out.low e.symm).1; omega)).trans (Below.heap_alloc _ _ _ hlt); have hz2 := (World.frozen?_of_block (a := ⟨M, 2, none⟩) hbk).trans hfz2; have hcm := (World.cell?_of_block (a := ⟨M, 2, none⟩) hbk).trans hc2; clear hown2)
          all_goals
            have hN : Hid (PutM M room (k + 1) xs ys (.slice fa F fc) (.slice ha G hc) w (.slice fa2 F2 fc2) (.slice a2 (G2 + 1) k2) (w2.setCell ⟨M, 2, none⟩ (.slice a2 (G2 + 1) k2))) := hM.out.behind hgr2 hat2 (by have := HR2.out; rw [HE.out.1] at this; exact this) HE.out.2 HL.out
            clear hgr2 hat2 HR2 hbk hz2 hcm
            go_wp2
            go_roundw
            case rel => exact ⟨k + 1, _, _, by omega, by go_num, hN⟩
            case measure => simp [intOf]; omega
    · have hkl' : ¬ (k : Int) < (ys.length : Int) := by omega
      obtain rfl : k = ys.length := by omega
      go_wp2
      go_ret
      exact ⟨rfl, _, _, hM.out⟩
end Go.Proofs.YtchbncgifefegaaDoor.Spl

namespace Go.Proofs.YtchbncgifefegaaDoor.Spl.Dsp
open Go.RowKit Go.Deep

/-- The other cells of the document's gang: the plan, its hands, tasks, units of work left, those that sleep, what is done. -/
structure Gq where
  p : Value
  hs : Value
  tk : Value
  wk : Value
  rw : Value
  dn : Value
def gArr (q : Gq) (room : Nat) (vf vh : Value) : Array Value := #[q.p, q.hs, q.tk, q.wk, .int .i64 room, vf, vh, q.rw, q.dn]

/-- The document's spill lies in block M: as many in front as there is room for, the others behind. -/
structure Md (gq : Gq) (M room : Nat) (xs : List Int) (vf vh : Value) (w : World) : Prop where
  cells : w.heap[M]? = some (.cells (gArr gq room vf vh) 43 (0, 0))
  f : RowI (M + 1) w vf (xs.take room)
  h : RowI (M + 1) w vh (xs.drop room)
  ap : Apart vf vh
  le : xs.length ≤ 60
theorem Md.lt {gq : Gq} {M room : Nat} {xs : List Int} {vf vh : Value} {w : World} (h : Md gq M room xs vf vh w) : M < w.heap.size := (Array.getElem?_eq_some_iff.1 h.cells).1
theorem Md.c0 {gq : Gq} {M room : Nat} {xs : List Int} {vf vh : Value} {w : World} (h : Md gq M room xs vf vh w) : w.cell? ⟨M, 4, none⟩ = some (.int .i64 room) := by simp [World.cell?, h.cells, gArr]
theorem Md.c1 {gq : Gq} {M room : Nat} {xs : List Int} {vf vh : Value} {w : World} (h : Md gq M room xs vf vh w) : w.cell? ⟨M, 5, none⟩ = some vf := by simp [World.cell?, h.cells, gArr]
theorem Md.c2 {gq : Gq} {M room : Nat} {xs : List Int} {vf vh : Value} {w : World} (h : Md gq M room xs vf vh w) : w.cell? ⟨M, 6, none⟩ = some vh := by simp [World.cell?, h.cells, gArr]
theorem Md.fz {gq : Gq} {M room : Nat} {xs : List Int} {vf vh : Value} {w : World} (h : Md gq M room xs vf vh w) (j : Nat) : w.frozen? ⟨M, j, none⟩ = false := by simp [World.frozen?, h.cells]
theorem Md.of_blocks {gq : Gq} {M room : Nat} {xs : List Int} {vf vh : Value} {w w' : World} (h : Md gq M room xs vf vh w) (h1 : w'.heap[M]? = w.heap[M]?) (h2 : ∀ k, vf.ownBlock = some k → w'.heap[k]? = w.heap[k]?) (h3 : ∀ k, vh.ownBlock = some k → w'.heap[k]? = w.heap[k]?) : Md gq M room xs vf vh w' :=
  ⟨h1.trans h.cells, h.f.of_blocks h2, h.h.of_blocks h3, h.ap, h.le⟩
theorem Md.later {gq : Gq} {M room : Nat} {xs : List Int} {vf vh : Value} {w w' : World} (h : Md gq M room xs vf vh w) (hb : Below w.heap.size w w') : Md gq M room xs vf vh w' :=
  h.of_blocks (hb.block _ h.lt) (fun _ e => hb.block _ (h.f.low e).2) (fun _ e => hb.block _ (h.h.low e).2)
/-- Both its slices are others. -/
theorem Md.set2 {gq : Gq} {M room : Nat} {xs ys : List Int} {vf vh vc vd : Value} {w w1 : World} (h : Md gq M room xs vf vh w) (h1 : w1.heap[M]? = w.heap[M]?) (hc : RowI (M + 1) w1 vc (ys.take room)) (hd : RowI (M + 1) w1 vd (ys.drop room)) (hap : Apart vc vd) (hy : ys.length ≤ 60) :
    Md gq M room ys vc vd ((w1.setCell ⟨M, 5, none⟩ vc).setCell ⟨M, 6, none⟩ vd) := by
  have hM : w1.heap[M]? = some (.cells (gArr gq room vf vh) 43 (0, 0)) := h1.trans h.cells
  have hM2 : (w1.setCell ⟨M, 5, none⟩ vc).heap[M]? = some (.cells (gArr gq room vc vh) 43 (0, 0)) := by
    rw [setCell_eq_setRow w1 M 5 _ 43 (0, 0) vc hM, setRow_heap w1 M _ _ 43 _ hM]; rfl
  have hk : ∀ k, M + 1 ≤ k → ((w1.setCell ⟨M, 5, none⟩ vc).setCell ⟨M, 6, none⟩ vd).heap[k]? = w1.heap[k]? := fun k hk =>
    (Below.heap_setCell _ _ _ _ (by show k ≠ M; omega)).trans (Below.heap_setCell _ _ _ _ (by show k ≠ M; omega))
  refine ⟨?_, hc.of_blocks (fun k e => hk k (hc.low e).1), hd.of_blocks (fun k e => hk k (hd.low e).1), hap, hy⟩
  rw [setCell_eq_setRow _ M 6 _ 43 (0, 0) vd hM2, setRow_heap _ M _ _ 43 _ hM2]; rfl
theorem Md.set1 {gq : Gq} {M room : Nat} {xs ys : List Int} {vf vh vc : Value} {w w1 : World} (h : Md gq M room xs vf vh w) (h1 : w1.heap[M]? = w.heap[M]?) (hc : RowI (M + 1) w1 vc (ys.take room)) (hd : RowI (M + 1) w1 vh (ys.drop room)) (hap : Apart vc vh) (hy : ys.length ≤ 60) :
    Md gq M room ys vc vh (w1.setCell ⟨M, 5, none⟩ vc) := by
  have hM : w1.heap[M]? = some (.cells (gArr gq room vf vh) 43 (0, 0)) := h1.trans h.cells
  have hk : ∀ k, M + 1 ≤ k → (w1.setCell ⟨M, 5, none⟩ vc).heap[k]? = w1.heap[k]? := fun k hk => Below.heap_setCell _ _ _ _ (by show k ≠ M; omega)
  refine ⟨?_, hc.of_blocks (fun k e => hk k (hc.low e).1), hd.of_blocks (fun k e => hk k (hd.low e).1), hap, hy⟩
  rw [setCell_eq_setRow w1 M 5 _ 43 (0, 0) vc hM, setRow_heap w1 M _ _ 43 _ hM]; rfl
theorem Md.setH {gq : Gq} {M room : Nat} {xs ys : List Int} {vf vh vd : Value} {w w1 : World} (h : Md gq M room xs vf vh w) (h1 : w1.heap[M]? = w.heap[M]?) (hc : RowI (M + 1) w1 vf (ys.take room)) (hd : RowI (M + 1) w1 vd (ys.drop room)) (hap : Apart vf vd) (hy : ys.length ≤ 60) :
    Md gq M room ys vf vd (w1.setCell ⟨M, 6, none⟩ vd) := by
  have hM : w1.heap[M]? = some (.cells (gArr gq room vf vh) 43 (0, 0)) := h1.trans h.cells
  have hk : ∀ k, M + 1 ≤ k → (w1.setCell ⟨M, 6, none⟩ vd).heap[k]? = w1.heap[k]? := fun k hk => Below.heap_setCell _ _ _ _ (by show k ≠ M; omega)
  refine ⟨?_, hc.of_blocks (fun k e => hk k (hc.low e).1), hd.of_blocks (fun k e => hk k (hd.low e).1), hap, hy⟩
  rw [setCell_eq_setRow w1 M 6 _ 43 (0, 0) vd hM, setRow_heap w1 M _ _ 43 _ hM]; rfl

set_option maxRecDepth 100000 in
set_option maxHeartbeats 2000000 in
theorem refGet_any (gq : Gq) (M room most : Nat) (xs : List Int) (vf vh : Value) (w : World) (h : Md gq M room xs vf vh w) (h1 : 1 ≤ most) (h2 : most ≤ 60) (hr : room ≤ 16) :
    Calls Tryd.prog 33 #[.pointer (some ⟨M, 4, none⟩), .int .i64 most] w fun e w' => ∃ ov vf' vh', e = .returned ov ∧ Rds (fun b => w.heap.size ≤ b) w' ov (xs.take most) ∧ Md gq M room (xs.drop most) vf' vh' w' ∧ Kx (fun k => k = M) w w' ∧ Near w.heap.size vf vf' ∧ Near w.heap.size vh vh' := by
  have HD : Hid (Md gq M room xs vf vh w) := h
  have hc1 := h.c1
  have hle := h.le
  have hlt := h.lt
  have HF := h.f
  have HH := h.h
  have hcat := List.take_append_drop room xs
  have hfl : (xs.take room).length ≤ 60 := by simp; omega
  have hhl : (xs.drop room).length ≤ 60 := by simp; omega
  generalize xs.take room = fs at *
  generalize xs.drop room = hs at *
  have HCat : Hid (fs ++ hs = xs) := hcat
  obtain ⟨fa, fc, rfl⟩ := HF.shape
  obtain ⟨ha, hc, rfl⟩ := HH.shape
  have HF1 : Hid (RowI (M + 1) w (.slice fa fs.length fc) fs) := HF
  have HH1 : Hid (RowI (M + 1) w (.slice ha hs.length hc) hs) := HH
  have hml : (xs.take most).length = min most xs.length := by simp
  have hdl : (xs.drop most).length ≤ 60 := by simp; omega
  have hdx : xs = [] → xs.drop most = xs := fun e => by subst e; simp
  have hmx : (xs.take most).length = 0 → xs = [] := fun e => by
    rw [hml] at e
    exact List.eq_nil_of_length_eq_zero (by omega)
  obtain ⟨os, hos⟩ : ∃ os, os = xs.take most := ⟨_, rfl⟩
  obtain ⟨rs, hrs⟩ : ∃ rs, rs = xs.drop most := ⟨_, rfl⟩
  rw [← hos] at hml hmx ⊢
  rw [← hrs] at hdl hdx ⊢
  have HOS : Hid (os = xs.take most) := hos
  have HRS : Hid (rs = xs.drop most) := hrs
  have HDX : Hid (xs = [] → rs = xs) := hdx
  have HMX : Hid (os.length = 0 → xs = []) := hmx
  have hol : os.length ≤ 60 := by omega
  clear h HF HH hcat hos hrs hml hdx hmx
  go_enter Tryd.func33, Tryd.ntmps33
  go_wp2_with (first | (at_builtin; refine wpList_append_rows rfl (.tmp 8) (.tmp 12) rfl w.heap.size _ (.slice none 0 0) (.slice fa fs.length fc) [] fs rfl rfl (RowI.nil _ _) HF1.out.rds (by simp; omega) (Nat.le_refl _) ?_; intro v2 w2 hown2 hgr2 hat2; rw [List.nil_append] at hown2; have HB2 : Hid (Below w.heap.size w w2) := grown_below hgr2 (fun k e => by simp [Value.ownBlock] at e) (Nat.le_refl _); have hd2 := HD.out.later HB2.out; have hc2 := hd2.c2; have HR2 : Hid (RowI w.heap.size w2 v2 fs) := hown2; obtain ⟨a2, k2, rfl⟩ := hown2.shape; have HH2 : Hid (RowI (M + 1) w2 (.slice ha hs.length hc) hs) := HH1.out.of_blocks (fun k e => HB2.out.block k (HH1.out.low e).2); clear hown2 hgr2 hat2 hc1 hd2) | (at_builtin; refine wpList_append_rows rfl (.tmp 14) (.tmp 18) rfl w.heap.size _ (.slice a2 fs.length k2) (.slice ha hs.length hc) fs hs rfl rfl HR2.out HH2.out.rds (by omega) HB2.out.size ?_; intro v3 w3 hown3 hgr3 hat3; rw [HCat.out] at hown3; have HB3 : Hid (Below w.heap.size w w3) := HB2.out.trans (grown_below hgr3 (fun k e => (HR2.out.low e).1) HB2.out.size); have hcut := cutting_any _ v3 xs most w3 hown3.rds (by omega); clear hown3 hgr3 hat3 hc2 HH2))
  refine hcut.mono ?_; clear hcut; rintro e w4 ⟨va, vb, rfl, hra, hrb, hap, hb4⟩
  rw [← HOS.out] at hra
  rw [← HRS.out] at hrb
  have HB4 : Hid (Below w.heap.size w w4) := HB3.out.trans (hb4.mono HB3.out.size)
  have HD4 : Hid (Md gq M room xs (.slice fa fs.length fc) (.slice ha hs.length hc) w4) := HD.out.later HB4.out
  have hc4 := HD4.out.c0
  have HA4 : Hid (RowI w.heap.size w4 va os) := hra.mono HB3.out.size
  have hcut := cutting_any _ vb rs room w4 hrb.rds (by omega)
  obtain ⟨aa, ac, rfl⟩ := hra.shape
  obtain ⟨ba, bc, rfl⟩ := hrb.shape
  clear hra hrb hap hb4
  obtain ⟨L, hL⟩ : ∃ L, L = os.length := ⟨_, rfl⟩
  have HL : Hid (L = os.length) := hL
  rw [← hL] at HA4 ⊢
  clear hL hol
  by_cases h0 : L = 0
  · subst h0
    clear hcut
    go_wp2
    go_ret
    have hx0 := HMX.out HL.out.symm
    have hos0 : os = [] := List.eq_nil_of_length_eq_zero HL.out.symm
    refine ⟨_, _, _, rfl, ?_, ?_, Below.kx HB4.out, fun k e => Or.inl e, fun k e => Or.inl e⟩
    · rw [hos0]; exact ⟨none, 0, rfl, Nat.le_refl _, fun k hk => by simp at hk⟩
    · rw [HDX.out hx0]; exact HD4.out
  · have h0b : ((L : Int) == 0) = false := by simp; omega
    go_wp2_with (first | (go_at_call 30; refine hcut.mono ?_; clear hcut; rintro e w5 ⟨vc, vd, rfl, hrc, hrd, hap, hb5⟩; have HB5 : Hid (Below w.heap.size w w5) := HB4.out.trans (hb5.mono HB4.out.size); have HD5 : Hid (Md gq M room xs (.slice fa fs.length fc) (.slice ha hs.length hc) w5) := HD.out.later HB5.out; have hm1 := HD5.out.c1; have hm2 := HD5.out.c2; have hz1 := HD5.out.fz 5; have hz2 := HD5.out.fz 6; have HA5 : Hid (RowI w.heap.size w5 (.slice aa L ac) os) := HA4.out.of_blocks (fun k e => hb5.block k (HA4.out.low e).2); have HC5 : Hid (RowI w4.heap.size w5 vc (rs.take room)) := hrc; have HD6 : Hid (RowI w4.heap.size w5 vd (rs.drop room)) := hrd; have HAP : Hid (Apart vc vd) := hap; obtain ⟨ca, cc, rfl⟩ := hrc.shape; obtain ⟨da, dc, rfl⟩ := hrd.shape; clear hrc hrd hap hb5 hc4 HA4))
    go_ret
    have hs4 := HB4.out.size
    have hrc := HC5.out
    have hrd := HD6.out
    have hap := HAP.out
    rw [List.length_take] at hrc hap
    rw [List.length_drop] at hrd hap
    have hro : RowI w.heap.size ((w5.setCell ⟨M, 5, none⟩ (.slice ca (min room rs.length) cc)).setCell ⟨M, 6, none⟩ (.slice da (rs.length - room) dc)) (.slice aa L ac) os := HA5.out.of_blocks (fun k e => (Below.heap_setCell _ _ _ _ (by show k ≠ M; have := (HA5.out.low e).1; omega)).trans (Below.heap_setCell _ _ _ _ (by show k ≠ M; have := (HA5.out.low e).1; omega)))
    exact ⟨_, _, _, rfl, hro.rds.mono (fun b e => (hro.low e).1), HD5.out.set2 rfl (hrc.mono (by omega)) (hrd.mono (by omega)) hap hdl, ((Below.kx (X := fun k => k = M) HB5.out).set (Or.inl rfl) _ _).set (Or.inl rfl) _ _, fun k e => Or.inr (by have := (hrc.low e).1; omega), fun k e => Or.inr (by have := (hrd.low e).1; omega)⟩
end Go.Proofs.YtchbncgifefegaaDoor.Spl.Dsp

namespace Go.Proofs.YtchbncgifefegaaDoor.Spl.Dsp
open Go.RowKit Go.Deep

theorem Md.drewN {gq : Gq} {M room : Nat} {xs : List Int} {vf vh : Value} {w : World} (h : Md gq M room xs vf vh w) (q : Nat) : Md gq M room xs vf vh (w.drewN q) := h.of_blocks rfl (fun _ _ => rfl) (fun _ _ => rfl)

/-- What Put's loop has come to. -/
structure PutM (gq : Gq) (M room k : Nat) (xs ys : List Int) (vf vh : Value) (w : World) (vf' vh' : Value) (wr : World) : Prop where
  md : Md gq M room (xs ++ ys.take k) vf' vh' wr
  nf : Near w.heap.size vf vf'
  nh : Near w.heap.size vh vh'
  kx : Kx (fun j => j = M ∨ vf.ownBlock = some j ∨ vh.ownBlock = some j) w wr

theorem PutM.front {gq : Gq} {M room k q : Nat} {xs ys : List Int} {vf vh vf' vh' v2 : Value} {w wr w2 : World} {ob : Obj} (hM : PutM gq M room k xs ys vf vh w vf' vh' wr) (hgr : ((wr.drewN q).alloc ob).grownBy w2 vf'.ownBlock)
    (hat : v2.ownBlock = vf'.ownBlock ∨ v2.ownBlock = some ((wr.drewN q).alloc ob).heap.size) (hR : RowI (M + 1) w2 v2 ((xs ++ ys.take (k + 1)).take room)) (hE : (xs ++ ys.take (k + 1)).drop room = (xs ++ ys.take k).drop room) (hl : (xs ++ ys.take (k + 1)).length ≤ 60) :
    PutM gq M room (k + 1) xs ys vf vh w v2 vh' (w2.setCell ⟨M, 5, none⟩ v2) := by
  have hlt := hM.md.lt
  have hsz := hM.kx.size
  have hb1 : Below wr.heap.size wr ((wr.drewN q).alloc ob) := ⟨rfl, rfl, rfl, by simp, fun k hk => Below.heap_alloc (wr.drewN q) ob k hk⟩
  have hbk : w2.heap[M]? = wr.heap[M]? := (hgr.block M (by simp; omega) (fun e => by have := (hM.md.f.low e.symm).1; omega)).trans (hb1.block M hlt)
  have hh1 : RowI (M + 1) ((wr.drewN q).alloc ob) vh' ((xs ++ ys.take k).drop room) := hM.md.h.of_blocks (fun _ e => hb1.block _ (hM.md.h.low e).2)
  obtain ⟨hh2, hap⟩ := two_grow hh1 hM.md.ap hgr hat
  refine ⟨hM.md.set1 hbk hR (by rw [hE]; exact hh2) hap hl, fun j e => ?_, hM.nh, ?_⟩
  · rcases hat with h | h
    · exact hM.nf j (h.symm.trans e)
    · rw [h] at e
      simp only [Option.some.injEq] at e
      exact Or.inr (by have := hb1.size; omega)
  · have k2 : Kx (fun j => vf'.ownBlock = some j) ((wr.drewN q).alloc ob) w2 := ⟨hgr.os, hgr.tape, hgr.output, hgr.size, fun j hj hX => hgr.block j hj (fun e => hX e.symm)⟩
    refine ((hM.kx.later hb1).trans k2 (fun j e => ?_)).set (Or.inl (Or.inl rfl)) _ _
    rcases hM.nf j e with h | h
    · exact Or.inl (Or.inr (Or.inl h))
    · exact Or.inr h
theorem PutM.behind {gq : Gq} {M room k q : Nat} {xs ys : List Int} {vf vh vf' vh' v2 : Value} {w wr w2 : World} {ob : Obj} (hM : PutM gq M room k xs ys vf vh w vf' vh' wr) (hgr : ((wr.drewN q).alloc ob).grownBy w2 vh'.ownBlock)
    (hat : v2.ownBlock = vh'.ownBlock ∨ v2.ownBlock = some ((wr.drewN q).alloc ob).heap.size) (hR : RowI (M + 1) w2 v2 ((xs ++ ys.take (k + 1)).drop room)) (hE : (xs ++ ys.take (k + 1)).take room = (xs ++ ys.take k).take room) (hl : (xs ++ ys.take (k + 1)).length ≤ 60) :
    PutM gq M room (k + 1) xs ys vf vh w vf' v2 (w2.setCell ⟨M, 6, none⟩ v2) := by
  have hlt := hM.md.lt
  have hsz := hM.kx.size
  have hb1 : Below wr.heap.size wr ((wr.drewN q).alloc ob) := ⟨rfl, rfl, rfl, by simp, fun k hk => Below.heap_alloc (wr.drewN q) ob k hk⟩
  have hbk : w2.heap[M]? = wr.heap[M]? := (hgr.block M (by simp; omega) (fun e => by have := (hM.md.h.low e.symm).1; omega)).trans (hb1.block M hlt)
  have hh1 : RowI (M + 1) ((wr.drewN q).alloc ob) vf' ((xs ++ ys.take k).take room) := hM.md.f.of_blocks (fun _ e => hb1.block _ (hM.md.f.low e).2)
  obtain ⟨hh2, hap⟩ := two_grow hh1 hM.md.ap.symm hgr hat
  refine ⟨hM.md.setH hbk (by rw [hE]; exact hh2) hR hap.symm hl, hM.nf, fun j e => ?_, ?_⟩
  · rcases hat with h | h
    · exact hM.nh j (h.symm.trans e)
    · rw [h] at e
      simp only [Option.some.injEq] at e
      exact Or.inr (by have := hb1.size; omega)
  · have k2 : Kx (fun j => vh'.ownBlock = some j) ((wr.drewN q).alloc ob) w2 := ⟨hgr.os, hgr.tape, hgr.output, hgr.size, fun j hj hX => hgr.block j hj (fun e => hX e.symm)⟩
    refine ((hM.kx.later hb1).trans k2 (fun j e => ?_)).set (Or.inl (Or.inl rfl)) _ _
    rcases hM.nh j e with h | h
    · exact Or.inl (Or.inr (Or.inr h))
    · exact Or.inr h

set_option maxRecDepth 100000 in
set_option maxHeartbeats 4000000 in
theorem refPut_good (gq : Gq) (M room : Nat) (xs ys : List Int) (vf vh lv : Value) (w : World) (h : Md gq M room xs vf vh w) (hl : Rds (fun b => b ≠ M ∧ vf.ownBlock ≠ some b ∧ vh.ownBlock ≠ some b) w lv ys) (hf : xs.length + ys.length ≤ 60) (hr : room ≤ 16) :
    Calls Tryd.prog 26 #[.pointer (some ⟨M, 4, none⟩), lv] w fun e w' => e = .returned (.bool true) ∧ ∃ vf' vh', PutM gq M room ys.length xs ys vf vh w vf' vh' w' := by
  have HD : Hid (Md gq M room xs vf vh w) := h
  have hc1 := h.c1
  have hc2 := h.c2
  have hle := h.le
  have hlen : (xs.take room).length + (xs.drop room).length = xs.length := by simp; omega
  obtain ⟨fa, fc, hvf⟩ := h.f.shape
  obtain ⟨ha, hc, hvh⟩ := h.h.shape
  have HLV : Hid (Rds (fun b => b ≠ M ∧ vf.ownBlock ≠ some b ∧ vh.ownBlock ≠ some b) w lv ys) := hl
  obtain ⟨a', c', rfl⟩ := hl.shape
  generalize (xs.take room).length = F at *
  generalize (xs.drop room).length = G at *
  subst hvf hvh
  have hgt : ¬ (60 : Int) < (F : Int) + (G : Int) + (ys.length : Int) := by omega
  have hgt2 : decide ((60 : Int) < (F : Int) + (G : Int) + (ys.length : Int)) = false := decide_eq_false hgt
  clear h hl
  go_enter Tryd.func26, Tryd.ntmps26
  go_wp2
  go_quiet (fail)
  go_wp2
  have HM0 : Hid (∀ q, PutM gq M room 0 xs ys (.slice fa F fc) (.slice ha G hc) w (.slice fa F fc) (.slice ha G hc) (w.drewN q)) := fun q => ⟨by rw [List.take_zero, List.append_nil]; exact HD.out.drewN q, fun k e => Or.inl e, fun k e => Or.inl e, ⟨rfl, rfl, rfl, Nat.le_refl _, fun _ _ _ => rfl⟩⟩
  clear hc1 hc2 hgt hgt2
  go_loopw [5] (fun s5 wr => ∃ (k : Nat) (vf' vh' : Value), k ≤ ys.length ∧ s5 = .int .i64 k ∧ Hid (PutM gq M room k xs ys (.slice fa F fc) (.slice ha G hc) w vf' vh' wr)) (fun s5 _ => ys.length - (intOf s5).toNat)
  case atStart => exact ⟨0, _, _, Nat.zero_le _, rfl, HM0.out _⟩
  case round =>
    clear HM0
    obtain ⟨k, vf', vh', hk, rfl, hM⟩ := hrel
    have hc0 := hM.out.md.c0
    have hc1 := hM.out.md.c1
    have hc2 := hM.out.md.c2
    have hfz1 := hM.out.md.fz 5
    have hfz2 := hM.out.md.fz 6
    have hlt := hM.out.md.lt
    have hle2 := hM.out.md.le
    obtain ⟨fa2, fc2, hvf⟩ := hM.out.md.f.shape
    obtain ⟨ha2, hc2', hvh⟩ := hM.out.md.h.shape
    have hF2 : ((xs ++ ys.take k).take room).length = min room (xs.length + k) := by simp; omega
    have hG2 : ((xs ++ ys.take k).drop room).length = xs.length + k - room := by simp; omega
    rw [hF2] at hvf
    rw [hG2] at hvh
    clear hF2 hG2
    by_cases hkl : k < ys.length
    · obtain ⟨b, o, rfl, hbM, hbl, hcc⟩ := HLV.out.at hkl
      have hcx := (World.cell?_of_block (a := ⟨b, o + k, none⟩) (hM.out.kx.block b hbl (by rintro (e | e | e); { exact hbM.1 e }; { exact hbM.2.1 e }; { exact hbM.2.2 e }))).trans hcc
      have hT := take_one ys hkl
      have HT : Hid (ys.take (k + 1) = ys.take k ++ [ys.getD k 0]) := hT
      have hkl' : (k : Int) < (ys.length : Int) := by omega
      clear hcc hT
      generalize ys.getD k 0 = x at *
      subst hvf hvh
      have HRf : Hid (RowI (M + 1) wr (.slice fa2 (min room (xs.length + k)) fc2) ((xs ++ ys.take k).take room)) := hM.out.md.f
      have HRh : Hid (RowI (M + 1) wr (.slice ha2 (xs.length + k - room) hc2') ((xs ++ ys.take k).drop room)) := hM.out.md.h
      obtain ⟨F2, hF2⟩ : ∃ F2, F2 = min room (xs.length + k) := ⟨_, rfl⟩
      obtain ⟨G2, hG2⟩ : ∃ G2, G2 = xs.length + k - room := ⟨_, rfl⟩
      rw [← hF2] at HRf hc1 hM
      rw [← hG2] at HRh hc2 hM
      have HO : Hid (∀ q, Rds (fun _ => True) ((wr.drewN q).alloc (.cells #[.int .i64 x] 3)) (.slice (some ⟨(wr.drewN q).heap.size, 0, none⟩) 1 1) [x]) := fun q => one_rds (wr.drewN q) x
      have HL : Hid ((xs ++ ys.take (k + 1)).length ≤ 60) := by show _ ≤ _; simp only [List.length_take, List.length_append]; omega
      by_cases hroom : xs.length + k < room
      · obtain rfl : G2 = 0 := by omega
        have e1 : decide ((F2 : Int) < (room : Int)) = true := decide_eq_true (by omega)
        have e2 : (F2 : Int) < (room : Int) := by omega
        have hF60 : F2 ≤ 60 := by omega
        have hZ : ((xs ++ ys.take k).take room).length + [x].length ≤ 1000 := by simp only [List.length_take, List.length_append, List.length_singleton]; omega
        have hZS : ((xs ++ ys.take k).take room ++ [x]).length = F2 + 1 := by simp only [List.length_take, List.length_append, List.length_singleton]; omega
        have HE : Hid ((xs ++ ys.take k).take room ++ [x] = (xs ++ ys.take (k + 1)).take room ∧ (xs ++ ys.take (k + 1)).drop room = (xs ++ ys.take k).drop room) := by
          show _ ∧ _
          rw [HT.out, ← List.append_assoc]
          exact take_grow (by simp only [List.length_take, List.length_append]; omega)
        have hcA : ∀ q, ((wr.drewN q).alloc (.cells #[.int .i64 x] 3)).cell? ⟨M, 5, none⟩ = some (.slice fa2 F2 fc2) := fun q => (World.cell?_of_block (a := ⟨M, 5, none⟩) (Below.heap_alloc (wr.drewN q) _ _ hlt)).trans hc1
        clear hF2 hG2
        go_wp2
        go_quiet (fail)
        go_wp2
        go_region_law (refine step_append_rows rfl (.tmp 49) (.tmp 54) rfl (M + 1) (fun _ => True) (.slice fa2 F2 fc2) (.slice (some ⟨wr.heap.size, 0, none⟩) 1 1) ((xs ++ ys.take k).take room) [x] (by simp [Act.eval]) (by simp [Act.eval]) ((HRf.out.of_blocks (w' := wr.drewN (nq + 1)) (fun _ _ => rfl)).alloc _) (HO.out (nq + 1)) (by have := hZ; omega) (by simp; omega) ?_; intro v2 w2 hown2 hgr2 hat2; have HR2 : Hid (RowI (M + 1) w2 v2 ((xs ++ ys.take k).take room ++ [x])) := hown2; obtain ⟨a2, k2, rfl⟩ := hown2.shape; rw [hZS] at HR2 hat2 ⊢; have hbk : w2.heap[M]? = wr.heap[M]? := (hgr2.block M (by simp; omega) (fun e => by have := (HRf.out.low e.symm).1; omega)).trans (Below.heap_alloc _ _ _ hlt); have hz2 := (World.frozen?_of_block (a := ⟨M, 5, none⟩) hbk).trans hfz1; have hcm := (World.cell?_of_block (a := ⟨M, 5, none⟩) hbk).trans hc1; clear hown2)
        all_goals
          have hN : Hid (PutM gq M room (k + 1) xs ys (.slice fa F fc) (.slice ha G hc) w (.slice a2 (F2 + 1) k2) (.slice ha2 0 hc2') (w2.setCell ⟨M, 5, none⟩ (.slice a2 (F2 + 1) k2))) := hM.out.front hgr2 hat2 (by have := HR2.out; rw [HE.out.1] at this; exact this) HE.out.2 HL.out
          clear hgr2 hat2 HR2 hbk hz2 hcm
          go_wp2
          go_roundw
          case rel => exact ⟨k + 1, _, _, by omega, by go_num, hN⟩
          case measure => simp [intOf]; omega
      · have hZ : ((xs ++ ys.take k).drop room).length + [x].length ≤ 1000 := by simp only [List.length_take, List.length_drop, List.length_append, List.length_singleton]; omega
        have hZS : ((xs ++ ys.take k).drop room ++ [x]).length = G2 + 1 := by simp only [List.length_take, List.length_drop, List.length_append, List.length_singleton]; omega
        have HE : Hid ((xs ++ ys.take k).drop room ++ [x] = (xs ++ ys.take (k + 1)).drop room ∧ (xs ++ ys.take (k + 1)).take room = (xs ++ ys.take k).take room) := by
          show _ ∧ _
          rw [HT.out, ← List.append_assoc]
          exact drop_grow (by simp only [List.length_take, List.length_append]; omega)
        have hcA : ∀ q, ((wr.drewN q).alloc (.cells #[.int .i64 x] 3)).cell? ⟨M, 6, none⟩ = some (.slice ha2 G2 hc2') := fun q => (World.cell?_of_block (a := ⟨M, 6, none⟩) (Below.heap_alloc (wr.drewN q) _ _ hlt)).trans hc2
        have hG60 : G2 ≤ 60 := by omega
        by_cases hG0 : G2 = 0
        · have e1 : decide ((F2 : Int) < (room : Int)) = false := decide_eq_false (by omega)
          have e2 : ¬ (F2 : Int) < (room : Int) := by omega
          have e3 : ((G2 : Int) == 0) = true := by simp [hG0]
          clear hG0
          clear hF2 hG2
          go_wp2
          go_quiet (fail)
          go_wp2
          go_region_law (refine step_append_rows rfl (.tmp 62) (.tmp 67) rfl (M + 1) (fun _ => True) (.slice ha2 G2 hc2') (.slice (some ⟨wr.heap.size, 0, none⟩) 1 1) ((xs ++ ys.take k).drop room) [x] (by simp [Act.eval]) (by simp [Act.eval]) ((HRh.out.of_blocks (w' := wr.drewN (nq + 1)) (fun _ _ => rfl)).alloc _) (HO.out (nq + 1)) (by have := hZ; omega) (by simp; omega) ?_; intro v2 w2 hown2 hgr2 hat2; have HR2 : Hid (RowI (M + 1) w2 v2 ((xs ++ ys.take k).drop room ++ [x])) := hown2; obtain ⟨a2, k2, rfl⟩ := hown2.shape; rw [hZS] at HR2 hat2 ⊢; have hbk : w2.heap[M]? = wr.heap[M]? := (hgr2.block M (by simp; omega) (fun e => by have := (HRh.out.low e.symm).1; omega)).trans (Below.heap_alloc _ _ _ hlt); have hz2 := (World.frozen?_of_block (a := ⟨M, 6, none⟩) hbk).trans hfz2; have hcm := (World.cell?_of_block (a := ⟨M, 6, none⟩) hbk).trans hc2; clear hown2)
          all_goals
            have hN : Hid (PutM gq M room (k + 1) xs ys (.slice fa F fc) (.slice ha G hc) w (.slice fa2 F2 fc2) (.slice a2 (G2 + 1) k2) (w2.setCell ⟨M, 6, none⟩ (.slice a2 (G2 + 1) k2))) := hM.out.behind hgr2 hat2 (by have := HR2.out; rw [HE.out.1] at this; exact this) HE.out.2 HL.out
            clear hgr2 hat2 HR2 hbk hz2 hcm
            go_wp2
            go_roundw
            case rel => exact ⟨k + 1, _, _, by omega, by go_num, hN⟩
            case measure => simp [intOf]; omega
        · have e3 : ((G2 : Int) == 0) = false := by simp [hG0]
          clear hF2 hG2
          go_wp2
          go_quiet (fail)
          go_wp2
          go_region_law (refine step_append_rows rfl (.tmp 62) (.tmp 67) rfl (M + 1) (fun _ => True) (.slice ha2 G2 hc2') (.slice (some ⟨wr.heap.size, 0, none⟩) 1 1) ((xs ++ ys.take k).drop room) [x] (by simp [Act.eval]) (by simp [Act.eval]) ((HRh.out.of_blocks (w' := wr.drewN (nq + 1)) (fun _ _ => rfl)).alloc _) (HO.out (nq + 1)) (by have := hZ; omega) (by simp; omega) ?_; intro v2 w2 hown2 hgr2 hat2; have HR2 : Hid (RowI (M + 1) w2 v2 ((xs ++ ys.take k).drop room ++ [x])) := hown2; obtain ⟨a2, k2, rfl⟩ := hown2.shape; rw [hZS] at HR2 hat2 ⊢; have hbk : w2.heap[M]? = wr.heap[M]? := (hgr2.block M (by simp; omega) (fun e => by have := (HRh.out.low e.symm).1; omega)).trans (Below.heap_alloc _ _ _ hlt); have hz2 := (World.frozen?_of_block (a := ⟨M, 6, none⟩) hbk).trans hfz2; have hcm := (World.cell?_of_block (a := ⟨M, 6, none⟩) hbk).trans hc2; clear hown2)
          all_goals
            have hN : Hid (PutM gq M room (k + 1) xs ys (.slice fa F fc) (.slice ha G hc) w (.slice fa2 F2 fc2) (.slice a2 (G2 + 1) k2) (w2.setCell ⟨M, 6, none⟩ (.slice a2 (G2 + 1) k2))) := hM.out.behind hgr2 hat2 (by have := HR2.out; rw [HE.out.1] at this; exact this) HE.out.2 HL.out
            clear hgr2 hat2 HR2 hbk hz2 hcm
            go_wp2
            go_roundw
            case rel => exact ⟨k + 1, _, _, by omega, by go_num, hN⟩
            case measure => simp [intOf]; omega
    · have hkl' : ¬ (k : Int) < (ys.length : Int) := by omega
      obtain rfl : k = ys.length := by omega
      go_wp2
      go_ret
      exact ⟨rfl, _, _, hM.out⟩
end Go.Proofs.YtchbncgifefegaaDoor.Spl.Dsp
