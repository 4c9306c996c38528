/- Ops in a row of their own; the walk of CellsFault. -/
import Derived.Test.YtkdlhhogbpjplaaCli
import Derived.Test.YtkdlhhogbpjplaaDt
namespace Go.Proofs.Ytkdlhhogbpjplaa
open Go.RowKit Go.Deep

theorem Try.info34 : (Try.prog.info? 34).map (fun i => (i.zero, i.size, i.bytes)) = some (some (.agg #[.int .i64 0, .int .i64 0]), 2, 16) := by kernel_rfl

/-- Ops, cell by cell. -/
def flatO (gs : List Opn) : List Value := gs.flatMap (fun g => [.int .i64 g.1, .int .i64 g.2])
theorem flatO_length (gs : List Opn) : (flatO gs).length = gs.length * 2 := by
  induction gs with
  | nil => rfl
  | cons a r ih =>
    show (([Value.int .i64 a.1, Value.int .i64 a.2] : List Value) ++ flatO r).length = _
    rw [List.length_append, ih]
    simp
    omega
theorem flatO_append (a b : List Opn) : flatO (a ++ b) = flatO a ++ flatO b := by simp [flatO]
theorem flatO_at (gs : List Opn) : ∀ k, k < gs.length → (flatO gs)[k * 2]? = some (.int .i64 (whtO gs k)) ∧ (flatO gs)[k * 2 + 1]? = some (.int .i64 (numO gs k)) := by
  induction gs with
  | nil => intro k hk; simp at hk
  | cons a r ih =>
    intro k hk
    show (([Value.int .i64 a.1, Value.int .i64 a.2] : List Value) ++ flatO r)[k * 2]? = _ ∧ (([Value.int .i64 a.1, Value.int .i64 a.2] : List Value) ++ flatO r)[k * 2 + 1]? = _
    cases k with
    | zero => exact ⟨rfl, rfl⟩
    | succ k =>
      have h := ih k (by simpa using hk)
      rw [List.getElem?_append_right (by simp; omega), List.getElem?_append_right (by simp; omega)]
      have e1 : (k + 1) * 2 - ([Value.int .i64 a.1, Value.int .i64 a.2] : List Value).length = k * 2 := by simp; omega
      have e2 : (k + 1) * 2 + 1 - ([Value.int .i64 a.1, Value.int .i64 a.2] : List Value).length = k * 2 + 1 := by simp; omega
      rw [e1, e2]
      exact h
theorem flatO_one (gs : List Opn) : ∀ u ∈ flatO gs, u.oneCell' = true := by
  intro u hu
  obtain ⟨g, _, h⟩ := List.mem_flatMap.1 hu
  simp at h
  rcases h with rfl | rfl <;> rfl
/-- Ops in a row of the call's own, in a block from b on. -/
def RowO (b : Nat) (w : World) (v : Value) (gs : List Opn) : Prop := w.ownsRow b 34 2 v gs.length (flatO gs)
theorem RowO.at {b : Nat} {w : World} {v : Value} {gs : List Opn} (h : RowO b w v gs) (hl : gs.length * 16 ≤ 140737488351232) : OpsAt w v gs := by
  refine ⟨hl, ?_⟩
  rcases h.2 with ⟨hv, h0⟩ | ⟨g, cap, cur, hv, _, hh, _⟩
  · exact ⟨none, 0, by rw [hv, h0], Or.inl (List.eq_nil_of_length_eq_zero h0)⟩
  · subst hv
    refine ⟨_, _, rfl, Or.inr ⟨g, 0, rfl, lt_of_block hh, fun k hk => ?_⟩⟩
    have e1 := World.ownsRow.cellAt h (k * 2) (by omega)
    have e2 := World.ownsRow.cellAt h (k * 2 + 1) (by omega)
    obtain ⟨h1, h2⟩ := flatO_at gs k hk
    rw [Nat.zero_add]
    exact ⟨e1.trans h1, e2.trans h2⟩
theorem RowO.later {b : Nat} {w w' : World} {v : Value} {gs : List Opn} (h : RowO b w v gs) (hb : Below w.heap.size w w') : RowO b w' v gs :=
  h.kept (row := none) ⟨hb.os, hb.tape, hb.output, hb.size, fun k hk _ => hb.block k hk⟩ (by cases v.ownBlock <;> simp)
theorem RowO.shape {b : Nat} {w : World} {v : Value} {gs : List Opn} (h : RowO b w v gs) (hn : 0 < gs.length) : ∃ g cap, v = .slice (some ⟨g, 0, none⟩) gs.length cap ∧ b ≤ g ∧ g < w.heap.size := by
  rcases h.2 with ⟨_, h0⟩ | ⟨g, cap, cur, hv, hg, hh, _⟩
  · omega
  · exact ⟨g, cap, hv, hg, lt_of_block hh⟩
/-- What an append of cells reads. -/
theorem ops_src {w : World} {b o : Nat} {gs : List Opn} (hc : ∀ k, k < gs.length → w.cell? ⟨b, o + k * 2, none⟩ = some (.int .i64 (whtO gs k)) ∧ w.cell? ⟨b, o + k * 2 + 1, none⟩ = some (.int .i64 (numO gs k))) :
    ∀ j u, (flatO gs)[j]? = some u → w.cell? ((⟨b, o, none⟩ : Addr).add j) = some u := by
  intro j u hj
  have hjl : j < gs.length * 2 := by rw [← flatO_length]; exact (List.getElem?_eq_some_iff.1 hj).1
  rw [add_lit]
  have h1 := flatO_at gs (j / 2) (by omega)
  have h2 := hc (j / 2) (by omega)
  rcases Nat.mod_two_eq_zero_or_one j with e | e
  · have ej : j / 2 * 2 = j := by omega
    rw [ej] at h1 h2
    rw [h2.1, ← hj, h1.1]
  · have ej : j / 2 * 2 + 1 = j := by omega
    rw [Nat.add_assoc, ej] at h2
    rw [ej] at h1
    rw [h2.2, ← hj, h1.2]



theorem flatO_set {os : List Opn} {i : Nat} (hi : i < os.length) (x y : Int) : ((flatO os).set (i * 2) (.int .i64 x)).set (i * 2 + 1) (.int .i64 y) = flatO (os.set i (x, y)) := by
  have hw : ∀ k, k < os.length → whtO (os.set i (x, y)) k = (if k = i then x else whtO os k) ∧ numO (os.set i (x, y)) k = (if k = i then y else numO os k) := fun k hk => by
    unfold whtO numO
    rw [List.getD_eq_getElem?_getD, List.getElem?_set]
    by_cases e : i = k
    · subst e; simp [hk]
    · rw [if_neg e, if_neg (fun h => e h.symm), if_neg (fun h => e h.symm), List.getD_eq_getElem?_getD]
      exact ⟨rfl, rfl⟩
  refine List.ext_getElem? fun j => ?_
  by_cases hj : j < os.length * 2
  · have h1 := flatO_at os (j / 2) (by omega)
    have h2 := flatO_at (os.set i (x, y)) (j / 2) (by rw [List.length_set]; omega)
    rw [(hw (j / 2) (by omega)).1, (hw (j / 2) (by omega)).2] at h2
    rw [List.getElem?_set, List.getElem?_set]
    rcases Nat.mod_two_eq_zero_or_one j with e | e
    · have ej : j / 2 * 2 = j := by omega
      rw [ej] at h1 h2
      rw [if_neg (by omega), h2.1]
      by_cases e2 : i * 2 = j
      · rw [if_pos e2, if_pos (by rw [flatO_length]; omega), if_pos (by omega)]
      · rw [if_neg e2, h1.1, if_neg (by omega)]
    · have ej : j / 2 * 2 + 1 = j := by omega
      rw [ej] at h1 h2
      by_cases e2 : i * 2 + 1 = j
      · rw [if_pos e2, if_pos (by rw [List.length_set, flatO_length]; omega), h2.2, if_pos (by omega)]
      · rw [if_neg e2, if_neg (by omega), h1.2, h2.2, if_neg (by omega)]
  · rw [List.getElem?_eq_none (by simp [flatO_length]; omega), List.getElem?_eq_none (by rw [flatO_length, List.length_set]; omega)]
theorem RowO.put {b g n c : Nat} {w : World} {os : List Opn} (h : RowO b w (.slice (some ⟨g, 0, none⟩) n c) os) (hn : n = os.length) {i : Nat} (hi : i < os.length) (x y : Int) :
    RowO b ((w.setCell ⟨g, i * 2, none⟩ (.int .i64 x)).setCell ⟨g, i * 2 + 1, none⟩ (.int .i64 y)) (.slice (some ⟨g, 0, none⟩) n c) (os.set i (x, y)) := by
  subst hn
  unfold RowO at h ⊢
  rw [List.length_set, ← flatO_set hi]
  exact (World.ownsRow.stored (World.ownsRow.stored h (i * 2) _).1 (i * 2 + 1) _).1
theorem replicate_snoc {α : Type} (k : Nat) (a : α) : List.replicate (k + 1) a = List.replicate k a ++ [a] := List.replicate_succ'
/-- The ops of CellsFault. -/
def fltOps (n : Nat) (first : Bool) : List Opn := if first then ((List.replicate n ((1 : Int), (1 : Int))).set 0 (4, 5)).set (n - 1) (5, 7) else (List.replicate n ((1 : Int), (1 : Int))).set 0 (4, 5)
theorem fltOps_length (n : Nat) (first : Bool) : (fltOps n first).length = n := by unfold fltOps; split <;> simp
theorem fltOps_at (n : Nat) (first : Bool) (h2 : 2 ≤ n) (k : Nat) (hk : k < n) : (fltOps n first).getD k (0, 0) = if k = 0 then (4, 5) else if k = n - 1 ∧ first = true then (5, 7) else (1, 1) := by
  unfold fltOps
  cases first
  · rw [if_neg (by simp), List.getD_eq_getElem?_getD, List.getElem?_set]
    by_cases e : k = 0
    · subst e; rw [if_pos rfl, if_pos (by rw [List.length_replicate]; omega), if_pos rfl]; rfl
    · rw [if_neg (fun h => e h.symm), if_neg e, if_neg (by simp), List.getElem?_replicate, if_pos hk]; rfl
  · rw [if_pos rfl, List.getD_eq_getElem?_getD, List.getElem?_set]
    by_cases e1 : k = n - 1
    · rw [if_pos e1.symm, if_pos (by simp; omega), if_neg (show ¬ k = 0 by omega), if_pos ⟨e1, rfl⟩]; rfl
    · rw [if_neg (fun h => e1 h.symm), List.getElem?_set]
      by_cases e : k = 0
      · subst e; rw [if_pos rfl, if_pos (by rw [List.length_replicate]; omega), if_pos rfl]; rfl
      · rw [if_neg (fun h => e h.symm), if_neg e, if_neg (fun h => e1 h.1), List.getElem?_replicate, if_pos hk]; rfl
theorem fltOps_right (n : Nat) (first : Bool) (h2 : 2 ≤ n) : opsErr n (fltOps n first) = 0 := by
  unfold opsErr
  rw [if_pos (fltOps_length n first)]
  refine firstBad_none opErr (0, 0) _ (fun k hk => ?_)
  rw [fltOps_length] at hk
  rw [fltOps_at n first h2 k hk]
  split
  · rfl
  · split <;> rfl
/-- What All tells along a chain. -/
theorem fault_all {n : Nat} {first : Bool} {ord : List Nat} (h2 : 2 ≤ n) (h30 : n ≤ 30) (h : OrdIs (chainTs 1 n) ord) (hno : ∀ j, j < (chainTs 1 n).length → ¬ Reach (chainTs 1 n) j j) (herr : ∀ j, j < (chainTs 1 n).length → errOf (chainTs 1 n) j = 0) :
    alongC (chainTs 1 n) (fun k => (fltOps n first).getD k (0, 0)) ord 0 = (0, true) ∧ alongC (chainTs 1 n) (fun k => (fltOps n first).getD k (0, 0)) ord (n - 1) = if first then (7, false) else (0, true) := by
  have hr := inRange_of herr
  have hS := alongC_sol (op := fun k => (fltOps n first).getD k (0, 0)) h.nodup h.behind hr h.below (h.mem hr hno)
  have h0 : (fun k => (fltOps n first).getD k (0, 0)) 0 = (4, 5) := by
    show (fltOps n first).getD 0 (0, 0) = _
    rw [fltOps_at n first h2 0 (by omega), if_pos rfl]
  have h5 : ∀ k, k + 1 < n → ((fun k => (fltOps n first).getD k (0, 0)) k).1 ≠ 5 := fun k hk => by
    show ((fltOps n first).getD k (0, 0)).1 ≠ 5
    rw [fltOps_at n first h2 k (by omega)]
    split
    · simp
    · rw [if_neg (by omega)]; simp
  refine ⟨chain_faults hS h0 h5 0 (by omega), ?_⟩
  obtain ⟨m, rfl⟩ : ∃ m, n = m + 2 := ⟨n - 2, by omega⟩
  have hl := chain_last hS h0 h5
  rw [show m + 2 - 1 = m + 1 by omega, hl]
  show doC ((fltOps (m + 2) first).getD (m + 1) (0, 0)) [(0, true)] = _
  rw [fltOps_at (m + 2) first h2 (m + 1) (by omega), if_neg (by omega)]
  cases first
  · rw [if_neg (by simp)]; rfl
  · rw [if_pos ⟨by omega, rfl⟩]; rfl

theorem chain_at {N n : Nat} {w : World} {v : Value} (h : OwnPlan N w v (chainTs 1 n)) (hn : n ≤ 1000) : PlanAt w v (chainTs 1 n) :=
  h.planAt (by rw [chainTs_length]; omega) (fun j hj => by
    rw [chainTs_length] at hj
    unfold needsOf
    rw [chainTs_getD 1 n j hj]
    split <;> simp)
theorem fault_calls {n : Nat} {first : Bool} {pv ov : Value} {w : World} (h2 : 2 ≤ n) (h30 : n ≤ 30) (hp : PlanAt w pv (chainTs 1 n)) (ho : OpsAt w ov (fltOps n first)) :
    Calls Try.prog 5 #[pv, ov] w fun e w' => (∃ g, e = .returned (.tuple #[.slice (some ⟨g, 0, none⟩) n n, .nilIface]) ∧ w'.cell? ⟨g, 1, none⟩ = some (.bool true) ∧ w'.cell? ⟨g, (n - 1) * 2, none⟩ = some (.int .i64 (if first then 7 else 0)) ∧ w'.cell? ⟨g, (n - 1) * 2 + 1, none⟩ = some (.bool (!first))) ∧ Below w.heap.size w w' := by
  refine (cAll_any pv ov _ _ w hp ho).mono ?_
  rintro e w' ⟨⟨p, q, hck, hcase⟩, hb⟩
  obtain ⟨-, rfl⟩ := chain_check h30 hck
  have hz : opsErr (chainTs 1 n).length (fltOps n first) = 0 := by rw [chainTs_length]; exact fltOps_right n first h2
  rcases hcase with ⟨hne, _⟩ | ⟨_, _, ord, g, hord, rfl, hrow⟩
  · exact absurd (show allErr 0 (chainTs 1 n).length (fltOps n first) = 0 from hz) hne
  · obtain ⟨-, -, herr, hno⟩ := hck.ok rfl
    obtain ⟨f0, f1⟩ := fault_all (first := first) h2 h30 hord hno herr
    rw [chainTs_length] at hrow ⊢
    have c0 := hrow.cell (i := 0 * 2 + 1) (by omega)
    have c1 := hrow.cell (i := (n - 1) * 2) (by omega)
    have c2 := hrow.cell (i := (n - 1) * 2 + 1) (by omega)
    rw [cellRow_flt, f0] at c0
    rw [cellRow_num, f1] at c1
    rw [cellRow_flt, f1] at c2
    refine ⟨⟨g, rfl, c0, ?_, ?_⟩, hb⟩
    · rw [c1]; cases first <;> rfl
    · rw [c2]; cases first <;> rfl

set_option maxRecDepth 100000 in
set_option maxHeartbeats 4000000 in
theorem cellsFault_in (n : Nat) (first : Bool) (w : World) (h2 : 2 ≤ n) (h30 : n ≤ 30) : Calls Try.prog 4 #[.int .i64 n, .bool first] w fun e w' => e = .returned (.bool true) ∧ Below w.heap.size w w' := by
  have e1 : ¬ (n : Int) < 2 := by omega
  have e2 : ¬ (30 : Int) < (n : Int) := by omega
  obtain ⟨iG, hiG, hz0, hz1, hz2⟩ := info_parts Try.info34
  go_enter Try.func4, Try.ntmps4
  go_wp2
  go_loopw [5, 6] (fun s5 s6 wr => ∃ k : Nat, k ≤ n ∧ s6 = .int .i64 k ∧ (∃ a c, s5 = .slice a k c) ∧ Hid (RowO w.heap.size wr s5 (List.replicate k (1, 1))) ∧ Below w.heap.size w wr) (fun _ s6 _ => n - (intOf s6).toNat)
  case atStart => exact ⟨0, Nat.zero_le _, rfl, ⟨none, 0, rfl⟩, World.ownsRow_nil _ _ _ _, Below.refl _ _⟩
  case round =>
    obtain ⟨k, hk, rfl, ⟨sa, sc, rfl⟩, hrow, hb⟩ := hrel
    by_cases hkn : k < n
    · have hA : (wr.alloc (.cells #[.int .i64 1, .int .i64 1] 34)).ownsRow w.heap.size 34 2 (.slice sa k sc) k (flatO (List.replicate k (1, 1))) := by
        have := hrow.out.alloc (.cells #[.int .i64 1, .int .i64 1] 34)
        rw [List.length_replicate] at this
        exact this
      have hbs := hb.size
      have hsrc := cell_two_at wr (.int .i64 1) (.int .i64 1) 34
      go_wp2_with (at_builtin; refine wpList_append_own _ rfl (.tmp 20) (.tmp 22) 24 rfl w.heap.size 34 iG (.agg #[.int .i64 0, .int .i64 0]) 2 16 Try.underlying24 hiG hz0 hz1 hz2 rfl (by decide) _ k (flatO (List.replicate k (1, 1))) rfl hA ⟨wr.heap.size, 0, none⟩ 1 1 [.int .i64 1, .int .i64 1] rfl rfl hsrc ?c2 ?c3 ?c4 ?c5 ?_)
      case c2 => intro u hu; simp at hu; rcases hu with rfl | rfl <;> rfl
      case c3 => unfold maxLen; omega
      case c4 => omega
      case c5 => simp; omega
      intro v' w1 hown' hgrow _
      have hB1 : Below w.heap.size w w1 := (hb.alloc hbs _).grown hgrow (by simp; omega) (fun j e => (World.ownsRow.lt hA j e).1)
      have hR1 : Hid (RowO w.heap.size w1 v' (List.replicate (k + 1) (1, 1))) := by
        show RowO _ _ _ _
        unfold RowO
        rw [List.length_replicate, replicate_snoc, flatO_append]
        exact hown'
      obtain ⟨va, vc, rfl⟩ : ∃ va vc, v' = .slice va (k + 1) vc := by
        rcases hown'.2 with ⟨_, h0⟩ | ⟨g, cap, cur, hv, _⟩
        · omega
        · exact ⟨_, _, hv⟩
      clear hown' hgrow hA hrow hb
      go_wp2
      go_roundw
      case rel => exact ⟨k + 1, by omega, by go_num, ⟨_, _, rfl⟩, hR1, hB1⟩
      case measure => simp [intOf]; omega
    · obtain rfl : k = n := by omega
      obtain ⟨g, cap, hv, hg1, hg2⟩ := hrow.out.shape (by rw [List.length_replicate]; omega)
      rw [List.length_replicate] at hv
      obtain ⟨rfl, rfl⟩ : sa = some ⟨g, 0, none⟩ ∧ sc = cap := by simp at hv; exact hv
      clear hv
      have hlen : (List.replicate k ((1 : Int), (1 : Int))).length = k := List.length_replicate
      have hown : wr.ownsRow w.heap.size 34 2 (.slice (some ⟨g, 0, none⟩) k sc) k (flatO (List.replicate k ((1 : Int), (1 : Int)))) := by
        have := hrow.out
        unfold RowO at this
        rw [hlen] at this
        exact this
      have hc0 := World.ownsRow.cellAt hown 0 (by omega)
      have hc1 := World.ownsRow.cellAt hown 1 (by omega)
      have hf0 := World.ownsRow.frozenAt hown 0
      have hf1 := World.ownsRow.frozenAt hown 1
      have hx0 := (flatO_at (List.replicate k ((1 : Int), (1 : Int))) 0 (by omega)).1
      have hx1 := (flatO_at (List.replicate k ((1 : Int), (1 : Int))) 0 (by omega)).2
      rw [Nat.zero_mul] at hx0 hx1
      rw [Nat.zero_add] at hx1
      rw [hx0] at hc0
      rw [hx1] at hc1
      generalize whtO (List.replicate k ((1 : Int), (1 : Int))) 0 = y0 at *
      generalize numO (List.replicate k ((1 : Int), (1 : Int))) 0 = y1 at *
      have hput := hrow.out.put hlen.symm (i := 0) (by omega) 4 5
      rw [Nat.zero_mul, Nat.zero_add] at hput
      have HPUT : Hid (RowO w.heap.size ((wr.setCell ⟨g, 0, none⟩ (.int .i64 4)).setCell ⟨g, 1, none⟩ (.int .i64 5)) (.slice (some ⟨g, 0, none⟩) k sc) ((List.replicate k ((1 : Int), (1 : Int))).set 0 (4, 5))) := hput
      have hB1 : Below w.heap.size w ((wr.setCell ⟨g, 0, none⟩ (.int .i64 4)).setCell ⟨g, 1, none⟩ (.int .i64 5)) := (hb.setCell (p := ⟨g, 0, none⟩) hg1 _).setCell (p := ⟨g, 1, none⟩) hg1 _
      have HB1 : Hid (Below w.heap.size w ((wr.setCell ⟨g, 0, none⟩ (.int .i64 4)).setCell ⟨g, 1, none⟩ (.int .i64 5))) := hB1
      have HCA : Hid (∀ w0 : World, Below w.heap.size w w0 → RowO w.heap.size w0 (.slice (some ⟨g, 0, none⟩) k sc) (fltOps k first) → ∀ w1, Below w0.heap.size w0 w1 → OpsAt w1 (.slice (some ⟨g, 0, none⟩) k sc) (fltOps k first)) := fun w0 _ hr w1 hb1 => (hr.at (by rw [fltOps_length]; omega)).later hb1
      obtain ⟨m, rfl⟩ : ∃ m, k = m + 1 := ⟨k - 1, by omega⟩
      have hm1 : 1 ≤ m := by omega
      have hfin : ∀ w0 : World, Below w.heap.size w w0 → RowO w.heap.size w0 (.slice (some ⟨g, 0, none⟩) (m + 1) sc) (fltOps (m + 1) first) → Calls Try.prog 11 #[.int .i64 ((m + 1 : Nat) : Int), .int .i64 1] w0 fun e w1 => ∃ pv, e = .returned pv ∧ Below w.heap.size w w1 ∧ Calls Try.prog 5 #[pv, .slice (some ⟨g, 0, none⟩) (m + 1) sc] w1 fun e w' => (∃ g, e = .returned (.tuple #[.slice (some ⟨g, 0, none⟩) (m + 1) (m + 1), .nilIface]) ∧ w'.cell? ⟨g, 1, none⟩ = some (.bool true) ∧ w'.cell? ⟨g, m * 2, none⟩ = some (.int .i64 (if first then 7 else 0)) ∧ w'.cell? ⟨g, m * 2 + 1, none⟩ = some (.bool (!first))) ∧ Below w.heap.size w w' := fun w0 hb0 hr0 => by
        refine (chain_any (m + 1) 1 w0 (by omega)).mono ?_
        rintro e w1 ⟨pv, rfl, hpl, hb1⟩
        have hbw := hb0.trans (hb1.mono hb0.size)
        refine ⟨pv, rfl, hbw, (fault_calls (first := first) h2 h30 (chain_at hpl (by omega)) (HCA.out w0 hb0 hr0 w1 hb1)).mono ?_⟩
        rintro e w' ⟨⟨g2, rfl, c0, c1, c2⟩, hb'⟩
        exact ⟨⟨g2, rfl, c0, c1, c2⟩, hbw.trans (hb'.mono hbw.size)⟩
      cases first
      · have hch := hfin _ HB1.out HPUT.out
        clear hput hB1 hown hx0 hx1 hrow hlen HCA HPUT hfin
        go_wp2_with (first | (go_at_call 11; refine hch.mono ?_; clear hch; rintro e w1 ⟨pv, rfl, hb1, hal⟩) | (go_at_call 5; refine hal.mono ?_; clear hal; rintro e w2 ⟨⟨g2, rfl, c0, c1, c2⟩, hb2⟩))
        go_ret
        exact ⟨rfl, hb2⟩
      · have hput2 := HPUT.out.put (by simp) (i := m) (by simp) 5 7
        have hown2 := HPUT.out
        unfold RowO at hown2
        rw [List.length_set, hlen] at hown2
        have p0 := World.ownsRow.cellAt hown2 (m * 2) (by omega)
        have p1 := World.ownsRow.cellAt hown2 (m * 2 + 1) (by omega)
        have pf0 := World.ownsRow.frozenAt hown2 (m * 2)
        have pf1 := World.ownsRow.frozenAt hown2 (m * 2 + 1)
        have hx := flatO_at ((List.replicate (m + 1) ((1 : Int), (1 : Int))).set 0 (4, 5)) m (by simp)
        rw [hx.1] at p0
        rw [hx.2] at p1
        generalize whtO ((List.replicate (m + 1) ((1 : Int), (1 : Int))).set 0 (4, 5)) m = z0 at *
        generalize numO ((List.replicate (m + 1) ((1 : Int), (1 : Int))).set 0 (4, 5)) m = z1 at *
        have hch := hfin _ ((HB1.out.setCell (p := ⟨g, m * 2, none⟩) hg1 (.int .i64 5)).setCell (p := ⟨g, m * 2 + 1, none⟩) hg1 (.int .i64 7)) hput2
        clear hput hB1 hown hx0 hx1 hrow hlen HCA HPUT hfin hput2 hown2 hx
        go_wp2_with (first | (go_at_call 11; refine hch.mono ?_; clear hch; rintro e w1 ⟨pv, rfl, hb1, hal⟩) | (go_at_call 5; refine hal.mono ?_; clear hal; rintro e w2 ⟨⟨g2, rfl, c0, c1, c2⟩, hb2⟩))
        go_ret
        exact ⟨rfl, hb2⟩

theorem cellsFault_any (n : Int) (first : Bool) (w : World) : Calls Try.prog 4 #[.int .i64 n, .bool first] w fun e w' => e = .returned (.bool true) ∧ Below w.heap.size w w' := by
  by_cases h2 : n < 2
  · go_enter Try.func4, Try.ntmps4
    go_wp2
    go_ret
    exact ⟨rfl, Below.refl _ _⟩
  · by_cases h30 : 30 < n
    · go_enter Try.func4, Try.ntmps4
      go_wp2
      go_ret
      exact ⟨rfl, Below.refl _ _⟩
    · obtain ⟨k, rfl⟩ := Int.eq_ofNat_of_zero_le (show 0 ≤ n by omega)
      exact cellsFault_in k first w (by omega) (by omega)
end Go.Proofs.Ytkdlhhogbpjplaa
