/- The plan of those that live, in memory: while it is laid, and behind that; the calls of plan and depth, each by one contract. -/
import Derived.Test.YtkbcjhmcbfppkaaGrpg
import Derived.Test.YtkbcjhmcbfppkaaGrpc
import Derived.Test.YtkbcjhmcbfppkaaDo
import Derived.Test.YtkbcjhmcbfppkaaDk
import Derived.Test.YtkbcjhmcbfppkaaTone
namespace Go.Proofs.Ytkbcjhmcbfppkaa
open Go.RowKit Go.Deep

/-- Tasks, cell by cell. -/
def flatQ (wk : Nat → Int) (nv : Nat → Value) : Nat → List Value
  | 0 => []
  | m + 1 => flatQ wk nv m ++ [.int .i64 (wk m), nv m]
theorem flatQ_length (wk : Nat → Int) (nv : Nat → Value) (m : Nat) : (flatQ wk nv m).length = m * 2 := by
  induction m with
  | zero => rfl
  | succ m ih => rw [flatQ, List.length_append, ih]; simp; omega
theorem flatQ_at (wk : Nat → Int) (nv : Nat → Value) (m a : Nat) (ha : a < m) : (flatQ wk nv m)[a * 2]? = some (.int .i64 (wk a)) ∧ (flatQ wk nv m)[a * 2 + 1]? = some (nv a) := by
  induction m with
  | zero => omega
  | succ m ih =>
    rw [flatQ]
    by_cases e : a = m
    · subst e
      rw [List.getElem?_append_right (by rw [flatQ_length]; exact Nat.le_refl _), List.getElem?_append_right (by rw [flatQ_length]; omega), flatQ_length]
      rw [Nat.sub_self, show a * 2 + 1 - a * 2 = 1 by omega]
      exact ⟨rfl, rfl⟩
    · rw [List.getElem?_append_left (by rw [flatQ_length]; omega), List.getElem?_append_left (by rw [flatQ_length]; omega)]
      exact ih (by omega)
theorem flatQ_congr {wk : Nat → Int} {nv nv' : Nat → Value} {m : Nat} (h : ∀ a, a < m → nv a = nv' a) : flatQ wk nv m = flatQ wk nv' m := by
  induction m with
  | zero => rfl
  | succ m ih => rw [flatQ, flatQ, ih (fun a ha => h a (by omega)), h m (by omega)]
theorem flatQ_set (wk : Nat → Int) (nv : Nat → Value) (m a : Nat) (u : Value) (ha : a < m) : (flatQ wk nv m).set (a * 2 + 1) u = flatQ wk (fun b => if b = a then u else nv b) m := by
  refine List.ext_getElem? fun j => ?_
  by_cases hj : j < m * 2
  · have h1 := flatQ_at wk nv m (j / 2) (by omega)
    have h2 := flatQ_at wk (fun b => if b = a then u else nv b) m (j / 2) (by omega)
    rw [List.getElem?_set]
    rcases Nat.mod_two_eq_zero_or_one j with e | e
    · have ej : j / 2 * 2 = j := by omega
      rw [ej] at h1 h2
      rw [if_neg (by omega), h1.1, h2.1]
    · have ej : j / 2 * 2 + 1 = j := by omega
      rw [ej] at h1 h2
      by_cases e2 : a * 2 + 1 = j
      · rw [if_pos e2, if_pos (by rw [flatQ_length]; omega), h2.2]
        have : j / 2 = a := by omega
        simp [this]
      · rw [if_neg e2, h1.2, h2.2]
        have : ¬ j / 2 = a := by omega
        simp [this]
  · rw [List.getElem?_eq_none (by rw [List.length_set, flatQ_length]; omega), List.getElem?_eq_none (by rw [flatQ_length]; omega)]

/-- The one that stands at a place among those that live. -/
def orig (L : Nat → Bool) (n a : Nat) : Nat := (origs L n).getD a 0
theorem orig_at {L : Nat → Bool} {n k : Nat} (hk : k < n) (hL : L k = true) : orig L n (cnt L k) = k := by
  unfold orig
  rw [List.getD_eq_getElem?_getD, origs_at hk hL]
  rfl
theorem orig_some {L : Nat → Bool} {n a : Nat} (ha : a < cnt L n) : (origs L n)[a]? = some (orig L n a) := by
  unfold orig
  rw [← origs_length] at ha
  rw [List.getD_eq_getElem?_getD, List.getElem?_eq_getElem ha]
  rfl
theorem cnt_step (L : Nat → Bool) (k : Nat) : cnt L (k + 1) = if L k then cnt L k + 1 else cnt L k := by
  rw [cnt]
  cases L k <;> rfl

/-- Numbers in a block other than g. -/
def NbAt (g : Nat) (w : World) (v : Value) (zs : List Int) : Prop :=
  zs.length * 8 ≤ 140737488351232 ∧ ∃ a c, v = .slice a zs.length c ∧ (zs = [] ∨ ∃ b o, a = some ⟨b, o, none⟩ ∧ b ≠ g ∧ b < w.heap.size ∧ ∀ k, k < zs.length → w.cell? ⟨b, o + k, none⟩ = some (.int .i64 (zs.getD k 0)))
theorem NbAt.ints {g : Nat} {w : World} {v : Value} {zs : List Int} (h : NbAt g w v zs) : IntsAt w v zs := by
  obtain ⟨h1, a, c, h2, h3⟩ := h
  exact ⟨h1, a, c, h2, h3.imp id (fun ⟨b, o, e, _, hb, hc⟩ => ⟨b, o, e, hb, hc⟩)⟩
theorem NbAt.later {g : Nat} {w w' : World} {v : Value} {zs : List Int} (h : NbAt g w v zs) (hb : Below w.heap.size w w') : NbAt g w' v zs := by
  obtain ⟨h1, a, c, h2, h3⟩ := h
  exact ⟨h1, a, c, h2, h3.imp id (fun ⟨b, o, e, hn, hlt, hc⟩ => ⟨b, o, e, hn, Nat.lt_of_lt_of_le hlt hb.size, fun k hk => (hb.cell (p := ⟨b, o + k, none⟩) hlt).trans (hc k hk)⟩)⟩
theorem NbAt.set {g : Nat} {w : World} {v : Value} {zs : List Int} (h : NbAt g w v zs) (j : Nat) (u : Value) : NbAt g (w.setCell ⟨g, j, none⟩ u) v zs := by
  obtain ⟨h1, a, c, h2, h3⟩ := h
  refine ⟨h1, a, c, h2, h3.imp id (fun ⟨b, o, e, hn, hlt, hc⟩ => ⟨b, o, e, hn, by simpa [World.setCell] using hlt, fun k hk => ?_⟩)⟩
  exact (World.cell?_setCell_other _ _ _ _ (fun e2 => hn (congrArg Addr.block e2).symm)).trans (hc k hk)
/-- A row of the call's own, laid behind g. -/
theorem nb_row {B g : Nat} {w : World} {v : Value} {zs : List Int} (h : w.ownsRow B 3 1 v zs.length (zs.map (Value.int .i64))) (hg : g < B) (hl : zs.length ≤ 1000) : NbAt g w v zs := by
  refine ⟨by omega, ?_⟩
  rcases h.2 with ⟨hv, h0⟩ | ⟨b, cap, cur, hv, hb, hh, _⟩
  · exact ⟨none, 0, by rw [hv, h0], Or.inl (List.eq_nil_of_length_eq_zero h0)⟩
  · subst hv
    refine ⟨_, _, rfl, Or.inr ⟨b, 0, rfl, by omega, lt_of_block hh, fun k hk => ?_⟩⟩
    have := World.ownsRow.cellAt h k (by omega)
    rw [Nat.zero_add, this, List.getElem?_map, List.getElem?_eq_getElem hk, List.getD_eq_getElem?_getD, List.getElem?_eq_getElem hk]
    rfl

/-- What one that lives needs, by their new places. -/
def newNeeds (ts : List (Int × List Int)) (L : Nat → Bool) (k : Nat) : List Int := (needsOf ts k).map (fun y => ((cnt L y.toNat : Nat) : Int))
/-- While the plan is laid anew: the first a tasks have their new needs. -/
structure QMem (ts : List (Int × List Int)) (L : Nat → Bool) (nv : Nat → Value) (A g cap a : Nat) (w0 wr : World) : Prop where
  place : wr.rowIs A 41 30 (fun j => .int .i64 (if j < ts.length then (cnt L j : Int) else 0))
  row : ∃ NN : Nat → Value, wr.ownsRow (A + 1) 38 2 (.slice (some ⟨g, 0, none⟩) (cnt L ts.length) cap) (cnt L ts.length) (flatQ (fun b => (ts.getD (orig L ts.length b) (0, [])).1) NN (cnt L ts.length)) ∧
    (∀ b, b < cnt L ts.length → a ≤ b → NN b = nv (orig L ts.length b)) ∧ ∀ b, b < a → NbAt g wr (NN b) (newNeeds ts L (orig L ts.length b))
  below : Below A w0 wr
theorem QMem.later {ts : List (Int × List Int)} {L : Nat → Bool} {nv : Nat → Value} {A g cap a : Nat} {w0 wr w' : World} (h : QMem ts L nv A g cap a w0 wr) (hb : Below wr.heap.size wr w') : QMem ts L nv A g cap a w0 w' := by
  obtain ⟨NN, h1, h2, h3⟩ := h.row
  exact ⟨h.place.of_block (hb.block A h.place.lt), ⟨NN, h1.kept (row := none) ⟨hb.os, hb.tape, hb.output, hb.size, fun k hk _ => hb.block k hk⟩ (Or.inr (by simp [Value.ownBlock])), h2, fun b hlt => (h3 b hlt).later hb⟩, h.below.trans (hb.mono (Nat.le_of_lt h.place.lt))⟩
/-- The next one's new needs are stored. -/
theorem QMem.store {ts : List (Int × List Int)} {L : Nat → Bool} {nv : Nat → Value} {A g cap a : Nat} {w0 wr : World} {u : Value} (h : QMem ts L nv A g cap a w0 wr) (ha : a < cnt L ts.length) (hgA : A < g) (hu : NbAt g wr u (newNeeds ts L (orig L ts.length a))) : QMem ts L nv A g cap (a + 1) w0 (wr.setCell ⟨g, a * 2 + 1, none⟩ u) := by
  obtain ⟨NN, h1, h2, h3⟩ := h.row
  refine ⟨h.place.setOther (a := ⟨g, a * 2 + 1, none⟩) (by show A ≠ g; omega) _, ⟨fun b => if b = a then u else NN b, ?_, fun b hb hab => ?_, fun b hb => ?_⟩, h.below.setCell (by show A ≤ g; omega) _⟩
  · have := (World.ownsRow.stored h1 (a * 2 + 1) u).1
    rw [flatQ_set _ _ _ _ _ ha] at this
    exact this
  · show (if b = a then u else NN b) = _
    rw [if_neg (by omega)]
    exact h2 b hb (by omega)
  · show NbAt g _ (if b = a then u else NN b) _
    by_cases e : b = a
    · rw [if_pos e, e]; exact hu.set _ _
    · rw [if_neg e]; exact (h3 b (by omega)).set _ _
theorem QMem.cells {ts : List (Int × List Int)} {L : Nat → Bool} {nv : Nat → Value} {A g cap a : Nat} {w0 wr : World} (h : QMem ts L nv A g cap a w0 wr) (ha : a < cnt L ts.length) : wr.cell? ⟨g, a * 2 + 1, none⟩ = some (nv (orig L ts.length a)) ∧ wr.frozen? ⟨g, a * 2 + 1, none⟩ = false ∧ g < wr.heap.size := by
  obtain ⟨NN, h1, h2, h3⟩ := h.row
  refine ⟨?_, World.ownsRow.frozenAt h1 _, ?_⟩
  · rw [World.ownsRow.cellAt h1 (a * 2 + 1) (by omega), (flatQ_at _ _ _ a ha).2, h2 a ha (Nat.le_refl _)]
  · exact (World.ownsRow.lt h1 g rfl).2
/-- Laid whole it is the plan of those that live. -/
theorem QMem.plan {ts : List (Int × List Int)} {L : Nat → Bool} {nv : Nat → Value} {A g cap : Nat} {w0 wr : World} (h : QMem ts L nv A g cap (cnt L ts.length) w0 wr) (h30 : ts.length ≤ 30) : PlanAt wr (.slice (some ⟨g, 0, none⟩) (cnt L ts.length) cap) (subTs ts L) := by
  obtain ⟨NN, h1, h2, h3⟩ := h.row
  have hc := cnt_le L ts.length
  refine ⟨by rw [subTs_length]; omega, _, cap, by rw [subTs_length], ?_⟩
  right
  refine ⟨g, 0, rfl, (World.ownsRow.lt h1 g rfl).2, fun k hk => ?_⟩
  rw [subTs_length] at hk
  obtain ⟨f1, f2⟩ := flatQ_at (fun b => (ts.getD (orig L ts.length b) (0, [])).1) NN (cnt L ts.length) k hk
  have hs := subTs_at (ts := ts) (orig_some hk)
  rw [Nat.zero_add]
  refine ⟨?_, NN k, ?_, ?_⟩
  · rw [World.ownsRow.cellAt h1 (k * 2) (by omega), f1, hs]
  · rw [World.ownsRow.cellAt h1 (k * 2 + 1) (by omega), f2]
  · unfold needsOf
    rw [hs]
    exact (h3 k hk).ints

theorem check_ok {v : Value} {ts : List (Int × List Int)} {w : World} (hp : PlanAt w v ts) (hc : CheckIs ts 0 0) :
    Calls Try.prog 9 #[v] w fun e w' => e = .returned (.tuple #[.int .i64 0, .nilIface]) ∧ Below w.heap.size w w' := by
  refine (check_any v ts w hp).mono ?_
  rintro e w' ⟨⟨p, q, rfl, hc'⟩, hb⟩
  obtain ⟨rfl, rfl⟩ := chk_det hc' hc
  exact ⟨rfl, hb⟩
theorem work_ok {v : Value} {ts : List (Int × List Int)} {w : World} (hp : PlanAt w v ts) (hc : CheckIs ts 0 0) :
    Calls Try.prog 10 #[v] w fun e w' => e = .returned (.tuple #[.int .i64 (workTo ts ts.length), .nilIface]) ∧ Below w.heap.size w w' := by
  refine (work_any v ts w hp).mono ?_
  rintro e w' ⟨h, hb⟩
  rcases h with ⟨p, q, hq, hc', -⟩ | ⟨-, rfl⟩
  · exact absurd (chk_det hc' hc).2 hq
  · exact ⟨rfl, hb⟩
theorem span_ok {v : Value} {ts : List (Int × List Int)} {w : World} (hp : PlanAt w v ts) (hc : CheckIs ts 0 0) :
    Calls Try.prog 11 #[v] w fun e w' => (∃ ord, OrdIs ts ord ∧ e = .returned (.tuple #[.int .i64 (maxTo (tailsOf ts ord) ts.length), .nilIface])) ∧ Below w.heap.size w w' := by
  refine (span_any v ts w hp).mono ?_
  rintro e w' ⟨h, hb⟩
  rcases h with ⟨p, q, hq, hc', -⟩ | ⟨-, h⟩
  · exact absurd (chk_det hc' hc).2 hq
  · exact ⟨h, hb⟩
end Go.Proofs.Ytkbcjhmcbfppkaa
