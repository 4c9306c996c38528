/- Plain: a search for a task along what tasks need, each gone into once. No word of the program. -/
import Derived.Test.YtefkglgccllbeaaDoorG
namespace Go.Proofs.YtefkglgccllbeaaDoor

/-- What a search for i, from k on, leaves when it has not found: S was seen ahead, S' is seen now. -/
structure Hung (ts : List (Int × List Int)) (i k : Nat) (S S' : Nat → Bool) : Prop where
  mono : ∀ x, S x = true → S' x = true
  new : ∀ x, S' x = true → S x = false → ∀ y, Need ts x y → y ≠ i ∧ S' y = true
  own : ∀ y, Need ts k y → y ≠ i ∧ S' y = true

/-- While the needs of k are gone over: j of them are done. -/
structure HungIn (ts : List (Int × List Int)) (i k j : Nat) (S S' : Nat → Bool) : Prop where
  mono : ∀ x, S x = true → S' x = true
  new : ∀ x, S' x = true → S x = false → ∀ y, Need ts x y → y ≠ i ∧ S' y = true
  own : ∀ t, t < j → ((needsOf ts k).getD t 0).toNat ≠ i ∧ S' ((needsOf ts k).getD t 0).toNat = true

theorem HungIn.start (ts : List (Int × List Int)) (i k : Nat) (S : Nat → Bool) : HungIn ts i k 0 S S :=
  ⟨fun _ h => h, fun x h h' => (by rw [h] at h'; cases h'), fun t ht => (by omega)⟩
theorem HungIn.skip {ts : List (Int × List Int)} {i k j y : Nat} {S S' : Nat → Bool} (h : HungIn ts i k j S S') (hy : ((needsOf ts k).getD j 0).toNat = y) (hi : y ≠ i) (hs : S' y = true) : HungIn ts i k (j + 1) S S' :=
  ⟨h.mono, h.new, fun t ht => by
    by_cases e : t = j
    · subst e; rw [hy]; exact ⟨hi, hs⟩
    · exact h.own t (by omega)⟩
theorem HungIn.deep {ts : List (Int × List Int)} {i k j y : Nat} {S S' S2 : Nat → Bool} (h : HungIn ts i k j S S') (hy : ((needsOf ts k).getD j 0).toNat = y) (hi : y ≠ i) (hh : Hung ts i y (mark S' y) S2) : HungIn ts i k (j + 1) S S2 := by
  have up : ∀ x, S' x = true → S2 x = true := fun x hx => hh.mono x (by unfold mark; split <;> simp [hx])
  have hself : S2 y = true := hh.mono y (by simp [mark])
  refine ⟨fun x hx => up x (h.mono x hx), fun x hx hx' z hz => ?_, fun t ht => ?_⟩
  · by_cases e : x = y
    · subst e; exact hh.own z hz
    · cases hs : S' x with
      | true =>
        have := h.new x hs hx' z hz
        exact ⟨this.1, up z this.2⟩
      | false => exact hh.new x hx (by unfold mark; rw [if_neg e]; exact hs) z hz
  · by_cases e : t = j
    · subst e; rw [hy]; exact ⟨hi, hself⟩
    · have := h.own t (by omega)
      exact ⟨this.1, up _ this.2⟩
theorem HungIn.finish {ts : List (Int × List Int)} {i k : Nat} {S S' : Nat → Bool} (h : HungIn ts i k (needsOf ts k).length S S') : Hung ts i k S S' :=
  ⟨h.mono, h.new, fun y hy => by
    obtain ⟨j, hj, he⟩ := List.getElem_of_mem hy
    have hd := h.own j hj
    rw [List.getD_eq_getElem?_getD, List.getElem?_eq_getElem hj] at hd
    simp only [Option.getD_some, he, Int.toNat_natCast] at hd
    exact hd⟩
theorem Hung.not_reach {ts : List (Int × List Int)} {i k : Nat} {S' : Nat → Bool} (h : Hung ts i k (fun _ => false) S') : ¬ Reach ts k i := by
  have key : ∀ {y}, Reach ts k y → y ≠ i ∧ S' y = true := by
    intro y hr
    induction hr using Reach.ind with
    | one hn => exact h.own _ hn
    | more _ hn ih => exact h.new _ ih.2 rfl _ hn
  exact fun hr => (key hr).1 rfl
end Go.Proofs.YtefkglgccllbeaaDoor
