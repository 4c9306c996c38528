/- From a plan that Check passes, and its order, to what ranks and tails ask. -/
import Derived.Test.YtilpjhhjlokfcaaDoorK
import Derived.Test.YtilpjhhjlokfcaaDoorDa
namespace Go.Proofs.YtilpjhhjlokfcaaDoor
open Go.RowKit

theorem CheckIs.det {ts : List (Int × List Int)} {p q p' q' : Int} (h : CheckIs ts p q) (h' : CheckIs ts p' q') : p = p' ∧ q = q' := by
  cases h using CheckIs.elim with
  | full hf =>
    cases h' using CheckIs.elim with
    | full => exact ⟨rfl, rfl⟩
    | task k hk => omega
    | ring k hk => omega
    | none hk => omega
  | task k h30 hk hz hne =>
    cases h' using CheckIs.elim with
    | full => omega
    | task k2 _ hk2 hz2 hne2 =>
      have : k = k2 := by
        rcases Nat.lt_trichotomy k k2 with h | h | h
        · exact absurd (hz2 k h) hne
        · exact h
        · exact absurd (hz k2 h) hne2
      subst this; exact ⟨rfl, rfl⟩
    | ring k2 _ hall => exact absurd (hall k hk) hne
    | none _ hall => exact absurd (hall k hk) hne
  | ring k h30 hall hk hf hr =>
    cases h' using CheckIs.elim with
    | full => omega
    | task k2 _ hk2 _ hne2 => exact absurd (hall k2 hk2) hne2
    | ring k2 _ _ hk2 hf2 hr2 =>
      have : k = k2 := by
        rcases Nat.lt_trichotomy k k2 with h | h | h
        · exact absurd hr (hf2 k h)
        · exact h
        · exact absurd hr2 (hf k2 h)
      subst this; exact ⟨rfl, rfl⟩
    | none _ _ hno => exact absurd hr (hno k hk)
  | none h30 hall hno =>
    cases h' using CheckIs.elim with
    | full => omega
    | task k2 _ hk2 _ hne2 => exact absurd (hall k2 hk2) hne2
    | ring k2 _ _ hk2 _ hr2 => exact absurd hr2 (hno k2 hk2)
    | none => exact ⟨rfl, rfl⟩

theorem NextIs.free {ts : List (Int × List Int)} {T : Nat → Bool} {k : Nat} (h : NextIs ts T (k : Nat)) : k < ts.length ∧ T k = false ∧ ∀ y, y ∈ needsOf ts k → T y.toNat = true := by
  generalize hr : ((k : Nat) : Int) = r at h
  cases h using NextIs.elim with
  | some j hj _ hf =>
    have : k = j := by omega
    subst this
    unfold freeB at hf
    simp only [Bool.and_eq_true, Bool.not_eq_true'] at hf
    refine ⟨hj, hf.1, fun y hy => ?_⟩
    have := List.any_eq_false.1 hf.2 y hy
    simpa using this
  | none => omega

theorem wkOf_right {ts : List (Int × List Int)} {x : Nat} (h : errOf ts x = 0) : 1 ≤ wkOf ts x ∧ wkOf ts x ≤ 20 := by
  unfold errOf taskErr at h
  unfold wkOf
  split at h
  · simp at h
  · omega

theorem has_mem (l : List Nat) (x : Nat) : has l x = true ↔ x ∈ l := by simp [has]

theorem Ready.of {ts : List (Int × List Int)} {ord : List Nat} (hc : CheckIs ts 0 0) (ho : OrdIs ts ord) : Ready ts ord := by
  obtain ⟨_, h30, herr, hno⟩ := hc.ok rfl
  have hr := inRange_of herr
  refine ⟨ho.length hr hno, h30, fun x hx => wkOf_right (herr x hx), hr, fun m hm => ?_, fun m hm h => ?_, fun m hm y hy => ?_, fun x hx => (has_mem _ _).1 (ho.all hr hno x hx)⟩
  · exact (ho.1 m hm).free.1
  · have h1 := (ho.1 m hm).free.2.1
    have h2 := (has_mem _ _).2 h
    rw [h1] at h2; cases h2
  · have := (ho.1 m hm).free.2.2 _ hy
    rw [Int.toNat_natCast] at this
    exact (has_mem _ _).1 this

end Go.Proofs.YtilpjhhjlokfcaaDoor
