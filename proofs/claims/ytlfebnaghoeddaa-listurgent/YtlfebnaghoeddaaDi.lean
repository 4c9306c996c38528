/- The contracts of depth.Span and depth.Longest. -/
import Derived.Test.YtlfebnaghoeddaaDh
namespace Go.Proofs.Ytlfebnaghoeddaa
open Go.RowKit Go.Deep

theorem firstOf_goes {ts : List (Int × List Int)} {T : Nat → Int} {r : Int} (h : firstOf (listOf T ts.length) (maxTo T ts.length) r) : LeastIs ts.length (goesOn ts T none) r := by
  unfold firstOf at h
  rw [listOf_length] at h
  rcases h with ⟨k, h1, h2, h3, rfl⟩ | ⟨h, rfl⟩
  · refine Or.inl ⟨k, h1, fun j hj => ?_, ?_, rfl⟩
    · have := h2 j hj
      dsimp only at this
      rw [listOf_getD T (by omega)] at this
      exact this
    · dsimp only at h3
      rw [listOf_getD T h1] at h3
      exact h3
  · refine Or.inr ⟨fun j hj => ?_, rfl⟩
    have := h j hj
    dsimp only at this
    rw [listOf_getD T hj] at this
    exact this

theorem getLast?_snoc {l : List Nat} {y : Nat} : (l ++ [y]).getLast? = some y := by simp

end Go.Proofs.Ytlfebnaghoeddaa
