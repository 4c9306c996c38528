/- The contracts of yardref1.In, slices.Index and slices.Contains at []int, and depth.greatest. -/
import Derived.Test.YtilpjhhjlokfcaaDoorK
import Derived.Test.YtilpjhhjlokfcaaDoorDa
namespace Go.Proofs.YtilpjhhjlokfcaaDoor
open Go.RowKit Go.Deep

theorem take_succ_none (x : Int) (zs : List Int) (k : Nat) (hlt : k < zs.length) (hno : x ∉ zs.take k) (h : zs.getD k 0 ≠ x) : x ∉ zs.take (k + 1) := by
  intro hx
  rw [List.take_succ_eq_append_getElem hlt] at hx
  have he : zs.getD k 0 = zs[k] := by rw [List.getD_eq_getElem?_getD, List.getElem?_eq_getElem hlt]; rfl
  rcases List.mem_append.1 hx with hx | hx
  · exact hno hx
  · exact h (by rw [he]; exact (List.mem_singleton.1 hx).symm)
theorem mem_at {x : Int} {zs : List Int} {k : Nat} (hlt : k < zs.length) (h : zs.getD k 0 = x) : x ∈ zs := by
  rw [List.getD_eq_getElem?_getD, List.getElem?_eq_getElem hlt] at h
  rw [← h]; exact List.getElem_mem hlt

def memB (zs : List Int) (x : Int) : Bool := decide (x ∈ zs)

/-- Where x stands first; -1, if nowhere. -/
def firstOf (zs : List Int) (x : Int) (r : Int) : Prop := LeastIs zs.length (fun k => decide (zs.getD k 0 = x)) r
theorem firstOf_mem {zs : List Int} {x r : Int} (h : firstOf zs x r) : decide (0 ≤ r) = memB zs x := by
  rcases h with ⟨k, h1, _, h3, rfl⟩ | ⟨h, rfl⟩
  · have : x ∈ zs := mem_at h1 (by simpa using h3)
    simp [memB, this]
  · have : x ∉ zs := fun hx => by
      obtain ⟨j, hj, he⟩ := List.getElem_of_mem hx
      have := h j hj
      simp [hj, he] at this
    simp [memB, this]

theorem max_if (m t : Int) : (if m < t then t else m) = max m t := by
  split <;> omega

/-- The list of the first n values of a function. -/
def listOf (T : Nat → Int) (n : Nat) : List Int := (List.range n).map T
theorem listOf_length (T : Nat → Int) (n : Nat) : (listOf T n).length = n := by simp [listOf]
theorem listOf_getD (T : Nat → Int) {n k : Nat} (h : k < n) : (listOf T n).getD k 0 = T k := by simp [listOf, h]

end Go.Proofs.YtilpjhhjlokfcaaDoor
