/- Plain: what a chain, and tasks beside each other, measure. No word of the program. -/
import Derived.Test.YtkgdhfdahafaoaaDoorK
import Derived.Test.YtkgdhfdahafaoaaDoorJw
namespace Go.Proofs.YtkgdhfdahafaoaaDoor

theorem needsOf_past {ts : List (Int × List Int)} {x : Nat} (h : ts.length ≤ x) : needsOf ts x = [] := by
  unfold needsOf
  rw [List.getD_eq_getElem?_getD, List.getElem?_eq_none h]
  rfl
theorem chain_needs (work : Int) (n x : Nat) (hx : x < n) : needsOf (chainTs work n) x = if x = 0 then [] else [(x : Int) - 1] := by
  unfold needsOf
  rw [chainTs_getD _ _ _ hx]
theorem chain_wk (work : Int) (n x : Nat) (hx : x < n) : wkOf (chainTs work n) x = work := by
  unfold wkOf
  rw [chainTs_getD _ _ _ hx]
theorem chainW_need {work : Int} {n x y : Nat} (h : Need (chainTs work n) x y) : x = y + 1 ∧ x < n := by
  unfold Need at h
  by_cases hx : x < n
  · rw [chain_needs _ _ _ hx] at h
    by_cases e : x = 0
    · simp [e] at h
    · simp [e] at h; omega
  · rw [needsOf_past (by rw [chainTs_length]; omega)] at h
    simp at h
theorem chainW_reach {work : Int} {n x y : Nat} (h : Reach (chainTs work n) x y) : y < x := by
  induction h using Reach.ind with
  | one hn => have := chainW_need hn; omega
  | more _ hn ih => have := chainW_need hn; omega
theorem chainW_err {work : Int} (h1 : 1 ≤ work) (h2 : work ≤ 20) (n j : Nat) (hj : j < n) : errOf (chainTs work n) j = 0 := by
  unfold errOf
  rw [chain_needs _ _ _ hj, chainTs_getD _ _ _ hj, chainTs_length]
  have hw : ¬ (work < 1 ∨ 20 < work) := by omega
  by_cases e : j = 0
  · simp [e, taskErr, rising, hw]
  · have : inRange ((j : Int) - 1) n = true := by simp [inRange]; omega
    simp [e, taskErr, rising, this, hw]
theorem chainW_check {work : Int} (h1 : 1 ≤ work) (h2 : work ≤ 20) {n : Nat} (hn : n ≤ 30) : CheckIs (chainTs work n) 0 0 :=
  CheckIs.none (by rw [chainTs_length]; exact hn) (fun j hj => chainW_err h1 h2 n j (by rwa [chainTs_length] at hj)) (fun j _ h => by have := chainW_reach h; omega)
end Go.Proofs.YtkgdhfdahafaoaaDoor
