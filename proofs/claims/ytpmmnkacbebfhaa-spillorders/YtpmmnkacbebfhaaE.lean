/- Numbers that rise by one; what SpillOrders has between two steps. -/
import Derived.Test.YtpmmnkacbebfhaaD
namespace Go.Proofs.Ytpmmnkacbebfhaa
open Go.RowKit Go.Deep

/-- As many numbers, from a on. -/
def ups (a m : Nat) : List Int := (List.range m).map (fun k => ((a + k : Nat) : Int))
theorem ups_length (a m : Nat) : (ups a m).length = m := by simp [ups]
theorem ups_get (a m k : Nat) : (ups a m)[k]? = if k < m then some ((a + k : Nat) : Int) else none := by
  unfold ups
  rw [List.getElem?_map]
  by_cases h : k < m
  · rw [List.getElem?_range h, if_pos h]; rfl
  · rw [List.getElem?_eq_none (by simpa using h), if_neg h]; rfl
theorem ups_getD {a m k : Nat} (h : k < m) : (ups a m).getD k 0 = ((a + k : Nat) : Int) := by
  rw [List.getD_eq_getElem?_getD, ups_get, if_pos h]; rfl
theorem ups_drop (a m k : Nat) : (ups a m).drop k = ups (a + k) (m - k) := by
  apply List.ext_getElem?
  intro i
  rw [List.getElem?_drop, ups_get, ups_get]
  by_cases h : k + i < m
  · rw [if_pos h, if_pos (by omega), Nat.add_assoc]
  · rw [if_neg h, if_neg (by omega)]
theorem ups_take (a m k : Nat) : (ups a m).take k = ups a (min k m) := by
  apply List.ext_getElem?
  intro i
  rw [List.getElem?_take, ups_get, ups_get]
  by_cases h : i < k
  · rw [if_pos h]
    by_cases h2 : i < m
    · rw [if_pos h2, if_pos (by omega)]
    · rw [if_neg h2, if_neg (by omega)]
  · rw [if_neg h, if_neg (by omega)]
theorem ups_append (a m k : Nat) : ups a m ++ ups (a + m) k = ups a (m + k) := by
  have h := List.take_append_drop m (ups a (m + k))
  rw [ups_take, ups_drop, Nat.min_eq_left (by omega), Nat.add_sub_cancel_left] at h
  exact h
theorem ups_snoc (a k : Nat) : ups a k ++ [((a + k : Nat) : Int)] = ups a (k + 1) := by
  rw [← ups_append]
  rfl

/-- Memory between two steps: a spill with the m numbers from t on. -/
def SM (S room B t m : Nat) (w wr : World) : Prop := B ≤ S ∧ Below B w wr ∧ ∃ v, Sp S room (ups t m) v wr
theorem SM.later {S room B t m : Nat} {w wr w' : World} (h : SM S room B t m w wr) (hb : Below wr.heap.size wr w') : SM S room B t m w w' := by
  obtain ⟨h1, h2, v, h3⟩ := h
  exact ⟨h1, h2.trans (hb.mono (by have := h3.lt; omega)), v, h3.later hb⟩
theorem SM.put {S room B t m k : Nat} {w wr w' : World} {v v' : Value} (h : SM S room B t m w wr) (hs : Sp S room (ups t m) v wr) (hs' : Sp S room (ups t m ++ ups (t + m) k) v' w') (hk : Ks S v.ownBlock wr w') : SM S room B t (m + k) w w' := by
  obtain ⟨h1, h2, _⟩ := h
  refine ⟨h1, h2.trans (hk.below h1 (fun j e => by have := (hs.row.low e).1; omega) (by have := hs.lt; omega)), v', ?_⟩
  rw [← ups_append]
  exact hs'
theorem SM.got {S room B t m k : Nat} {w wr w' : World} {v v' : Value} (h : SM S room B t m w wr) (hs : Sp S room (ups t m) v wr) (hs' : Sp S room ((ups t m).drop k) v' w') (hk : Ks S v.ownBlock wr w') : SM S room B (t + k) (m - k) w w' := by
  obtain ⟨h1, h2, _⟩ := h
  refine ⟨h1, h2.trans (hk.below h1 (fun j e => by have := (hs.row.low e).1; omega) (by have := hs.lt; omega)), v', ?_⟩
  rw [← ups_drop]
  exact hs'
theorem SM.le {S room B t m : Nat} {w wr : World} (h : SM S room B t m w wr) : m ≤ 60 := by
  obtain ⟨_, _, v, h3⟩ := h
  have := h3.le
  rwa [ups_length] at this
end Go.Proofs.Ytpmmnkacbebfhaa
