/- Plain: what a shuffle comes to; it is each number once. -/
import Derived.Test.YtjomcnalmhgljaaDoorB
namespace Go.Proofs.YtjomcnalmhgljaaDoor
open Go.RowKit Go.Deep

/-- Two change places. -/
def swp (L : List Int) (i k : Nat) : List Int := (L.set i (L.getD k 0)).set k (L.getD i 0)
theorem swp_length (L : List Int) (i k : Nat) : (swp L i k).length = L.length := by simp [swp]
/-- From place i down to 1. -/
def shuf (ls : List Int) : Nat → List Int → Nat → List Int × Nat
  | 0, L, u => (L, u)
  | i + 1, L, u => shuf ls i (swp L (i + 1) (pk ls u (i + 2))) (nx ls u)
/-- The numbers from 0 to below n. -/
def upTo (n : Nat) : List Int := (List.range n).map Int.ofNat
theorem upTo_length (n : Nat) : (upTo n).length = n := by simp [upTo]
theorem upTo_getD {n k : Nat} (h : k < n) : (upTo n).getD k 0 = k := by simp [upTo, List.getD_eq_getElem?_getD, h]
theorem shuf_length (ls : List Int) : ∀ i L u, (shuf ls i L u).1.length = L.length
  | 0, _, _ => rfl
  | i + 1, L, u => by rw [shuf, shuf_length ls i, swp_length]
theorem shuf_le (ls : List Int) : ∀ i L u, u ≤ ls.length → (shuf ls i L u).2 ≤ ls.length
  | 0, _, _, h => h
  | i + 1, L, u, h => by rw [shuf]; exact shuf_le ls i _ _ (nx_le ls u h)

theorem swp_perm (L : List Int) (i k : Nat) (hi : i < L.length) (hk : k < L.length) : (swp L i k).Perm L := by
  unfold swp
  rw [List.getD_eq_getElem?_getD, List.getElem?_eq_getElem hk, List.getD_eq_getElem?_getD, List.getElem?_eq_getElem hi]
  exact List.set_set_perm hi hk
theorem shuf_perm (ls : List Int) : ∀ i L u, i < L.length ∨ i = 0 → (shuf ls i L u).1.Perm L
  | 0, _, _, _ => List.Perm.refl _
  | i + 1, L, u, h => by
    have h' : i + 1 < L.length := by omega
    rw [shuf]
    have hp := pk_lt ls u (i + 2) (by omega)
    exact (shuf_perm ls i _ _ (by rw [swp_length]; omega)).trans (swp_perm L _ _ h' (by omega))
theorem upTo_nodup (n : Nat) : (upTo n).Nodup := by
  unfold upTo
  exact List.pairwise_map.2 (List.nodup_range.imp (fun h e => h (Int.ofNat.inj e)))
theorem upTo_mem {n : Nat} {x : Int} (h : x ∈ upTo n) : 0 ≤ x ∧ x < n := by
  obtain ⟨k, hk, rfl⟩ := List.mem_map.1 h
  have := List.mem_range.1 hk
  simp
  omega
/-- What a shuffle of n comes to. -/
def shufOf (ls : List Int) (n u : Nat) : List Int × Nat := shuf ls (n - 1) (upTo n) u
theorem shufOf_length (ls : List Int) (n u : Nat) : (shufOf ls n u).1.length = n := by rw [shufOf, shuf_length, upTo_length]
theorem shufOf_perm (ls : List Int) (n u : Nat) : (shufOf ls n u).1.Perm (upTo n) := shuf_perm ls _ _ _ (by rw [upTo_length]; omega)
theorem shufOf_le (ls : List Int) (n u : Nat) (h : u ≤ ls.length) : (shufOf ls n u).2 ≤ ls.length := shuf_le ls _ _ _ h
theorem getD_mem {L : List Int} {k : Nat} (h : k < L.length) : L.getD k 0 ∈ L := by
  rw [List.getD_eq_getElem?_getD, List.getElem?_eq_getElem h]
  exact List.getElem_mem h
theorem shufOf_range (ls : List Int) (n u k : Nat) (h : k < n) : 0 ≤ (shufOf ls n u).1.getD k 0 ∧ (shufOf ls n u).1.getD k 0 < n :=
  upTo_mem ((shufOf_perm ls n u).mem_iff.1 (getD_mem (by rw [shufOf_length]; exact h)))
theorem shufOf_inj (ls : List Int) (n u j k : Nat) (hj : j < k) (hk : k < n) : (shufOf ls n u).1.getD j 0 ≠ (shufOf ls n u).1.getD k 0 := by
  have hn := (shufOf_perm ls n u).nodup_iff.2 (upTo_nodup n)
  have hl := shufOf_length ls n u
  intro e
  rw [List.getD_eq_getElem?_getD, List.getElem?_eq_getElem (by omega), List.getD_eq_getElem?_getD, List.getElem?_eq_getElem (by omega)] at e
  exact List.pairwise_iff_getElem.1 hn j k (by omega) (by omega) hj e
end Go.Proofs.YtjomcnalmhgljaaDoor
