/- From a reading to memory: a list among the arguments. -/
import Derived.Test.YtjomcnalmhgljaaDoorRows
import Derived.Test.YtjomcnalmhgljaaDoorA
import Derived.ProofKit
import Derived.OpenShut
import Derived.Deep.Slices
import Derived.SizedLaws
namespace Go.Proofs.YtjomcnalmhgljaaDoor
open Go.ChangeShapes Go.WideShapes Go.ChangeAt Go.RowKit Go.Deep

theorem Tryd.cells3 : Tryd.prog.cellsOf 3 = 1 := by kernel_rfl
theorem Tryd.bytes3 : Tryd.prog.bytesOf 3 = 8 := by kernel_rfl

/-- A list among the arguments. -/
theorem ints_of_trod {H : Type} {enc : TypeId × Value → H} {W : World} {spare : Nat → Bool} {held : Bool} {fuel : Nat} {v : Value} {x : DataW H × List MemPlace}
    (h : DataW.trod enc Tryd.prog W 0 spare held fuel 27 [v] = some x) (hb : ∀ n, n ∈ x.1.weights Tryd.prog 27 → n ≤ reachBytes) : (∃ zs, IntsAt W v zs) ∧ ∀ a n c, v = .slice a n c → n ≤ c := by
  rcases open_ints Tryd.underlying27 Tryd.underlying3 Tryd.cells3 h with ⟨hcs, _⟩ | ⟨a, len, cap, zs, hcs, _, hl, hm, hz, hx, hcell, _⟩
  · obtain rfl : v = .slice none 0 0 := by simpa using hcs
    exact ⟨⟨[], by simp, none, 0, rfl, Or.inl rfl⟩, fun a n c h => by cases h; omega⟩
  · obtain rfl : v = .slice (some a) len cap := by simpa using hcs
    have hzl : len ≤ zs.length := by rw [hz]; split <;> omega
    have htl : (zs.take len).length = len := by simp; omega
    have hlen : len * 8 ≤ 140737488351232 := by
      subst hx
      simp only [DataW.weights, Tryd.underlying27, Tryd.bytes3] at hb
      have := hb _ (List.mem_cons_self ..)
      simp only [lits, List.length_map, htl] at this
      have hrb : reachBytes = 140737488351232 := by decide
      omega
    refine ⟨⟨zs.take len, by omega, some a, cap, by rw [htl], ?_⟩, fun a n c h => by cases h; omega⟩
    by_cases h0 : len = 0
    · left; subst h0; rfl
    · right
      obtain ⟨b, off, rfl, hc⟩ := ints_at hcell (by omega)
      refine ⟨b, off, rfl, ?_, fun k hk => ?_⟩
      · have := hc 0 (by omega)
        rcases Nat.lt_or_ge b W.heap.size with h | h
        · exact h
        · simp [World.cell?, Array.getElem?_eq_none h] at this
      · rw [htl] at hk
        rw [hc k (by omega)]
        simp [hk]

end Go.Proofs.YtjomcnalmhgljaaDoor
