/- From readings to memory: bits among the arguments, of whatever length a slice may have. -/
import Derived.Test.YtilpjhhjlokfcaaDoorZ
import Derived.Test.YtilpjhhjlokfcaaDoorBnt
import Derived.Deep.Strs
import Derived.Lib.SmallJoins
namespace Go.Proofs.YtilpjhhjlokfcaaDoor
open Go.ChangeShapes Go.WideShapes Go.ChangeAt Go.RowKit Go.Deep Go.Joins

theorem Tryd.cells28 : Tryd.prog.cellsOf 28 = 3 := by kernel_rfl
theorem Tryd.bytes28 : Tryd.prog.bytesOf 28 = 24 := by kernel_rfl

set_option maxRecDepth 100000 in
/-- Bits among the arguments lie in memory. -/
theorem bits_of_trod {H : Type} {enc : TypeId × Value → H} {W : World} {spare : Nat → Bool} {held : Bool} {fuel : Nat} {v : Value} {x : DataW H × List MemPlace}
    (h : DataW.trod enc Tryd.prog W 0 spare held fuel 22 [v] = some x) (hb : ∀ n, n ∈ x.1.weights Tryd.prog 22 → n ≤ reachBytes) : ∃ l, BitsAt W v l := by
  rcases open_slice Tryd.underlying22 h with ⟨hcs, _⟩ | ⟨a, len, cap, m, n, D, Pl, hcs, _, hl, hm, hmm, hx, hel⟩
  · obtain rfl : v = .slice none 0 0 := by simpa using hcs
    exact ⟨[], by simp, none, 0, rfl, Or.inl rfl⟩
  · obtain rfl : v = .slice (some a) len cap := by simpa using hcs
    have hml : len ≤ m := by rw [hmm]; split <;> omega
    subst hx
    simp only [DataW.weights, Tryd.underlying22, Tryd.bytes28] at hb
    have hlen : len * 24 ≤ 140737488351232 := by
      have := hb _ (List.mem_cons_self ..)
      simp only [List.length_map, List.length_range] at this
      have hrb : reachBytes = 140737488351232 := by decide
      omega
    rw [Tryd.cells28] at hel
    have hone : ∀ i, i < len → ∃ t : Int × Int × Int, W.cell? ((a.add (i * 3)).add 0) = some (.int .i64 t.1) ∧ W.cell? ((a.add (i * 3)).add 1) = some (.int .i64 t.2.1) ∧ W.cell? ((a.add (i * 3)).add 2) = some (.int .i64 t.2.2) := fun i hi => by
      obtain ⟨cs, hc, ht⟩ := hel i (by omega)
      obtain ⟨_, hcl, hcc⟩ := World.cells?_some hc
      obtain ⟨y0, y1, y2, k, hdi, _, h0, h1, h2⟩ := trod_struct3 Tryd.underlying28 ht
      match cs, hcl with
      | [c0, c1, c2], _ =>
        have h0' : DataW.trod enc Tryd.prog W 0 spare held k 3 [c0] = some y0 := by simpa [Tryd.cells3] using h0
        obtain ⟨k0, hk0, _, _⟩ := DataW.trod_int Tryd.underlying3 h0'
        obtain rfl : c0 = .int .i64 k0 := by simpa using hk0
        have h1' : DataW.trod enc Tryd.prog W 0 spare held k 3 [c1] = some y1 := by simpa [Tryd.cells3] using h1
        obtain ⟨k1, hk1, _, _⟩ := DataW.trod_int Tryd.underlying3 h1'
        obtain rfl : c1 = .int .i64 k1 := by simpa using hk1
        have h2' : DataW.trod enc Tryd.prog W 0 spare held k 3 [c2] = some y2 := by simpa [Tryd.cells3] using h2
        obtain ⟨k2, hk2, _, _⟩ := DataW.trod_int Tryd.underlying3 h2'
        obtain rfl : c2 = .int .i64 k2 := by simpa using hk2
        exact ⟨(k0, k1, k2), by rw [hcc 0 (by omega)]; rfl, by rw [hcc 1 (by omega)]; rfl, by rw [hcc 2 (by omega)]; rfl⟩
    obtain ⟨f, hf⟩ := choose_lt hone
    have hfl : ((List.range len).map f).length = len := by simp
    refine ⟨(List.range len).map f, by omega, some a, cap, by rw [hfl], ?_⟩
    by_cases h0 : len = 0
    · left; subst h0; rfl
    · right
      obtain ⟨b, off, spot⟩ := a
      have hspot : spot = none := by
        have := (hf 0 (by omega)).1
        simpa [Addr.add] using World.cell?_spot this
      subst hspot
      refine ⟨b, off, rfl, ?_, fun k hk => ?_⟩
      · have := (hf 0 (by omega)).1
        rcases Nat.lt_or_ge b W.heap.size with h | h
        · exact h
        · simp [World.cell?, Addr.add, Array.getElem?_eq_none h] at this
      · rw [hfl] at hk
        obtain ⟨g0, g1, g2⟩ := hf k hk
        have hg : ((List.range len).map f).getD k (0, 0, 0) = f k := by simp [hk]
        have e0 : ((⟨b, off, none⟩ : Addr).add (k * 3)).add 0 = ⟨b, off + k * 3, none⟩ := by rw [add_plain, add_plain]; rfl
        rw [e0] at g0
        have e1 : ((⟨b, off, none⟩ : Addr).add (k * 3)).add 1 = ⟨b, off + k * 3 + 1, none⟩ := by rw [add_plain, add_plain]
        rw [e1] at g1
        have e2 : ((⟨b, off, none⟩ : Addr).add (k * 3)).add 2 = ⟨b, off + k * 3 + 2, none⟩ := by rw [add_plain, add_plain]
        rw [e2] at g2
        rw [hg]
        exact ⟨g0, g1, g2⟩
end Go.Proofs.YtilpjhhjlokfcaaDoor
