/- From readings to memory: bits and stays among the arguments, of whatever length a slice may have. -/
import Derived.Test.YtkgdhfdahafaoaaDoorZ
import Derived.Test.YtkgdhfdahafaoaaDoorJh
import Derived.Deep.Strs
import Derived.Lib.SmallJoins
namespace Go.Proofs.YtkgdhfdahafaoaaDoor
open Go.ChangeShapes Go.WideShapes Go.ChangeAt Go.RowKit Go.Deep Go.Joins

theorem Tryd.cells43 : Tryd.prog.cellsOf 43 = 3 := by kernel_rfl
theorem Tryd.cells45 : Tryd.prog.cellsOf 45 = 4 := by kernel_rfl
theorem Tryd.bytes43 : Tryd.prog.bytesOf 43 = 24 := by kernel_rfl
theorem Tryd.bytes45 : Tryd.prog.bytesOf 45 = 32 := by kernel_rfl

set_option maxRecDepth 100000 in
/-- Bits among the arguments lie in memory. -/
theorem bits_of_trod {H : Type} {enc : TypeId × Value → H} {W : World} {spare : Nat → Bool} {held : Bool} {fuel : Nat} {v : Value} {x : DataW H × List MemPlace}
    (h : DataW.trod enc Tryd.prog W 0 spare held fuel 24 [v] = some x) (hb : ∀ n, n ∈ x.1.weights Tryd.prog 24 → n ≤ reachBytes) : ∃ l, BitsAt W v l := by
  rcases open_slice Tryd.underlying24 h with ⟨hcs, _⟩ | ⟨a, len, cap, m, n, D, Pl, hcs, _, hl, hm, hmm, hx, hel⟩
  · obtain rfl : v = .slice none 0 0 := by simpa using hcs
    exact ⟨[], by simp, none, 0, rfl, Or.inl rfl⟩
  · obtain rfl : v = .slice (some a) len cap := by simpa using hcs
    have hml : len ≤ m := by rw [hmm]; split <;> omega
    subst hx
    simp only [DataW.weights, Tryd.underlying24, Tryd.bytes43] at hb
    have hlen : len * 24 ≤ 140737488351232 := by
      have := hb _ (List.mem_cons_self ..)
      simp only [List.length_map, List.length_range] at this
      have hrb : reachBytes = 140737488351232 := by decide
      omega
    rw [Tryd.cells43] at hel
    have hone : ∀ i, i < len → ∃ t : Int × Int × Int, W.cell? ((a.add (i * 3)).add 0) = some (.int .i64 t.1) ∧ W.cell? ((a.add (i * 3)).add 1) = some (.int .i64 t.2.1) ∧ W.cell? ((a.add (i * 3)).add 2) = some (.int .i64 t.2.2) := fun i hi => by
      obtain ⟨cs, hc, ht⟩ := hel i (by omega)
      obtain ⟨_, hcl, hcc⟩ := World.cells?_some hc
      obtain ⟨y0, y1, y2, k, hdi, _, h0, h1, h2⟩ := trod_struct3 Tryd.underlying43 ht
      match cs, hcl with
      | [c0, c1, c2], _ =>
        have h0' : DataW.trod enc Tryd.prog W 0 spare held k 3 [c0] = some y0 := by simpa [Tryd.cells3] using h0
        obtain ⟨k0, hk0, _, _⟩ := DataW.trod_int Tryd.underlying3 h0'
        obtain rfl : c0 = .int .i64 k0 := by simpa using hk0
        have h1' : DataW.trod enc Tryd.prog W 0 spare held k 3 [c1] = some y1 := by simpa [Tryd.cells3] using h1
        obtain ⟨k1, hk1, _, _⟩ := DataW.trod_int Tryd.underlying3 h1'
        obtain rfl : c1 = .int .i64 k1 := by simpa using hk1
        have h2' : DataW.trod enc Tryd.prog W 0 spare held k 3 [c2] = some y2 := by simpa [Tryd.cells3] using h2
        obtain ⟨k2, hk2, _, _⟩ := DataW.trod_int Tryd.underlying3 h2'
        obtain rfl : c2 = .int .i64 k2 := by simpa using hk2
        exact ⟨(k0, k1, k2), by rw [hcc 0 (by omega)]; rfl, by rw [hcc 1 (by omega)]; rfl, by rw [hcc 2 (by omega)]; rfl⟩
    obtain ⟨f, hf⟩ := choose_lt hone
    have hfl : ((List.range len).map f).length = len := by simp
    refine ⟨(List.range len).map f, by omega, some a, cap, by rw [hfl], ?_⟩
    by_cases h0 : len = 0
    · left; subst h0; rfl
    · right
      obtain ⟨b, off, spot⟩ := a
      have hspot : spot = none := by
        have := (hf 0 (by omega)).1
        simpa [Addr.add] using World.cell?_spot this
      subst hspot
      refine ⟨b, off, rfl, ?_, fun k hk => ?_⟩
      · have := (hf 0 (by omega)).1
        rcases Nat.lt_or_ge b W.heap.size with h | h
        · exact h
        · simp [World.cell?, Addr.add, Array.getElem?_eq_none h] at this
      · rw [hfl] at hk
        obtain ⟨g0, g1, g2⟩ := hf k hk
        have hg : ((List.range len).map f).getD k (0, 0, 0) = f k := by simp [hk]
        have e0 : ((⟨b, off, none⟩ : Addr).add (k * 3)).add 0 = ⟨b, off + k * 3, none⟩ := by rw [add_plain, add_plain]; rfl
        rw [e0] at g0
        have e1 : ((⟨b, off, none⟩ : Addr).add (k * 3)).add 1 = ⟨b, off + k * 3 + 1, none⟩ := by rw [add_plain, add_plain]
        rw [e1] at g1
        have e2 : ((⟨b, off, none⟩ : Addr).add (k * 3)).add 2 = ⟨b, off + k * 3 + 2, none⟩ := by rw [add_plain, add_plain]
        rw [e2] at g2
        rw [hg]
        exact ⟨g0, g1, g2⟩
set_option maxRecDepth 100000 in
/-- Stays among the arguments lie in memory. -/
theorem stays_of_trod {H : Type} {enc : TypeId × Value → H} {W : World} {spare : Nat → Bool} {held : Bool} {fuel : Nat} {v : Value} {x : DataW H × List MemPlace}
    (h : DataW.trod enc Tryd.prog W 0 spare held fuel 25 [v] = some x) (hb : ∀ n, n ∈ x.1.weights Tryd.prog 25 → n ≤ reachBytes) : ∃ l, StaysAt W v l := by
  rcases open_slice Tryd.underlying25 h with ⟨hcs, _⟩ | ⟨a, len, cap, m, n, D, Pl, hcs, _, hl, hm, hmm, hx, hel⟩
  · obtain rfl : v = .slice none 0 0 := by simpa using hcs
    exact ⟨[], by simp, none, 0, rfl, Or.inl rfl⟩
  · obtain rfl : v = .slice (some a) len cap := by simpa using hcs
    have hml : len ≤ m := by rw [hmm]; split <;> omega
    subst hx
    simp only [DataW.weights, Tryd.underlying25, Tryd.bytes45] at hb
    have hlen : len * 32 ≤ 140737488351232 := by
      have := hb _ (List.mem_cons_self ..)
      simp only [List.length_map, List.length_range] at this
      have hrb : reachBytes = 140737488351232 := by decide
      omega
    rw [Tryd.cells45] at hel
    have hone : ∀ i, i < len → ∃ t : Int × Int × Int × Int, W.cell? ((a.add (i * 4)).add 0) = some (.int .i64 t.1) ∧ W.cell? ((a.add (i * 4)).add 1) = some (.int .i64 t.2.1) ∧ W.cell? ((a.add (i * 4)).add 2) = some (.int .i64 t.2.2.1) ∧ W.cell? ((a.add (i * 4)).add 3) = some (.int .i64 t.2.2.2) := fun i hi => by
      obtain ⟨cs, hc, ht⟩ := hel i (by omega)
      obtain ⟨_, hcl, hcc⟩ := World.cells?_some hc
      obtain ⟨y0, y1, y2, y3, k, hdi, _, h0, h1, h2, h3⟩ := trod_struct4 Tryd.underlying45 ht
      match cs, hcl with
      | [c0, c1, c2, c3], _ =>
        have h0' : DataW.trod enc Tryd.prog W 0 spare held k 3 [c0] = some y0 := by simpa [Tryd.cells3] using h0
        obtain ⟨k0, hk0, _, _⟩ := DataW.trod_int Tryd.underlying3 h0'
        obtain rfl : c0 = .int .i64 k0 := by simpa using hk0
        have h1' : DataW.trod enc Tryd.prog W 0 spare held k 3 [c1] = some y1 := by simpa [Tryd.cells3] using h1
        obtain ⟨k1, hk1, _, _⟩ := DataW.trod_int Tryd.underlying3 h1'
        obtain rfl : c1 = .int .i64 k1 := by simpa using hk1
        have h2' : DataW.trod enc Tryd.prog W 0 spare held k 3 [c2] = some y2 := by simpa [Tryd.cells3] using h2
        obtain ⟨k2, hk2, _, _⟩ := DataW.trod_int Tryd.underlying3 h2'
        obtain rfl : c2 = .int .i64 k2 := by simpa using hk2
        have h3' : DataW.trod enc Tryd.prog W 0 spare held k 3 [c3] = some y3 := by simpa [Tryd.cells3] using h3
        obtain ⟨k3, hk3, _, _⟩ := DataW.trod_int Tryd.underlying3 h3'
        obtain rfl : c3 = .int .i64 k3 := by simpa using hk3
        exact ⟨(k0, k1, k2, k3), by rw [hcc 0 (by omega)]; rfl, by rw [hcc 1 (by omega)]; rfl, by rw [hcc 2 (by omega)]; rfl, by rw [hcc 3 (by omega)]; rfl⟩
    obtain ⟨f, hf⟩ := choose_lt hone
    have hfl : ((List.range len).map f).length = len := by simp
    refine ⟨(List.range len).map f, by omega, some a, cap, by rw [hfl], ?_⟩
    by_cases h0 : len = 0
    · left; subst h0; rfl
    · right
      obtain ⟨b, off, spot⟩ := a
      have hspot : spot = none := by
        have := (hf 0 (by omega)).1
        simpa [Addr.add] using World.cell?_spot this
      subst hspot
      refine ⟨b, off, rfl, ?_, fun k hk => ?_⟩
      · have := (hf 0 (by omega)).1
        rcases Nat.lt_or_ge b W.heap.size with h | h
        · exact h
        · simp [World.cell?, Addr.add, Array.getElem?_eq_none h] at this
      · rw [hfl] at hk
        obtain ⟨g0, g1, g2, g3⟩ := hf k hk
        have hg : ((List.range len).map f).getD k (0, 0, 0, 0) = f k := by simp [hk]
        have e0 : ((⟨b, off, none⟩ : Addr).add (k * 4)).add 0 = ⟨b, off + k * 4, none⟩ := by rw [add_plain, add_plain]; rfl
        rw [e0] at g0
        have e1 : ((⟨b, off, none⟩ : Addr).add (k * 4)).add 1 = ⟨b, off + k * 4 + 1, none⟩ := by rw [add_plain, add_plain]
        rw [e1] at g1
        have e2 : ((⟨b, off, none⟩ : Addr).add (k * 4)).add 2 = ⟨b, off + k * 4 + 2, none⟩ := by rw [add_plain, add_plain]
        rw [e2] at g2
        have e3 : ((⟨b, off, none⟩ : Addr).add (k * 4)).add 3 = ⟨b, off + k * 4 + 3, none⟩ := by rw [add_plain, add_plain]
        rw [e3] at g3
        rw [hg]
        exact ⟨g0, g1, g2, g3⟩
end Go.Proofs.YtkgdhfdahafaoaaDoor
