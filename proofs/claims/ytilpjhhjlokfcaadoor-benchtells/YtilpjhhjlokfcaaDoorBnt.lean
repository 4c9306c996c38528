/- Bits that a slice reads as. -/
import Derived.Test.YtilpjhhjlokfcaaDoorPe
namespace Go.Proofs.YtilpjhhjlokfcaaDoor
open Go.RowKit Go.Deep

/-- A bit: its step, its hand, its task. -/
abbrev BitZ := Int × Int × Int
def bitZ (b : Nat × Nat × Nat) : BitZ := ((b.1 : Int), (b.2.1 : Int), (b.2.2 : Int))
/-- Bits that a slice reads as. -/
def BitsAt (w : World) (v : Value) (l : List BitZ) : Prop :=
  l.length * 24 ≤ 140737488351232 ∧ ∃ a c, v = .slice a l.length c ∧ (l = [] ∨ ∃ b o, a = some ⟨b, o, none⟩ ∧ b < w.heap.size ∧ ∀ k, k < l.length → w.cell? ⟨b, o + k * 3, none⟩ = some (.int .i64 (l.getD k (0, 0, 0)).1) ∧ w.cell? ⟨b, o + k * 3 + 1, none⟩ = some (.int .i64 (l.getD k (0, 0, 0)).2.1) ∧ w.cell? ⟨b, o + k * 3 + 2, none⟩ = some (.int .i64 (l.getD k (0, 0, 0)).2.2))
theorem BitsAt.later {w w' : World} {v : Value} {l : List BitZ} (h : BitsAt w v l) (hb : Below w.heap.size w w') : BitsAt w' v l := by
  obtain ⟨hl, a, c, hv, h⟩ := h
  refine ⟨hl, a, c, hv, ?_⟩
  rcases h with h | ⟨b, o, ha, hlt, hc⟩
  · exact Or.inl h
  · exact Or.inr ⟨b, o, ha, Nat.lt_of_lt_of_le hlt hb.size, fun k hk => ⟨(hb.cell (p := ⟨b, o + k * 3, none⟩) hlt).trans (hc k hk).1, (hb.cell (p := ⟨b, o + k * 3 + 1, none⟩) hlt).trans (hc k hk).2.1, (hb.cell (p := ⟨b, o + k * 3 + 2, none⟩) hlt).trans (hc k hk).2.2⟩⟩
/-- Bits in a row of their own are bits that may be read. -/
theorem RowB.bitsAt {b : Nat} {w : World} {v : Value} {bs : List (Nat × Nat × Nat)} (h : RowB b w v bs) (hl : bs.length * 24 ≤ 140737488351232) : BitsAt w v (bs.map bitZ) := by
  have hgd : ∀ k, k < bs.length → (bs.map bitZ).getD k (0, 0, 0) = bitZ (bs.getD k (0, 0, 0)) := fun k hk => by
    simp [List.getD_eq_getElem?_getD, hk]
  by_cases hz : 0 < bs.length
  · obtain ⟨g, c, rfl, _, hlt, hcells⟩ := h.full hz
    refine ⟨by rw [List.length_map]; exact hl, _, _, by rw [List.length_map], Or.inr ⟨g, 0, rfl, hlt, fun k hk => ?_⟩⟩
    rw [List.length_map] at hk
    rw [hgd k hk, Nat.zero_add]
    exact hcells.2 k hk
  · obtain ⟨a, c, rfl⟩ := h.shape
    exact ⟨by rw [List.length_map]; exact hl, a, c, by rw [List.length_map], Or.inl (by rw [List.eq_nil_of_length_eq_zero (show bs.length = 0 by omega)]; rfl)⟩
end Go.Proofs.YtilpjhhjlokfcaaDoor
