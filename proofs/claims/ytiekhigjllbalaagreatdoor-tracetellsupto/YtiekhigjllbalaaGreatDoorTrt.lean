/- The document's DeedText of any deed that may be, by one contract. -/
import Derived.Test.YtiekhigjllbalaaGreatDoorTrs
namespace Go.Proofs.YtiekhigjllbalaaGreatDoor
open Go.RowKit Go.Deep

theorem dText_any (d : Deed) (h : deedE d = 0) (w : World) : Calls Tryz.prog 9 #[.agg #[.int .i64 d.1, .int .i64 d.2.1, .int .i64 d.2.2.1, .int .i64 d.2.2.2]] w fun e w' => e = .returned (.string ⟨(deedText d).toArray⟩) ∧ Below w.heap.size w w' := by
  obtain ⟨a, b, c, o⟩ := d
  obtain ⟨h1, h2, h3, h4, h5, h6⟩ := deedE_zero h
  simp only at h1 h2 h3 h4 h5 h6 ⊢
  obtain ⟨bn, rfl⟩ := Int.eq_ofNat_of_zero_le h2.1
  obtain ⟨cn, rfl⟩ := Int.eq_ofNat_of_zero_le h3.1
  have hb : bn < 100 := by omega
  have hc : cn < 100 := by omega
  clear h
  rcases six h1 with rfl | rfl | rfl | rfl | rfl | rfl
  · obtain rfl := h5 (by decide)
    exact dText_1 bn cn hb hc w
  · obtain ⟨on, rfl⟩ := Int.eq_ofNat_of_zero_le (h4 rfl).1
    exact dText_2 bn cn on hb hc (by have := (h4 rfl).2; omega) w
  · obtain rfl := h5 (by decide)
    exact dText_3 bn cn hb hc w
  · obtain rfl := h5 (by decide)
    exact dText_4 bn cn hb hc w
  · obtain rfl := h5 (by decide)
    obtain rfl : cn = 0 := by have := h6 (by decide); omega
    exact dText_5 bn hb w
  · obtain rfl := h5 (by decide)
    obtain rfl : cn = 0 := by have := h6 (by decide); omega
    exact dText_6 bn hb w
end Go.Proofs.YtiekhigjllbalaaGreatDoor
