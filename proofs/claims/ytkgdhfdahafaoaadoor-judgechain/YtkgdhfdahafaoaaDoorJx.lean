/- Stays, and bits, in rows of their own. -/
import Derived.Test.YtkgdhfdahafaoaaDoorJh
import Derived.Deep.OwnRows
namespace Go.Proofs.YtkgdhfdahafaoaaDoor
open Go.RowKit Go.Deep

def styVZ (s : StyZ) : List Value := [.int .i64 s.1, .int .i64 s.2.1, .int .i64 s.2.2.1, .int .i64 s.2.2.2]
def flatS (l : List StyZ) : List Value := l.flatMap styVZ
theorem flatS_append (a b : List StyZ) : flatS (a ++ b) = flatS a ++ flatS b := by simp [flatS]
theorem flatS_one (s : StyZ) : flatS [s] = styVZ s := by simp [flatS]
theorem flatS_length (l : List StyZ) : (flatS l).length = l.length * 4 := by
  induction l with
  | nil => rfl
  | cons b r ih =>
    have : flatS (b :: r) = flatS [b] ++ flatS r := flatS_append [b] r
    rw [this, List.length_append, ih, flatS_one]
    simp [styVZ]; omega
theorem flatS_at {l : List StyZ} {k : Nat} (hk : k < l.length) : ∀ j, j < 4 → (flatS l)[k * 4 + j]? = (styVZ (l.getD k (0, 0, 0, 0)))[j]? := by
  induction l generalizing k with
  | nil => simp at hk
  | cons b r ih =>
    intro j hj
    have e : flatS (b :: r) = styVZ b ++ flatS r := by rw [← flatS_one]; exact flatS_append [b] r
    have hl : (styVZ b).length = 4 := rfl
    rw [e]
    cases k with
    | zero =>
      rw [List.getElem?_append_left (by rw [hl]; omega)]
      simp
    | succ k =>
      rw [List.getElem?_append_right (by rw [hl]; omega), hl]
      rw [show (k + 1) * 4 + j - 4 = k * 4 + j by omega]
      simpa using ih (k := k) (by simp at hk; omega) j hj
/-- Stays in a row of their own, from block b on. -/
def RowSZ (b : Nat) (w : World) (v : Value) (l : List StyZ) : Prop := w.ownsRow b 45 4 v l.length (flatS l)
theorem RowSZ.shape {b : Nat} {w : World} {v : Value} {l : List StyZ} (h : RowSZ b w v l) : ∃ a c, v = .slice a l.length c := by
  rcases h.2 with ⟨rfl, hn⟩ | ⟨g, cap, cur, rfl, _, _, hc, _⟩
  · exact ⟨none, 0, by rw [hn]⟩
  · exact ⟨_, _, rfl⟩
theorem RowSZ.low {b : Nat} {w : World} {v : Value} {l : List StyZ} (h : RowSZ b w v l) {k : Nat} (hk : v.ownBlock = some k) : b ≤ k ∧ k < w.heap.size := World.ownsRow.lt h k hk
theorem RowSZ.later {b : Nat} {w w' : World} {v : Value} {l : List StyZ} (h : RowSZ b w v l) (hb : Below w.heap.size w w') : RowSZ b w' v l := by
  have hlow := fun k => h.low (k := k)
  rcases h.2 with ⟨rfl, hn⟩ | ⟨g, cap, cur, rfl, hg, hh, hr⟩
  · exact ⟨h.1, Or.inl ⟨rfl, hn⟩⟩
  · exact ⟨h.1, Or.inr ⟨g, cap, cur, rfl, hg, (hb.block g (hlow g rfl).2).trans hh, hr⟩⟩
theorem RowSZ.full {b : Nat} {w : World} {v : Value} {l : List StyZ} (h : RowSZ b w v l) (hz : 0 < l.length) : ∃ g c, v = .slice (some ⟨g, 0, none⟩) l.length c ∧ b ≤ g ∧ g < w.heap.size ∧ l.length ≤ c := by
  rcases h.2 with ⟨_, h0⟩ | ⟨g, cap, cur, hv, hb, hh, hc, hm, _⟩
  · omega
  · exact ⟨g, cap, hv, hb, (Array.getElem?_eq_some_iff.1 hh).1, hc⟩
theorem RowSZ.stays {b : Nat} {w : World} {v : Value} {l : List StyZ} (h : RowSZ b w v l) (hl : l.length * 32 ≤ 140737488351232) : StaysAt w v l := by
  by_cases hz : 0 < l.length
  · obtain ⟨g, c, rfl, _, hlt, _⟩ := h.full hz
    refine ⟨hl, _, _, rfl, Or.inr ⟨g, 0, rfl, hlt, fun k hk => ?_⟩⟩
    have hc : ∀ j, j < 4 → w.cell? ⟨g, k * 4 + j, none⟩ = (styVZ (l.getD k (0, 0, 0, 0)))[j]? := fun j hj => (World.ownsRow.cellAt h (k * 4 + j) (by omega)).trans (flatS_at hk j hj)
    rw [Nat.zero_add]
    exact ⟨hc 0 (by omega), hc 1 (by omega), hc 2 (by omega), hc 3 (by omega)⟩
  · obtain ⟨a, c, rfl⟩ := h.shape
    exact ⟨hl, a, c, rfl, Or.inl (List.eq_nil_of_length_eq_zero (by omega))⟩
theorem cell_four (w : World) (q : Nat) (hq : q = w.heap.size) (a b c d : Value) (t : TypeId) : ∀ j u, [a, b, c, d][j]? = some u → (w.alloc (.cells #[a, b, c, d] t)).cell? ((⟨q, 0, none⟩ : Addr).add j) = some u := by
  intro j u hu
  subst hq
  rw [Addr.add_lit, Nat.zero_add]
  unfold World.cell?
  dsimp only
  rw [blk_alloc_new]
  show (#[a, b, c, d])[j]? = some u
  simpa using hu
theorem Tryd.info45 : (Tryd.prog.info? 45).map (fun i => (i.zero, i.size, i.bytes)) = some (some (.agg #[.int .i64 0, .int .i64 0, .int .i64 0, .int .i64 0]), 4, 32) := by kernel_rfl
end Go.Proofs.YtkgdhfdahafaoaaDoor
