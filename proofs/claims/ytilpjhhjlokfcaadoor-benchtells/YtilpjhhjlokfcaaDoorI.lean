/- The contracts of plain.Told and yardsame.Error, at the program's errors; and of yardlaw4's chain. -/
import Derived.Test.YtilpjhhjlokfcaaDoorH
namespace Go.Proofs.YtilpjhhjlokfcaaDoor
open Go.RowKit


/-- The variable errors.errorType is as its initialiser lays it. -/
def Typed (w : World) : Prop := w.cell? ⟨0, 0, none⟩ = some (.iface 82 (.agg #[.pointer (some ⟨1, 30, none⟩)]))
theorem Typed.pos {w : World} (h : Typed w) : 0 < w.heap.size := by
  rcases Nat.lt_or_ge 0 w.heap.size with hp | h0
  · exact hp
  · unfold Typed at h; simp [World.cell?, Array.getElem?_eq_none h0] at h
theorem Typed.later {w w' : World} (h : Typed w) (hb : Below w.heap.size w w') : Typed w' := (hb.cell (p := ⟨0, 0, none⟩) h.pos).trans h

set_option maxHeartbeats 1000000 in
theorem told_any (q : Int) (w : World) (hg : Typed w) : Calls Tryd.prog 18 #[errV q] w fun e w' => e = .returned (.int .i64 q) ∧ Below w.heap.size w w' := by
  by_cases hq : q = 0
  · subst hq
    rw [errV_zero]
    clear hg
    go_enter Tryd.func18, Tryd.ntmps18
    go_wp2
    go_ret
    exact ⟨rfl, Below.refl _ _⟩
  · rw [errV_some hq]
    have hb : Below w.heap.size w (w.alloc (.cells #[.int .i64 0] 46)) := (Below.refl _ _).alloc (Nat.le_refl _) _
    have hA := as_hit q ⟨w.heap.size, 0, none⟩ (.int .i64 0) (w.alloc (.cells #[.int .i64 0] 46)) (hg.later hb) (by simp) (by simp)
    clear hg hq
    go_enter Tryd.func18, Tryd.ntmps18
    go_wp2_with (go_at_call 27; refine hA.mono ?_; rintro e w' ⟨rfl, rfl⟩)
    go_ret
    refine ⟨rfl, ?_⟩
    repeat first | exact Below.refl _ _ | (refine Below.setCell ?_ (by simp) _) | (refine Below.alloc ?_ (by simp <;> omega) _)

theorem error_any (q e : Int) (w : World) (hg : Typed w) : Calls Tryd.prog 6 #[errV q, .int .i64 e] w fun ev w' => ev = .returned (.bool (q == e)) ∧ Below w.heap.size w w' := by
  have hT := told_any q w hg
  generalize errV q = ev at *
  cases hq : (q == e)
  all_goals
    go_enter Tryd.func6, Tryd.ntmps6
    go_wp2_with (go_at_call 18; refine hT.mono ?_; rintro e w' ⟨rfl, hb⟩)
    go_ret
    exact ⟨rfl, hb⟩
end Go.Proofs.YtilpjhhjlokfcaaDoor
