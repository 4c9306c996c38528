/- The contracts of depth.Span and depth.Longest. -/
import Derived.Test.YtkbcjhmcbfppkaaDh
namespace Go.Proofs.Ytkbcjhmcbfppkaa
open Go.RowKit Go.Deep

set_option maxHeartbeats 2000000 in
theorem span_any (v : Value) (ts : List (Int × List Int)) (w : World) (hp : PlanAt w v ts) :
    Calls Try.prog 11 #[v] w fun e w' => ((∃ p q, q ≠ 0 ∧ CheckIs ts p q ∧ e = .returned (.tuple #[.int .i64 0, errV q])) ∨
      (CheckIs ts 0 0 ∧ ∃ ord, OrdIs ts ord ∧ e = .returned (.tuple #[.int .i64 (maxTo (tailsOf ts ord) ts.length), .nilIface]))) ∧ Below w.heap.size w w' := by
  have ht := tails_any v ts w hp
  obtain ⟨hl, a, c, rfl, hp⟩ := hp
  clear hp
  go_enter Try.func11, Try.ntmps11
  go_wp2_with fail
  refine ht.mono ?_
  rintro e w1 ⟨h, hb1⟩
  clear ht
  rcases h with ⟨p, q, hq, hc, rfl⟩ | ⟨hc, ord, rv, ho, rfl, hi⟩
  · have hev := errV_some hq
    rw [hev]
    have HV : Hid (errV q = .iface 54 (.int .i64 q)) := hev
    clear hev
    go_wp2
    go_ret2
    exact ⟨Or.inl ⟨p, q, hq, hc, by rw [HV.out]; rfl⟩, hb1⟩
  · have hg := greatest_any rv (tailsOf ts ord) ts.length w1 hi
    obtain ⟨_, ra, rc, rfl, _⟩ := hi
    go_wp2_with (go_at_call 23; refine hg.mono ?_; rintro e w' ⟨rfl, rfl⟩)
    go_ret2
    exact ⟨Or.inr ⟨hc, ord, ho, rfl⟩, hb1⟩

theorem firstOf_goes {ts : List (Int × List Int)} {T : Nat → Int} {r : Int} (h : firstOf (listOf T ts.length) (maxTo T ts.length) r) : LeastIs ts.length (goesOn ts T none) r := by
  unfold firstOf at h
  rw [listOf_length] at h
  rcases h with ⟨k, h1, h2, h3, rfl⟩ | ⟨h, rfl⟩
  · refine Or.inl ⟨k, h1, fun j hj => ?_, ?_, rfl⟩
    · have := h2 j hj
      dsimp only at this
      rw [listOf_getD T (by omega)] at this
      exact this
    · dsimp only at h3
      rw [listOf_getD T h1] at h3
      exact h3
  · refine Or.inr ⟨fun j hj => ?_, rfl⟩
    have := h j hj
    dsimp only at this
    rw [listOf_getD T hj] at this
    exact this

theorem getLast?_snoc {l : List Nat} {y : Nat} : (l ++ [y]).getLast? = some y := by simp

end Go.Proofs.Ytkbcjhmcbfppkaa
