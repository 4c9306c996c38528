/- The contracts of depth.Span . -/
import Derived.Test.YtefkglgccllbeabDoorDh
namespace Go.Proofs.YtefkglgccllbeabDoor
open Go.RowKit Go.Deep

set_option maxHeartbeats 2000000 in
theorem span_any (v : Value) (ts : List (Int × List Int)) (w : World) (hp : PlanAt w v ts) :
    Calls Tryd.prog 12 #[v] w fun e w' => ((∃ p q, q ≠ 0 ∧ CheckIs ts p q ∧ e = .returned (.tuple #[.int .i64 0, errV q])) ∨
      (CheckIs ts 0 0 ∧ ∃ ord, OrdIs ts ord ∧ e = .returned (.tuple #[.int .i64 (maxTo (tailsOf ts ord) ts.length), .nilIface]))) ∧ Below w.heap.size w w' := by
  have ht := tails_any v ts w hp
  obtain ⟨hl, a, c, rfl, hp⟩ := hp
  clear hp
  go_enter Tryd.func12, Tryd.ntmps12
  go_wp2_with fail
  refine ht.mono ?_
  rintro e w1 ⟨h, hb1⟩
  clear ht
  rcases h with ⟨p, q, hq, hc, rfl⟩ | ⟨hc, ord, rv, ho, rfl, hi⟩
  · have hev := errV_some hq
    rw [hev]
    have HV : Hid (errV q = .iface 48 (.int .i64 q)) := hev
    clear hev
    go_wp2
    go_ret2
    exact ⟨Or.inl ⟨p, q, hq, hc, by rw [HV.out]; rfl⟩, hb1⟩
  · have hg := greatest_any rv (tailsOf ts ord) ts.length w1 hi
    obtain ⟨_, ra, rc, rfl, _⟩ := hi
    go_wp2_with (go_at_call 20; refine hg.mono ?_; rintro e w' ⟨rfl, rfl⟩)
    go_ret2
    exact ⟨Or.inr ⟨hc, ord, ho, rfl⟩, hb1⟩
end Go.Proofs.YtefkglgccllbeabDoor
