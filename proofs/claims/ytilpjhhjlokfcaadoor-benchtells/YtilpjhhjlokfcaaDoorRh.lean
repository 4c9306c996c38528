/- The contract of the document's own Right. -/
import Derived.Test.YtilpjhhjlokfcaaDoorRg
namespace Go.Proofs.YtilpjhhjlokfcaaDoor
open Go.RowKit Go.Deep

set_option maxRecDepth 100000 in
theorem rightR_any (v : Value) (ts : List (Int × List Int)) (w : World) (hp : PlanAt w v ts) :
    Calls Tryd.prog 11 #[v] w fun e w' => (∃ p q, e = .returned (.int .i64 q) ∧ CheckIs ts p q) ∧ Below w.heap.size w w' := by
  have hpl := planR_any v ts w hp
  go_enter Tryd.func11, Tryd.ntmps11
  go_wp2_with fail
  refine hpl.mono ?_
  rintro e w1 ⟨⟨p, q, rfl, hc⟩, hb1⟩
  go_wp2
  go_ret
  exact ⟨⟨p, q, rfl, hc⟩, hb1⟩
end Go.Proofs.YtilpjhhjlokfcaaDoor
