/- The document's own Free and Order, as the statement's package has them. -/
import Derived.Test.YtkgdhfdahafaoaaDoorK
import Derived.Test.YtkgdhfdahafaoaaDoorDm
namespace Go.Proofs.YtkgdhfdahafaoaaDoor
open Go.RowKit Go.Deep

theorem owned_shape {w : World} {base : Nat} {v : Value} {n : Nat} {xs : List Value} (h : w.ownsRow base 3 1 v n xs) : ∃ a c, v = .slice a n c := by
  rcases h.2 with ⟨h1, h2⟩ | ⟨g, cap, cur, hv, _⟩
  · exact ⟨none, 0, by rw [h1, h2]⟩
  · exact ⟨_, _, hv⟩

end Go.Proofs.YtkgdhfdahafaoaaDoor
