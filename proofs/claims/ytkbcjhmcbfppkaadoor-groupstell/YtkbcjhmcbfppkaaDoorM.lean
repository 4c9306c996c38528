/- The contract of yardsame.Ints. -/
import Derived.Test.YtkbcjhmcbfppkaaDoorK
namespace Go.Proofs.YtkbcjhmcbfppkaaDoor
open Go.RowKit Go.Deep

end Go.Proofs.YtkbcjhmcbfppkaaDoor
