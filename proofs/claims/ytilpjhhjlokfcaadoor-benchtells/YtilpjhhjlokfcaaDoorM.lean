/- The contract of yardsame.Ints. -/
import Derived.Test.YtilpjhhjlokfcaaDoorK
namespace Go.Proofs.YtilpjhhjlokfcaaDoor
open Go.RowKit Go.Deep

end Go.Proofs.YtilpjhhjlokfcaaDoor
