/- The contract of yardsame.Ints. -/
import Derived.Test.YtkdlhhogbpjplaaDoorK
namespace Go.Proofs.YtkdlhhogbpjplaaDoor
open Go.RowKit Go.Deep

end Go.Proofs.YtkdlhhogbpjplaaDoor
