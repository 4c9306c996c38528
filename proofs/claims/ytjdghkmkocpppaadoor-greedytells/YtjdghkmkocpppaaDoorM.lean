/- The contract of yardsame.Ints. -/
import Derived.Test.YtjdghkmkocpppaaDoorK
namespace Go.Proofs.YtjdghkmkocpppaaDoor
open Go.RowKit Go.Deep

end Go.Proofs.YtjdghkmkocpppaaDoor
