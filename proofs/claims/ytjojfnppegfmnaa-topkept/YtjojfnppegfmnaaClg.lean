/- The contract of Do. -/
import Derived.Test.YtjojfnppegfmnaaClf
namespace Go.Proofs.Ytjojfnppegfmnaa
open Go.RowKit Go.Deep

/-- What is wrong with an op and its cells; what is told. -/
def doErr (o : Opn) (cs : List Cl) : Int := if opErr o = 0 then (if 30 < cs.length then 4 else firstBad cellErr cs) else opErr o
def doR (o : Opn) (cs : List Cl) : Cl := if doErr o cs = 0 then doC o cs else (0, false)
theorem doR_bad {o : Opn} {cs : List Cl} (h : doErr o cs ≠ 0) : doR o cs = (0, false) := if_neg h
theorem doR_ok {o : Opn} {cs : List Cl} (h : doErr o cs = 0) : doR o cs = doC o cs := if_pos h
theorem doErr_zero {o : Opn} {cs : List Cl} (h1 : opErr o = 0) (h2 : cs.length ≤ 30) (h3 : ∀ c, c ∈ cs → cellErr c = 0) : doErr o cs = 0 := by
  unfold doErr
  rw [if_pos h1, if_neg (by omega)]
  exact firstBad_zero.2 h3

end Go.Proofs.Ytjojfnppegfmnaa
