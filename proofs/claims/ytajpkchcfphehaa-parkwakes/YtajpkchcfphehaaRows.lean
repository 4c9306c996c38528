/-
  No cell of these rows narrows 'for every input' (looked for: loops, veiled, ifaces, maps, wideKeys, modest, calm, conditions, laid).
  DERIVED. THE GIVEN ROWS OF THIS SEAT. 2 by the template 'for every input the law returns true; each argument reads behind the call as it read before'; 0 by the template 'total and deterministic' (their statements: YtajpkchcfphehaaTotals.lean).
  GIVEN WITH THE SEED: the statements are not yours to turn. If you find one false, say at which input.
  Laid BY PROGRAM, IN A SANDBOX (cutbox-rows.mjs): the forced cells as the released guide's own fill.sh prints them over the translation 95e6a1d6635b49dd… (all of the seat's roots in one cut). By AI agents, Wed Nov 11 2026. No macro, syntax, notation, axiom, sorry.
-/
import Derived.Test.YtajpkchcfphehaaChecked
import GoSem.Claim
import GoSem.ClaimJoined
import GoSem.ClaimMapViews
import Derived.JoinedTies
import Derived.KernelRfl
namespace Go.Proofs.Ytajpkchcfphehaa
/- THE CELL 'sum', in the pinned program and in every row, IS THE sha256 OF THE DUMP (.gsa) THAT YtajpkchcfphehaaProg.lean LOADS. Nothing in Lean hashes anything: it is a label: what it is worth is what the hold of that sum in a sandbox is worth. -/
noncomputable def Try.pinned : Pinned := { name := "ytajpkchcfphehaa", sum := "95e6a1d6635b49dd15c58188fd1e3cc44a20aa82cd5bd005b88fb29f521c8024", checked := Try.checked }
namespace Rows
def none {H : Type} : Left H := { results := [], args := [] }

/-- 'yardlaw2.ParkWakes': WHATEVER THE INPUT: true; the input reads as it did. -/
def parkWakesSpec : ChangeSpec := { name := "parkWakes", fn := fun _ => fun
  | [d1, d2, d3] => { results := [.lit (.bool true)], args := [d1, d2, d3] }
  | _ => none }
def parkWakesRow : OpenClaim := { program := "ytajpkchcfphehaa", sum := "95e6a1d6635b49dd15c58188fd1e3cc44a20aa82cd5bd005b88fb29f521c8024", func := "yardgang/yardlaw2.ParkWakes", spec := "parkWakes", apart := false }
def ParkWakesSaid : Prop := parkWakesRow.holds Try.pinned (OpenSpec.ofChange parkWakesSpec)

/-- ITS FALSE NEIGHBOUR: 'it returns false'. Refute it at one input. -/
def parkWakesWrong : ChangeSpec := { name := "parkWakes", fn := fun _ => fun
  | [d1, d2, d3] => { results := [.lit (.bool false)], args := [d1, d2, d3] }
  | _ => none }
def ParkWakesWrongFalsely : Prop := parkWakesRow.holds Try.pinned (OpenSpec.ofChange parkWakesWrong)

/-- 'yardlaw4.ParkAll': WHATEVER THE INPUT: true; the input reads as it did. -/
def parkAllSpec : ChangeSpec := { name := "parkAll", fn := fun _ => fun
  | [d] => { results := [.lit (.bool true)], args := [d] }
  | _ => none }
def parkAllRow : OpenClaim := { program := "ytajpkchcfphehaa", sum := "95e6a1d6635b49dd15c58188fd1e3cc44a20aa82cd5bd005b88fb29f521c8024", func := "yardgang/yardlaw4.ParkAll", spec := "parkAll", apart := false }
def ParkAllSaid : Prop := parkAllRow.holds Try.pinned (OpenSpec.ofChange parkAllSpec)

/-- ITS FALSE NEIGHBOUR: 'it returns false'. Refute it at one input. -/
def parkAllWrong : ChangeSpec := { name := "parkAll", fn := fun _ => fun
  | [d] => { results := [.lit (.bool false)], args := [d] }
  | _ => none }
def ParkAllWrongFalsely : Prop := parkAllRow.holds Try.pinned (OpenSpec.ofChange parkAllWrong)

/- THE SECOND FORM. 'bulk': how many values and letters a reading holds, each counted each time it is reached (what is shared counts as often as it is met; a slice's spare places count too). A statement '..UptoSaid' is the law's where the arguments, and the package variables that the reading takes, are together of bulk at most 1048576: NARROWER than '..Said'. Prove '..Said' where nothing that the law and all that it calls make is longer than what came in: it says more and counts as full. Else prove '..UptoSaid'. A law counts once. -/
mutual
def uptoBulk {H : Type} : DataW H → Nat
  | .lit (.string bytes) => bytes.length + 1
  | .lit _ => 1
  | .nil => 1
  | .ptr d => uptoBulk d + 1
  | .slice elems spare => uptoBulkAll elems + uptoBulkAll spare + 1
  | .agg parts => uptoBulkAll parts + 1
  | .iface _ d => uptoBulk d + 1
  | .map entries => uptoBulkEntries entries + 1
  | .held _ => 1
def uptoBulkAll {H : Type} : List (DataW H) → Nat
  | [] => 0
  | d :: r => uptoBulk d + uptoBulkAll r
def uptoBulkEntries {H : Type} : List (Lit × DataW H) → Nat
  | [] => 0
  | x :: r => uptoBulkEntry x + uptoBulkEntries r
def uptoBulkEntry {H : Type} : Lit × DataW H → Nat
  | (.string bytes, d) => bytes.length + uptoBulk d + 1
  | (_, d) => uptoBulk d + 1
 end
def uptoSmall : (H : Type) → List (DataW H) → Bool := fun _ ds => decide (uptoBulkAll ds ≤ 1048576)
def OpenSpec.upto (s : _root_.Go.ChangeSpec) : _root_.Go.OpenSpec := { _root_.Go.OpenSpec.ofChange s with cond := some uptoSmall }

/-- 'yardlaw2.ParkWakes', WHERE WHAT IT READS IS OF BULK AT MOST 1048576: true; the input reads as it did. -/
def parkWakesUptoRow : OpenClaim := { program := "ytajpkchcfphehaa", sum := "95e6a1d6635b49dd15c58188fd1e3cc44a20aa82cd5bd005b88fb29f521c8024", func := "yardgang/yardlaw2.ParkWakes", spec := "parkWakes", apart := false, narrowed := true }
def ParkWakesUptoSaid : Prop := parkWakesUptoRow.holds Try.pinned (OpenSpec.upto parkWakesSpec)

/-- 'yardlaw4.ParkAll', WHERE WHAT IT READS IS OF BULK AT MOST 1048576: true; the input reads as it did. -/
def parkAllUptoRow : OpenClaim := { program := "ytajpkchcfphehaa", sum := "95e6a1d6635b49dd15c58188fd1e3cc44a20aa82cd5bd005b88fb29f521c8024", func := "yardgang/yardlaw4.ParkAll", spec := "parkAll", apart := false, narrowed := true }
def ParkAllUptoSaid : Prop := parkAllUptoRow.holds Try.pinned (OpenSpec.upto parkAllSpec)

end Rows
end Go.Proofs.Ytajpkchcfphehaa
