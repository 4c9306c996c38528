/-
  No cell of these rows narrows 'for every input' (looked for: loops, veiled, ifaces, maps, wideKeys, modest, calm, conditions, laid).
  DERIVED. THE GIVEN ROWS OF THIS SEAT. 2 by the template 'for every input the law returns true; each argument reads behind the call as it read before'; 0 by the template 'total and deterministic' (their statements: YtajmnnjafhanaaaTotals.lean).
  GIVEN WITH THE SEED: the statements are not yours to turn. If you find one false, say at which input.
  Laid BY PROGRAM, IN A SANDBOX (cutbox-rows.mjs): the forced cells as the released guide's own fill.sh prints them over the translation 3da637e320d8fde8… (all of the seat's roots in one cut). By AI agents, Wed Nov 11 2026. No macro, syntax, notation, axiom, sorry.
-/
import Derived.Test.YtajmnnjafhanaaaChecked
import GoSem.Claim
import GoSem.ClaimJoined
import GoSem.ClaimMapViews
import Derived.JoinedTies
import Derived.KernelRfl
namespace Go.Proofs.Ytajmnnjafhanaaa
/- THE CELL 'sum', in the pinned program and in every row, IS THE sha256 OF THE DUMP (.gsa) THAT YtajmnnjafhanaaaProg.lean LOADS. Nothing in Lean hashes anything: it is a label: what it is worth is what the hold of that sum in a sandbox is worth. -/
noncomputable def Try.pinned : Pinned := { name := "ytajmnnjafhanaaa", sum := "3da637e320d8fde81485e0cbe313e16b595fd58e86cffb809bf980fdb8e7b8b3", checked := Try.checked }
namespace Rows
def none {H : Type} : Left H := { results := [], args := [] }

/-- 'yardlaw3.YardFair': WHATEVER THE INPUT: true; the input reads as it did. -/
def yardFairSpec : ChangeSpec := { name := "yardFair", fn := fun _ => fun
  | [d1, d2] => { results := [.lit (.bool true)], args := [d1, d2] }
  | _ => none }
def yardFairRow : OpenClaim := { program := "ytajmnnjafhanaaa", sum := "3da637e320d8fde81485e0cbe313e16b595fd58e86cffb809bf980fdb8e7b8b3", func := "yardgang/yardlaw3.YardFair", spec := "yardFair", unfollowed := true, recurses := true, apart := false }
def YardFairSaid : Prop := yardFairRow.holds Try.pinned (OpenSpec.ofChange yardFairSpec)

/-- ITS FALSE NEIGHBOUR: 'it returns false'. Refute it at one input. -/
def yardFairWrong : ChangeSpec := { name := "yardFair", fn := fun _ => fun
  | [d1, d2] => { results := [.lit (.bool false)], args := [d1, d2] }
  | _ => none }
def YardFairWrongFalsely : Prop := yardFairRow.holds Try.pinned (OpenSpec.ofChange yardFairWrong)

/-- 'yardlaw4.YardRounds': WHATEVER THE INPUT: true; the input reads as it did. -/
def yardRoundsSpec : ChangeSpec := { name := "yardRounds", fn := fun _ => fun
  | [d1, d2, d3] => { results := [.lit (.bool true)], args := [d1, d2, d3] }
  | _ => none }
def yardRoundsRow : OpenClaim := { program := "ytajmnnjafhanaaa", sum := "3da637e320d8fde81485e0cbe313e16b595fd58e86cffb809bf980fdb8e7b8b3", func := "yardgang/yardlaw4.YardRounds", spec := "yardRounds", unfollowed := true, recurses := true, apart := false }
def YardRoundsSaid : Prop := yardRoundsRow.holds Try.pinned (OpenSpec.ofChange yardRoundsSpec)

/-- ITS FALSE NEIGHBOUR: 'it returns false'. Refute it at one input. -/
def yardRoundsWrong : ChangeSpec := { name := "yardRounds", fn := fun _ => fun
  | [d1, d2, d3] => { results := [.lit (.bool false)], args := [d1, d2, d3] }
  | _ => none }
def YardRoundsWrongFalsely : Prop := yardRoundsRow.holds Try.pinned (OpenSpec.ofChange yardRoundsWrong)

/- THE SECOND FORM. 'bulk': how many values and letters a reading holds, each counted each time it is reached (what is shared counts as often as it is met; a slice's spare places count too). A statement '..UptoSaid' is the law's where the arguments, and the package variables that the reading takes, are together of bulk at most 1048576: NARROWER than '..Said'. Prove '..Said' where nothing that the law and all that it calls make is longer than what came in: it says more and counts as full. Else prove '..UptoSaid'. A law counts once. -/
mutual
def uptoBulk {H : Type} : DataW H → Nat
  | .lit (.string bytes) => bytes.length + 1
  | .lit _ => 1
  | .nil => 1
  | .ptr d => uptoBulk d + 1
  | .slice elems spare => uptoBulkAll elems + uptoBulkAll spare + 1
  | .agg parts => uptoBulkAll parts + 1
  | .iface _ d => uptoBulk d + 1
  | .map entries => uptoBulkEntries entries + 1
  | .held _ => 1
def uptoBulkAll {H : Type} : List (DataW H) → Nat
  | [] => 0
  | d :: r => uptoBulk d + uptoBulkAll r
def uptoBulkEntries {H : Type} : List (Lit × DataW H) → Nat
  | [] => 0
  | x :: r => uptoBulkEntry x + uptoBulkEntries r
def uptoBulkEntry {H : Type} : Lit × DataW H → Nat
  | (.string bytes, d) => bytes.length + uptoBulk d + 1
  | (_, d) => uptoBulk d + 1
 end
def uptoSmall : (H : Type) → List (DataW H) → Bool := fun _ ds => decide (uptoBulkAll ds ≤ 1048576)
def OpenSpec.upto (s : _root_.Go.ChangeSpec) : _root_.Go.OpenSpec := { _root_.Go.OpenSpec.ofChange s with cond := some uptoSmall }

/-- 'yardlaw3.YardFair', WHERE WHAT IT READS IS OF BULK AT MOST 1048576: true; the input reads as it did. -/
def yardFairUptoRow : OpenClaim := { program := "ytajmnnjafhanaaa", sum := "3da637e320d8fde81485e0cbe313e16b595fd58e86cffb809bf980fdb8e7b8b3", func := "yardgang/yardlaw3.YardFair", spec := "yardFair", unfollowed := true, recurses := true, apart := false, narrowed := true }
def YardFairUptoSaid : Prop := yardFairUptoRow.holds Try.pinned (OpenSpec.upto yardFairSpec)

/-- 'yardlaw4.YardRounds', WHERE WHAT IT READS IS OF BULK AT MOST 1048576: true; the input reads as it did. -/
def yardRoundsUptoRow : OpenClaim := { program := "ytajmnnjafhanaaa", sum := "3da637e320d8fde81485e0cbe313e16b595fd58e86cffb809bf980fdb8e7b8b3", func := "yardgang/yardlaw4.YardRounds", spec := "yardRounds", unfollowed := true, recurses := true, apart := false, narrowed := true }
def YardRoundsUptoSaid : Prop := yardRoundsUptoRow.holds Try.pinned (OpenSpec.upto yardRoundsSpec)

end Rows
end Go.Proofs.Ytajmnnjafhanaaa
