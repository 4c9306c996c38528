/-
  DERIVED. GIVEN WITH THE SEED: THE CARDS: each row of YtkbcjhmcbfppkaaDoorRows.lean that lists a variable, with what it lists TIED to the program's text (the seventh form; the later family's looks); each row that meets fmt, with fmt's text TOLD by the authors' own Lean function (tested against real Go, not proved from fmt's source: count such statements apart). THE CARD IS WHAT COUNTS. Prove the row's statement (the work); the ties are given (YtkbcjhmcbfppkaaDoorTie.lean); close each card by the builder's one call (the guide's Derived/Test/ToyasCard.lean, 'card_holds'). Laid BY PROGRAM, IN A SANDBOX (cutbox-door.mjs). By AI agents, Wed Nov 11 2026. No macro, syntax, notation, axiom, sorry.
-/
import Derived.Test.YtkbcjhmcbfppkaaDoorRows
import GoSem.ClaimSeven
namespace Go.Proofs.YtkbcjhmcbfppkaaDoor
namespace Rows

/-- THE TIED CARD OF 'yardlaw3.GroupsTell'. -/
def groupsTellCard : Claim7 := { stood := { row := groupsTellRow, standIns := [], harness := (true, "8c8ed171cbe38d99ab82073410ba4829c7508bcad2e12628335259b18848fa0d"), looks := true }, kinds := [], alts := [], laidByText := true, laidKinds := [.handle], laidTests := true, laidLooks := .later }
def GroupsTellCardSaid : Prop := Claim7.holds Tryd.pinned (.plain (OpenSpec.ofChange groupsTellSpec)) groupsTellCard

/-- THE TIED CARD OF 'yardlaw4.GroupsLine'. -/
def groupsLineCard : Claim7 := { stood := { row := groupsLineRow, standIns := [], harness := (true, "8c8ed171cbe38d99ab82073410ba4829c7508bcad2e12628335259b18848fa0d"), looks := true }, kinds := [], alts := [], laidByText := true, laidKinds := [.handle], laidTests := true, laidLooks := .later }
def GroupsLineCardSaid : Prop := Claim7.holds Tryd.pinned (.plain (OpenSpec.ofChange groupsLineSpec)) groupsLineCard

/-- THE SECOND FORM's CARD OF 'yardlaw3.GroupsTell'. -/
def groupsTellUptoCard : Claim7 := { stood := { row := groupsTellUptoRow, standIns := [], harness := (true, "8c8ed171cbe38d99ab82073410ba4829c7508bcad2e12628335259b18848fa0d"), looks := true }, kinds := [], alts := [], laidByText := true, laidKinds := [.handle], laidTests := true, laidLooks := .later }
def GroupsTellUptoCardSaid : Prop := Claim7.holds Tryd.pinned (.plain (OpenSpec.upto groupsTellSpec)) groupsTellUptoCard

/-- THE SECOND FORM's CARD OF 'yardlaw4.GroupsLine'. -/
def groupsLineUptoCard : Claim7 := { stood := { row := groupsLineUptoRow, standIns := [], harness := (true, "8c8ed171cbe38d99ab82073410ba4829c7508bcad2e12628335259b18848fa0d"), looks := true }, kinds := [], alts := [], laidByText := true, laidKinds := [.handle], laidTests := true, laidLooks := .later }
def GroupsLineUptoCardSaid : Prop := Claim7.holds Tryd.pinned (.plain (OpenSpec.upto groupsLineSpec)) groupsLineUptoCard
end Rows
end Go.Proofs.YtkbcjhmcbfppkaaDoor
