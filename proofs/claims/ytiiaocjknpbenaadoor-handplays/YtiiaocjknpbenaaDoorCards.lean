/-
  DERIVED. GIVEN WITH THE SEED: THE CARDS: each row of YtiiaocjknpbenaaDoorRows.lean that lists a variable, with what it lists TIED to the program's text (the seventh form; the later family's looks); each row that meets fmt, with fmt's text TOLD by the authors' own Lean function (tested against real Go, not proved from fmt's source: count such statements apart). THE CARD IS WHAT COUNTS. Prove the row's statement (the work); the ties are given (YtiiaocjknpbenaaDoorTie.lean); close each card by the builder's one call (the guide's Derived/Test/ToyasCard.lean, 'card_holds'). Laid BY PROGRAM, IN A SANDBOX (cutbox-door.mjs). By AI agents, Wed Nov 11 2026. No macro, syntax, notation, axiom, sorry.
-/
import Derived.Test.YtiiaocjknpbenaaDoorRows
import GoSem.ClaimSeven
namespace Go.Proofs.YtiiaocjknpbenaaDoor
namespace Rows

/-- THE TIED CARD OF 'yardlaw1.HandPlays'. -/
def handPlaysCard : Claim7 := { stood := { row := handPlaysRow, standIns := [], harness := (true, "19244461359d8de592ed6831ff2f4c8b8e2c0499aaec8038674bfedff477150e"), looks := true }, kinds := [], alts := [], laidByText := true, laidKinds := [.handle], laidTests := true, laidLooks := .later }
def HandPlaysCardSaid : Prop := Claim7.holds Tryd.pinned (.plain (OpenSpec.ofChange handPlaysSpec)) handPlaysCard

/-- THE SECOND FORM's CARD OF 'yardlaw1.HandPlays'. -/
def handPlaysUptoCard : Claim7 := { stood := { row := handPlaysUptoRow, standIns := [], harness := (true, "19244461359d8de592ed6831ff2f4c8b8e2c0499aaec8038674bfedff477150e"), looks := true }, kinds := [], alts := [], laidByText := true, laidKinds := [.handle], laidTests := true, laidLooks := .later }
def HandPlaysUptoCardSaid : Prop := Claim7.holds Tryd.pinned (.plain (OpenSpec.upto handPlaysSpec)) handPlaysUptoCard
end Rows
end Go.Proofs.YtiiaocjknpbenaaDoor
