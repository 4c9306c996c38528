/-
  DERIVED. GIVEN WITH THE SEED: THE CARDS: each row of YtchbncgifefegaaDoorRows.lean that lists a variable, with what it lists TIED to the program's text (the seventh form; the later family's looks); each row that meets fmt, with fmt's text TOLD by the authors' own Lean function (tested against real Go, not proved from fmt's source: count such statements apart). THE CARD IS WHAT COUNTS. Prove the row's statement (the work); the ties are given (YtchbncgifefegaaDoorTie.lean); close each card by the builder's one call (the guide's Derived/Test/ToyasCard.lean, 'card_holds'). Laid BY PROGRAM, IN A SANDBOX (cutbox-door.mjs). By AI agents, Wed Nov 11 2026. No macro, syntax, notation, axiom, sorry.
-/
import Derived.Test.YtchbncgifefegaaDoorRows
import GoSem.ClaimSeven
namespace Go.Proofs.YtchbncgifefegaaDoor
namespace Rows

/-- THE TIED CARD OF 'yardlaw2.GangPlays'. -/
def gangPlaysCard : Claim7 := { stood := { row := gangPlaysRow, standIns := [], harness := (true, "b69962f4cf7fdafc38941a3a0e77fc8b5420c4f7da99ec80502522299fd5ec72"), looks := true }, kinds := [], alts := [], laidByText := true, laidKinds := [.handle], laidTests := true, laidLooks := .later }
def GangPlaysCardSaid : Prop := Claim7.holds Tryd.pinned (.plain (OpenSpec.ofChange gangPlaysSpec)) gangPlaysCard

/-- THE SECOND FORM's CARD OF 'yardlaw2.GangPlays'. -/
def gangPlaysUptoCard : Claim7 := { stood := { row := gangPlaysUptoRow, standIns := [], harness := (true, "b69962f4cf7fdafc38941a3a0e77fc8b5420c4f7da99ec80502522299fd5ec72"), looks := true }, kinds := [], alts := [], laidByText := true, laidKinds := [.handle], laidTests := true, laidLooks := .later }
def GangPlaysUptoCardSaid : Prop := Claim7.holds Tryd.pinned (.plain (OpenSpec.upto gangPlaysSpec)) gangPlaysUptoCard
end Rows
end Go.Proofs.YtchbncgifefegaaDoor
