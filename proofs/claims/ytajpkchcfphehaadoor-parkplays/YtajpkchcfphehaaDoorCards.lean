/-
  DERIVED. GIVEN WITH THE SEED: THE CARDS: each row of YtajpkchcfphehaaDoorRows.lean that lists a variable, with what it lists TIED to the program's text (the seventh form; the later family's looks); each row that meets fmt, with fmt's text TOLD by the authors' own Lean function (tested against real Go, not proved from fmt's source: count such statements apart). THE CARD IS WHAT COUNTS. Prove the row's statement (the work); the ties are given (YtajpkchcfphehaaDoorTie.lean); close each card by the builder's one call (the guide's Derived/Test/ToyasCard.lean, 'card_holds'). Laid BY PROGRAM, IN A SANDBOX (cutbox-door.mjs). By AI agents, Wed Nov 11 2026. No macro, syntax, notation, axiom, sorry.
-/
import Derived.Test.YtajpkchcfphehaaDoorRows
import GoSem.ClaimSeven
namespace Go.Proofs.YtajpkchcfphehaaDoor
namespace Rows

/-- THE TIED CARD OF 'yardlaw2.ParkPlays'. -/
def parkPlaysCard : Claim7 := { stood := { row := parkPlaysRow, standIns := [], harness := (true, "c20c2a0f3dd32c7b6232750db372cbccfec8bde4ce1d91b87393143911ccbcf1"), looks := true }, kinds := [], alts := [], laidByText := true, laidKinds := [.handle], laidTests := true, laidLooks := .later }
def ParkPlaysCardSaid : Prop := Claim7.holds Tryd.pinned (.plain (OpenSpec.ofChange parkPlaysSpec)) parkPlaysCard

/-- THE SECOND FORM's CARD OF 'yardlaw2.ParkPlays'. -/
def parkPlaysUptoCard : Claim7 := { stood := { row := parkPlaysUptoRow, standIns := [], harness := (true, "c20c2a0f3dd32c7b6232750db372cbccfec8bde4ce1d91b87393143911ccbcf1"), looks := true }, kinds := [], alts := [], laidByText := true, laidKinds := [.handle], laidTests := true, laidLooks := .later }
def ParkPlaysUptoCardSaid : Prop := Claim7.holds Tryd.pinned (.plain (OpenSpec.upto parkPlaysSpec)) parkPlaysUptoCard
end Rows
end Go.Proofs.YtajpkchcfphehaaDoor
