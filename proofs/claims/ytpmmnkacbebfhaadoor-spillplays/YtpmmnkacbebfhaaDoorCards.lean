/-
  DERIVED. GIVEN WITH THE SEED: THE CARDS: each row of YtpmmnkacbebfhaaDoorRows.lean that lists a variable, with what it lists TIED to the program's text (the seventh form; the later family's looks); each row that meets fmt, with fmt's text TOLD by the authors' own Lean function (tested against real Go, not proved from fmt's source: count such statements apart). THE CARD IS WHAT COUNTS. Prove the row's statement (the work); the ties are given (YtpmmnkacbebfhaaDoorTie.lean); close each card by the builder's one call (the guide's Derived/Test/ToyasCard.lean, 'card_holds'). Laid BY PROGRAM, IN A SANDBOX (cutbox-door.mjs). By AI agents, Wed Nov 11 2026. No macro, syntax, notation, axiom, sorry.
-/
import Derived.Test.YtpmmnkacbebfhaaDoorRows
import GoSem.ClaimSeven
namespace Go.Proofs.YtpmmnkacbebfhaaDoor
namespace Rows

/-- THE TIED CARD OF 'yardlaw4.SpillFull'. -/
def spillFullCard : Claim7 := { stood := { row := spillFullRow, standIns := [], harness := (true, "0b2eb3ce64be21f27c6d08dc274d284406ae9297e17df89b246511c560f65b8a"), looks := true }, kinds := [], alts := [], laidByText := true, laidKinds := [.handle], laidTests := true, laidLooks := .later }
def SpillFullCardSaid : Prop := Claim7.holds Tryd.pinned (.plain (OpenSpec.ofChange spillFullSpec)) spillFullCard

/-- THE TIED CARD OF 'yardlaw1.SpillPlays'. -/
def spillPlaysCard : Claim7 := { stood := { row := spillPlaysRow, standIns := [], harness := (true, "0b2eb3ce64be21f27c6d08dc274d284406ae9297e17df89b246511c560f65b8a"), looks := true }, kinds := [], alts := [], laidByText := true, laidKinds := [.handle], laidTests := true, laidLooks := .later }
def SpillPlaysCardSaid : Prop := Claim7.holds Tryd.pinned (.plain (OpenSpec.ofChange spillPlaysSpec)) spillPlaysCard

/-- THE SECOND FORM's CARD OF 'yardlaw4.SpillFull'. -/
def spillFullUptoCard : Claim7 := { stood := { row := spillFullUptoRow, standIns := [], harness := (true, "0b2eb3ce64be21f27c6d08dc274d284406ae9297e17df89b246511c560f65b8a"), looks := true }, kinds := [], alts := [], laidByText := true, laidKinds := [.handle], laidTests := true, laidLooks := .later }
def SpillFullUptoCardSaid : Prop := Claim7.holds Tryd.pinned (.plain (OpenSpec.upto spillFullSpec)) spillFullUptoCard

/-- THE SECOND FORM's CARD OF 'yardlaw1.SpillPlays'. -/
def spillPlaysUptoCard : Claim7 := { stood := { row := spillPlaysUptoRow, standIns := [], harness := (true, "0b2eb3ce64be21f27c6d08dc274d284406ae9297e17df89b246511c560f65b8a"), looks := true }, kinds := [], alts := [], laidByText := true, laidKinds := [.handle], laidTests := true, laidLooks := .later }
def SpillPlaysUptoCardSaid : Prop := Claim7.holds Tryd.pinned (.plain (OpenSpec.upto spillPlaysSpec)) spillPlaysUptoCard
end Rows
end Go.Proofs.YtpmmnkacbebfhaaDoor
