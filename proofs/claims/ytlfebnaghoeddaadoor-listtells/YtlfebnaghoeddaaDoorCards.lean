/-
  DERIVED. GIVEN WITH THE SEED: THE CARDS: each row of YtlfebnaghoeddaaDoorRows.lean that lists a variable, with what it lists TIED to the program's text (the seventh form; the later family's looks); each row that meets fmt, with fmt's text TOLD by the authors' own Lean function (tested against real Go, not proved from fmt's source: count such statements apart). THE CARD IS WHAT COUNTS. Prove the row's statement (the work); the ties are given (YtlfebnaghoeddaaDoorTie.lean); close each card by the builder's one call (the guide's Derived/Test/ToyasCard.lean, 'card_holds'). Laid BY PROGRAM, IN A SANDBOX (cutbox-door.mjs). By AI agents, Wed Nov 11 2026. No macro, syntax, notation, axiom, sorry.
-/
import Derived.Test.YtlfebnaghoeddaaDoorRows
import GoSem.ClaimSeven
namespace Go.Proofs.YtlfebnaghoeddaaDoor
namespace Rows

/-- THE TIED CARD OF 'yardlaw2.ListTells'. -/
def listTellsCard : Claim7 := { stood := { row := listTellsRow, standIns := [], harness := (true, "57257ac1c7c3a5092a1c301c92d60cb881f0747be30a04b6bb60846f9cc1cee0"), looks := true }, kinds := [], alts := [], laidByText := true, laidKinds := [.handle], laidTests := true, laidLooks := .later }
def ListTellsCardSaid : Prop := Claim7.holds Tryd.pinned (.plain (OpenSpec.ofChange listTellsSpec)) listTellsCard

/-- THE SECOND FORM's CARD OF 'yardlaw2.ListTells'. -/
def listTellsUptoCard : Claim7 := { stood := { row := listTellsUptoRow, standIns := [], harness := (true, "57257ac1c7c3a5092a1c301c92d60cb881f0747be30a04b6bb60846f9cc1cee0"), looks := true }, kinds := [], alts := [], laidByText := true, laidKinds := [.handle], laidTests := true, laidLooks := .later }
def ListTellsUptoCardSaid : Prop := Claim7.holds Tryd.pinned (.plain (OpenSpec.upto listTellsSpec)) listTellsUptoCard
end Rows
end Go.Proofs.YtlfebnaghoeddaaDoor
