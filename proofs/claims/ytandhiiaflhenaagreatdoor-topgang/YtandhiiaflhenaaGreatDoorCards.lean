/-
  DERIVED. GIVEN WITH THE SEED: THE CARDS: each row of YtandhiiaflhenaaGreatDoorRows.lean that lists a variable, with what it lists TIED to the program's text (the seventh form; the later family's looks); each row that meets fmt, with fmt's text TOLD by the authors' own Lean function (tested against real Go, not proved from fmt's source: count such statements apart). THE CARD IS WHAT COUNTS. Prove the row's statement (the work); the ties are given (YtandhiiaflhenaaGreatDoorTie.lean); close each card by the builder's one call (the guide's Derived/Test/ToyasCard.lean, 'card_holds'). Laid BY PROGRAM, IN A SANDBOX (cutbox-door.mjs). By AI agents, Wed Nov 11 2026. No macro, syntax, notation, axiom, sorry.
-/
import Derived.Test.YtandhiiaflhenaaGreatDoorRows
import GoSem.ClaimSeven
namespace Go.Proofs.YtandhiiaflhenaaGreatDoor
namespace Rows

/-- THE TIED CARD OF 'yardtop.TopGang'. -/
def topGangCard : Claim7 := { stood := { row := topGangRow, standIns := [], harness := (true, "7fd71957c72af8008f550d1ef11505455d35412e22997ff91f5d1202c8cb2514"), looks := true }, kinds := [], alts := [], laidByText := true, laidKinds := [.data, .data, .data, .sentinel, .sentinel, .data], laidTests := true, laidLooks := .later }
def TopGangCardSaid : Prop := Claim7.holds Tryz.pinned (.plain (OpenSpec.ofChange topGangSpec)) topGangCard

/-- THE SECOND FORM's CARD OF 'yardtop.TopGang'. -/
def topGangUptoCard : Claim7 := { stood := { row := topGangUptoRow, standIns := [], harness := (true, "7fd71957c72af8008f550d1ef11505455d35412e22997ff91f5d1202c8cb2514"), looks := true }, kinds := [], alts := [], laidByText := true, laidKinds := [.data, .data, .data, .sentinel, .sentinel, .data], laidTests := true, laidLooks := .later }
def TopGangUptoCardSaid : Prop := Claim7.holds Tryz.pinned (.plain (OpenSpec.upto topGangSpec)) topGangUptoCard
end Rows
end Go.Proofs.YtandhiiaflhenaaGreatDoor
