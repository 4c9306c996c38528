/-
  DERIVED. GIVEN WITH THE SEED: THE CARDS: each row of YtfmmfapfgpckfaaDoorRows.lean that lists a variable, with what it lists TIED to the program's text (the seventh form; the later family's looks); each row that meets fmt, with fmt's text TOLD by the authors' own Lean function (tested against real Go, not proved from fmt's source: count such statements apart). THE CARD IS WHAT COUNTS. Prove the row's statement (the work); the ties are given (YtfmmfapfgpckfaaDoorTie.lean); close each card by the builder's one call (the guide's Derived/Test/ToyasCard.lean, 'card_holds'). Laid BY PROGRAM, IN A SANDBOX (cutbox-door.mjs). By AI agents, Wed Nov 11 2026. No macro, syntax, notation, axiom, sorry.
-/
import Derived.Test.YtfmmfapfgpckfaaDoorRows
import GoSem.ClaimSeven
namespace Go.Proofs.YtfmmfapfgpckfaaDoor
namespace Rows

/-- THE TIED CARD OF 'yardlaw1.PlanBack'. -/
def planBackCard : Claim7 := { stood := { row := planBackRow, standIns := [], harness := (true, "fba27d65226d17feb80152cedb834b2950eec8a7f8c12943b5f5f9cc3975c5df"), looks := true }, kinds := [], alts := [], laidByText := true, laidKinds := [.data, .data, .data, .sentinel, .sentinel], laidTests := true, laidLooks := .later }
def PlanBackCardSaid : Prop := Claim7.holds Tryd.pinned (.plain (OpenSpec.ofChange planBackSpec)) planBackCard

/-- THE TIED CARD OF 'yardlaw4.PlanRing'. -/
def planRingCard : Claim7 := { stood := { row := planRingRow, standIns := [], harness := (true, "fba27d65226d17feb80152cedb834b2950eec8a7f8c12943b5f5f9cc3975c5df"), looks := true }, kinds := [], alts := [], laidByText := true, laidKinds := [.handle], laidTests := true, laidLooks := .later }
def PlanRingCardSaid : Prop := Claim7.holds Tryd.pinned (.plain (OpenSpec.ofChange planRingSpec)) planRingCard

/-- THE SECOND FORM's CARD OF 'yardlaw1.PlanBack'. -/
def planBackUptoCard : Claim7 := { stood := { row := planBackUptoRow, standIns := [], harness := (true, "fba27d65226d17feb80152cedb834b2950eec8a7f8c12943b5f5f9cc3975c5df"), looks := true }, kinds := [], alts := [], laidByText := true, laidKinds := [.data, .data, .data, .sentinel, .sentinel], laidTests := true, laidLooks := .later }
def PlanBackUptoCardSaid : Prop := Claim7.holds Tryd.pinned (.plain (OpenSpec.upto planBackSpec)) planBackUptoCard

/-- THE SECOND FORM's CARD OF 'yardlaw4.PlanRing'. -/
def planRingUptoCard : Claim7 := { stood := { row := planRingUptoRow, standIns := [], harness := (true, "fba27d65226d17feb80152cedb834b2950eec8a7f8c12943b5f5f9cc3975c5df"), looks := true }, kinds := [], alts := [], laidByText := true, laidKinds := [.handle], laidTests := true, laidLooks := .later }
def PlanRingUptoCardSaid : Prop := Claim7.holds Tryd.pinned (.plain (OpenSpec.upto planRingSpec)) planRingUptoCard
end Rows
end Go.Proofs.YtfmmfapfgpckfaaDoor
