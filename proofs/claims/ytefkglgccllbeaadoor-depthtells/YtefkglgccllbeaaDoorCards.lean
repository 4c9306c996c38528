/-
  DERIVED. GIVEN WITH THE SEED: THE CARDS: each row of YtefkglgccllbeaaDoorRows.lean that lists a variable, with what it lists TIED to the program's text (the seventh form; the later family's looks); each row that meets fmt, with fmt's text TOLD by the authors' own Lean function (tested against real Go, not proved from fmt's source: count such statements apart). THE CARD IS WHAT COUNTS. Prove the row's statement (the work); the ties are given (YtefkglgccllbeaaDoorTie.lean); close each card by the builder's one call (the guide's Derived/Test/ToyasCard.lean, 'card_holds'). Laid BY PROGRAM, IN A SANDBOX (cutbox-door.mjs). By AI agents, Wed Nov 11 2026. No macro, syntax, notation, axiom, sorry.
-/
import Derived.Test.YtefkglgccllbeaaDoorRows
import GoSem.ClaimSeven
namespace Go.Proofs.YtefkglgccllbeaaDoor
namespace Rows

/-- THE TIED CARD OF 'yardlaw1.PlanBack'. -/
def planBackCard : Claim7 := { stood := { row := planBackRow, standIns := [], harness := (true, "754a2c4880044dfb2ced3d1d45e55115bdb45d5728f89ddcbe10b92e89f59c13"), looks := true }, kinds := [], alts := [], laidByText := true, laidKinds := [.data, .data, .data, .sentinel, .sentinel], laidTests := true, laidLooks := .later }
def PlanBackCardSaid : Prop := Claim7.holds Tryd.pinned (.plain (OpenSpec.ofChange planBackSpec)) planBackCard

/-- THE TIED CARD OF 'yardlaw4.PlanRing'. -/
def planRingCard : Claim7 := { stood := { row := planRingRow, standIns := [], harness := (true, "754a2c4880044dfb2ced3d1d45e55115bdb45d5728f89ddcbe10b92e89f59c13"), looks := true }, kinds := [], alts := [], laidByText := true, laidKinds := [.handle], laidTests := true, laidLooks := .later }
def PlanRingCardSaid : Prop := Claim7.holds Tryd.pinned (.plain (OpenSpec.ofChange planRingSpec)) planRingCard

/-- THE TIED CARD OF 'yardlaw1.DepthTells'. -/
def depthTellsCard : Claim7 := { stood := { row := depthTellsRow, standIns := [], harness := (true, "754a2c4880044dfb2ced3d1d45e55115bdb45d5728f89ddcbe10b92e89f59c13"), looks := true }, kinds := [], alts := [], laidByText := true, laidKinds := [.handle], laidTests := true, laidLooks := .later }
def DepthTellsCardSaid : Prop := Claim7.holds Tryd.pinned (.plain (OpenSpec.ofChange depthTellsSpec)) depthTellsCard

/-- THE SECOND FORM's CARD OF 'yardlaw1.PlanBack'. -/
def planBackUptoCard : Claim7 := { stood := { row := planBackUptoRow, standIns := [], harness := (true, "754a2c4880044dfb2ced3d1d45e55115bdb45d5728f89ddcbe10b92e89f59c13"), looks := true }, kinds := [], alts := [], laidByText := true, laidKinds := [.data, .data, .data, .sentinel, .sentinel], laidTests := true, laidLooks := .later }
def PlanBackUptoCardSaid : Prop := Claim7.holds Tryd.pinned (.plain (OpenSpec.upto planBackSpec)) planBackUptoCard

/-- THE SECOND FORM's CARD OF 'yardlaw4.PlanRing'. -/
def planRingUptoCard : Claim7 := { stood := { row := planRingUptoRow, standIns := [], harness := (true, "754a2c4880044dfb2ced3d1d45e55115bdb45d5728f89ddcbe10b92e89f59c13"), looks := true }, kinds := [], alts := [], laidByText := true, laidKinds := [.handle], laidTests := true, laidLooks := .later }
def PlanRingUptoCardSaid : Prop := Claim7.holds Tryd.pinned (.plain (OpenSpec.upto planRingSpec)) planRingUptoCard

/-- THE SECOND FORM's CARD OF 'yardlaw1.DepthTells'. -/
def depthTellsUptoCard : Claim7 := { stood := { row := depthTellsUptoRow, standIns := [], harness := (true, "754a2c4880044dfb2ced3d1d45e55115bdb45d5728f89ddcbe10b92e89f59c13"), looks := true }, kinds := [], alts := [], laidByText := true, laidKinds := [.handle], laidTests := true, laidLooks := .later }
def DepthTellsUptoCardSaid : Prop := Claim7.holds Tryd.pinned (.plain (OpenSpec.upto depthTellsSpec)) depthTellsUptoCard
end Rows
end Go.Proofs.YtefkglgccllbeaaDoor
