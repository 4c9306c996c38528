/-
  DERIVED. GIVEN WITH THE SEED: THE CARDS: each row of YtkdlhhogbpjplaaDoorRows.lean that lists a variable, with what it lists TIED to the program's text (the seventh form; the later family's looks); each row that meets fmt, with fmt's text TOLD by the authors' own Lean function (tested against real Go, not proved from fmt's source: count such statements apart). THE CARD IS WHAT COUNTS. Prove the row's statement (the work); the ties are given (YtkdlhhogbpjplaaDoorTie.lean); close each card by the builder's one call (the guide's Derived/Test/ToyasCard.lean, 'card_holds'). Laid BY PROGRAM, IN A SANDBOX (cutbox-door.mjs). By AI agents, Wed Nov 11 2026. No macro, syntax, notation, axiom, sorry.
-/
import Derived.Test.YtkdlhhogbpjplaaDoorRows
import GoSem.ClaimSeven
namespace Go.Proofs.YtkdlhhogbpjplaaDoor
namespace Rows

/-- THE TIED CARD OF 'yardlaw3.CellsTell'. -/
def cellsTellCard : Claim7 := { stood := { row := cellsTellRow, standIns := [], harness := (true, "358c711eb67efa0bd106b26cb59b28af8f945cd6c84b46d2b7ed318a95b48151"), looks := true }, kinds := [], alts := [], laidByText := true, laidKinds := [.handle], laidTests := true, laidLooks := .later }
def CellsTellCardSaid : Prop := Claim7.holds Tryd.pinned (.plain (OpenSpec.ofChange cellsTellSpec)) cellsTellCard

/-- THE SECOND FORM's CARD OF 'yardlaw3.CellsTell'. -/
def cellsTellUptoCard : Claim7 := { stood := { row := cellsTellUptoRow, standIns := [], harness := (true, "358c711eb67efa0bd106b26cb59b28af8f945cd6c84b46d2b7ed318a95b48151"), looks := true }, kinds := [], alts := [], laidByText := true, laidKinds := [.handle], laidTests := true, laidLooks := .later }
def CellsTellUptoCardSaid : Prop := Claim7.holds Tryd.pinned (.plain (OpenSpec.upto cellsTellSpec)) cellsTellUptoCard
end Rows
end Go.Proofs.YtkdlhhogbpjplaaDoor
