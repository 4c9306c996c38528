/-
  DERIVED. GIVEN WITH THE SEED: THE CARDS: each row of YtilpjhhjlokfcaaDoorRows.lean that lists a variable, with what it lists TIED to the program's text (the seventh form; the later family's looks); each row that meets fmt, with fmt's text TOLD by the authors' own Lean function (tested against real Go, not proved from fmt's source: count such statements apart). THE CARD IS WHAT COUNTS. Prove the row's statement (the work); the ties are given (YtilpjhhjlokfcaaDoorTie.lean); close each card by the builder's one call (the guide's Derived/Test/ToyasCard.lean, 'card_holds'). Laid BY PROGRAM, IN A SANDBOX (cutbox-door.mjs). By AI agents, Wed Nov 11 2026. No macro, syntax, notation, axiom, sorry.
-/
import Derived.Test.YtilpjhhjlokfcaaDoorRows
import GoSem.ClaimSeven
namespace Go.Proofs.YtilpjhhjlokfcaaDoor
namespace Rows

/-- THE TIED CARD OF 'yardlaw3.BenchTells'. -/
def benchTellsCard : Claim7 := { stood := { row := benchTellsRow, standIns := [], harness := (true, "260f6964ee1195116c44be74896c528ec638c824b2c2bf06fd0efbb0496d9da4"), looks := true }, kinds := [], alts := [], laidByText := true, laidKinds := [.handle], laidTests := true, laidLooks := .later }
def BenchTellsCardSaid : Prop := Claim7.holds Tryd.pinned (.plain (OpenSpec.ofChange benchTellsSpec)) benchTellsCard

/-- THE SECOND FORM's CARD OF 'yardlaw3.BenchTells'. -/
def benchTellsUptoCard : Claim7 := { stood := { row := benchTellsUptoRow, standIns := [], harness := (true, "260f6964ee1195116c44be74896c528ec638c824b2c2bf06fd0efbb0496d9da4"), looks := true }, kinds := [], alts := [], laidByText := true, laidKinds := [.handle], laidTests := true, laidLooks := .later }
def BenchTellsUptoCardSaid : Prop := Claim7.holds Tryd.pinned (.plain (OpenSpec.upto benchTellsSpec)) benchTellsUptoCard
end Rows
end Go.Proofs.YtilpjhhjlokfcaaDoor
