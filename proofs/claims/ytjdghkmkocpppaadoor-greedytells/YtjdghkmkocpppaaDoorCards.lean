/-
  DERIVED. GIVEN WITH THE SEED: THE CARDS: each row of YtjdghkmkocpppaaDoorRows.lean that lists a variable, with what it lists TIED to the program's text (the seventh form; the later family's looks); each row that meets fmt, with fmt's text TOLD by the authors' own Lean function (tested against real Go, not proved from fmt's source: count such statements apart). THE CARD IS WHAT COUNTS. Prove the row's statement (the work); the ties are given (YtjdghkmkocpppaaDoorTie.lean); close each card by the builder's one call (the guide's Derived/Test/ToyasCard.lean, 'card_holds'). Laid BY PROGRAM, IN A SANDBOX (cutbox-door.mjs). By AI agents, Wed Nov 11 2026. No macro, syntax, notation, axiom, sorry.
-/
import Derived.Test.YtjdghkmkocpppaaDoorRows
import GoSem.ClaimSeven
namespace Go.Proofs.YtjdghkmkocpppaaDoor
namespace Rows

/-- THE TIED CARD OF 'yardlaw2.GreedyTells'. -/
def greedyTellsCard : Claim7 := { stood := { row := greedyTellsRow, standIns := [], harness := (true, "cf48695a50192363d2fa6dfd93af19a5eb9bf7774d5768f6221e6b7d4ad51453"), looks := true }, kinds := [], alts := [], laidByText := true, laidKinds := [.handle], laidTests := true, laidLooks := .later }
def GreedyTellsCardSaid : Prop := Claim7.holds Tryd.pinned (.plain (OpenSpec.ofChange greedyTellsSpec)) greedyTellsCard

/-- THE SECOND FORM's CARD OF 'yardlaw2.GreedyTells'. -/
def greedyTellsUptoCard : Claim7 := { stood := { row := greedyTellsUptoRow, standIns := [], harness := (true, "cf48695a50192363d2fa6dfd93af19a5eb9bf7774d5768f6221e6b7d4ad51453"), looks := true }, kinds := [], alts := [], laidByText := true, laidKinds := [.handle], laidTests := true, laidLooks := .later }
def GreedyTellsUptoCardSaid : Prop := Claim7.holds Tryd.pinned (.plain (OpenSpec.upto greedyTellsSpec)) greedyTellsUptoCard
end Rows
end Go.Proofs.YtjdghkmkocpppaaDoor
