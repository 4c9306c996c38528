/-
  DERIVED. GIVEN WITH THE SEED: THE CARDS: each row of YtlfbdjeojgbniaaGreatDoorRows.lean that lists a variable, with what it lists TIED to the program's text (the seventh form; the later family's looks); each row that meets fmt, with fmt's text TOLD by the authors' own Lean function (tested against real Go, not proved from fmt's source: count such statements apart). THE CARD IS WHAT COUNTS. Prove the row's statement (the work); the ties are given (YtlfbdjeojgbniaaGreatDoorTie.lean); close each card by the builder's one call (the guide's Derived/Test/ToyasCard.lean, 'card_holds'). Laid BY PROGRAM, IN A SANDBOX (cutbox-door.mjs). By AI agents, Wed Nov 11 2026. No macro, syntax, notation, axiom, sorry.
-/
import Derived.Test.YtlfbdjeojgbniaaGreatDoorRows
import GoSem.ClaimSeven
namespace Go.Proofs.YtlfbdjeojgbniaaGreatDoor
namespace Rows

/-- THE TIED CARD OF 'yardlaw3.RunAnswers'. -/
def runAnswersCard : Claim7 := { stood := { row := runAnswersRow, standIns := [], harness := (true, "0541f8728cdbd38dbba988e5ce5d1e0a80975dd6550aaf9e5e67e4259093daf2"), looks := true }, kinds := [], alts := [], laidByText := true, laidKinds := [.data, .data, .data, .data, .handle, .sentinel, .sentinel, .data, .sentinel, .pinned], laidTests := true, laidLooks := .later }
def RunAnswersCardSaid : Prop := Claim7.holds Tryz.pinned (.plain (OpenSpec.ofChange runAnswersSpec)) runAnswersCard

/-- THE TIED CARD OF 'yardlaw3.RunBegins'. -/
def runBeginsCard : Claim7 := { stood := { row := runBeginsRow, standIns := [], harness := (true, "0541f8728cdbd38dbba988e5ce5d1e0a80975dd6550aaf9e5e67e4259093daf2"), looks := true }, kinds := [], alts := [], laidByText := true, laidKinds := [.data, .data, .data, .data, .handle, .sentinel, .sentinel, .data, .sentinel, .pinned], laidTests := true, laidLooks := .later }
def RunBeginsCardSaid : Prop := Claim7.holds Tryz.pinned (.plain (OpenSpec.ofChange runBeginsSpec)) runBeginsCard

/-- THE TIED CARD OF 'yardlaw3.RunWorks'. -/
def runWorksCard : Claim7 := { stood := { row := runWorksRow, standIns := [], harness := (true, "0541f8728cdbd38dbba988e5ce5d1e0a80975dd6550aaf9e5e67e4259093daf2"), looks := true }, kinds := [], alts := [], laidByText := true, laidKinds := [.data, .data, .data, .data, .handle, .sentinel, .sentinel, .data, .sentinel, .pinned], laidTests := true, laidLooks := .later }
def RunWorksCardSaid : Prop := Claim7.holds Tryz.pinned (.plain (OpenSpec.ofChange runWorksSpec)) runWorksCard

/-- THE SECOND FORM's CARD OF 'yardlaw3.RunAnswers'. -/
def runAnswersUptoCard : Claim7 := { stood := { row := runAnswersUptoRow, standIns := [], harness := (true, "0541f8728cdbd38dbba988e5ce5d1e0a80975dd6550aaf9e5e67e4259093daf2"), looks := true }, kinds := [], alts := [], laidByText := true, laidKinds := [.data, .data, .data, .data, .handle, .sentinel, .sentinel, .data, .sentinel, .pinned], laidTests := true, laidLooks := .later }
def RunAnswersUptoCardSaid : Prop := Claim7.holds Tryz.pinned (.plain (OpenSpec.upto runAnswersSpec)) runAnswersUptoCard

/-- THE SECOND FORM's CARD OF 'yardlaw3.RunBegins'. -/
def runBeginsUptoCard : Claim7 := { stood := { row := runBeginsUptoRow, standIns := [], harness := (true, "0541f8728cdbd38dbba988e5ce5d1e0a80975dd6550aaf9e5e67e4259093daf2"), looks := true }, kinds := [], alts := [], laidByText := true, laidKinds := [.data, .data, .data, .data, .handle, .sentinel, .sentinel, .data, .sentinel, .pinned], laidTests := true, laidLooks := .later }
def RunBeginsUptoCardSaid : Prop := Claim7.holds Tryz.pinned (.plain (OpenSpec.upto runBeginsSpec)) runBeginsUptoCard

/-- THE SECOND FORM's CARD OF 'yardlaw3.RunWorks'. -/
def runWorksUptoCard : Claim7 := { stood := { row := runWorksUptoRow, standIns := [], harness := (true, "0541f8728cdbd38dbba988e5ce5d1e0a80975dd6550aaf9e5e67e4259093daf2"), looks := true }, kinds := [], alts := [], laidByText := true, laidKinds := [.data, .data, .data, .data, .handle, .sentinel, .sentinel, .data, .sentinel, .pinned], laidTests := true, laidLooks := .later }
def RunWorksUptoCardSaid : Prop := Claim7.holds Tryz.pinned (.plain (OpenSpec.upto runWorksSpec)) runWorksUptoCard
end Rows
end Go.Proofs.YtlfbdjeojgbniaaGreatDoor
