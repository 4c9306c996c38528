/-
  DERIVED. GIVEN WITH THE SEED: THE CARDS: each row of YtjomcnalmhgljaaDoorRows.lean that lists a variable, with what it lists TIED to the program's text (the seventh form; the later family's looks); each row that meets fmt, with fmt's text TOLD by the authors' own Lean function (tested against real Go, not proved from fmt's source: count such statements apart). THE CARD IS WHAT COUNTS. Prove the row's statement (the work); the ties are given (YtjomcnalmhgljaaDoorTie.lean); close each card by the builder's one call (the guide's Derived/Test/ToyasCard.lean, 'card_holds'). Laid BY PROGRAM, IN A SANDBOX (cutbox-door.mjs). By AI agents, Wed Nov 11 2026. No macro, syntax, notation, axiom, sorry.
-/
import Derived.Test.YtjomcnalmhgljaaDoorRows
import GoSem.ClaimSeven
namespace Go.Proofs.YtjomcnalmhgljaaDoor
namespace Rows

/-- THE TIED CARD OF 'yardlaw4.PicksNone'. -/
def picksNoneCard : Claim7 := { stood := { row := picksNoneRow, standIns := [], harness := (true, "7f1334a5f73cde67320b1673e755508261bff399b573656990b0d8ddb00afa43"), looks := true }, kinds := [], alts := [], laidByText := true, laidKinds := [.handle], laidTests := true, laidLooks := .later }
def PicksNoneCardSaid : Prop := Claim7.holds Tryd.pinned (.plain (OpenSpec.ofChange picksNoneSpec)) picksNoneCard

/-- THE TIED CARD OF 'yardlaw1.PicksPlay'. -/
def picksPlayCard : Claim7 := { stood := { row := picksPlayRow, standIns := [], harness := (true, "7f1334a5f73cde67320b1673e755508261bff399b573656990b0d8ddb00afa43"), looks := true }, kinds := [], alts := [], laidByText := true, laidKinds := [.handle], laidTests := true, laidLooks := .later }
def PicksPlayCardSaid : Prop := Claim7.holds Tryd.pinned (.plain (OpenSpec.ofChange picksPlaySpec)) picksPlayCard

/-- THE SECOND FORM's CARD OF 'yardlaw4.PicksNone'. -/
def picksNoneUptoCard : Claim7 := { stood := { row := picksNoneUptoRow, standIns := [], harness := (true, "7f1334a5f73cde67320b1673e755508261bff399b573656990b0d8ddb00afa43"), looks := true }, kinds := [], alts := [], laidByText := true, laidKinds := [.handle], laidTests := true, laidLooks := .later }
def PicksNoneUptoCardSaid : Prop := Claim7.holds Tryd.pinned (.plain (OpenSpec.upto picksNoneSpec)) picksNoneUptoCard

/-- THE SECOND FORM's CARD OF 'yardlaw1.PicksPlay'. -/
def picksPlayUptoCard : Claim7 := { stood := { row := picksPlayUptoRow, standIns := [], harness := (true, "7f1334a5f73cde67320b1673e755508261bff399b573656990b0d8ddb00afa43"), looks := true }, kinds := [], alts := [], laidByText := true, laidKinds := [.handle], laidTests := true, laidLooks := .later }
def PicksPlayUptoCardSaid : Prop := Claim7.holds Tryd.pinned (.plain (OpenSpec.upto picksPlaySpec)) picksPlayUptoCard
end Rows
end Go.Proofs.YtjomcnalmhgljaaDoor
