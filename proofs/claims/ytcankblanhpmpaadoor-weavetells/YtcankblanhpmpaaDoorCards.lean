/-
  DERIVED. GIVEN WITH THE SEED: THE CARDS: each row of YtcankblanhpmpaaDoorRows.lean that lists a variable, with what it lists TIED to the program's text (the seventh form; the later family's looks); each row that meets fmt, with fmt's text TOLD by the authors' own Lean function (tested against real Go, not proved from fmt's source: count such statements apart). THE CARD IS WHAT COUNTS. Prove the row's statement (the work); the ties are given (YtcankblanhpmpaaDoorTie.lean); close each card by the builder's one call (the guide's Derived/Test/ToyasCard.lean, 'card_holds'). Laid BY PROGRAM, IN A SANDBOX (cutbox-door.mjs). By AI agents, Wed Nov 11 2026. No macro, syntax, notation, axiom, sorry.
-/
import Derived.Test.YtcankblanhpmpaaDoorRows
import GoSem.ClaimSeven
namespace Go.Proofs.YtcankblanhpmpaaDoor
namespace Rows

/-- THE TIED CARD OF 'yardlaw1.WeaveTells'. -/
def weaveTellsCard : Claim7 := { stood := { row := weaveTellsRow, standIns := [], harness := (true, "14ff8ab2d6b0e634f7ea4f366d8be857f19a79f0a758c4685dc6464fb027a1a0"), looks := true }, kinds := [], alts := [], laidByText := true, laidKinds := [.handle], laidTests := true, laidLooks := .later }
def WeaveTellsCardSaid : Prop := Claim7.holds Tryd.pinned (.plain (OpenSpec.ofChange weaveTellsSpec)) weaveTellsCard

/-- THE TIED CARD OF 'yardlaw1.WeaveCounts'. -/
def weaveCountsCard : Claim7 := { stood := { row := weaveCountsRow, standIns := [], harness := (true, "14ff8ab2d6b0e634f7ea4f366d8be857f19a79f0a758c4685dc6464fb027a1a0"), looks := true }, kinds := [], alts := [], laidByText := true, laidKinds := [.handle], laidTests := true, laidLooks := .later }
def WeaveCountsCardSaid : Prop := Claim7.holds Tryd.pinned (.plain (OpenSpec.ofChange weaveCountsSpec)) weaveCountsCard

/-- THE TIED CARD OF 'yardlaw4.WeaveDeep'. -/
def weaveDeepCard : Claim7 := { stood := { row := weaveDeepRow, standIns := [], harness := (true, "14ff8ab2d6b0e634f7ea4f366d8be857f19a79f0a758c4685dc6464fb027a1a0"), looks := true }, kinds := [], alts := [], laidByText := true, laidKinds := [.handle], laidTests := true, laidLooks := .later }
def WeaveDeepCardSaid : Prop := Claim7.holds Tryd.pinned (.plain (OpenSpec.ofChange weaveDeepSpec)) weaveDeepCard

/-- THE SECOND FORM's CARD OF 'yardlaw1.WeaveTells'. -/
def weaveTellsUptoCard : Claim7 := { stood := { row := weaveTellsUptoRow, standIns := [], harness := (true, "14ff8ab2d6b0e634f7ea4f366d8be857f19a79f0a758c4685dc6464fb027a1a0"), looks := true }, kinds := [], alts := [], laidByText := true, laidKinds := [.handle], laidTests := true, laidLooks := .later }
def WeaveTellsUptoCardSaid : Prop := Claim7.holds Tryd.pinned (.plain (OpenSpec.upto weaveTellsSpec)) weaveTellsUptoCard

/-- THE SECOND FORM's CARD OF 'yardlaw1.WeaveCounts'. -/
def weaveCountsUptoCard : Claim7 := { stood := { row := weaveCountsUptoRow, standIns := [], harness := (true, "14ff8ab2d6b0e634f7ea4f366d8be857f19a79f0a758c4685dc6464fb027a1a0"), looks := true }, kinds := [], alts := [], laidByText := true, laidKinds := [.handle], laidTests := true, laidLooks := .later }
def WeaveCountsUptoCardSaid : Prop := Claim7.holds Tryd.pinned (.plain (OpenSpec.upto weaveCountsSpec)) weaveCountsUptoCard

/-- THE SECOND FORM's CARD OF 'yardlaw4.WeaveDeep'. -/
def weaveDeepUptoCard : Claim7 := { stood := { row := weaveDeepUptoRow, standIns := [], harness := (true, "14ff8ab2d6b0e634f7ea4f366d8be857f19a79f0a758c4685dc6464fb027a1a0"), looks := true }, kinds := [], alts := [], laidByText := true, laidKinds := [.handle], laidTests := true, laidLooks := .later }
def WeaveDeepUptoCardSaid : Prop := Claim7.holds Tryd.pinned (.plain (OpenSpec.upto weaveDeepSpec)) weaveDeepUptoCard
end Rows
end Go.Proofs.YtcankblanhpmpaaDoor
