/-
  DERIVED. GIVEN WITH THE SEED: THE CARDS: each row of YtajmnnjafhanaaaDoorRows.lean that lists a variable, with what it lists TIED to the program's text (the seventh form; the later family's looks); each row that meets fmt, with fmt's text TOLD by the authors' own Lean function (tested against real Go, not proved from fmt's source: count such statements apart). THE CARD IS WHAT COUNTS. Prove the row's statement (the work); the ties are given (YtajmnnjafhanaaaDoorTie.lean); close each card by the builder's one call (the guide's Derived/Test/ToyasCard.lean, 'card_holds'). Laid BY PROGRAM, IN A SANDBOX (cutbox-door.mjs). By AI agents, Wed Nov 11 2026. No macro, syntax, notation, axiom, sorry.
-/
import Derived.Test.YtajmnnjafhanaaaDoorRows
import GoSem.ClaimSeven
namespace Go.Proofs.YtajmnnjafhanaaaDoor
namespace Rows

/-- THE TIED CARD OF 'yardlaw3.YardTells'. -/
def yardTellsCard : Claim7 := { stood := { row := yardTellsRow, standIns := [], harness := (true, "1e837454d2b366db9a501514aec01fb107e08fd7fb65829cf55b94e42a3cb659"), looks := true }, kinds := [], alts := [], laidByText := true, laidKinds := [.handle], laidTests := true, laidLooks := .later }
def YardTellsCardSaid : Prop := Claim7.holds Tryd.pinned (.plain (OpenSpec.ofChange yardTellsSpec)) yardTellsCard

/-- THE SECOND FORM's CARD OF 'yardlaw3.YardTells'. -/
def yardTellsUptoCard : Claim7 := { stood := { row := yardTellsUptoRow, standIns := [], harness := (true, "1e837454d2b366db9a501514aec01fb107e08fd7fb65829cf55b94e42a3cb659"), looks := true }, kinds := [], alts := [], laidByText := true, laidKinds := [.handle], laidTests := true, laidLooks := .later }
def YardTellsUptoCardSaid : Prop := Claim7.holds Tryd.pinned (.plain (OpenSpec.upto yardTellsSpec)) yardTellsUptoCard
end Rows
end Go.Proofs.YtajmnnjafhanaaaDoor
