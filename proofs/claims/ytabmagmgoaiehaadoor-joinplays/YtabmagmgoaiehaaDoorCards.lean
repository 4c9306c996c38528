/-
  DERIVED. GIVEN WITH THE SEED: THE CARDS: each row of YtabmagmgoaiehaaDoorRows.lean that lists a variable, with what it lists TIED to the program's text (the seventh form; the later family's looks); each row that meets fmt, with fmt's text TOLD by the authors' own Lean function (tested against real Go, not proved from fmt's source: count such statements apart). THE CARD IS WHAT COUNTS. Prove the row's statement (the work); the ties are given (YtabmagmgoaiehaaDoorTie.lean); close each card by the builder's one call (the guide's Derived/Test/ToyasCard.lean, 'card_holds'). Laid BY PROGRAM, IN A SANDBOX (cutbox-door.mjs). By AI agents, Wed Nov 11 2026. No macro, syntax, notation, axiom, sorry.
-/
import Derived.Test.YtabmagmgoaiehaaDoorRows
import GoSem.ClaimSeven
namespace Go.Proofs.YtabmagmgoaiehaaDoor
namespace Rows

/-- THE TIED CARD OF 'yardlaw1.JoinPlays'. -/
def joinPlaysCard : Claim7 := { stood := { row := joinPlaysRow, standIns := [], harness := (true, "430dfc5aced26354a08aee6b50290cdb13bf57a033c32ce8a28d6749642b6228"), looks := true }, kinds := [], alts := [], laidByText := true, laidKinds := [.handle], laidTests := true, laidLooks := .later }
def JoinPlaysCardSaid : Prop := Claim7.holds Tryd.pinned (.plain (OpenSpec.ofChange joinPlaysSpec)) joinPlaysCard

/-- THE SECOND FORM's CARD OF 'yardlaw1.JoinPlays'. -/
def joinPlaysUptoCard : Claim7 := { stood := { row := joinPlaysUptoRow, standIns := [], harness := (true, "430dfc5aced26354a08aee6b50290cdb13bf57a033c32ce8a28d6749642b6228"), looks := true }, kinds := [], alts := [], laidByText := true, laidKinds := [.handle], laidTests := true, laidLooks := .later }
def JoinPlaysUptoCardSaid : Prop := Claim7.holds Tryd.pinned (.plain (OpenSpec.upto joinPlaysSpec)) joinPlaysUptoCard
end Rows
end Go.Proofs.YtabmagmgoaiehaaDoor
