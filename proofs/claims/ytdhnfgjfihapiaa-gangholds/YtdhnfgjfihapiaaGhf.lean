/- GangHolds, whatever it is called with. -/
import Derived.Test.YtdhnfgjfihapiaaGhe
import Derived.Test.YtdhnfgjfihapiaaTke
namespace Go.Proofs.Ytdhnfgjfihapiaa
open Go.RowKit Go.Deep

theorem checks_deeds {v : Value} {ts : List (Int × List Int)} {hands : Nat} (hc : CheckIs ts 0 0) (h1 : 1 ≤ hands) (h6 : hands ≤ 6) : ChecksDeeds ts hands v := fun wx dv ds hp hd hl he ht => by
  have e0 : deedsErr ds = 0 := (if_neg (by omega)).trans (firstE_none ds (fun j hj => he _ (by rw [List.getD_eq_getElem?_getD, List.getElem?_eq_getElem hj]; exact List.getElem_mem hj)))
  have e1 : toldErr ts hands ds = 0 := (if_pos e0).trans ht
  have := trCheck_in v dv ts hands ds wx hp hd hc h1 h6
  rwa [e1] at this
theorem gangHolds_any (v : Value) (ts : List (Int × List Int)) (hands room : Int) (sv : Value) (w : World) (hp : PlanAt w v ts) (hs : ∃ (sn : Nat) (sa : Option Addr) (sc : Nat), sv = .slice sa sn sc ∧ Steps w sa sn) :
    Calls Try.prog 3 #[v, .int .i64 hands, .int .i64 room, sv] w fun e w' => e = .returned (.bool true) ∧ Below w.heap.size w w' := by
  obtain ⟨sn, sa, sc, rfl, hs⟩ := hs
  by_cases hall : CheckIs ts 0 0 ∧ 1 ≤ hands ∧ hands ≤ 6 ∧ 1 ≤ room ∧ room ≤ 16
  · obtain ⟨hc, a1, a2, a3, a4⟩ := hall
    obtain ⟨h, rfl⟩ : ∃ h : Nat, hands = h := ⟨hands.toNat, by omega⟩
    obtain ⟨r, rfl⟩ : ∃ r : Nat, room = r := ⟨room.toNat, by omega⟩
    exact gangHolds_in v ts h r sn sa sc w hp hc (by omega) (by omega) (by omega) (by omega) hs (checks_deeds hc (by omega) (by omega))
  · exact gangHolds_no v ts hands room _ sn sa sc rfl w hp hall
end Go.Proofs.Ytdhnfgjfihapiaa
