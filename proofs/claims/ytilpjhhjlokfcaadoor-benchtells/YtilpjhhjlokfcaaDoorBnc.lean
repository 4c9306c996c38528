/- The contract of bench.Speed. -/
import Derived.Test.YtilpjhhjlokfcaaDoorBnb
namespace Go.Proofs.YtilpjhhjlokfcaaDoor
open Go.RowKit Go.Deep

/-- How fast, of so many steps by one hand, and so many by all. -/
def speedZ (s1 s : Nat) : Int := if s = 0 then 100 else 100 * (s1 : Int) / (s : Int)
/-- What Speed tells. -/
def SpeedOut (ts : List (Int × List Int)) (hands : Int) (e : Ending) : Prop :=
  (∃ p q, CheckIs ts p q ∧ gErr q hands ≠ 0 ∧ e = .returned (.tuple #[.int .i64 0, errV (gErr q hands)])) ∨
  (CheckIs ts 0 0 ∧ 1 ≤ hands ∧ hands ≤ 6 ∧ ∃ s s1 : Nat, Stops ts hands.toNat s ∧ Stops ts 1 s1 ∧ e = .returned (.tuple #[.int .i64 (speedZ s1 s), .nilIface]))
theorem gErr_one : gErr 0 (1 : Int) = 0 := by
  unfold gErr
  rw [if_pos rfl, if_neg (by omega)]
set_option maxRecDepth 100000 in
set_option maxHeartbeats 2000000 in
theorem speed_any (v : Value) (ts : List (Int × List Int)) (hands : Int) (w : World) (hp : PlanAt w v ts) :
    Calls Tryd.prog 14 #[v, .int .i64 hands] w fun e w' => SpeedOut ts hands e ∧ Below w.heap.size w w' := by
  have HP : Hid (PlanAt w v ts) := hp
  have hlo := long_any v ts hands w hp
  obtain ⟨hl, a, c, rfl, hp⟩ := hp
  clear hp
  go_enter Tryd.func14, Tryd.ntmps14
  go_wp2_with fail
  refine hlo.mono ?_
  clear hlo
  rintro e w1 ⟨h, hb1⟩
  have HB1 : Hid (Below w.heap.size w w1) := hb1
  rcases h with ⟨p, q, hc, hq, rfl⟩ | ⟨hc, h1, h6, s, hs, rfl⟩
  · have HF : Hid (SpeedOut ts hands (.returned (.tuple #[.int .i64 0, errV (gErr q hands)]))) := Or.inl ⟨p, q, hc, hq, rfl⟩
    have hev := errV_some hq
    rw [hev] at HF ⊢
    clear hev hq hc
    generalize gErr q hands = g at *
    go_wp2
    go_ret2
    exact ⟨HF.out, HB1.out⟩
  · by_cases hz : s = 0
    · obtain ⟨s1, hs1⟩ := stops_exists hc.works.1 (h := 1) (by omega)
      have HF : Hid (SpeedOut ts hands (.returned (.tuple #[.int .i64 100, .nilIface]))) := Or.inr ⟨hc, h1, h6, s, s1, hs, hs1, by unfold speedZ; rw [if_pos hz]⟩
      subst hz
      clear hc hs hs1
      go_wp2
      go_ret2
      exact ⟨HF.out, HB1.out⟩
    · have hl1 : ∀ wx, Below w.heap.size w wx → Calls Tryd.prog 23 #[.slice a ts.length c, .int .i64 1] wx fun e w' => (∃ s1 : Nat, Stops ts 1 s1 ∧ s1 ≤ 600 ∧ e = .returned (.tuple #[.int .i64 s1, .nilIface])) ∧ Below wx.heap.size wx w' := fun wx hx => by
        refine (long_any _ ts 1 wx (HP.out.later hx)).mono ?_
        rintro e w' ⟨hl, hb⟩
        rcases hl with ⟨p, q, hc', hq, _⟩ | ⟨_, _, _, s', hs', rfl⟩
        · rw [(CheckIs.det hc' hc).2, gErr_one] at hq
          exact absurd rfl hq
        · exact ⟨⟨s', hs', hs'.le hc.works.1 (by decide), rfl⟩, hb⟩
      have hcall := hl1 w1 HB1.out
      have HF : Hid (∀ s1 : Nat, Stops ts 1 s1 → SpeedOut ts hands (.returned (.tuple #[.int .i64 (100 * (s1 : Int) / (s : Int)), .nilIface]))) := fun s1 hs1 => Or.inr ⟨hc, h1, h6, s, s1, hs, hs1, by unfold speedZ; rw [if_neg hz]⟩
      have hsl := hs.le hc.works.1 (by omega)
      have hne : (((s : Nat) : Int) == 0) = false := by rw [beq_eq_false_iff_ne]; omega
      clear hl1 hc hs
      go_wp2_with fail
      refine hcall.mono ?_
      clear hcall
      rintro e w2 ⟨⟨s1, hs1, h600, rfl⟩, hb2⟩
      have HS1 : Hid (Stops ts 1 s1) := hs1
      have hq0 : 0 ≤ 100 * (s1 : Int) / (s : Int) := Int.ediv_nonneg (by omega) (by omega)
      clear hs1
      go_wp2
      go_ret2
      exact ⟨HF.out s1 HS1.out, HB1.out.trans (hb2.mono HB1.out.size)⟩
end Go.Proofs.YtilpjhhjlokfcaaDoor
