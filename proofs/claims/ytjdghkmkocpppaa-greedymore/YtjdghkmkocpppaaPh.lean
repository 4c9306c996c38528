/- The walk of GreedyMore. -/
import Derived.Test.YtjdghkmkocpppaaPg
namespace Go.Proofs.Ytjdghkmkocpppaa
open Go.RowKit Go.Deep

theorem bound_fact {v : Value} {w : World} (hp : PlanAt w v (chainTs 2 3)) :
    Calls Try.prog 8 #[v, .int .i64 2] w fun e w' => e = .returned (.tuple #[.int .i64 6, .nilIface]) ∧ Below w.heap.size w w' := by
  refine (bound_any v _ 2 w hp).mono ?_
  rintro e w' ⟨hl, hb⟩
  have hck := chainW_check (work := 2) (by omega) (by omega) (n := 3) (by omega)
  rcases hl with ⟨p, q, hc', hq, _⟩ | ⟨_, _, _, ord, ho, rfl⟩
  · rw [(CheckIs.det hc' hck).2] at hq
    exact absurd rfl hq
  · have hd := (Ready.of hck ho).deep
    have hs := chainW_span (by omega) (by omega) hd
    have hwk := chainW_work (work := 2) (n := 3) 3 (by omega)
    rw [chainTs_length, hs, hwk]
    exact ⟨rfl, hb⟩
theorem bound_one {v : Value} {ts : List (Int × List Int)} {w : World} (hp : PlanAt w v ts) (hc : CheckIs ts 0 0) :
    Calls Try.prog 8 #[v, .int .i64 1] w fun e w' => e = .returned (.tuple #[.int .i64 (workTo ts ts.length), .nilIface]) ∧ Below w.heap.size w w' := by
  refine (bound_any v _ 1 w hp).mono ?_
  rintro e w' ⟨hl, hb⟩
  rcases hl with ⟨p, q, hc', hq, _⟩ | ⟨_, _, _, ord, ho, rfl⟩
  · rw [(CheckIs.det hc' hc).2] at hq
    exact absurd rfl hq
  · rw [show (1 : Int) - 1 = 0 by rfl, Int.zero_mul, Int.add_zero, Int.ediv_one]
    exact ⟨rfl, hb⟩
theorem work_is {v : Value} {ts : List (Int × List Int)} {w : World} (hp : PlanAt w v ts) (hc : CheckIs ts 0 0) :
    Calls Try.prog 9 #[v] w fun e w' => e = .returned (.tuple #[.int .i64 (workTo ts ts.length), .nilIface]) ∧ Below w.heap.size w w' := by
  refine (work_any v _ w hp).mono ?_
  rintro e w' ⟨hl, hb⟩
  rcases hl with ⟨p, q, hq, hc', _⟩ | ⟨_, rfl⟩
  · exact absurd (CheckIs.det hc' hc).2 hq
  · exact ⟨rfl, hb⟩

set_option maxRecDepth 100000 in
set_option maxHeartbeats 2000000 in
theorem greedyMore_any (v : Value) (ts : List (Int × List Int)) (w : World) (hp : PlanAt w v ts) : Calls Try.prog 4 #[v] w fun e w' => e = .returned (.bool true) ∧ Below w.heap.size w w' := by
  have HP : Hid (PlanAt w v ts) := hp
  obtain ⟨hl, a, c, rfl, hp⟩ := hp
  clear hp
  have hch : Calls Try.prog 7 #[.int .i64 3, .int .i64 2] w fun e w' => ∃ v, e = .returned v ∧ PlanAt w' v (chainTs 2 3) ∧ Below w.heap.size w w' := chain_plan 3 2 w (by omega)
  go_enter Try.func4, Try.ntmps4
  go_wp2_with fail
  refine hch.mono ?_
  clear hch
  rintro e w1 ⟨v, rfl, hp1, hb1⟩
  have hbo := bound_fact hp1
  obtain ⟨_, va, vc, rfl, _⟩ := hp1
  rw [chainTs_length] at hbo ⊢
  go_wp2_with fail
  refine hbo.mono ?_
  clear hbo
  rintro e w2 ⟨rfl, hb2⟩
  have hB2 : Below w.heap.size w w2 := hb1.trans (hb2.mono hb1.size)
  have hlo := long_any _ ts 1 w2 (HP.out.later hB2)
  clear hb1 hb2
  go_wp2_with fail
  refine hlo.mono ?_
  clear hlo
  rintro e w3 ⟨h, hb3⟩
  have hB3 : Below w.heap.size w w3 := hB2.trans (hb3.mono hB2.size)
  rcases h with ⟨p, q, hc, hq, rfl⟩ | ⟨hc, h1, h6, s, hs, rfl⟩
  · have hev := errV_some hq
    rw [hev]
    clear hev hc hq
    generalize gErr q 1 = g at *
    go_wp2
    go_ret
    exact ⟨rfl, hB3⟩
  · have hwk := work_is (HP.out.later hB3) hc
    obtain ⟨hw, hr, hno⟩ := hc.works
    have hsw : (s : Int) = workTo ts ts.length := Stops.alone hw hr hno hs
    rw [hsw]
    have HC : Hid (CheckIs ts 0 0) := hc
    clear hsw hs hc hb3 hno hw hr
    go_wp2_with fail
    refine hwk.mono ?_
    clear hwk
    rintro e w4 ⟨rfl, hb4⟩
    have hB4 : Below w.heap.size w w4 := hB3.trans (hb4.mono hB3.size)
    have hbo := bound_one (HP.out.later hB4) HC.out
    clear hb4
    go_wp2_with fail
    refine hbo.mono ?_
    clear hbo
    rintro e w5 ⟨rfl, hb5⟩
    have hB5 : Below w.heap.size w w5 := hB4.trans (hb5.mono hB4.size)
    clear hb5
    generalize workTo ts ts.length = wk at *
    go_wp2
    go_ret
    exact ⟨rfl, hB5⟩
end Go.Proofs.Ytjdghkmkocpppaa
