/- The walk of GreedyBeside. -/
import Derived.Test.YtjdghkmkocpppaaPe
import Derived.Test.YtjdghkmkocpppaaPf
namespace Go.Proofs.Ytjdghkmkocpppaa
open Go.RowKit Go.Deep

theorem chain_plan (n : Nat) (work : Int) (w : World) (hn : n ≤ 30) :
    Calls Try.prog 7 #[.int .i64 n, .int .i64 work] w fun e w' => ∃ v, e = .returned v ∧ PlanAt w' v (chainTs work n) ∧ Below w.heap.size w w' := by
  refine (chain_any n work w (by omega)).mono ?_
  rintro e w' ⟨v, rfl, ho, hb⟩
  refine ⟨v, rfl, ho.planAt (by rw [chainTs_length]; omega) (fun j hj => ?_), hb⟩
  rw [chainTs_length] at hj
  rw [chain_needs _ _ _ hj]
  split <;> simp
theorem beside_plan (n : Nat) (work : Int) (w : World) (hn : n ≤ 30) :
    Calls Try.prog 6 #[.int .i64 n, .int .i64 work] w fun e w' => ∃ v, e = .returned v ∧ PlanAt w' v (besideTs work n) ∧ Below w.heap.size w w' := by
  refine (beside_any n work w (by omega)).mono ?_
  rintro e w' ⟨v, rfl, ho, hb⟩
  exact ⟨v, rfl, ho.planAt (by rw [besideTs_length]; omega) (fun j _ => by rw [beside_needs]; simp), hb⟩

theorem gErr_none {h : Nat} (h1 : 1 ≤ h) (h6 : h ≤ 6) : gErr 0 (h : Int) = 0 := by
  unfold gErr
  rw [if_pos rfl, if_neg (by omega)]
/-- Where it is known when it ends. -/
theorem long_is {v : Value} {ts : List (Int × List Int)} {h s : Nat} {w : World} (hp : PlanAt w v ts) (hc : CheckIs ts 0 0) (h1 : 1 ≤ h) (h6 : h ≤ 6) (hs : Stops ts h s) :
    Calls Try.prog 5 #[v, .int .i64 h] w fun e w' => e = .returned (.tuple #[.int .i64 s, .nilIface]) ∧ Below w.heap.size w w' := by
  refine (long_any v ts h w hp).mono ?_
  rintro e w' ⟨hl, hb⟩
  rcases hl with ⟨p, q, hc', hq, _⟩ | ⟨_, _, _, s', hs', rfl⟩
  · rw [(CheckIs.det hc' hc).2, gErr_none h1 h6] at hq
    exact absurd rfl hq
  · rw [Int.toNat_natCast] at hs'
    rw [hs'.det hs]
    exact ⟨rfl, hb⟩

set_option maxRecDepth 100000 in
set_option maxHeartbeats 2000000 in
theorem greedyBeside_in (n h : Nat) (w : World) (hn1 : 1 ≤ n) (hn30 : n ≤ 30) (h1 : 1 ≤ h) (h6 : h ≤ 6) : Calls Try.prog 3 #[.int .i64 n, .int .i64 h] w fun e w' => e = .returned (.bool true) ∧ Below w.heap.size w w' := by
  have hbs := beside_plan n 1 w hn30
  have e1 : ¬ (n : Int) < 1 := by omega
  have e2 : ¬ (30 : Int) < (n : Int) := by omega
  have e3 : ¬ (h : Int) < 1 := by omega
  have e4 : ¬ (6 : Int) < (h : Int) := by omega
  go_enter Try.func3, Try.ntmps3
  go_wp2_with fail
  refine hbs.mono ?_
  clear hbs
  rintro e w1 ⟨v, rfl, hp, hb1⟩
  have hlo := long_is hp (beside_check (by omega) (by omega) hn30) h1 h6 (ceil_stops h1 h6)
  obtain ⟨_, va, vc, rfl, _⟩ := hp
  rw [besideTs_length] at hlo ⊢
  have hce : (((n + h - 1) / h : Nat) : Int) = ((n : Int) + (h : Int) - 1) / (h : Int) := by rw [Int.natCast_ediv, Int.natCast_sub (by omega)]; rfl
  rw [hce] at hlo
  have hq0 : 0 ≤ ((n : Int) + (h : Int) - 1) / (h : Int) := Int.ediv_nonneg (by omega) (by omega)
  clear hce
  go_wp2_with fail
  refine hlo.mono ?_
  clear hlo
  rintro e w2 ⟨rfl, hb2⟩
  have hch := chain_plan n 1 w2 hn30
  go_wp2_with fail
  refine hch.mono ?_
  clear hch
  rintro e w3 ⟨v, rfl, hp, hb3⟩
  have hlo := long_is hp (chainW_check (by omega) (by omega) hn30) h1 h6 (chain_stops h1)
  obtain ⟨_, va, vc, rfl, _⟩ := hp
  rw [chainTs_length] at hlo ⊢
  go_wp2_with fail
  refine hlo.mono ?_
  clear hlo
  rintro e w4 ⟨rfl, hb4⟩
  have hB : Below w.heap.size w w4 := ((hb1.trans (hb2.mono hb1.size)).trans (hb3.mono (Nat.le_trans hb1.size hb2.size))).trans (hb4.mono (Nat.le_trans (Nat.le_trans hb1.size hb2.size) hb3.size))
  clear hb1 hb2 hb3 hb4
  go_wp2
  go_ret
  exact ⟨rfl, hB⟩

theorem greedyBeside_any (n h : Int) (w : World) : Calls Try.prog 3 #[.int .i64 n, .int .i64 h] w fun e w' => e = .returned (.bool true) ∧ Below w.heap.size w w' := by
  by_cases h1 : n < 1
  · go_enter Try.func3, Try.ntmps3
    go_wp2
    go_ret
    exact ⟨rfl, Below.refl _ _⟩
  by_cases h2 : 30 < n
  · go_enter Try.func3, Try.ntmps3
    go_wp2
    go_ret
    exact ⟨rfl, Below.refl _ _⟩
  by_cases h3 : h < 1
  · go_enter Try.func3, Try.ntmps3
    go_wp2
    go_ret
    exact ⟨rfl, Below.refl _ _⟩
  by_cases h4 : 6 < h
  · go_enter Try.func3, Try.ntmps3
    go_wp2
    go_ret
    exact ⟨rfl, Below.refl _ _⟩
  obtain ⟨m, rfl⟩ : ∃ m : Nat, n = m := ⟨n.toNat, by omega⟩
  obtain ⟨k, rfl⟩ : ∃ k : Nat, h = k := ⟨h.toNat, by omega⟩
  exact greedyBeside_in m k w (by omega) (by omega) (by omega) (by omega)
end Go.Proofs.Ytjdghkmkocpppaa
