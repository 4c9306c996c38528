/- The walk of DepthChain. -/
import Derived.Test.YtbelmepjehcegaaDu
import Derived.Test.YtbelmepjehcegaaDs
import Derived.Test.YtbelmepjehcegaaDo
namespace Go.Proofs.Ytbelmepjehcegaa
open Go.RowKit Go.Deep

theorem chain_plan (n : Nat) (work : Int) (w : World) (hn : n ≤ 30) :
    Calls Try.prog 5 #[.int .i64 n, .int .i64 work] w fun e w' => ∃ v, e = .returned v ∧ PlanAt w' v (chainTs work n) ∧ Below w.heap.size w w' := by
  refine (chain_any n work w (by omega)).mono ?_
  rintro e w' ⟨v, rfl, ho, hb⟩
  refine ⟨v, rfl, ho.planAt (by rw [chainTs_length]; omega) (fun j hj => ?_), hb⟩
  rw [chainTs_length] at hj
  rw [chain_needs _ _ _ hj]
  split <;> simp
theorem beside_plan (n : Nat) (work : Int) (w : World) (hn : n ≤ 30) :
    Calls Try.prog 6 #[.int .i64 n, .int .i64 work] w fun e w' => ∃ v, e = .returned v ∧ PlanAt w' v (besideTs work n) ∧ Below w.heap.size w w' := by
  refine (beside_any n work w (by omega)).mono ?_
  rintro e w' ⟨v, rfl, ho, hb⟩
  exact ⟨v, rfl, ho.planAt (by rw [besideTs_length]; omega) (fun j _ => by rw [beside_needs]; simp), hb⟩
theorem span_chain {n : Nat} {work : Int} (v : Value) (w : World) (hp : PlanAt w v (chainTs work n)) (h1 : 1 ≤ work) (h2 : work ≤ 20) (hn : 1 ≤ n) (hn2 : n ≤ 30) :
    Calls Try.prog 4 #[v] w fun e w' => e = .returned (.tuple #[.int .i64 (n * work), .nilIface]) ∧ Below w.heap.size w w' := by
  refine (span_any v _ w hp).mono ?_
  rintro e w' ⟨h, hb⟩
  refine ⟨?_, hb⟩
  have hc := chainW_check h1 h2 hn2
  rcases h with ⟨p, q, hq, hc', _⟩ | ⟨_, ord, ho, rfl⟩
  · exact absurd (hc.det hc').2.symm hq
  · have := chainW_span h1 hn (Ready.of hc ho).deep
    rw [chainTs_length, this]
theorem span_beside {n : Nat} {work : Int} (v : Value) (w : World) (hp : PlanAt w v (besideTs work n)) (h1 : 1 ≤ work) (h2 : work ≤ 20) (hn : 1 ≤ n) (hn2 : n ≤ 30) :
    Calls Try.prog 4 #[v] w fun e w' => e = .returned (.tuple #[.int .i64 work, .nilIface]) ∧ Below w.heap.size w w' := by
  refine (span_any v _ w hp).mono ?_
  rintro e w' ⟨h, hb⟩
  refine ⟨?_, hb⟩
  have hc := beside_check h1 h2 hn2
  rcases h with ⟨p, q, hq, hc', _⟩ | ⟨_, ord, ho, rfl⟩
  · exact absurd (hc.det hc').2.symm hq
  · have := beside_span h1 hn (Ready.of hc ho).deep
    rw [besideTs_length, this]
theorem work_chain {n : Nat} {work : Int} (v : Value) (w : World) (hp : PlanAt w v (chainTs work n)) (h1 : 1 ≤ work) (h2 : work ≤ 20) (hn2 : n ≤ 30) :
    Calls Try.prog 7 #[v] w fun e w' => e = .returned (.tuple #[.int .i64 (n * work), .nilIface]) ∧ Below w.heap.size w w' := by
  refine (work_any v _ w hp).mono ?_
  rintro e w' ⟨h, hb⟩
  refine ⟨?_, hb⟩
  have hc := chainW_check h1 h2 hn2
  rcases h with ⟨p, q, hq, hc', _⟩ | ⟨_, rfl⟩
  · exact absurd (hc.det hc').2.symm hq
  · rw [chainTs_length, chainW_work _ (Nat.le_refl _)]
theorem longest_chain {n : Nat} {work : Int} (v : Value) (w : World) (hp : PlanAt w v (chainTs work n)) (h1 : 1 ≤ work) (h2 : work ≤ 20) (hn : 1 ≤ n) (hn2 : n ≤ 30) :
    Calls Try.prog 8 #[v] w fun e w' => (∃ a c, e = .returned (.tuple #[.slice a n c, .nilIface])) ∧ Below w.heap.size w w' := by
  refine (longest_any v _ w hp).mono ?_
  rintro e w' ⟨h, hb⟩
  refine ⟨?_, hb⟩
  have hc := chainW_check h1 h2 hn2
  rcases h with ⟨p, q, hq, hc', _⟩ | ⟨_, ord, way, wv, ho, hw, rfl, _, hi⟩
  · exact absurd (hc.det hc').2.symm hq
  · have := chainW_way h1 hn (Ready.of hc ho).deep hw
    obtain ⟨_, a, c, rfl, _⟩ := hi
    rw [intsOf_length, this]
    exact ⟨a, c, rfl⟩
theorem reaches_chain {n : Nat} {work : Int} (v : Value) (w : World) (hp : PlanAt w v (chainTs work n)) (h1 : 1 ≤ work) (h2 : work ≤ 20) (hn : 1 ≤ n) (hn2 : n ≤ 30) :
    Calls Try.prog 9 #[v, .int .i64 0, .int .i64 ((n : Int) - 1)] w fun e w' => e = .returned (.tuple #[.bool (decide (1 < n)), .nilIface]) ∧ Below w.heap.size w w' := by
  refine (reaches_any v _ 0 ((n : Int) - 1) w hp).mono ?_
  rintro e w' ⟨h, hb⟩
  refine ⟨?_, hb⟩
  have hc := chainW_check h1 h2 hn2
  rcases h with ⟨p, q, hq, hc', _⟩ | ⟨_, hout, _⟩ | ⟨_, x, y, hx, hy, hxl, hyl, b, rfl, hb⟩
  · exact absurd (hc.det hc').2.symm hq
  · rw [chainTs_length] at hout; omega
  · have hx0 : x = 0 := by omega
    subst hx0
    rw [chainTs_length] at hyl
    have : b = decide (1 < n) := by
      by_cases e : 1 < n
      · rw [hb.2 (chainW_reaches y hyl (by omega))]; simp [e]
      · have : ¬ b = true := fun h => by have := chainW_reach (hb.1 h); omega
        simp [e]; simpa using this
    rw [this]

set_option maxRecDepth 100000 in
set_option maxHeartbeats 4000000 in
theorem depthChain_in (n : Nat) (work : Int) (w : World) (hn : 1 ≤ n) (hn2 : n ≤ 30) (h1 : 1 ≤ work) (h2 : work ≤ 20) :
    Calls Try.prog 3 #[.int .i64 n, .int .i64 work] w fun e w' => e = .returned (.bool true) ∧ Below w.heap.size w w' := by
  have g1 : ¬ (n : Int) < 1 := by omega
  have g2 : ¬ (30 : Int) < (n : Int) := by omega
  have g3 : ¬ work < 1 := by omega
  have g4 : ¬ 20 < work := by omega
  have hm0 : 0 ≤ (n : Int) * work := Int.mul_nonneg (by omega) (by omega)
  have hm1 : (n : Int) * work ≤ 600 := by
    have a := Int.mul_le_mul_of_nonneg_right (show (n : Int) ≤ 30 by omega) (show 0 ≤ work by omega)
    omega
  go_enter Try.func3, Try.ntmps3
  go_wp2_with fail
  refine (chain_plan n work w hn2).mono ?_
  rintro e w1 ⟨v1, rfl, hp1, hb1⟩
  go_wp2_with fail
  refine (span_chain v1 w1 hp1 h1 h2 hn hn2).mono ?_
  rintro e w2 ⟨rfl, hb2⟩
  have hB2 : Below w.heap.size w w2 := hb1.trans (hb2.mono hb1.size)
  clear hp1 hb1 hb2
  go_wp2_with fail
  refine (beside_plan n work w2 hn2).mono ?_
  rintro e w3 ⟨v3, rfl, hp3, hb3⟩
  go_wp2_with fail
  refine (span_beside v3 w3 hp3 h1 h2 hn hn2).mono ?_
  rintro e w4 ⟨rfl, hb4⟩
  have hB4 : Below w.heap.size w w4 := (hB2.trans (hb3.mono hB2.size)).trans (hb4.mono (Nat.le_trans hB2.size hb3.size))
  clear hp3 hb3 hb4 hB2
  go_wp2_with fail
  refine (chain_plan n work w4 hn2).mono ?_
  rintro e w5 ⟨v5, rfl, hp5, hb5⟩
  go_wp2_with fail
  refine (work_chain v5 w5 hp5 h1 h2 hn2).mono ?_
  rintro e w6 ⟨rfl, hb6⟩
  have hB6 : Below w.heap.size w w6 := (hB4.trans (hb5.mono hB4.size)).trans (hb6.mono (Nat.le_trans hB4.size hb5.size))
  clear hp5 hb5 hb6 hB4
  go_wp2_with fail
  refine (chain_plan n work w6 hn2).mono ?_
  rintro e w7 ⟨v7, rfl, hp7, hb7⟩
  go_wp2_with fail
  refine (longest_chain v7 w7 hp7 h1 h2 hn hn2).mono ?_
  rintro e w8 ⟨⟨la, lc, rfl⟩, hb8⟩
  have hB8 : Below w.heap.size w w8 := (hB6.trans (hb7.mono hB6.size)).trans (hb8.mono (Nat.le_trans hB6.size hb7.size))
  clear hp7 hb7 hb8 hB6
  go_wp2_with fail
  refine (chain_plan n work w8 hn2).mono ?_
  rintro e w9 ⟨v9, rfl, hp9, hb9⟩
  go_wp2_with fail
  refine (reaches_chain v9 w9 hp9 h1 h2 hn hn2).mono ?_
  rintro e w10 ⟨rfl, hb10⟩
  have hB10 : Below w.heap.size w w10 := (hB8.trans (hb9.mono hB8.size)).trans (hb10.mono (Nat.le_trans hB8.size hb9.size))
  clear hp9 hb9 hb10 hB8
  have hd : (decide (1 < n) == decide (1 < (n : Int))) = true := by simp; omega
  have hwr : wrap64 ((n : Int) * work) = (n : Int) * work := by unfold wrap64; omega
  go_wp2
  go_ret
  exact ⟨by simp, hB10⟩

theorem depthChain_out (n work : Int) (w : World) (h : n < 1 ∨ 30 < n ∨ work < 1 ∨ 20 < work) :
    Calls Try.prog 3 #[.int .i64 n, .int .i64 work] w fun e w' => e = .returned (.bool true) ∧ Below w.heap.size w w' := by
  by_cases g1 : n < 1
  · go_enter Try.func3, Try.ntmps3
    go_wp2
    go_ret
    exact ⟨rfl, Below.refl _ _⟩
  by_cases g2 : 30 < n
  · go_enter Try.func3, Try.ntmps3
    go_wp2
    go_ret
    exact ⟨rfl, Below.refl _ _⟩
  by_cases g3 : work < 1
  · go_enter Try.func3, Try.ntmps3
    go_wp2
    go_ret
    exact ⟨rfl, Below.refl _ _⟩
  have g4 : 20 < work := by omega
  go_enter Try.func3, Try.ntmps3
  go_wp2
  go_ret
  exact ⟨rfl, Below.refl _ _⟩

theorem depthChain_any (n work : Int) (w : World) : Calls Try.prog 3 #[.int .i64 n, .int .i64 work] w fun e w' => e = .returned (.bool true) ∧ Below w.heap.size w w' := by
  by_cases h : n < 1 ∨ 30 < n ∨ work < 1 ∨ 20 < work
  · exact depthChain_out n work w h
  · obtain ⟨k, rfl⟩ := Int.eq_ofNat_of_zero_le (show 0 ≤ n by omega)
    exact depthChain_in k work w (by omega) (by omega) (by omega) (by omega)
end Go.Proofs.Ytbelmepjehcegaa
