/- The walk of JoinChain. -/
import Derived.Test.YtabmagmgoaiehaaU
import Derived.Test.YtabmagmgoaiehaaDt
namespace Go.Proofs.Ytabmagmgoaiehaa
open Go.RowKit Go.Deep

theorem chain_right {n : Nat} (hn : n ≤ 30) : CheckIs (chainTs 1 n) 0 0 :=
  CheckIs.none (by rw [chainTs_length]; exact hn) (fun j hj => chain_err n j (by rwa [chainTs_length] at hj)) (fun j _ h => by have := chain_reach h; omega)
theorem chain_planAt {N n : Nat} {w : World} {v : Value} (hn : n ≤ 30) (h : OwnPlan N w v (chainTs 1 n)) : PlanAt w v (chainTs 1 n) :=
  h.planAt (by rw [chainTs_length]; omega) (fun j hj => by
    rw [chainTs_length] at hj
    rw [chain_needs n j hj]
    split <;> simp)
theorem below_drewN {B : Nat} {w w' : World} (h : Below B w w') (q : Nat) : Below B w (w'.drewN q) := ⟨h.os, h.tape, h.output, h.size, h.block⟩
theorem JnT.drewN {J M A D C : Nat} {ts : List (Int × List Int)} {S : Nat → Bool} {w : World} (h : JnT J M A D C ts S w) (q : Nat) : JnT J M A D C ts S (w.drewN q) :=
  Jn.later h (below_drewN (Below.refl _ _) q)

set_option maxRecDepth 100000 in
set_option maxHeartbeats 4000000 in
theorem joinChain_in (n : Nat) (w : World) (h1 : 1 ≤ n) (h30 : n ≤ 30) : Calls Try.prog 4 #[.int .i64 n] w fun e w' => e = .returned (.bool true) ∧ Below w.heap.size w w' := by
  have hch := chain_any n 1 w (by omega)
  have HC : Hid (CheckIs (chainTs 1 n) 0 0) := chain_right h30
  have e1 : ¬ (n : Int) < 1 := by omega
  have e2 : ¬ (30 : Int) < (n : Int) := by omega
  go_enter Try.func4, Try.ntmps4
  go_wp2_with fail
  refine hch.mono ?_
  clear hch
  rintro e w1 ⟨v, rfl, hown, hb1⟩
  have hpl := chain_planAt h30 hown
  have hnew := new_good v (chainTs 1 n) w1 hpl HC.out
  obtain ⟨_, va, vc, rfl, _⟩ := hpl
  clear hown
  rw [chainTs_length] at hnew ⊢
  go_wp2_with fail
  refine hnew.mono ?_
  clear hnew
  rintro e w2 ⟨J, M, A, D, C, rfl, hJ, hlow, hb2⟩
  have hs1 := hb1.size
  have HB : Hid (Below w.heap.size w w2) := hb1.trans (hb2.mono hs1)
  have HLOW : Hid (w.heap.size ≤ M ∧ w.heap.size ≤ A ∧ w.heap.size ≤ D) := by show _ ∧ _ ∧ _; omega
  have HJ : Hid (JnT J M A D C (chainTs 1 n) (firstB 0) w2) := by rw [firstB_zero]; exact hJ
  clear hJ hlow hb1 hb2 hs1
  go_wp2
  go_loopw [5] (fun s5 wr => ∃ i : Nat, i ≤ n ∧ s5 = .int .i64 i ∧ Hid (JnT J M A D C (chainTs 1 n) (firstB i) wr) ∧ Hid (Below w.heap.size w wr)) (fun s5 _ => n - (intOf s5).toNat)
  case atStart => exact ⟨0, Nat.zero_le _, rfl, HJ, HB⟩
  case round =>
    clear HJ HB
    obtain ⟨i, hi, rfl, hJ, hB⟩ := hrel
    by_cases hin : i < n
    · have hdo := done_good J M A D C (chainTs 1 n) HC.out.good (firstB i) i wr hJ.out (by rw [chainTs_length]; exact hin) (chain_ready n i hin)
      rw [firstB_mark, chain_newL] at hdo
      go_wp2_with fail
      refine hdo.mono ?_
      clear hdo
      rintro e w3 ⟨⟨v, rfl, hv⟩, hJ3, hk3⟩
      have hle := left_any J M A D C (chainTs 1 n) (firstB (i + 1)) w3 hJ3
      rw [chainTs_length, chain_unseen n (i + 1) (by omega)] at hle
      have HB3 : Hid (Below w.heap.size w w3) := hB.out.trans (hk3.below (fun j e => by have := HLOW.out; rcases e with e | e | e <;> omega) hB.out.size)
      have HJ3 : Hid (JnT J M A D C (chainTs 1 n) (firstB (i + 1)) w3) := hJ3
      obtain ⟨L, hL⟩ : ∃ L : Nat, L = n - (i + 1) := ⟨_, rfl⟩
      rw [← hL] at hle
      have hsub : (L : Int) = (n : Int) - (i : Int) - 1 := by omega
      have hne : (((L : Nat) : Int) != (n : Int) - (i : Int) - 1) = false := by simp; omega
      clear hJ hB hJ3 hk3
      by_cases hlast : i + 1 < n
      · rw [if_pos hlast] at hv
        obtain ⟨g, c, rfl, _, hg, _⟩ := hv.full (by simp [intsOf])
        have hcell := hv.cell (k := 0) (by simp [intsOf])
        have hl1 : (intsOf [i + 1]).length = 1 := rfl
        have hcell' : ∀ q, (w3.drewN q).cell? ⟨g, 0, none⟩ = some (.int .i64 ((i : Int) + 1)) := fun q => by
          have : (intsOf [i + 1]).getD 0 0 = (i : Int) + 1 := by simp [intsOf]
          rw [this] at hcell
          exact hcell
        rw [hl1]
        clear hv hcell hl1
        have h3 : (i : Int) < (n : Int) - 1 := by omega
        have h4 : ¬ (i : Int) = (n : Int) - 1 := by omega
        have h5 : ((i : Int) == (n : Int) - 1) = false := by simp [h4]
        have h6 : (((i : Int) + 1) != (i : Int) + 1) = false := by simp
        clear hsub hL
        go_wp2_with (go_at_call 7; refine hle.mono ?_; clear hle; rintro e w4 ⟨rfl, q, rfl⟩)
        go_roundw
        case rel => exact ⟨i + 1, by omega, by go_num, HJ3.out.drewN q, below_drewN HB3.out q⟩
        case measure => simp [intOf]; omega
      · rw [if_neg hlast] at hv
        obtain ⟨va, vc, rfl⟩ := hv.shape
        have hl1 : (intsOf []).length = 0 := rfl
        rw [hl1]
        clear hv hl1
        have h3 : ¬ (i : Int) < (n : Int) - 1 := by omega
        have h4 : (i : Int) = (n : Int) - 1 := by omega
        have h5 : ((i : Int) == (n : Int) - 1) = true := by simp [h4]
        clear hsub hL h4
        go_wp2_with (go_at_call 7; refine hle.mono ?_; clear hle; rintro e w4 ⟨rfl, q, rfl⟩)
        go_roundw
        case rel => exact ⟨i + 1, by omega, by go_num, HJ3.out.drewN q, below_drewN HB3.out q⟩
        case measure => simp [intOf]; omega
    · have hin' : ¬ (i : Int) < (n : Int) := by omega
      go_wp2
      go_ret
      exact ⟨rfl, hB.out⟩

theorem joinChain_any (n : Int) (w : World) : Calls Try.prog 4 #[.int .i64 n] w fun e w' => e = .returned (.bool true) ∧ Below w.heap.size w w' := by
  by_cases h1 : n < 1
  · go_enter Try.func4, Try.ntmps4
    go_wp2
    go_ret
    exact ⟨rfl, Below.refl _ _⟩
  by_cases h2 : 30 < n
  · go_enter Try.func4, Try.ntmps4
    go_wp2
    go_ret
    exact ⟨rfl, Below.refl _ _⟩
  obtain ⟨m, rfl⟩ : ∃ m : Nat, n = m := ⟨n.toNat, by omega⟩
  exact joinChain_in m w (by omega) (by omega)
end Go.Proofs.Ytabmagmgoaiehaa
