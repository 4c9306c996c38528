/- The walk of LogRefuses. -/
import Derived.Test.YtbknbakbfblbiaaDoorLgw
namespace Go.Proofs.YtbknbakbfblbiaaDoor
open Go.RowKit Go.Deep

theorem chain_right {n : Nat} (hn : n ≤ 30) : CheckIs (chainTs 1 n) 0 0 :=
  CheckIs.none (by rw [chainTs_length]; exact hn) (fun j hj => chain_err n j (by rwa [chainTs_length] at hj)) (fun j _ h => by have := chain_reach h; omega)
theorem chain_planAt {N n : Nat} {w : World} {v : Value} (hn : n ≤ 30) (h : OwnPlan N w v (chainTs 1 n)) : PlanAt w v (chainTs 1 n) :=
  h.planAt (by rw [chainTs_length]; omega) (fun j hj => by
    rw [chainTs_length] at hj
    rw [chain_needs n j hj]
    split <;> simp)

/-- With the first one done. -/
def Ls.one : Ls := ⟨[0], [], 0, -1, false⟩
theorem ready_none {ts : List (Int × List Int)} {S : Nat → Bool} {k : Nat} {y : Int} (hy : y ∈ needsOf ts k) (hS : S y.toNat = false) : readyB ts S k = false := by
  unfold readyB
  have : ¬ missN ts S k = 0 := fun h => by have := missN_zero.1 h y hy; rw [hS] at this; simp at this
  simp [this]
theorem ready_done {ts : List (Int × List Int)} {S : Nat → Bool} {k : Nat} (hS : S k = true) : readyB ts S k = false := by
  unfold readyB
  simp [hS]
theorem refuses_one {n : Nat} (h2 : 2 ≤ n) : doneErr (chainTs 1 n) (inL []) 1 = 6 := by
  unfold doneErr
  rw [if_neg (by rw [chainTs_length]; omega)]
  have : readyB (chainTs 1 n) (inL []) (1 : Int).toNat = false := ready_none (y := 0) (by show (0 : Int) ∈ needsOf (chainTs 1 n) 1; rw [chain_needs n 1 (by omega)]; simp) (by simp [inL])
  rw [this]; rfl
theorem refuses_range (n : Nat) (S : Nat → Bool) : doneErr (chainTs 1 n) S (n : Int) = 1 := by
  unfold doneErr
  rw [if_pos (by rw [chainTs_length]; omega)]
theorem refuses_zero {n : Nat} (h2 : 2 ≤ n) : doneErr (chainTs 1 n) (inL []) 0 = 0 := by
  unfold doneErr
  rw [if_neg (by rw [chainTs_length]; omega)]
  have h := chain_ready n 0 (by omega)
  rw [firstB_zero] at h
  rw [inL_nil]
  show (if readyB (chainTs 1 n) (fun _ => false) 0 = true then (0 : Int) else 6) = 0
  rw [h]; rfl
theorem refuses_again {n : Nat} (h2 : 2 ≤ n) : doneErr (chainTs 1 n) (inL [0]) 0 = 6 := by
  unfold doneErr
  rw [if_neg (by rw [chainTs_length]; omega)]
  have : readyB (chainTs 1 n) (inL [0]) (0 : Int).toNat = false := ready_done (by simp [inL])
  rw [this]; rfl
theorem refuses_all {n : Nat} (h2 : 2 ≤ n) : (Ls.new.doneE (chainTs 1 n) 1 = 6 ∧ Ls.new.done (chainTs 1 n) 1 = Ls.new) ∧ (Ls.new.doneE (chainTs 1 n) n = 1 ∧ Ls.new.done (chainTs 1 n) n = Ls.new) ∧
    (Ls.new.doneE (chainTs 1 n) 0 = 0 ∧ Ls.new.done (chainTs 1 n) 0 = Ls.one) ∧ (Ls.one.doneE (chainTs 1 n) 0 = 6 ∧ Ls.one.done (chainTs 1 n) 0 = Ls.one) := by
  have e1 : Ls.new.recs = [] := rfl
  have e2 : Ls.one.recs = [0] := rfl
  refine ⟨?_, ?_, ?_, ?_⟩ <;> unfold Ls.doneE Ls.done
  · rw [e1, refuses_one h2]; exact ⟨rfl, rfl⟩
  · rw [e1, refuses_range]; exact ⟨rfl, rfl⟩
  · rw [e1, refuses_zero h2]; exact ⟨rfl, rfl⟩
  · rw [e2, refuses_again h2]; exact ⟨rfl, rfl⟩

set_option maxRecDepth 100000 in
set_option maxHeartbeats 4000000 in
theorem logRefuses_in (n : Nat) (w : World) (ht : Typed w) (h2 : 2 ≤ n) (h30 : n ≤ 30) : Calls Tryd.prog 4 #[.int .i64 n] w fun e w' => e = .returned (.bool true) ∧ Below w.heap.size w w' := by
  have hch := chain_any n 1 w (by omega)
  have HC : Hid (CheckIs (chainTs 1 n) 0 0) := chain_right h30
  have HT : Hid (Typed w) := ht
  have HA := refuses_all h2
  obtain ⟨⟨a1, a2⟩, ⟨b1, b2⟩, ⟨c1, c2⟩, ⟨d1, d2⟩⟩ := HA
  have A : Hid (Ls.new.doneE (chainTs 1 n) 1 = 6 ∧ Ls.new.done (chainTs 1 n) 1 = Ls.new) := ⟨a1, a2⟩
  have B : Hid (Ls.new.doneE (chainTs 1 n) n = 1 ∧ Ls.new.done (chainTs 1 n) n = Ls.new) := ⟨b1, b2⟩
  have C : Hid (Ls.new.doneE (chainTs 1 n) 0 = 0 ∧ Ls.new.done (chainTs 1 n) 0 = Ls.one) := ⟨c1, c2⟩
  have D : Hid (Ls.one.doneE (chainTs 1 n) 0 = 6 ∧ Ls.one.done (chainTs 1 n) 0 = Ls.one) := ⟨d1, d2⟩
  have e1 : ¬ (n : Int) < 2 := by omega
  have e2 : ¬ (30 : Int) < (n : Int) := by omega
  clear ht a1 a2 b1 b2 c1 c2 d1 d2
  go_enter Tryd.func4, Tryd.ntmps4
  go_wp2_with fail
  refine hch.mono ?_
  clear hch
  rintro e w1 ⟨v, rfl, hown, hb1⟩
  have HB1 : Hid (Below w.heap.size w w1) := hb1
  have hpl := chain_planAt h30 hown
  have hnew := newW v (chainTs 1 n) w1 hpl HC.out (HT.out.later hb1)
  obtain ⟨_, va, vc, rfl, _⟩ := hpl
  clear hown hb1
  rw [chainTs_length] at hnew ⊢
  go_wp2_with fail
  refine hnew.mono ?_
  clear hnew
  rintro e w2 ⟨L, rfl, h0⟩
  have hd := doneW 1 h0
  rw [A.out.1, A.out.2] at hd
  clear h0
  go_wp2_with fail
  refine hd.mono ?_
  clear hd
  rintro e w3 ⟨rfl, h3⟩
  have he := errorW 6 6 h3
  clear h3
  go_wp2_with fail
  refine he.mono ?_
  clear he
  rintro e w4 ⟨rfl, h4⟩
  have hd := doneW n h4
  rw [B.out.1, B.out.2] at hd
  clear h4
  go_wp2_with fail
  refine hd.mono ?_
  clear hd
  rintro e w5 ⟨rfl, h5⟩
  have he := errorW 1 1 h5
  clear h5
  go_wp2_with fail
  refine he.mono ?_
  clear he
  rintro e w6 ⟨rfl, h6⟩
  have hby := bytesW h6
  have H6 : Hid (LgW w1.heap.size L (chainTs 1 n) Ls.new w1 w6) := h6
  have ez : (dataOf Ls.new.recs Ls.new.half).length = 0 := rfl
  rw [ez] at hby
  clear h6
  go_wp2_with fail
  refine hby.mono ?_
  clear hby ez
  rintro e w7 ⟨rfl, rfl⟩
  have hd := doneW 0 H6.out
  rw [C.out.1, C.out.2, errV_zero] at hd
  clear H6
  go_wp2_with fail
  refine hd.mono ?_
  clear hd
  rintro e w8 ⟨rfl, h8⟩
  have hby := bytesW h8
  have H8 : Hid (LgW w1.heap.size L (chainTs 1 n) Ls.one w1 w8) := h8
  have ez : (dataOf Ls.one.recs Ls.one.half).length = 2 := rfl
  rw [ez] at hby
  clear h8
  go_wp2_with fail
  refine hby.mono ?_
  clear hby ez
  rintro e w9 ⟨rfl, rfl⟩
  have hd := doneW 0 H8.out
  rw [D.out.1, D.out.2] at hd
  clear H8
  go_wp2_with fail
  refine hd.mono ?_
  clear hd
  rintro e w10 ⟨rfl, h10⟩
  have he := errorW 6 6 h10
  clear h10
  go_wp2_with fail
  refine he.mono ?_
  clear he
  rintro e w11 ⟨rfl, h11⟩
  have hby := bytesW h11
  have ez : (dataOf Ls.one.recs Ls.one.half).length = 2 := rfl
  rw [ez] at hby
  have HF : Hid (Below w.heap.size w w11) := HB1.out.trans (h11.below.mono HB1.out.size)
  clear h11
  go_wp2_with fail
  refine hby.mono ?_
  clear hby ez
  rintro e w12 ⟨rfl, rfl⟩
  go_wp2
  go_ret
  exact ⟨rfl, HF.out⟩

theorem logRefuses_any (n : Int) (w : World) (ht : Typed w) : Calls Tryd.prog 4 #[.int .i64 n] w fun e w' => e = .returned (.bool true) ∧ Below w.heap.size w w' := by
  by_cases h1 : n < 2
  · clear ht
    go_enter Tryd.func4, Tryd.ntmps4
    go_wp2
    go_ret
    exact ⟨rfl, Below.refl _ _⟩
  by_cases h2 : 30 < n
  · clear ht
    go_enter Tryd.func4, Tryd.ntmps4
    go_wp2
    go_ret
    exact ⟨rfl, Below.refl _ _⟩
  obtain ⟨m, rfl⟩ : ∃ m : Nat, n = m := ⟨n.toNat, by omega⟩
  exact logRefuses_in m w ht (by omega) (by omega)
end Go.Proofs.YtbknbakbfblbiaaDoor
