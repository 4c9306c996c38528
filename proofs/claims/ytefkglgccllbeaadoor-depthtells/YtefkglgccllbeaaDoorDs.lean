/- The contract of depth.Reaches. -/
import Derived.Test.YtefkglgccllbeaaDoorDq
namespace Go.Proofs.YtefkglgccllbeaaDoor
open Go.RowKit Go.Deep

/-- What Reaches answers. -/
def ReachesOut (ts : List (Int × List Int)) (i k : Int) (e : Ending) : Prop :=
  (∃ p q, q ≠ 0 ∧ CheckIs ts p q ∧ e = .returned (.tuple #[.bool false, errV q])) ∨
  (CheckIs ts 0 0 ∧ (i < 0 ∨ k < 0 ∨ (ts.length : Int) ≤ i ∨ (ts.length : Int) ≤ k) ∧ e = .returned (.tuple #[.bool false, errV 1])) ∨
  (CheckIs ts 0 0 ∧ ∃ x y : Nat, i = x ∧ k = y ∧ x < ts.length ∧ y < ts.length ∧ ∃ b, e = .returned (.tuple #[.bool b, .nilIface]) ∧ (b = true ↔ Reach ts y x))

set_option maxRecDepth 100000 in
set_option maxHeartbeats 2000000 in
theorem reaches_any (v : Value) (ts : List (Int × List Int)) (i k : Int) (w : World) (hp : PlanAt w v ts) :
    Calls Tryd.prog 28 #[v, .int .i64 i, .int .i64 k] w fun e w' => ReachesOut ts i k e ∧ Below w.heap.size w w' := by
  have HP : Hid (PlanAt w v ts) := hp
  have hck := check_any v ts w hp
  obtain ⟨hl, a, c, rfl, hp⟩ := hp
  clear hp
  have hmm := @run_makeMap Tryd.prog
  go_enter Tryd.func28, Tryd.ntmps28
  go_wp2_with fail
  refine hck.mono ?_
  rintro e w1 ⟨⟨p, q, rfl, hc⟩, hb1⟩
  clear hck
  by_cases hq : q = 0
  · subst hq
    rw [errV_zero]
    obtain ⟨rfl, h30, herr, _⟩ := hc.ok rfl
    have HC : Hid (CheckIs ts 0 0) := hc
    have HR : Hid (InRange ts) := inRange_of herr
    clear hc herr
    by_cases hneg : i < 0 ∨ k < 0
    · have HOUT : Hid (i < 0 ∨ k < 0 ∨ (ts.length : Int) ≤ i ∨ (ts.length : Int) ≤ k) := by show _ ∨ _; omega
      rcases Int.lt_trichotomy i k with hik | rfl | hik
      · have h1 : i < 0 := by omega
        clear hneg
        go_wp2
        go_ret2
        exact ⟨Or.inr (Or.inl ⟨HC.out, HOUT.out, rfl⟩), hb1⟩
      · have h1 : i < 0 := by omega
        clear hneg
        go_wp2
        go_ret2
        exact ⟨Or.inr (Or.inl ⟨HC.out, HOUT.out, rfl⟩), hb1⟩
      · have h1 : k < 0 := by omega
        clear hneg
        go_wp2
        go_ret2
        exact ⟨Or.inr (Or.inl ⟨HC.out, HOUT.out, rfl⟩), hb1⟩
    by_cases hbig : (ts.length : Int) ≤ i ∨ (ts.length : Int) ≤ k
    · have HOUT : Hid (i < 0 ∨ k < 0 ∨ (ts.length : Int) ≤ i ∨ (ts.length : Int) ≤ k) := by show _ ∨ _; omega
      rcases Int.lt_trichotomy i k with hik | rfl | hik
      · have h1 : ¬ i < 0 := by omega
        have h2 : (ts.length : Int) ≤ k := by omega
        clear hneg hbig
        go_wp2
        go_ret2
        exact ⟨Or.inr (Or.inl ⟨HC.out, HOUT.out, rfl⟩), hb1⟩
      · have h1 : ¬ i < 0 := by omega
        have h2 : (ts.length : Int) ≤ i := by omega
        clear hneg hbig
        go_wp2
        go_ret2
        exact ⟨Or.inr (Or.inl ⟨HC.out, HOUT.out, rfl⟩), hb1⟩
      · have h1 : ¬ k < 0 := by omega
        have h2 : (ts.length : Int) ≤ i := by omega
        clear hneg hbig
        go_wp2
        go_ret2
        exact ⟨Or.inr (Or.inl ⟨HC.out, HOUT.out, rfl⟩), hb1⟩
    obtain ⟨x, rfl⟩ := Int.eq_ofNat_of_zero_le (show 0 ≤ i by omega)
    obtain ⟨y, rfl⟩ := Int.eq_ofNat_of_zero_le (show 0 ≤ k by omega)
    have hxl : x < ts.length := by omega
    have hyl : y < ts.length := by omega
    have hxl' : ¬ (ts.length : Int) ≤ (x : Int) := by omega
    have hyl' : ¬ (ts.length : Int) ≤ (y : Int) := by omega
    have hx0 : ¬ (x : Int) < 0 := by omega
    have hy0 : ¬ (y : Int) < 0 := by omega
    have hb2 : Below w.heap.size w (w1.alloc (.map #[] 0)) := hb1.alloc hb1.size _
    have hcall := hangs_any ts h30 HR.out _ (.slice a ts.length c) x y (fun _ => false) w1.heap.size (w1.alloc (.map #[] 0)) (Nat.le_refl _) (HP.out.later hb2) hyl (SetAt.start w1 ts.length)
    clear hneg hbig
    have hxy : (x : Int) < y ∨ x = y ∨ (y : Int) < x := by omega
    rcases hxy with hxy | rfl | hxy
    all_goals
      go_wp2_with fail
      refine hcall.mono ?_
      rintro e w' ⟨h, hg⟩
      have hb3 : Below w.heap.size w w' := hb2.grown hg (by have := hb1.size; simp; omega) (fun j e => by have := hb1.size; cases e; omega)
      rcases h with ⟨rfl, hr⟩ | ⟨rfl, S', hh, _⟩
      · go_wp2
        go_ret2
        exact ⟨Or.inr (Or.inr ⟨HC.out, x, _, rfl, rfl, hxl, hyl, true, rfl, by simp [hr]⟩), hb3⟩
      · go_wp2
        go_ret2
        exact ⟨Or.inr (Or.inr ⟨HC.out, x, _, rfl, rfl, hxl, hyl, false, rfl, by simp [hh.not_reach]⟩), hb3⟩
  · have hev := errV_some hq
    rw [hev]
    have HV : Hid (errV q = .iface 57 (.int .i64 q)) := hev
    clear hev
    go_wp2
    go_ret2
    exact ⟨Or.inl ⟨p, q, hq, hc, by rw [HV.out]; rfl⟩, hb1⟩
end Go.Proofs.YtefkglgccllbeaaDoor
