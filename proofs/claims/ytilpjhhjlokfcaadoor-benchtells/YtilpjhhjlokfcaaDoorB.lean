/- The contracts of rises and checkTask. -/
import Derived.Test.YtilpjhhjlokfcaaDoorA
import Derived.Deep.QuietTactic
import Derived.BigQuiet
namespace Go.Proofs.YtilpjhhjlokfcaaDoor
open Go.RowKit

/-- Each number is above the one ahead of it. -/
def rising : List Int → Bool
  | a :: b :: r => decide (a < b) && rising (b :: r)
  | _ => true

theorem rising_iff (zs : List Int) : rising zs = true ↔ ∀ k, k + 1 < zs.length → zs.getD k 0 < zs.getD (k + 1) 0 := by
  induction zs with
  | nil => simp [rising]
  | cons a r ih =>
    cases r with
    | nil => simp [rising]
    | cons b r =>
      simp only [rising, Bool.and_eq_true, decide_eq_true_eq, ih]
      constructor
      · rintro ⟨h1, h2⟩ k hk
        cases k with
        | zero => simpa using h1
        | succ k => have := h2 k (by simp at hk ⊢; omega); simpa using this
      · intro h
        refine ⟨by have := h 0 (by simp); simpa using this, fun k hk => ?_⟩
        have := h (k + 1) (by simp at hk ⊢; omega)
        simpa using this

theorem rising_false (zs : List Int) (k : Nat) (h1 : 1 ≤ k) (hk : k < zs.length) (h : zs.getD k 0 ≤ zs.getD (k - 1) 0) : rising zs = false := by
  cases hr : rising zs with
  | false => rfl
  | true =>
    have := (rising_iff zs).1 hr (k - 1) (by omega)
    rw [show k - 1 + 1 = k by omega] at this
    omega

set_option maxHeartbeats 800000 in
theorem rises_any (v : Value) (zs : List Int) (w : World) (hz : IntsAt w v zs) :
    Calls Tryd.prog 50 #[v] w fun e w' => e = .returned (.bool (rising zs)) ∧ ∃ n, w' = w.drewN n := by
  obtain ⟨hl, a, c, rfl, hz⟩ := hz
  rcases hz with rfl | ⟨b, o, rfl, hbl, hc⟩
  · go_enter Tryd.func50, Tryd.ntmps50
    go_wp2
    refine wp_loop_rounds 1 ?_
    rw [rounds_succ]
    go_wp2
    go_ret
    exact ⟨rfl, 0, rfl⟩
  · go_enter Tryd.func50, Tryd.ntmps50
    go_wp2
    go_loopw [3] (fun i wr => ∃ k n : Nat, 1 ≤ k ∧ (k ≤ zs.length ∨ k = 1) ∧ i = .int .i64 k ∧ wr = w.drewN n ∧ Hid (∀ j, j + 1 < k → zs.getD j 0 < zs.getD (j + 1) 0)) (fun i _ => zs.length - (intOf i).toNat)
    case atStart => exact ⟨1, 0, Nat.le_refl _, Or.inr rfl, rfl, rfl, fun j hj => by omega⟩
    case round =>
      obtain ⟨k, n, h1, hk, rfl, rfl, hno⟩ := hrel
      by_cases hkl : k < zs.length
      · have hc1 := hc k hkl
        have hc2 := hc (k - 1) (by omega)
        clear hc
        generalize hy : zs.getD k 0 = y at hc1
        generalize hx : zs.getD (k - 1) 0 = x at hc2
        have HY : Hid (zs.getD k 0 = y) := hy
        have HX : Hid (zs.getD (k - 1) 0 = x) := hx
        clear hy hx hk
        go_wp2
        go_quiet (fail)
        go_wp2
        · go_ret
          exact ⟨ret_bool (rising_false zs k h1 hkl (by rw [HY.out, HX.out]; assumption)).symm, _, World.drewN_drewN _ _ _⟩
        · go_roundw
          case rel =>
            have hxy : x < y := by assumption
            refine ⟨k + 1, _, by omega, Or.inl (by omega), by go_num, rfl, fun j hj => ?_⟩
            by_cases e : j + 1 = k
            · subst e; rw [HY.out, show zs.getD j 0 = x from HX.out]; exact hxy
            · exact hno.out j (by omega)
          case measure => simp [intOf]; omega
      · go_wp2
        go_ret
        exact ⟨ret_bool ((rising_iff zs).2 (fun j hj => hno.out j (by omega))).symm, _, rfl⟩

/-- An error of the program: nil, or a number of api.Errno. -/
def errV (n : Int) : Value := if n = 0 then .nilIface else .iface 46 (.int .i64 n)

/-- What is wrong with a task by itself, in a plan of so many. -/
def taskErr (wk : Int) (needs : List Int) (count : Int) : Int :=
  if wk < 1 ∨ 20 < wk then 1 else if needs.any (fun n => !inRange n count) then 1 else if rising needs then 0 else 7

theorem enters34 : ∀ args w, (callFunc 48 args).run Tryd.prog w = .ok (.enter 48 args) w := enters_of Tryd.func48 (by kernel_rfl) rfl

set_option maxHeartbeats 1600000 in
theorem checkTask_any (wk : Int) (nv : Value) (needs : List Int) (count : Int) (w : World) (hz : IntsAt w nv needs) :
    Calls Tryd.prog 45 #[.agg #[.int .i64 wk, nv], .int .i64 count] w fun e w' => e = .returned (errV (taskErr wk needs count)) ∧ Below w.heap.size w w' := by
  by_cases h1 : wk < 1
  · go_enter Tryd.func45, Tryd.ntmps45
    go_wp2
    go_ret
    exact ⟨by simp [taskErr, h1, errV], ((Below.refl _ _).alloc (Nat.le_refl _) _).alloc (by simp) _⟩
  by_cases h2 : 20 < wk
  · go_enter Tryd.func45, Tryd.ntmps45
    go_wp2
    go_ret
    exact ⟨by simp [taskErr, h2, errV], ((Below.refl _ _).alloc (Nat.le_refl _) _).alloc (by simp) _⟩
  have hB : Below w.heap.size w ((w.alloc (.cells #[.int .i64 wk, nv] 51)).alloc (.cells #[.int .i64 count] 3)) := ((Below.refl _ _).alloc (Nat.le_refl _) _).alloc (by simp) _
  have hp : PredIn 48 #[.pointer (some ⟨w.heap.size + 1, 0, none⟩)] (fun n => !inRange n count) needs ((w.alloc (.cells #[.int .i64 wk, nv] 51)).alloc (.cells #[.int .i64 count] 3)) :=
    ⟨enters34, fun x _ => closure_check x count _ _ (by simp)⟩
  have hz' := hz.later hB
  have hcon := containsFunc_any nv needs 48 _ _ _ hz' hp
  cases ha : needs.any (fun n => !inRange n count)
  · rw [ha] at hcon
    have hr := rises_any nv needs _ hz'
    cases hri : rising needs
    all_goals
      rw [hri] at hr
      have HT : Hid (taskErr wk needs count = if rising needs then 0 else 7) := by unfold taskErr; rw [if_neg (by omega), ha]; rfl
      rw [hri] at HT
      clear ha hri hp hz hz'
      go_enter Tryd.func45, Tryd.ntmps45
      go_wp2_with (first | (go_at_call 44; refine hcon.mono ?_; rintro e w' ⟨rfl, rfl⟩) | (go_at_call 50; refine hr.mono ?_; rintro e w' ⟨rfl, n, rfl⟩))
      go_ret
      exact ⟨by rw [HT.out]; rfl, ⟨hB.os, hB.tape, hB.output, hB.size, hB.block⟩⟩
  · rw [ha] at hcon
    have HT : Hid (taskErr wk needs count = 1) := by unfold taskErr; rw [if_neg (by omega), ha]; rfl
    clear ha hp hz hz'
    go_enter Tryd.func45, Tryd.ntmps45
    go_wp2_with (go_at_call 44; refine hcon.mono ?_; rintro e w' ⟨rfl, rfl⟩)
    go_ret
    exact ⟨by rw [HT.out]; rfl, hB⟩
end Go.Proofs.YtilpjhhjlokfcaaDoor
