/- The document's Deeds; the sameness of deeds. -/
import Derived.Test.YtiekhigjllbalaaGreatDoorDdm
import Derived.Test.YtiekhigjllbalaaGreatDoorTpl
import Derived.Test.YtiekhigjllbalaaGreatDoorTds
namespace Go.Proofs.YtiekhigjllbalaaGreatDoor
open Go.RowKit Go.Deep

set_option maxRecDepth 100000 in
set_option maxHeartbeats 4000000 in
theorem dDeeds_any (v : Value) (ds : List Deed) (w : World) (hv : DeedsAt w v ds) :
    Calls Tryz.prog 8 #[v] w fun e w' => e = .returned (.int .i64 (deedsErr ds)) ∧ Below w.heap.size w w' := by
  have HV : Hid (DeedsAt w v ds) := hv
  obtain ⟨_, a, c, rfl, _⟩ := hv
  by_cases hful : 1000 < ds.length
  · have hfi : (1000 : Int) < (ds.length : Int) := by omega
    have HE : Hid (deedsErr ds = 4) := if_pos hful
    go_enter Tryz.func8, Tryz.ntmps8
    go_wp2
    go_ret
    exact ⟨by rw [HE.out]; rfl, Below.refl _ _⟩
  have hfi : ¬ (1000 : Int) < (ds.length : Int) := by omega
  have HE : Hid (deedsErr ds = firstE ds) := if_neg hful
  go_enter Tryz.func8, Tryz.ntmps8
  go_wp2
  go_loopw [3] (fun s3 wr => ∃ k : Nat, k ≤ ds.length ∧ s3 = .int .i64 k ∧ Hid (∀ j, j < k → deedE (ds.getD j (0, 0, 0, 0)) = 0) ∧ Hid (Below w.heap.size w wr)) (fun s3 _ => ds.length - (intOf s3).toNat)
  case atStart => exact ⟨0, Nat.zero_le _, rfl, fun j hj => by omega, Below.refl _ _⟩
  case round =>
    obtain ⟨k, hk, rfl, hno, hb⟩ := hrel
    by_cases hkl : k < ds.length
    · obtain ⟨b, o, rfl, hbl, c0, c1, c2, c3⟩ := (HV.out.later hb.out).four hkl
      have HBAD : Hid (∀ q, deedE (ds.getD k (0, 0, 0, 0)) = q → q ≠ 0 → deedsErr ds = q) := fun q hq h0 => by rw [HE.out, firstE_at ds k hkl hno.out (by rw [hq]; exact h0), hq]
      have HGOOD : Hid (deedE (ds.getD k (0, 0, 0, 0)) = 0 → ∀ j, j < k + 1 → deedE (ds.getD j (0, 0, 0, 0)) = 0) := fun hq j hj => by
        by_cases e : j = k
        · rw [e]; exact hq
        · exact hno.out j (by omega)
      have HD : Hid (ds.getD k (0, 0, 0, 0) = ((ds.getD k (0, 0, 0, 0)).1, (ds.getD k (0, 0, 0, 0)).2.1, (ds.getD k (0, 0, 0, 0)).2.2.1, (ds.getD k (0, 0, 0, 0)).2.2.2)) := rfl
      have HB2 : Hid (Below w.heap.size w (wr.alloc (.cells #[.int .i64 (ds.getD k (0, 0, 0, 0)).1, .int .i64 (ds.getD k (0, 0, 0, 0)).2.1, .int .i64 (ds.getD k (0, 0, 0, 0)).2.2.1, .int .i64 (ds.getD k (0, 0, 0, 0)).2.2.2] 34))) := hb.out.alloc hb.out.size _
      rw [HD.out] at HBAD HGOOD
      clear HD hb hno HV HE
      generalize (ds.getD k (0, 0, 0, 0)).1 = x1 at *
      generalize (ds.getD k (0, 0, 0, 0)).2.1 = x2 at *
      generalize (ds.getD k (0, 0, 0, 0)).2.2.1 = x3 at *
      generalize (ds.getD k (0, 0, 0, 0)).2.2.2 = x4 at *
      by_cases p1 : x1 < 1 ∨ 6 < x1 ∨ x2 < 0 ∨ 5 < x2 ∨ x3 < 0 ∨ 29 < x3 ∨ (x1 = 2 ∧ (x4 < 0 ∨ 5 < x4))
      · have HR : Hid (deedsErr ds = 1) := HBAD.out 1 (deedE_one p1) (by omega)
        clear HBAD HGOOD
        by_cases q1 : x1 < 1
        · go_wp2; go_ret; exact ⟨by rw [HR.out]; rfl, HB2.out⟩
        by_cases q2 : 6 < x1
        · go_wp2; go_ret; exact ⟨by rw [HR.out]; rfl, HB2.out⟩
        by_cases q3 : x2 < 0
        · go_wp2; go_ret; exact ⟨by rw [HR.out]; rfl, HB2.out⟩
        by_cases q4 : 5 < x2
        · go_wp2; go_ret; exact ⟨by rw [HR.out]; rfl, HB2.out⟩
        by_cases q5 : x3 < 0
        · go_wp2; go_ret; exact ⟨by rw [HR.out]; rfl, HB2.out⟩
        by_cases q6 : 29 < x3
        · go_wp2; go_ret; exact ⟨by rw [HR.out]; rfl, HB2.out⟩
        have e2 : x1 = 2 := by omega
        subst e2
        by_cases q7 : x4 < 0
        · go_wp2; go_ret; exact ⟨by rw [HR.out]; rfl, HB2.out⟩
        have q8 : 5 < x4 := by omega
        go_wp2
        go_ret
        exact ⟨by rw [HR.out]; rfl, HB2.out⟩
      · have q1 : ¬ x1 < 1 := by omega
        have q2 : ¬ 6 < x1 := by omega
        have q3 : ¬ x2 < 0 := by omega
        have q4 : ¬ 5 < x2 := by omega
        have q5 : ¬ x3 < 0 := by omega
        have q6 : ¬ 29 < x3 := by omega
        by_cases p2 : (x1 ≠ 2 ∧ x4 ≠ 0) ∨ (4 < x1 ∧ x3 ≠ 0)
        · have HR : Hid (deedsErr ds = 3) := HBAD.out 3 (deedE_three p1 p2) (by omega)
          clear HBAD HGOOD
          have e2 : x1 ≠ 2 := by omega
          have e2b : (x1 == 2) = false := beq_eq_false_iff_ne.2 e2
          have e2c : (x1 != 2) = true := by simp [e2]
          by_cases q7 : x4 = 0
          · subst q7
            have q8 : 4 < x1 := by omega
            have q9 : (x3 != 0) = true := by simp; omega
            clear p1 p2 e2
            go_wp2; go_ret; exact ⟨by rw [HR.out]; rfl, HB2.out⟩
          · have q9 : (x4 != 0) = true := by simp [q7]
            clear p1 p2 e2 q7
            go_wp2; go_ret; exact ⟨by rw [HR.out]; rfl, HB2.out⟩
        · have HG : Hid (∀ j, j < k + 1 → deedE (ds.getD j (0, 0, 0, 0)) = 0) := HGOOD.out (deedE_none p1 p2)
          clear HBAD HGOOD
          by_cases e2 : x1 = 2
          · subst e2
            have q7 : ¬ x4 < 0 := by omega
            have q8 : ¬ 5 < x4 := by omega
            clear p1 p2
            go_wp2
            go_roundw
            case rel => exact ⟨k + 1, by omega, by go_num, HG, HB2⟩
            case measure => simp [intOf]; omega
          · have e4 : x4 = 0 := by omega
            subst e4
            have e2b : (x1 == 2) = false := beq_eq_false_iff_ne.2 e2
            have e2c : (x1 != 2) = true := by simp [e2]
            by_cases q7 : 4 < x1
            · have e3 : x3 = 0 := by omega
              subst e3
              clear p1 p2 e2
              go_wp2
              go_roundw
              case rel => exact ⟨k + 1, by omega, by go_num, HG, HB2⟩
              case measure => simp [intOf]; omega
            · clear p1 p2 e2
              go_wp2
              go_roundw
              case rel => exact ⟨k + 1, by omega, by go_num, HG, HB2⟩
              case measure => simp [intOf]; omega
    · have HR : Hid (deedsErr ds = 0) := by rw [HE.out]; exact firstE_none ds (fun j hj => hno.out j (by omega))
      go_wp2
      go_ret
      exact ⟨by rw [HR.out]; rfl, hb.out⟩
end Go.Proofs.YtiekhigjllbalaaGreatDoor
