/- The document's own Digits and Text. -/
import Derived.Test.YtfmmfapfgpckfaaGreatDoorW
import Derived.Test.YtfmmfapfgpckfaaGreatDoorRa
namespace Go.Proofs.YtfmmfapfgpckfaaGreatDoor
open Go.RowKit Go.Deep

theorem bytes_app (l m : List UInt8) : (⟨l.toArray⟩ : ByteArray) ++ ⟨m.toArray⟩ = ⟨(l ++ m).toArray⟩ := by
  apply ByteArray.ext
  simp
theorem digit_at (n : Nat) (hn : n < 10) : (⟨#[48, 49, 50, 51, 52, 53, 54, 55, 56, 57]⟩ : ByteArray).extract n (n + 1) = ⟨[UInt8.ofNat (48 + n)].toArray⟩ := by
  have h : ∀ k : Fin 10, (⟨#[48, 49, 50, 51, 52, 53, 54, 55, 56, 57]⟩ : ByteArray).extract k.val (k.val + 1) = ⟨[UInt8.ofNat (48 + k.val)].toArray⟩ := by decide +kernel
  exact h ⟨n, hn⟩
theorem ret_string {a b : ByteArray} (h : a = b) : Ending.returned (.string a) = .returned (.string b) := by rw [h]
theorem val_string {a b : ByteArray} (h : a = b) : Value.string a = .string b := by rw [h]

set_option maxRecDepth 100000 in
theorem digitsR_small (n : Nat) (w : World) (hn : n < 10) : Calls Tryz.prog 22 #[.int .i64 n] w fun e w' => e = .returned (.string ⟨(Lib.decDigits n).toArray⟩) ∧ w' = w := by
  go_enter Tryz.func22, Tryz.ntmps22
  go_wp2
  go_ret
  exact ⟨ret_string (by rw [digit_at n hn, dec_small n hn]), rfl⟩
set_option maxRecDepth 100000 in
theorem digitsR_more (n : Nat) (w : World) (hn : ¬ n < 10) (h2 : n < 100) : Calls Tryz.prog 22 #[.int .i64 n] w fun e w' => e = .returned (.string ⟨(Lib.decDigits n).toArray⟩) ∧ w' = w := by
  have hi := digitsR_small (n / 10) w (by omega)
  have hm : n % 10 < 10 := Nat.mod_lt _ (by omega)
  have hdl : (Lib.decDigits (n / 10)).length ≤ 2 := by rw [dec_small (n / 10) (by omega)]; simp
  go_enter Tryz.func22, Tryz.ntmps22
  go_wp2_with fail
  rw [show ((n : Int) / 10) = ((n / 10 : Nat) : Int) by omega]
  refine hi.mono ?_
  rintro e w' ⟨rfl, rfl⟩
  rw [show ((n : Int) % 10) = ((n % 10 : Nat) : Int) by omega]
  go_wp2
  go_ret
  exact ⟨ret_string (by rw [digit_at _ hm, bytes_app, dec_more n (by omega)]), rfl⟩
theorem digitsR_any (n : Nat) (w : World) (h2 : n < 100) : Calls Tryz.prog 22 #[.int .i64 n] w fun e w' => e = .returned (.string ⟨(digs (n : Int)).toArray⟩) ∧ w' = w := by
  unfold digs
  rw [Int.toNat_natCast]
  by_cases h : n < 10
  · exact digitsR_small n w h
  · exact digitsR_more n w h h2

set_option maxRecDepth 100000 in
set_option maxHeartbeats 4000000 in
theorem textR_any (v : Value) (ts : List (Int × List Int)) (w : World) (hp : PlanAt w v ts) (hck : CheckIs ts 0 0) :
    Calls Tryz.prog 8 #[v] w fun e w' => e = .returned (.string ⟨(planText ts).toArray⟩) ∧ Below w.heap.size w w' := by
  obtain ⟨hl, a, c, rfl, hp⟩ := hp
  obtain ⟨_, h30, herr, _⟩ := hck.ok rfl
  have HE : Hid (∀ j, j < ts.length → errOf ts j = 0) := herr
  have HTL : Hid (∀ k, k < ts.length → (taskText (ts.getD k (0, []))).length ≤ 92) := fun k hk => by
    obtain ⟨hw, hnd, hrs⟩ := errOf_zero (herr k hk)
    have hnlen := rising_len _ ts.length hrs hnd
    refine taskText_len _ ⟨by omega, fun z hz => ?_⟩ (by show (needsOf ts k).length ≤ 30; omega)
    have := hnd z hz
    omega
  clear herr hck
  go_enter Tryz.func8, Tryz.ntmps8
  go_wp2
  go_loopw [3, 4] (fun s3 s4 wr => ∃ k : Nat, k ≤ ts.length ∧ s3 = .string ⟨(planTextK ts k).toArray⟩ ∧ s4 = .int .i64 k ∧ Below w.heap.size w wr) (fun _ s4 _ => ts.length - (intOf s4).toNat)
  case atStart => exact ⟨0, Nat.zero_le _, rfl, rfl, Below.refl _ _⟩
  case round =>
    obtain ⟨k, hk, rfl, rfl, hb⟩ := hrel
    by_cases hkl : k < ts.length
    · rcases hp with rfl | ⟨b, o, rfl, hbl, hc⟩
      · simp at hkl
      obtain ⟨hc1, nv, hc2, hnl, na, nc, rfl, hns⟩ := hc k hkl
      have hc1' := (hb.cell (p := ⟨b, o + k * 2, none⟩) hbl).trans hc1
      obtain ⟨hw, hnd, hrs⟩ := errOf_zero (HE.out k hkl)
      have HN : Hid (∀ z, z ∈ needsOf ts k → 0 ≤ z ∧ z < 100) := fun z hz => by have := hnd z hz; omega
      have hnlen := rising_len _ ts.length hrs hnd
      have HT : Hid (planTextK ts (k + 1) = ((if k = 0 then planTextK ts k else planTextK ts k ++ [UInt8.ofNat 32]) ++ digs (ts.getD k (0, [])).1) ++ needsText (needsOf ts k) (needsOf ts k).length) := by
        show _ = _
        rw [planTextK_succ ts k hkl, List.append_assoc]
        congr 1
        unfold taskText
        rw [needsText_all]; rfl
      clear hc hrs hnd
      generalize (ts.getD k (0, [])).1 = wk at *
      obtain ⟨wn, rfl⟩ := Int.eq_ofNat_of_zero_le (show 0 ≤ wk by omega)
      have hdg := digitsR_any wn wr (by omega)
      have hpl := planTextK_len ts HTL.out k hk
      have hdl := digs_len (wn : Int) (by omega)
      clear hc1
      by_cases hk0 : k = 0
      case' pos =>
        rw [if_pos hk0] at HT
        obtain ⟨A, HA, HV, hAl⟩ : ∃ A, Hid (planTextK ts (k + 1) = A ++ needsText (needsOf ts k) (needsOf ts k).length) ∧ Hid ((⟨(planTextK ts k).toArray⟩ : ByteArray) ++ ⟨(digs (wn : Int)).toArray⟩ = ⟨A.toArray⟩) ∧ A.length ≤ 3000 := ⟨_, HT.out, bytes_app _ _, by simp; omega⟩
        have hk0' : ¬ (0 : Int) < (k : Int) := by omega
        clear hk0
        go_wp2_with fail
        refine hdg.mono ?_
        rintro e w1 ⟨rfl, rfl⟩
        go_wp2
      case' neg =>
        rw [if_neg hk0] at HT
        obtain ⟨A, HA, HV, hAl⟩ : ∃ A, Hid (planTextK ts (k + 1) = A ++ needsText (needsOf ts k) (needsOf ts k).length) ∧ Hid ((⟨(planTextK ts k).toArray⟩ : ByteArray) ++ ⟨#[32]⟩ ++ ⟨(digs (wn : Int)).toArray⟩ = ⟨A.toArray⟩) ∧ A.length ≤ 3000 := ⟨_, HT.out, by rw [show (⟨#[32]⟩ : ByteArray) = ⟨[UInt8.ofNat 32].toArray⟩ from rfl]; simp only [Hid, bytes_app], by simp; omega⟩
        have hk0' : (0 : Int) < (k : Int) := by omega
        clear hk0
        go_wp2_with fail
        refine hdg.mono ?_
        rintro e w1 ⟨rfl, rfl⟩
        go_wp2
      all_goals
        clear hc1' hdg HT hpl hdl
        go_loopw [3, 6] (fun s3 s6 wr => ∃ j : Nat, j ≤ (needsOf ts k).length ∧ s3 = .string ⟨(A ++ needsText (needsOf ts k) j).toArray⟩ ∧ s6 = .int .i64 j ∧ Below w.heap.size w wr) (fun _ s6 _ => (needsOf ts k).length - (intOf s6).toNat)
        case atStart => exact ⟨0, Nat.zero_le _, val_string (by rw [HV.out, needsText_zero, List.append_nil]), rfl, hb⟩
        case round =>
          clear hb
          obtain ⟨j, hj, rfl, rfl, hb⟩ := hrel
          have hc2' := (hb.cell (p := ⟨b, o + k * 2 + 1, none⟩) hbl).trans hc2
          by_cases hjl : j < (needsOf ts k).length
          · rcases hns with hns | ⟨nb, no, rfl, hnb, hnc⟩
            · rw [hns] at hjl; simp at hjl
            have hyc := (hb.cell (p := ⟨nb, no + j, none⟩) hnb).trans (hnc j hjl)
            have hym : (needsOf ts k).getD j 0 ∈ needsOf ts k := by rw [List.getD_eq_getElem?_getD, List.getElem?_eq_getElem hjl]; exact List.getElem_mem hjl
            have hyr := HN.out _ hym
            have HS : Hid (needsText (needsOf ts k) (j + 1) = (needsText (needsOf ts k) j ++ [UInt8.ofNat (markAt j)]) ++ digs ((needsOf ts k).getD j 0)) := needsText_succ _ j hjl
            have htl := needsText_len _ HN.out j hj
            clear hnc hym
            generalize (needsOf ts k).getD j 0 = yz at *
            obtain ⟨y, rfl⟩ := Int.eq_ofNat_of_zero_le hyr.1
            have hdg := digitsR_any y wr (by omega)
            have hdl := digs_len (y : Int) (by omega)
            cases j with
            | zero =>
              have hyc0 : wr.cell? ⟨nb, no, none⟩ = some (.int .i64 y) := by simpa using hyc
              clear hyc
              go_wp2_with (go_at_call 22; refine hdg.mono ?_; rintro e w2 ⟨rfl, rfl⟩)
              go_roundw
              case rel => exact ⟨0 + 1, by omega, val_string (by rw [HS.out, show (⟨#[60]⟩ : ByteArray) = ⟨[UInt8.ofNat (markAt 0)].toArray⟩ from rfl]; simp only [bytes_app, List.append_assoc]), by go_num, hb⟩
              case measure => simp [intOf]; omega
            | succ j =>
              go_wp2_with (go_at_call 22; refine hdg.mono ?_; rintro e w2 ⟨rfl, rfl⟩)
              go_roundw
              case rel => exact ⟨j + 1 + 1, by omega, val_string (by rw [HS.out, show (⟨#[44]⟩ : ByteArray) = ⟨[UInt8.ofNat (markAt (j + 1))].toArray⟩ from rfl]; simp only [bytes_app, List.append_assoc]), by go_num, hb⟩
              case measure => simp [intOf]; omega
          · have hje : j = (needsOf ts k).length := by omega
            subst hje
            clear hns
            go_wp2
            go_roundw
            case rel => exact ⟨k + 1, by omega, val_string (by rw [HA.out]), by go_num, hb⟩
            case measure => simp [intOf]; omega
    · have hke : k = ts.length := by omega
      subst hke
      clear hp
      go_wp2
      go_ret
      exact ⟨ret_string (by rw [planTextK_all]), hb⟩
end Go.Proofs.YtfmmfapfgpckfaaGreatDoor
