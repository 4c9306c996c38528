/- The document's own Digits and Text. The document's own Number. -/
import Derived.Test.YtlfbdjeojgbniaaGreatDoorRcm21
import Derived.Test.YtlfbdjeojgbniaaGreatDoorRwg02
import Derived.Test.YtlfbdjeojgbniaaGreatDoorRcm20

namespace Go.Proofs.YtlfbdjeojgbniaaGreatDoor
open Go.RowKit Go.Deep

theorem bytes_app (l m : List UInt8) : (⟨l.toArray⟩ : ByteArray) ++ ⟨m.toArray⟩ = ⟨(l ++ m).toArray⟩ := by
  apply ByteArray.ext
  simp
theorem digit_at (n : Nat) (hn : n < 10) : (⟨#[48, 49, 50, 51, 52, 53, 54, 55, 56, 57]⟩ : ByteArray).extract n (n + 1) = ⟨[UInt8.ofNat (48 + n)].toArray⟩ := by
  have h : ∀ k : Fin 10, (⟨#[48, 49, 50, 51, 52, 53, 54, 55, 56, 57]⟩ : ByteArray).extract k.val (k.val + 1) = ⟨[UInt8.ofNat (48 + k.val)].toArray⟩ := by decide +kernel
  exact h ⟨n, hn⟩
theorem ret_string {a b : ByteArray} (h : a = b) : Ending.returned (.string a) = .returned (.string b) := by rw [h]
theorem val_string {a b : ByteArray} (h : a = b) : Value.string a = .string b := by rw [h]

set_option maxRecDepth 100000 in
theorem digitsR_small (n : Nat) (w : World) (hn : n < 10) : Calls Tryz.prog 9 #[.int .i64 n] w fun e w' => e = .returned (.string ⟨(Lib.decDigits n).toArray⟩) ∧ w' = w := by
  go_enter Tryz.func9, Tryz.ntmps9
  go_wp2
  go_ret
  exact ⟨ret_string (by rw [digit_at n hn, dec_small n hn]), rfl⟩
set_option maxRecDepth 100000 in
theorem digitsR_more (n : Nat) (w : World) (hn : ¬ n < 10) (h2 : n < 100) : Calls Tryz.prog 9 #[.int .i64 n] w fun e w' => e = .returned (.string ⟨(Lib.decDigits n).toArray⟩) ∧ w' = w := by
  have hi := digitsR_small (n / 10) w (by omega)
  have hm : n % 10 < 10 := Nat.mod_lt _ (by omega)
  have hdl : (Lib.decDigits (n / 10)).length ≤ 2 := by rw [dec_small (n / 10) (by omega)]; simp
  go_enter Tryz.func9, Tryz.ntmps9
  go_wp2_with fail
  rw [show ((n : Int) / 10) = ((n / 10 : Nat) : Int) by omega]
  refine hi.mono ?_
  rintro e w' ⟨rfl, rfl⟩
  rw [show ((n : Int) % 10) = ((n % 10 : Nat) : Int) by omega]
  go_wp2
  go_ret
  exact ⟨ret_string (by rw [digit_at _ hm, bytes_app, dec_more n (by omega)]), rfl⟩
theorem digitsR_any (n : Nat) (w : World) (h2 : n < 100) : Calls Tryz.prog 9 #[.int .i64 n] w fun e w' => e = .returned (.string ⟨(digs (n : Int)).toArray⟩) ∧ w' = w := by
  unfold digs
  rw [Int.toNat_natCast]
  by_cases h : n < 10
  · exact digitsR_small n w h
  · exact digitsR_more n w h h2

set_option maxRecDepth 100000 in
set_option maxHeartbeats 4000000 in
theorem textR_any (v : Value) (ts : List (Int × List Int)) (w : World) (hp : PlanAt w v ts) (hck : CheckIs ts 0 0) :
    Calls Tryz.prog 24 #[v] w fun e w' => e = .returned (.string ⟨(planText ts).toArray⟩) ∧ Below w.heap.size w w' := by
  obtain ⟨hl, a, c, rfl, hp⟩ := hp
  obtain ⟨_, h30, herr, _⟩ := hck.ok rfl
  have HE : Hid (∀ j, j < ts.length → errOf ts j = 0) := herr
  have HTL : Hid (∀ k, k < ts.length → (taskText (ts.getD k (0, []))).length ≤ 92) := fun k hk => by
    obtain ⟨hw, hnd, hrs⟩ := errOf_zero (herr k hk)
    have hnlen := rising_len _ ts.length hrs hnd
    refine taskText_len _ ⟨by omega, fun z hz => ?_⟩ (by show (needsOf ts k).length ≤ 30; omega)
    have := hnd z hz
    omega
  clear herr hck
  go_enter Tryz.func24, Tryz.ntmps24
  go_wp2
  go_loopw [3, 4] (fun s3 s4 wr => ∃ k : Nat, k ≤ ts.length ∧ s3 = .string ⟨(planTextK ts k).toArray⟩ ∧ s4 = .int .i64 k ∧ Below w.heap.size w wr) (fun _ s4 _ => ts.length - (intOf s4).toNat)
  case atStart => exact ⟨0, Nat.zero_le _, rfl, rfl, Below.refl _ _⟩
  case round =>
    obtain ⟨k, hk, rfl, rfl, hb⟩ := hrel
    by_cases hkl : k < ts.length
    · rcases hp with rfl | ⟨b, o, rfl, hbl, hc⟩
      · simp at hkl
      obtain ⟨hc1, nv, hc2, hnl, na, nc, rfl, hns⟩ := hc k hkl
      have hc1' := (hb.cell (p := ⟨b, o + k * 2, none⟩) hbl).trans hc1
      obtain ⟨hw, hnd, hrs⟩ := errOf_zero (HE.out k hkl)
      have HN : Hid (∀ z, z ∈ needsOf ts k → 0 ≤ z ∧ z < 100) := fun z hz => by have := hnd z hz; omega
      have hnlen := rising_len _ ts.length hrs hnd
      have HT : Hid (planTextK ts (k + 1) = ((if k = 0 then planTextK ts k else planTextK ts k ++ [UInt8.ofNat 32]) ++ digs (ts.getD k (0, [])).1) ++ needsText (needsOf ts k) (needsOf ts k).length) := by
        show _ = _
        rw [planTextK_succ ts k hkl, List.append_assoc]
        congr 1
        unfold taskText
        rw [needsText_all]; rfl
      clear hc hrs hnd
      generalize (ts.getD k (0, [])).1 = wk at *
      obtain ⟨wn, rfl⟩ := Int.eq_ofNat_of_zero_le (show 0 ≤ wk by omega)
      have hdg := digitsR_any wn wr (by omega)
      have hpl := planTextK_len ts HTL.out k hk
      have hdl := digsP_len (wn : Int) (by omega)
      clear hc1
      by_cases hk0 : k = 0
      case' pos =>
        rw [if_pos hk0] at HT
        obtain ⟨A, HA, HV, hAl⟩ : ∃ A, Hid (planTextK ts (k + 1) = A ++ needsText (needsOf ts k) (needsOf ts k).length) ∧ Hid ((⟨(planTextK ts k).toArray⟩ : ByteArray) ++ ⟨(digs (wn : Int)).toArray⟩ = ⟨A.toArray⟩) ∧ A.length ≤ 3000 := ⟨_, HT.out, bytes_app _ _, by simp; omega⟩
        have hk0' : ¬ (0 : Int) < (k : Int) := by omega
        clear hk0
        go_wp2_with fail
        refine hdg.mono ?_
        rintro e w1 ⟨rfl, rfl⟩
        go_wp2
      case' neg =>
        rw [if_neg hk0] at HT
        obtain ⟨A, HA, HV, hAl⟩ : ∃ A, Hid (planTextK ts (k + 1) = A ++ needsText (needsOf ts k) (needsOf ts k).length) ∧ Hid ((⟨(planTextK ts k).toArray⟩ : ByteArray) ++ ⟨#[32]⟩ ++ ⟨(digs (wn : Int)).toArray⟩ = ⟨A.toArray⟩) ∧ A.length ≤ 3000 := ⟨_, HT.out, by rw [show (⟨#[32]⟩ : ByteArray) = ⟨[UInt8.ofNat 32].toArray⟩ from rfl]; simp only [Hid, bytes_app], by simp; omega⟩
        have hk0' : (0 : Int) < (k : Int) := by omega
        clear hk0
        go_wp2_with fail
        refine hdg.mono ?_
        rintro e w1 ⟨rfl, rfl⟩
        go_wp2
      all_goals
        clear hc1' hdg HT hpl hdl
        go_loopw [3, 6] (fun s3 s6 wr => ∃ j : Nat, j ≤ (needsOf ts k).length ∧ s3 = .string ⟨(A ++ needsText (needsOf ts k) j).toArray⟩ ∧ s6 = .int .i64 j ∧ Below w.heap.size w wr) (fun _ s6 _ => (needsOf ts k).length - (intOf s6).toNat)
        case atStart => exact ⟨0, Nat.zero_le _, val_string (by rw [HV.out, needsText_zero, List.append_nil]), rfl, hb⟩
        case round =>
          clear hb
          obtain ⟨j, hj, rfl, rfl, hb⟩ := hrel
          have hc2' := (hb.cell (p := ⟨b, o + k * 2 + 1, none⟩) hbl).trans hc2
          by_cases hjl : j < (needsOf ts k).length
          · rcases hns with hns | ⟨nb, no, rfl, hnb, hnc⟩
            · rw [hns] at hjl; simp at hjl
            have hyc := (hb.cell (p := ⟨nb, no + j, none⟩) hnb).trans (hnc j hjl)
            have hym : (needsOf ts k).getD j 0 ∈ needsOf ts k := by rw [List.getD_eq_getElem?_getD, List.getElem?_eq_getElem hjl]; exact List.getElem_mem hjl
            have hyr := HN.out _ hym
            have HS : Hid (needsText (needsOf ts k) (j + 1) = (needsText (needsOf ts k) j ++ [UInt8.ofNat (markAt j)]) ++ digs ((needsOf ts k).getD j 0)) := needsText_succ _ j hjl
            have htl := needsText_len _ HN.out j hj
            clear hnc hym
            generalize (needsOf ts k).getD j 0 = yz at *
            obtain ⟨y, rfl⟩ := Int.eq_ofNat_of_zero_le hyr.1
            have hdg := digitsR_any y wr (by omega)
            have hdl := digsP_len (y : Int) (by omega)
            cases j with
            | zero =>
              have hyc0 : wr.cell? ⟨nb, no, none⟩ = some (.int .i64 y) := by simpa using hyc
              clear hyc
              go_wp2_with (go_at_call 9; refine hdg.mono ?_; rintro e w2 ⟨rfl, rfl⟩)
              go_roundw
              case rel => exact ⟨0 + 1, by omega, val_string (by rw [HS.out, show (⟨#[60]⟩ : ByteArray) = ⟨[UInt8.ofNat (markAt 0)].toArray⟩ from rfl]; simp only [bytes_app, List.append_assoc]), by go_num, hb⟩
              case measure => simp [intOf]; omega
            | succ j =>
              go_wp2_with (go_at_call 9; refine hdg.mono ?_; rintro e w2 ⟨rfl, rfl⟩)
              go_roundw
              case rel => exact ⟨j + 1 + 1, by omega, val_string (by rw [HS.out, show (⟨#[44]⟩ : ByteArray) = ⟨[UInt8.ofNat (markAt (j + 1))].toArray⟩ from rfl]; simp only [bytes_app, List.append_assoc]), by go_num, hb⟩
              case measure => simp [intOf]; omega
          · have hje : j = (needsOf ts k).length := by omega
            subst hje
            clear hns
            go_wp2
            go_roundw
            case rel => exact ⟨k + 1, by omega, val_string (by rw [HA.out]), by go_num, hb⟩
            case measure => simp [intOf]; omega
    · have hke : k = ts.length := by omega
      subst hke
      clear hp
      go_wp2
      go_ret
      exact ⟨ret_string (by rw [planTextK_all]), hb⟩
end Go.Proofs.YtlfbdjeojgbniaaGreatDoor

namespace Go.Proofs.YtlfbdjeojgbniaaGreatDoor
open Go.RowKit Go.Deep

theorem num_long {l : List UInt8} (h : 4 < l.length) : numOf l = none := by unfold numOf; rw [if_pos (Or.inl h)]
theorem num_zero {r : List UInt8} (h : 1 < (48 :: r : List UInt8).length) : numOf (48 :: r) = none := by unfold numOf; rw [if_pos (Or.inr ⟨h, rfl⟩)]
theorem num_plain {b : UInt8} {r : List UInt8} (h4 : ¬ 4 < (b :: r).length) (h : ¬ (b = 48 ∧ 1 < (b :: r).length)) : numOf (b :: r) = Lib.decFrom 0 (b :: r) := by
  unfold numOf
  rw [if_neg]
  · rfl
  · rintro (h1 | ⟨h1, h2⟩)
    · exact h4 h1
    · exact h ⟨Option.some.inj h2, h1⟩

/-- The loop of Number, from a place on. -/
theorem dec_step {l : List UInt8} {i n : Nat} (hi : i < l.length) : Lib.decFrom n (l.drop i) = match Lib.digitVal l[i] with | some d => Lib.decFrom (n * 10 + d) (l.drop (i + 1)) | none => none := by
  rw [List.drop_eq_getElem_cons hi]; rfl
theorem digit_low {b : UInt8} (h : b.toNat < 48) : Lib.digitVal b = none := by unfold Lib.digitVal; rw [if_neg (by omega)]
theorem digit_high {b : UInt8} (h : 57 < b.toNat) : Lib.digitVal b = none := by unfold Lib.digitVal; rw [if_neg (by omega)]
theorem digit_in {b : UInt8} (h : ¬ b.toNat < 48) (h2 : ¬ 57 < b.toNat) : Lib.digitVal b = some (b.toNat - 48) := by unfold Lib.digitVal; rw [if_pos (by omega)]

set_option maxRecDepth 100000 in
set_option maxHeartbeats 4000000 in
theorem numberR_main (l : List UInt8) (w : World) (hpos : 0 < l.length) (hll : l.length ≤ 4) (hz : ∀ {h : 0 < l.length}, 1 < l.length → l[0] ≠ 48) (hnum : numOf l = Lib.decFrom 0 l) :
    Calls Tryz.prog 30 #[.string ⟨l.toArray⟩, .int .i64 4] w fun e w' => e = .returned (.tuple #[.int .i64 (((numOf l).getD 0 : Nat) : Int), .bool (numOf l).isSome]) ∧ Below w.heap.size w w' := by
  have HN : Hid (numOf l = Lib.decFrom 0 l) := hnum
  have hne : l.isEmpty = false := by cases l <;> simp_all
  have h0 : 0 < (⟨l.toArray⟩ : ByteArray).size := by show 0 < l.toArray.size; simpa using hpos
  have hz' : ¬ (1 : Int) < (l.length : Int) ∨ ((1 : Int) < (l.length : Int) ∧ ((((⟨l.toArray⟩ : ByteArray)[0]'h0).toNat : Int) == 48) = false) := by
    by_cases h1 : 1 < l.length
    · refine Or.inr ⟨by omega, ?_⟩
      rw [beq_eq_false_iff_ne]
      intro e
      have e' : (l[0].toNat : Int) = 48 := e
      exact hz h1 (UInt8.toNat_inj.1 (by show l[0].toNat = 48; omega))
    · exact Or.inl (by omega)
  clear hz hnum
  have hlI : ¬ (4 : Int) < (l.length : Int) := by omega
  rcases hz' with h1 | ⟨h1, h48⟩
  all_goals
    go_enter Tryz.func30, Tryz.ntmps30
    go_wp2
    all_goals
      go_loopw [6, 7] (fun s6 s7 wr => ∃ i n : Nat, i ≤ l.length ∧ s6 = .int .i64 n ∧ s7 = .int .i64 i ∧ n < 10 ^ i ∧ Hid (Lib.decFrom 0 l = Lib.decFrom n (l.drop i)) ∧ Below w.heap.size w wr) (fun _ s7 _ => l.length - (intOf s7).toNat)
      case atStart => exact ⟨0, 0, Nat.zero_le _, rfl, rfl, by decide, rfl, Below.refl _ _⟩
      case round =>
        obtain ⟨i, n, hi, rfl, rfl, hn, hd, hb⟩ := hrel
        have hn4 : n < 10000 := Nat.lt_of_lt_of_le hn (Nat.le_trans (Nat.pow_le_pow_right (by decide) (show i ≤ 4 by omega)) (by decide))
        by_cases hil : i < l.length
        · have hsz : i < (⟨l.toArray⟩ : ByteArray).size := by show i < l.toArray.size; simpa using hil
          have hst := dec_step (n := n) hil
          have hxe : (⟨l.toArray⟩ : ByteArray)[i]'hsz = l[i] := rfl
          have HX : Hid ((⟨l.toArray⟩ : ByteArray)[i]'hsz = l[i]) := hxe
          by_cases h48 : l[i].toNat < 48
          · rw [digit_low h48] at hst
            have HNN : Hid (numOf l = none) := by rw [HN.out, hd.out]; exact hst
            have h48' : (((⟨l.toArray⟩ : ByteArray)[i]'hsz).toNat : Int) < 48 := by rw [hxe]; omega
            clear hst h48 hxe
            go_wp2
            go_ret2
            exact ⟨by rw [HNN.out]; rfl, hb⟩
          by_cases h57 : 57 < l[i].toNat
          · rw [digit_high h57] at hst
            have HNN : Hid (numOf l = none) := by rw [HN.out, hd.out]; exact hst
            have h48' : ¬ (((⟨l.toArray⟩ : ByteArray)[i]'hsz).toNat : Int) < 48 := by rw [hxe]; omega
            have h57' : 57 < (((⟨l.toArray⟩ : ByteArray)[i]'hsz).toNat : Int) := by rw [hxe]; omega
            clear hst h48 hxe h57
            go_wp2
            go_ret2
            exact ⟨by rw [HNN.out]; rfl, hb⟩
          rw [digit_in h48 h57] at hst
          have h48' : ¬ (((⟨l.toArray⟩ : ByteArray)[i]'hsz).toNat : Int) < 48 := by rw [hxe]; omega
          have h57' : ¬ 57 < (((⟨l.toArray⟩ : ByteArray)[i]'hsz).toNat : Int) := by rw [hxe]; omega
          have HST : Hid (Lib.decFrom n (l.drop i) = Lib.decFrom (n * 10 + (((⟨l.toArray⟩ : ByteArray)[i]'hsz).toNat - 48)) (l.drop (i + 1))) := hst
          have HB : Hid (n * 10 + (((⟨l.toArray⟩ : ByteArray)[i]'hsz).toNat - 48) < 10 ^ (i + 1)) := by
            show _ < _
            rw [hxe, Nat.pow_succ]; omega
          clear hst h48 h57 hxe HX
          go_wp2
          go_roundw
          case rel => exact ⟨i + 1, _, by omega, congrArg (Value.int .i64) (by omega), by go_num, HB.out, hd.out.trans HST.out, hb⟩
          case measure => simp [intOf]; omega
        · have HNN : Hid (numOf l = some n) := by rw [HN.out, hd.out, List.drop_of_length_le (by omega)]; rfl
          go_wp2
          go_ret2
          exact ⟨by rw [HNN.out]; rfl, hb⟩
set_option maxRecDepth 100000 in
set_option maxHeartbeats 4000000 in
theorem numberR_any (l : List UInt8) (w : World) (hs : l.length ≤ 1048576) :
    Calls Tryz.prog 30 #[.string ⟨l.toArray⟩, .int .i64 4] w fun e w' => e = .returned (.tuple #[.int .i64 (((numOf l).getD 0 : Nat) : Int), .bool (numOf l).isSome]) ∧ Below w.heap.size w w' := by
  cases l with
  | nil =>
    go_enter Tryz.func30, Tryz.ntmps30
    go_wp2
    go_ret2
    exact ⟨rfl, Below.refl _ _⟩
  | cons b r =>
    by_cases h4 : 4 < (b :: r).length
    · have HN : Hid (numOf (b :: r) = none) := num_long h4
      have h4' : 4 < r.length + 1 := h4
      have h4'' : 4 < (r.length : Int) + 1 := by omega
      clear h4
      go_enter Tryz.func30, Tryz.ntmps30
      go_wp2
      go_ret2
      exact ⟨by rw [HN.out]; rfl, Below.refl _ _⟩
    by_cases hz : b = 48 ∧ 1 < (b :: r).length
    · obtain ⟨rfl, h1⟩ := hz
      have HN : Hid (numOf (48 :: r) = none) := num_zero h1
      have h4' : r.length < 4 := by simp at h4; omega
      have h1' : 0 < r.length := by simpa using h1
      clear h1 h4
      go_enter Tryz.func30, Tryz.ntmps30
      go_wp2
      go_ret2
      exact ⟨by rw [HN.out]; rfl, Below.refl _ _⟩
    exact numberR_main (b :: r) w (by simp) (by omega) (fun h e => hz ⟨e, h⟩) (num_plain h4 hz)
end Go.Proofs.YtlfbdjeojgbniaaGreatDoor
