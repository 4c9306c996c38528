/- The walk of RunWorks. -/
import Derived.Test.YtlfbdjeojgbniaaGreatDoorRwg01
import Derived.Test.YtlfbdjeojgbniaaGreatDoorRcm40
import Derived.Test.YtlfbdjeojgbniaaGreatDoorRwg04

namespace Go.Proofs.YtlfbdjeojgbniaaGreatDoor
open Go.RowKit Go.Deep

/-- The first two lines. -/
def headL (N w h : Nat) : List (List UInt8) := [weaveL (UInt8.ofNat (48 + w)) N, gangL h]
theorem head_text (N w h : Nat) : outsT (headL N w h) = (weaveT ++ 32 :: besideT (UInt8.ofNat (48 + w)) N) ++ [10, 103, 97, 110, 103, 32] ++ Lib.decDigits h ++ [10] := by
  simp [headL, outsT, weaveL, gangL, gangT, digs]
theorem turn_text (A : List (List UInt8)) (k : Nat) : outsT (A ++ turnLs (k + 1)) = outsT (A ++ turnLs k) ++ [115, 116, 101, 112, 32] ++ Lib.decDigits k ++ [32, 48, 10] := by
  have e : turnLs (k + 1) = turnLs k ++ [stepL k] := by simp [turnLs, List.range_succ]
  rw [e, ← List.append_assoc, outsT_app]
  simp [outsT, stepL, digs]
theorem turn_zero (A : List (List UInt8)) : outsT (A ++ turnLs 0) = outsT A := by simp [turnLs]
theorem round_text (N w h r : Nat) : headL N w h ++ roundLs h (r + 1) = (headL N w h ++ roundLs h r) ++ turnLs h := by simp [roundLs]
theorem work_text (N w h : Nat) : outsT (workLs N w h ++ [leftT]) = outsT (headL N w h ++ roundLs h ((N + 1) * (w + 1))) ++ [108, 101, 102, 116, 10] := by
  rw [outsT_app]
  have e : workLs N w h = headL N w h ++ roundLs h ((N + 1) * (w + 1)) := rfl
  rw [e]
  rfl
def oneTs : List (Int × List Int) := [(1, [])]
theorem one_need {x y : Nat} (h : Need oneTs x y) : False := by
  unfold Need at h
  have hz : needsOf oneTs x = [] := by
    unfold needsOf oneTs
    match x with
    | 0 => rfl
    | x + 1 => simp
  simp [hz] at h
theorem one_check : CheckIs oneTs 0 0 := CheckIs.none (by decide) (fun j hj => by
  have : j = 0 := by have : oneTs.length = 1 := rfl; omega
  subst this; decide) (fun j _ h => by
  obtain ⟨n, h⟩ := h
  cases n with
  | zero => exact one_need h
  | succ n => obtain ⟨y, _, hn⟩ := h; exact one_need hn)
theorem one_text : planText oneTs = [49] := by
  unfold planText oneTs taskText digs
  simp [joinC]
  exact dec_small 1 (by omega)
theorem one_long {e : Ending} (h : LongOut oneTs 1 e) : e = .returned (.tuple #[.int .i64 1, .nilIface]) := by
  obtain ⟨s, -, hs, rfl⟩ := greedy_yes (n := 1) one_check ⟨by omega, by omega⟩ h
  have hw := one_check.works
  have h1 := Stops.alone hw.1 hw.2.1 hw.2.2 hs
  have : (s : Int) = 1 := by rw [h1]; rfl
  rw [this]

theorem dig_one {w : Nat} (h : w < 10) : (⟨(Lib.decDigits w).toArray⟩ : ByteArray) = ⟨[UInt8.ofNat (48 + w)].toArray⟩ := by rw [dec_small w h]
set_option maxRecDepth 100000 in
set_option maxHeartbeats 8000000 in
theorem runWorks_any {q : Addr} (n work hands : Int) (w : World) (hv : Vars q w) :
    Calls Tryz.prog 5 #[.int .i64 n, .int .i64 work, .int .i64 hands] w fun e w' => e = .returned (.bool true) ∧ Below w.heap.size w w' := by
  by_cases h1 : n < 1
  · clear hv; go_enter Tryz.func5, Tryz.ntmps5
    go_wp2
    go_ret
    exact ⟨rfl, Below.refl _ _⟩
  by_cases h2 : 8 < n
  · clear hv; go_enter Tryz.func5, Tryz.ntmps5
    go_wp2
    go_ret
    exact ⟨rfl, Below.refl _ _⟩
  by_cases h3 : work < 1
  · clear hv; go_enter Tryz.func5, Tryz.ntmps5
    go_wp2
    go_ret
    exact ⟨rfl, Below.refl _ _⟩
  by_cases h4 : 3 < work
  · clear hv; go_enter Tryz.func5, Tryz.ntmps5
    go_wp2
    go_ret
    exact ⟨rfl, Below.refl _ _⟩
  by_cases h5 : hands < 1
  · clear hv; go_enter Tryz.func5, Tryz.ntmps5
    go_wp2
    go_ret
    exact ⟨rfl, Below.refl _ _⟩
  by_cases h6 : 4 < hands
  · clear hv; go_enter Tryz.func5, Tryz.ntmps5
    go_wp2
    go_ret
    exact ⟨rfl, Below.refl _ _⟩
  obtain ⟨N, rfl⟩ : ∃ N : Nat, n = ((N + 1 : Nat) : Int) := ⟨(n - 1).toNat, by omega⟩
  obtain ⟨wk, rfl⟩ : ∃ k : Nat, work = (k : Int) := ⟨work.toNat, by omega⟩
  obtain ⟨h, rfl⟩ : ∃ k : Nat, hands = (k : Int) := ⟨hands.toNat, by omega⟩
  have HV : Hid (Vars q w) := hv
  have HR : Hid (N < 8 ∧ 1 ≤ wk ∧ wk ≤ 3 ∧ 1 ≤ h ∧ h ≤ 4) := ⟨by omega, by omega, by omega, by omega, by omega⟩
  have hd1 := digitsD_any wk w (by omega)
  have hd2 := digitsD_any h w (by omega)
  have HD : Hid (∀ (k : Nat) (wx : World), k ≤ 4 → Calls Tryz.prog 9 #[.int .i64 k] wx fun e w' => e = .returned (.string ⟨(Lib.decDigits k).toArray⟩) ∧ w' = wx) := fun k wx hk => digitsD_any k wx (by omega)
  have l1 : (Lib.decDigits wk).length ≤ 1 := by rw [dec_small wk (by omega)]; simp
  have l2 : (Lib.decDigits h).length ≤ 1 := by rw [dec_small h (by omega)]; simp
  have LK : Hid (∀ k : Nat, k ≤ 4 → (Lib.decDigits k).length ≤ 1) := fun k hk => by rw [dec_small k (by omega)]; simp
  have HW1 : Hid (Lib.decDigits wk = [UInt8.ofNat (48 + wk)]) := dec_small wk (by omega)
  obtain ⟨m, hm⟩ : ∃ m : Nat, (N + 1) * (wk + 1) = m := ⟨_, rfl⟩
  have hm32 : m ≤ 32 := by
    have := Nat.mul_le_mul (show N + 1 ≤ 8 by omega) (show wk + 1 ≤ 4 by omega)
    omega
  have hmi : ((N : Int) + 1) * ((wk : Int) + 1) = (m : Int) := by rw [← hm]; push_cast; rfl
  have HM : Hid ((N + 1) * (wk + 1) = m) := hm
  clear hv hm
  go_enter Tryz.func5, Tryz.ntmps5
  go_wp2_with fail
  refine hd1.mono ?_
  clear hd1
  rintro e w1 ⟨rfl, rfl⟩
  go_wp2_with fail
  refine hd2.mono ?_
  clear hd2
  rintro e w2 ⟨rfl, rfl⟩
  generalize hdw : Lib.decDigits wk = dw at *
  generalize hdh : Lib.decDigits h = dh at *
  have hN : Hid (N < 8) := HR.out.1
  go_wp2
  go_loopw [9, 10] (fun s9 s10 wr => ∃ (s : List UInt8) (i : Nat), i ≤ N ∧ s9 = .string ⟨s.toArray⟩ ∧ s10 = .int .i64 ((i : Int) + 1) ∧ Hid (s = weaveT ++ 32 :: besideT (UInt8.ofNat (48 + wk)) i) ∧ s.length ≤ 2 * i + 7 ∧ wr = w2) (fun _ s10 _ => N + 1 - (intOf s10).toNat)
  case atStart =>
    refine ⟨[119, 101, 97, 118, 101, 32] ++ dw, 0, Nat.zero_le _, ?_, by go_num, ?_, by simp; omega, rfl⟩
    · rw [← bytesR_app]
    · show _ = _
      rw [HW1.out]; rfl
  case round =>
    obtain ⟨s, i, hi, rfl, rfl, hs, hsl, hw⟩ := hrel
    have HS : Hid (s = weaveT ++ 32 :: besideT (UInt8.ofNat (48 + wk)) i) := hs
    clear hs
    have hwr : Hid (wr = w2) := hw
    clear hw
    by_cases hil : i < N
    · have hili : ((i : Int) + 1) < (N : Int) + 1 := by omega
      have HT : Hid (s ++ [124] ++ dw = weaveT ++ 32 :: besideT (UInt8.ofNat (48 + wk)) (i + 1)) := (by
        show _ = _
        rw [HS.out, HW1.out]
        simp [besideT])
      go_wp2
      go_roundw
      case rel =>
        refine ⟨s ++ [124] ++ dw, i + 1, by omega, ?_, by go_num, HT, by simp; omega, hwr.out⟩
        rw [← bytesR_app, ← bytesR_app]
      case measure => simp [intOf]; omega
    · obtain rfl : i = N := by omega
      clear hil hi h1 h2
      have HHD : Hid (s ++ [10, 103, 97, 110, 103, 32] ++ dh ++ [10] = outsT (headL i wk h)) := (by
        show _ = _
        rw [head_text, HS.out, hdh])
      have hmz : m ≤ 32 := hm32
      have hsl2 : s.length ≤ 21 := by have := HR.out.1; omega
      clear hsl hdw HS HW1 l1 hm32
      obtain ⟨wa, rfl⟩ : ∃ wa, wa = wr := ⟨_, rfl⟩
      go_wp2
      go_loopw [9, 11, 12, 13, 14] (fun s9 s11 s12 _ _ w3 => ∃ (t : List UInt8) (r c : Nat), r ≤ m ∧ s9 = .string ⟨t.toArray⟩ ∧ s11 = .int .i64 ((c : Int) + 2) ∧ s12 = .int .i64 (r : Int) ∧ Hid (t = outsT (headL i wk h ++ roundLs h r) ∧ c = r * h) ∧ t.length ≤ 30 + 9 * c ∧ c ≤ 4 * r ∧ w3 = wa) (fun _ _ s12 _ _ _ => m - (intOf s12).toNat)
      case atStart =>
        refine ⟨s ++ [10, 103, 97, 110, 103, 32] ++ dh ++ [10], 0, 0, Nat.zero_le _, ?_, by go_num, by go_num, ⟨?_, by simp⟩, by simp; omega, Nat.le_refl _, rfl⟩
        · rw [← bytesR_app, ← bytesR_app, ← bytesR_app]
        · rw [HHD.out]; simp [roundLs]
      case round =>
        obtain ⟨t, r, c, hr, rfl, rfl, rfl, ht, htl, hc4, hw3⟩ := hrel
        have hwr3 : Hid (wr = wa) := hw3
        have HT : Hid (t = outsT (headL i wk h ++ roundLs h r) ∧ c = r * h) := ht
        clear ht hw3
        by_cases hrm : r < m
        · have hrmi : (r : Int) < (m : Int) := by omega
          go_wp2
          go_loopw [9, 11, 13, 14] (fun s9 s11 s13 _ w4 => ∃ (t2 : List UInt8) (k c2 : Nat), k ≤ h ∧ s9 = .string ⟨t2.toArray⟩ ∧ s11 = .int .i64 ((c2 : Int) + 2) ∧ s13 = .int .i64 (k : Int) ∧ Hid (t2 = outsT (headL i wk h ++ roundLs h r ++ turnLs k)) ∧ c2 = c + k ∧ t2.length ≤ 30 + 9 * c2 ∧ w4 = wa) (fun _ _ s13 _ _ => h - (intOf s13).toNat)
          case atStart => exact ⟨t, 0, c, Nat.zero_le _, rfl, rfl, rfl, (by show _ = _; rw [turn_zero]; exact HT.out.1), rfl, htl, hwr3.out⟩
          case round =>
            obtain ⟨t2, k, c2, hk, rfl, rfl, rfl, ht2, hc2, ht2l, hw4⟩ := hrel
            have hwr4 : Hid (wr = wa) := hw4
            have HT2 : Hid (t2 = outsT (headL i wk h ++ roundLs h r ++ turnLs k)) := ht2
            clear ht2 hw4
            by_cases hkh : k < h
            · have hkhi : (k : Int) < (h : Int) := by omega
              have hdk := HD.out k wr (by omega)
              have lk := LK.out k (by omega)
              have HT3 : Hid (t2 ++ [115, 116, 101, 112, 32] ++ Lib.decDigits k ++ [32, 48, 10] = outsT (headL i wk h ++ roundLs h r ++ turnLs (k + 1))) := (by
                show _ = _
                rw [turn_text, HT2.out])
              generalize Lib.decDigits k = dk at *
              go_wp2_with fail
              refine hdk.mono ?_
              clear hdk
              rintro e w5 ⟨rfl, rfl⟩
              go_wp2
              go_roundw
              case rel =>
                refine ⟨t2 ++ [115, 116, 101, 112, 32] ++ dk ++ [32, 48, 10], k + 1, c2 + 1, by omega, ?_, by go_num, by go_num, HT3, by omega, by simp; omega, hwr4.out⟩
                rw [← bytesR_app, ← bytesR_app, ← bytesR_app]
              case measure => simp [intOf]; omega
            · obtain rfl : k = h := by omega
              have HT4 : Hid (t2 = outsT (headL i wk k ++ roundLs k (r + 1)) ∧ c2 = (r + 1) * k) := ⟨by rw [round_text]; exact HT2.out, by rw [hc2, HT.out.2, Nat.succ_mul]⟩
              clear HT2 hkh
              go_wp2
              go_roundw
              case rel => exact ⟨t2, r + 1, c2, by omega, rfl, rfl, by go_num, HT4, ht2l, by omega, hwr4.out⟩
              case measure => simp [intOf]; omega
        · obtain rfl : r = m := by omega
          clear hrm hr
          have hwe : wr = w2 := hwr3.out.trans hwr.out
          clear hwr3 hwr
          subst hwe
          obtain ⟨r1, r2, r3, r4, r5⟩ := HR.out
          have HWL : Hid ((workLs i wk h).length = c + 2) := (by
            show _ = _
            rw [work_len, HM.out, HT.out.2]; omega)
          have HTW : Hid (t ++ [108, 101, 102, 116, 10] = outsT (workLs i wk h ++ [leftT])) := (by
            show _ = _
            rw [work_text, HM.out, ← HT.out.1])
          have htl2 : t.length ≤ 1182 := by omega
          have HSW : Hid (∀ out, SessionIs (t ++ [108, 101, 102, 116, 10]) out → (splitC 10 out).length = c + 2 + 2 ∧ (splitC 10 out).getD (c + 2) [] = [48]) := fun out hs => by
            rw [HTW.out] at hs
            have h := session_works r1 r2 r3 r4 r5 (by rw [← HTW.out]; simp; omega) hs
            rw [HWL.out] at h
            exact h
          have hrun : Calls Tryz.prog 6 #[.string ((⟨t.toArray⟩ : ByteArray) ++ ⟨#[108, 101, 102, 116, 10]⟩)] wr fun e w' => (∃ out, e = .returned (.string ⟨out.toArray⟩) ∧ SessionIs (t ++ [108, 101, 102, 116, 10]) out ∧ out.length ≤ 100000000) ∧ Below wr.heap.size wr w' := by
            have := runS_any (t ++ [108, 101, 102, 116, 10]) (by simp; omega) q wr HV.out
            rw [← bytesR_app] at this
            exact this
          clear HT HM HTW HWL HHD r1 r2 r3 r4 r5
          go_wp2_with fail
          refine hrun.mono ?_
          clear hrun
          rintro e w3 ⟨⟨out, rfl, hs, hol⟩, hb3⟩
          have HB3 : Hid (Below wr.heap.size wr w3) := hb3
          obtain ⟨hsl3, hsg⟩ := HSW.out out hs
          have hcut : Calls Tryz.prog 7 #[.string ⟨out.toArray⟩, .int .u8 10] w3 fun e w' => (∃ ov, e = .returned ov ∧ w'.ownsRow w3.heap.size 9 1 ov (splitC 10 out).length ((splitC 10 out).map strV)) ∧ Below w3.heap.size w3 w' := cutR_any out 10 w3 hol
          clear HSW hs hol hb3
          go_wp2_with fail
          refine hcut.mono ?_
          clear hcut
          rintro e w4 ⟨⟨ov, rfl, hov⟩, hb4⟩
          have HB4 : Hid (Below wr.heap.size wr w4) := HB3.out.trans (hb4.mono HB3.out.size)
          obtain ⟨g, cap, rfl⟩ : ∃ g cap, ov = .slice (some ⟨g, 0, none⟩) (splitC 10 out).length cap := by
            rcases hov.2 with ⟨_, h0⟩ | ⟨g, cap, cur, hv, _⟩
            · omega
            · exact ⟨g, cap, hv⟩
          have HCL : Hid (∀ W, Below w4.heap.size w4 W → W.cell? ⟨g, c + 2, none⟩ = some (.string ⟨#[48]⟩)) := fun W hb => by
            have h1 := World.ownsRow.cells hov (g := g) rfl (c + 2) (.string ⟨#[48]⟩) (by
              rw [List.getElem?_map, List.getElem?_eq_getElem (by omega)]
              rw [List.getD_eq_getElem?_getD, List.getElem?_eq_getElem (by omega)] at hsg
              have hsg' : (splitC 10 out)[c + 2]'(by omega) = [48] := hsg
              rw [hsg']; rfl)
            rw [Addr.add_lit, Nat.zero_add] at h1
            exact (hb.cell (p := ⟨g, c + 2, none⟩) (hov.lt g rfl).2).trans h1
          rw [hsl3]
          have HVW : Hid (Vars q w4) := HV.out.later HB4.out
          have hpz : Calls Tryz.prog 10 #[.string ⟨#[49]⟩] w4 fun e w' => (∃ v, e = .returned (.tuple #[v, .nilIface]) ∧ PlanNew w4.heap.size w' v oneTs) ∧ Below w4.heap.size w4 w' := by
            have := parse_text oneTs w4 one_check HVW.out.syn HVW.out.len
            rw [one_text] at this
            exact this
          clear hov hb4 hsg hsl3
          go_wp2_with fail
          refine hpz.mono ?_
          clear hpz
          rintro e w5 ⟨⟨v, rfl, hpn⟩, hb5⟩
          have HP5 : Hid (PlanAt w5 v oneTs) := hpn.at
          have HB5 : Hid (Below w4.heap.size w4 w5) := hb5
          obtain ⟨pa, pc, rfl⟩ := planAt_shape hpn.at
          have hlg : Calls Tryz.prog 11 #[.slice pa oneTs.length pc, .int .i64 1] w5 fun e w' => e = .returned (.tuple #[.int .i64 1, .nilIface]) ∧ Below w5.heap.size w5 w' := (long_any _ oneTs 1 w5 HP5.out).mono (fun e w' ⟨h, hb⟩ => ⟨one_long h, hb⟩)
          clear hpn hb5
          have HJN : Hid (∀ wx, Below w5.heap.size w5 wx → Calls Tryz.prog 12 #[.slice pa oneTs.length pc] wx fun e w' => NewOut oneTs wx e w') := fun wx hb => new_good _ oneTs wx (HP5.out.later hb) one_check
          have HGN : Hid (∀ wx, Below w5.heap.size w5 wx → Calls Tryz.prog 13 #[.slice pa oneTs.length pc, .int .i64 1, .int .i64 1] wx fun e w' => ∃ G, e = .returned (.tuple #[.pointer (some ⟨G, 0, none⟩), .nilIface]) ∧ GX (fun k => k < wx.heap.size) G 1 1 oneTs (gnew oneTs) w' ∧ Below wx.heap.size wx w') := fun wx hb => gx_new (hands := 1) (room := 1) (HP5.out.later hb) one_check (by omega) (by omega) (by omega) (by omega)
          generalize hol1 : oneTs.length = ol at *
          go_wp2_with fail
          refine hlg.mono ?_
          clear hlg
          rintro e w6 ⟨rfl, hb6⟩
          have HB6 : Hid (Below w5.heap.size w5 w6) := hb6
          have hjn := HJN.out w6 hb6
          clear hb6 HJN
          go_wp2_with fail
          refine hjn.mono ?_
          clear hjn
          rintro e w7 ⟨J, M, A, D, C, rfl, hj, -, hb7⟩
          have HJ : Hid (JnT J M A D C oneTs (fun _ => false) w7) := hj
          have HB7 : Hid (Below w5.heap.size w5 w7) := HB6.out.trans (hb7.mono HB6.out.size)
          have hgn := HGN.out w7 HB7.out
          clear hj hb7 HGN
          go_wp2_with fail
          refine hgn.mono ?_
          clear hgn
          rintro e w8 ⟨G, rfl, hgx, hb8⟩
          have HB8 : Hid (Below wr.heap.size wr w8 ∧ Below w4.heap.size w4 w8) := (by
            have h1 : Below w4.heap.size w4 w8 := (HB5.out.trans (HB7.out.mono HB5.out.size)).trans (hb8.mono (Nat.le_trans HB5.out.size HB7.out.size))
            exact ⟨HB4.out.trans (h1.mono HB4.out.size), h1⟩)
          have hjl : Calls Tryz.prog 14 #[.pointer (some ⟨J, 0, none⟩)] w8 fun e w' => e = .returned (.int .i64 1) ∧ Below w8.heap.size w8 w' := (left_any J M A D C oneTs (fun _ => false) w8 (Jn.later HJ.out hb8)).mono (fun e w' ⟨h1, k, h2⟩ => ⟨h1, by rw [h2]; exact drewS w8 k⟩)
          have HGL : Hid (∀ wx, Below w8.heap.size w8 wx → Calls Tryz.prog 15 #[.pointer (some ⟨G, 0, none⟩)] wx fun e w' => e = .returned (.int .i64 1) ∧ Below wx.heap.size wx w') := fun wx hb => (hgx.later hb).left.mono (fun e w' ⟨h1, h2⟩ => ⟨h1, h2⟩)
          clear hgx hb8 HJ hol1
          have htl3 : (t.length : Int) < 2990 := by omega
          go_wp2_with (first | (go_at_call 14; refine hjl.mono ?_; clear hjl; rintro e w9 ⟨rfl, hb9⟩; have HB9 : Hid (Below w8.heap.size w8 w9) := hb9; clear hb9) | (go_at_call 15; refine (HGL.out _ HB9.out).mono ?_; rintro e w10 ⟨rfl, hb10⟩; have HB10 : Hid (Below w8.heap.size w8 w10) := HB9.out.trans (hb10.mono HB9.out.size); have hcl := HCL.out w10 (HB8.out.2.trans (HB10.out.mono HB8.out.2.size)); clear hb10))
          go_ret
          exact ⟨rfl, HB8.out.1.trans (HB10.out.mono HB8.out.1.size)⟩
end Go.Proofs.YtlfbdjeojgbniaaGreatDoor
