/- The walk of TopWeave. -/
import Derived.Test.YtkcpimbhfmhjgaaTwa
namespace Go.Proofs.Ytkcpimbhfmhjgaa
open Go.RowKit Go.Deep

theorem plan_none (w : World) : PlanAt w (.slice none 0 0) [] := ⟨by simp, none, 0, rfl, Or.inl rfl⟩
theorem topHands {hands x : Int} (h1 : 1 ≤ hands) (h6 : hands ≤ 6) (h0 : 0 ≤ x) (hx : x ≤ 700) : 0 ≤ hands * x ∧ hands * x ≤ 4200 ∧ 0 ≤ (hands - 1) * x ∧ (hands - 1) * x ≤ 4200 := by
  have : hands = 1 ∨ hands = 2 ∨ hands = 3 ∨ hands = 4 ∨ hands = 5 ∨ hands = 6 := by omega
  rcases this with rfl | rfl | rfl | rfl | rfl | rfl <;> omega
set_option maxRecDepth 100000 in
set_option maxHeartbeats 8000000 in
theorem topWeave_any (l : List UInt8) (hands : Int) (w : World) (hl : l.length ≤ 9223372036854775807) :
    Calls Try.prog 3 #[.string ⟨l.toArray⟩, .int .i64 hands] w fun e w' => e = .returned (.bool true) ∧ Below w.heap.size w w' := by
  have hone := tone_any w
  go_enter Try.func3, Try.ntmps3
  go_wp2_with fail
  refine hone.mono ?_
  clear hone
  rintro e w1 ⟨rfl, hb1⟩
  have HB1 : Hid (Below w.heap.size w w1) := hb1
  clear hb1
  go_wp2_with fail
  refine (parse_any l w1 hl).mono ?_
  rintro e w2 ⟨hb2, h⟩
  have HB2 : Hid (Below w.heap.size w w2) := HB1.out.trans (hb2.mono HB1.out.size)
  clear hb2 HB1 hl
  rcases h with ⟨q, hq, -, rfl⟩ | ⟨t, tv, hok, rfl, hp⟩
  · have hrun := run_any _ [] hands w2 (plan_none w2)
    rw [errV_some hq]
    clear hq
    go_wp2_with fail
    refine hrun.mono ?_
    clear hrun
    rintro e w3 ⟨hro, hb3⟩
    have HB3 : Hid (Below w.heap.size w w3) := HB2.out.trans (hb3.mono HB2.out.size)
    clear hb3
    rcases hro with ⟨p, q2, -, hq2, rfl⟩ | ⟨-, -, -, s, bv, -, rfl, -⟩
    · rw [errV_some hq2]
      generalize gErr q2 hands = g at *
      clear hq2
      go_wp2
      go_ret
      exact ⟨rfl, HB3.out⟩
    · go_wp2
      go_ret
      exact ⟨rfl, HB3.out⟩
  · have hc : CheckIs (t.lay V1 []) 0 0 := hok.check
    have hwk := t.lay_work V1
    have hsp : ∀ {R T : Nat → Int}, Deep (t.lay V1 []) R T → maxTo T (t.lay V1 []).length = t.span V1 := fun hd => t.lay_span V1 hd (fun ds hds => (hok.facts.2 ds hds).1)
    have hrun := run_any _ _ hands w2 hp
    have HP : Hid (∀ wx, Below w2.heap.size w2 wx → PlanAt wx tv (t.lay V1 [])) := fun wx hx => hp.later hx
    have HC : Hid (CheckIs (t.lay V1 []) 0 0) := hc
    have HWK : Hid (workTo (t.lay V1 []) (t.lay V1 []).length = t.work V1) := hwk
    have HSP : Hid (∀ ord, OrdIs (t.lay V1 []) ord → maxTo (tailsOf (t.lay V1 []) ord) (t.lay V1 []).length = t.span V1) := fun ord ho => hsp (Ready.of hc ho).deep
    have HWB : Hid (0 ≤ t.work V1 ∧ t.work V1 ≤ 630 ∧ 0 ≤ t.span V1 ∧ t.span V1 ≤ 630) := by
      have h1 := t.work_le V1_le
      have h2 := t.span_le V1_le
      have h3 := hok.facts.1
      show _ ∧ _
      omega
    clear hwk hsp hc hok
    obtain ⟨_, pa, pc, rfl, -⟩ := hp
    generalize t.lay V1 [] = ts at *
    generalize t.work V1 = wk at *
    generalize t.span V1 = sp at *
    have h30 := HC.out.works.1.1
    go_wp2_with fail
    refine hrun.mono ?_
    clear hrun
    rintro e w3 ⟨hro, hb3⟩
    have HB3 : Hid (Below w2.heap.size w2 w3) := hb3
    clear hb3
    rcases hro with ⟨p, q2, -, hq2, rfl⟩ | ⟨-, h1, h6, s, bv, hs, rfl, hrow⟩
    · rw [errV_some hq2]
      generalize gErr q2 hands = g at *
      clear hq2
      go_wp2
      go_ret
      exact ⟨rfl, HB2.out.trans (HB3.out.mono HB2.out.size)⟩
    · have hbl := bits_len HC.out.works.1 hands.toNat s
      have HWA : Hid (∀ wx, Below w3.heap.size w3 wx → Calls Try.prog 10 #[bv, .int .i64 hands] wx fun e w' => e = .returned (.tuple #[.int .i64 (hands * (s : Int) - ((bitsTo ts hands.toNat s).length : Int)), .nilIface]) ∧ Below wx.heap.size wx w') := fun wx hx => by
        have := waste_any bv _ hands wx ((hrow.later hx).bitsAt (by omega))
        rwa [waste_is HC.out h1 h6 hs, bits_right HC.out h1 h6 hs, errV_zero] at this
      have HJB : Hid (∀ wx, Below w3.heap.size w3 wx → Calls Try.prog 11 #[.slice pa ts.length pc, .int .i64 hands, bv] wx fun e w' => e = .returned .nilIface ∧ Below wx.heap.size wx w') := fun wx hx => judge_is (HP.out wx (HB3.out.trans (hx.mono HB3.out.size))) HC.out h1 h6 hs (hrow.later hx) (by omega)
      obtain ⟨ord, ho⟩ := ord_exists HC.out w3 (HP.out w3 HB3.out)
      have hbd := bounds_are HC.out ho h1 h6 hs
      rw [HSP.out ord ho, HWK.out] at hbd
      have HBD : Hid (hands * (s : Int) ≤ wk + (hands - 1) * sp ∧ ((bitsTo ts hands.toNat s).length : Int) = wk ∧ (s : Int) ≤ 600) := ⟨hbd.2.2.1, hbd.2.2.2.1, hbd.2.2.2.2⟩
      obtain ⟨ba, bc, rfl⟩ := hrow.shape
      have hur := urgent_any _ ts w3 (HP.out w3 HB3.out)
      clear hrow hbd
      go_wp2_with fail
      refine hur.mono ?_
      clear hur
      rintro e w4 ⟨huo, hb4⟩
      have HB4 : Hid (Below w3.heap.size w3 w4) := hb4
      clear hb4
      rcases huo with ⟨p, q2, hq2, hc2, -⟩ | ⟨-, ord2, ul, B, -, hui, rfl, -, hrow⟩
      · exact absurd (CheckIs.det hc2 HC.out).2 hq2
      have hin := urg_ints hui.length h30 hrow
      have HIN : Hid (∀ wx, Below w4.heap.size w4 wx → IntsAt wx (.slice (some ⟨B, 0, none⟩) ts.length ts.length) (intsOf ul)) := fun wx hx => hin.later hx
      have HZ : Hid (EachZ ts.length (intsOf ul)) := hui.each.1
      have HWF : Hid (∀ x, x ∈ intsOf ul → (Lit.int .i64 x).wf = true) := fun x hx => by
        have := hui.each.2 x hx
        exact wfI (by omega) (by omega)
      have HB34 : Hid (Below w2.heap.size w2 w4) := HB3.out.trans (HB4.out.mono HB3.out.size)
      have hlr := lrun_any _ _ ts (intsOf ul) hands w4 (HP.out w4 HB34.out) hin HWF.out
      have HLL : Hid (∀ wx, Below w4.heap.size w4 wx → Calls Try.prog 9 #[.slice pa ts.length pc, .int .i64 hands, .slice (some ⟨B, 0, none⟩) ts.length ts.length] wx fun e w' => e = .returned (.tuple #[.int .i64 (endsOf (listOut ts hands.toNat (natsOf (intsOf ul))) : Nat), .nilIface]) ∧ Below wx.heap.size wx w') := fun wx hx => llong_is (HP.out wx (HB34.out.trans (hx.mono HB34.out.size))) (HIN.out wx hx) HWF.out HC.out h1 h6 HZ.out
      obtain ⟨hw, hr, hno⟩ := HC.out.worksJ
      have hll := list_long (h := hands.toNat) hw hr hno (by omega) (Ready.of HC.out ho).deep HZ.out.nats.1
      rw [HSP.out ord ho, HWK.out, Int.toNat_of_nonneg (by omega)] at hll
      have HBL : Hid (wk ≤ (endsOf (listOut ts hands.toNat (natsOf (intsOf ul))) : Int) * hands ∧ sp ≤ endsOf (listOut ts hands.toNat (natsOf (intsOf ul))) ∧ (endsOf (listOut ts hands.toNat (natsOf (intsOf ul))) : Int) * hands ≤ wk + (hands - 1) * sp) := hll
      have hwb := HWB.out
      have hwk6 : wk ≤ 600 := by
        have h5 := hw.all
        rw [HWK.out] at h5
        exact h5.2
      clear hin hrow hui hll hw hr hno ho HWF HIN
      go_wp2_with fail
      refine hlr.mono ?_
      clear hlr
      rintro e w5 ⟨hlo, hb5⟩
      have HB5 : Hid (Below w4.heap.size w4 w5) := hb5
      clear hb5
      rcases hlo with ⟨p, q2, hc2, hq2, -⟩ | ⟨-, -, -, -, sv, rfl, hrs⟩
      · exact absurd (lErr_good HC.out hc2 h1 h6 HZ.out) hq2
      have HJS : Hid (∀ wx, Below w5.heap.size w5 wx → Calls Try.prog 12 #[.slice pa ts.length pc, .int .i64 hands, sv] wx fun e w' => e = .returned .nilIface ∧ Below wx.heap.size wx w') := fun wx hx => ljudge_is (HP.out wx (HB34.out.trans ((HB5.out.trans (hx.mono HB5.out.size)).mono HB34.out.size))) HC.out h1 h6 HZ.out (hrs.later hx)
      obtain ⟨sa, sc, rfl⟩ := hrs.shape
      have hlo := HLL.out w5 HB5.out
      clear hrs HLL
      generalize (listOut ts hands.toNat (natsOf (intsOf ul))).length = sln at *
      go_wp2_with fail
      refine hlo.mono ?_
      clear hlo
      rintro e w6 ⟨rfl, hb6⟩
      have HB6 : Hid (Below w5.heap.size w5 w6) := hb6
      have HB36 : Hid (Below w3.heap.size w3 w6) := HB4.out.trans ((HB5.out.trans (hb6.mono HB5.out.size)).mono HB4.out.size)
      have hwa := HWA.out w6 HB36.out
      clear hb6 HWA HZ HWK HSP HC
      generalize endsOf (listOut ts hands.toNat (natsOf (intsOf ul))) = lg at *
      generalize (bitsTo ts hands.toNat s).length = bl at *
      obtain ⟨hbd1, hbd2, hbd3⟩ := HBD.out
      obtain ⟨hl1, hl2, hl3⟩ := HBL.out
      have hlg6 : (lg : Int) ≤ 600 := by
        have : hands = 1 ∨ hands = 2 ∨ hands = 3 ∨ hands = 4 ∨ hands = 5 ∨ hands = 6 := by omega
        rcases this with rfl | rfl | rfl | rfl | rfl | rfl <;> omega
      have hm1 := topHands h1 h6 (x := (s : Int)) (by omega) (by omega)
      have hm2 := topHands h1 h6 (x := (lg : Int)) (by omega) (by omega)
      have hm3 := topHands h1 h6 (x := sp) (by omega) (by omega)
      rw [Int.mul_comm] at hl1 hl3
      clear HBD HBL
      generalize hpw : hands * (s : Int) = pw at *
      generalize hpq : (hands - 1) * sp = qq at *
      generalize hpp : hands * (lg : Int) = pp at *
      have k1 : ¬ (lg : Int) < 0 := by omega
      have k2 : ¬ (600 : Int) < (lg : Int) := by omega
      have k3 : ¬ hands < 1 := by omega
      have k4 : ¬ 6 < hands := by omega
      have k5 : (((bl : Nat) : Int) != wk) = false := by simp [hbd2]
      have k6 : sp ≤ (lg : Int) := hl2
      have k7 : pp ≤ wk + qq := hl3
      have k8 : pw - wk ≤ qq := by omega
      clear hl1 hl2 hl3 hbd1
      go_wp2_with fail
      refine hwa.mono ?_
      clear hwa
      rintro e w7 ⟨rfl, hb7⟩
      have HB37 : Hid (Below w3.heap.size w3 w7) := HB36.out.trans (hb7.mono HB36.out.size)
      have HB57 : Hid (Below w5.heap.size w5 w7) := HB6.out.trans (hb7.mono HB6.out.size)
      have hjb := HJB.out w7 HB37.out
      clear hb7
      go_wp2_with (first | (go_at_call 11; refine hjb.mono ?_; clear hjb; rintro e w8 ⟨rfl, hb8⟩; have hjs := HJS.out w8 (HB57.out.trans (hb8.mono HB57.out.size)); have HB38 : Hid (Below w3.heap.size w3 w8) := HB37.out.trans (hb8.mono HB37.out.size); clear hb8) | (go_at_call 12; refine hjs.mono ?_; clear hjs; rintro e w9 ⟨rfl, hb9⟩; have HB39 : Hid (Below w3.heap.size w3 w9) := HB38.out.trans (hb9.mono HB38.out.size); clear hb9))
      go_ret
      exact ⟨by simp, HB2.out.trans ((HB3.out.trans (HB39.out.mono HB3.out.size)).mono HB2.out.size)⟩
end Go.Proofs.Ytkcpimbhfmhjgaa
