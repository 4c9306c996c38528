/- The walk of GreedyBound. -/
import Derived.Test.YtkgdhfdahafaoaaPe
import Derived.Test.YtkgdhfdahafaoaaJc
import Derived.Test.YtkgdhfdahafaoaaJs
namespace Go.Proofs.Ytkgdhfdahafaoaa
open Go.RowKit Go.Deep

/-- The law's own plan: three tasks beside each other. -/
def oneTs : List (Int × List Int) := [(3, []), (2, []), (4, [])]
theorem one_needs (x : Nat) : needsOf oneTs x = [] := by
  unfold needsOf oneTs
  match x with
  | 0 => rfl
  | 1 => rfl
  | 2 => rfl
  | _ + 3 => rfl
theorem one_check : CheckIs oneTs 0 0 := by
  refine CheckIs.none (by decide) (fun j hj => ?_) (fun j _ h => ?_)
  · have : j < 3 := hj
    rcases (by omega : j = 0 ∨ j = 1 ∨ j = 2) with rfl | rfl | rfl <;> decide
  · have hno : ∀ x y, ¬ Need oneTs x y := fun x y h => by unfold Need at h; rw [one_needs] at h; cases h
    obtain ⟨n, h⟩ := h
    cases n with
    | zero => exact hno _ _ h
    | succ n => obtain ⟨y, _, h⟩ := h; exact hno _ _ h
theorem one_stops : Stops oneTs 2 6 := ⟨by unfold Busy; decide, by decide⟩
theorem one_plan (w : World) : PlanAt (w.alloc (.cells #[.int .i64 3, .slice none 0 0, .int .i64 2, .slice none 0 0, .int .i64 4, .slice none 0 0] 26)) (.slice (some ⟨w.heap.size, 0, none⟩) 3 3) oneTs := by
  have hb := blk_alloc_new w (.cells #[.int .i64 3, .slice none 0 0, .int .i64 2, .slice none 0 0, .int .i64 4, .slice none 0 0] 26)
  generalize w.alloc (.cells #[.int .i64 3, .slice none 0 0, .int .i64 2, .slice none 0 0, .int .i64 4, .slice none 0 0] 26) = W at hb ⊢
  have hl := (Array.getElem?_eq_some_iff.1 hb).1
  refine ⟨by decide, _, _, rfl, Or.inr ⟨w.heap.size, 0, rfl, hl, fun k hk => ?_⟩⟩
  have hk2 : k < 3 := hk
  rcases (by omega : k = 0 ∨ k = 1 ∨ k = 2) with rfl | rfl | rfl
  all_goals
    refine ⟨by simp [World.cell?, hb, oneTs], _, by simp [World.cell?, hb]; rfl, ?_⟩
    exact ⟨by rw [one_needs]; decide, none, 0, by rw [one_needs]; rfl, Or.inl (one_needs _)⟩
theorem gErr_good {q hands : Int} {ts : List (Int × List Int)} {p : Int} (hc : CheckIs ts 0 0) (hc' : CheckIs ts p q) (h1 : 1 ≤ hands) (h6 : hands ≤ 6) : gErr q hands = 0 := by
  obtain ⟨_, rfl⟩ := hc.det hc'
  unfold gErr
  rw [if_pos rfl, if_neg (by omega)]
theorem long_is {v : Value} {ts : List (Int × List Int)} {hands : Int} {s : Nat} {w : World} (hp : PlanAt w v ts) (hc : CheckIs ts 0 0) (h1 : 1 ≤ hands) (h6 : hands ≤ 6) (hs : Stops ts hands.toNat s) :
    Calls Try.prog 5 #[v, .int .i64 hands] w fun e w' => e = .returned (.tuple #[.int .i64 (s : Int), .nilIface]) ∧ Below w.heap.size w w' := by
  refine (long_any v ts hands w hp).mono ?_
  rintro e w' ⟨hl, hb⟩
  rcases hl with ⟨p, q, hc', hq, _⟩ | ⟨_, _, _, s', hs', rfl⟩
  · exact absurd (gErr_good hc hc' h1 h6) hq
  · rw [hs'.det hs]; exact ⟨rfl, hb⟩
theorem work_is {v : Value} {ts : List (Int × List Int)} {w : World} (hp : PlanAt w v ts) (hc : CheckIs ts 0 0) :
    Calls Try.prog 8 #[v] w fun e w' => e = .returned (.tuple #[.int .i64 (workTo ts ts.length), .nilIface]) ∧ Below w.heap.size w w' := by
  refine (work_any v _ w hp).mono ?_
  rintro e w' ⟨hl, hb⟩
  rcases hl with ⟨p, q, hq, hc', _⟩ | ⟨_, rfl⟩
  · exact absurd (CheckIs.det hc' hc).2 hq
  · exact ⟨rfl, hb⟩
/-- Graham's and Brent's bounds, of a run that stops. -/
theorem bounds_are {ts : List (Int × List Int)} {ord : List Nat} {hands : Int} {s : Nat} (hc : CheckIs ts 0 0) (ho : OrdIs ts ord) (h1 : 1 ≤ hands) (h6 : hands ≤ 6) (hs : Stops ts hands.toNat s) :
    maxTo (tailsOf ts ord) ts.length ≤ s ∧ workTo ts ts.length ≤ hands * s ∧ hands * s ≤ workTo ts ts.length + (hands - 1) * maxTo (tailsOf ts ord) ts.length ∧ ((bitsTo ts hands.toNat s).length : Int) = workTo ts ts.length ∧ (s : Int) ≤ 600 := by
  have hd := (Ready.of hc ho).deep
  obtain ⟨hw, hr, hno⟩ := hc.worksJ
  have hl := (leftAt_sched ts hands.toNat).long hw hr hno (by omega) hd (hs.over hw hr hno)
  rw [Int.toNat_of_nonneg (by omega)] at hl
  rw [Int.mul_comm hands]
  have := hs.le hw (by omega)
  exact ⟨hl.2.2.1, hl.2.1, hl.2.2.2, by rw [bits_units]; exact hl.1, by omega⟩
theorem span_is {v : Value} {ts : List (Int × List Int)} {hands : Int} {s : Nat} {w : World} (hp : PlanAt w v ts) (hc : CheckIs ts 0 0) (h1 : 1 ≤ hands) (h6 : hands ≤ 6) (hs : Stops ts hands.toNat s) :
    Calls Try.prog 9 #[v] w fun e w' => (∃ sp : Int, e = .returned (.tuple #[.int .i64 sp, .nilIface]) ∧ 0 ≤ sp ∧ sp ≤ s ∧ hands * s ≤ workTo ts ts.length + (hands - 1) * sp ∧ 0 ≤ (hands - 1) * sp ∧ (hands - 1) * sp ≤ 3000) ∧ Below w.heap.size w w' := by
  refine (span_any v _ w hp).mono ?_
  rintro e w' ⟨hl, hb⟩
  rcases hl with ⟨p, q, hq, hc', _⟩ | ⟨_, ord, ho, rfl⟩
  · exact absurd (CheckIs.det hc' hc).2 hq
  · have hb1 := bounds_are hc ho h1 h6 hs
    have hsp := span_bound hc ho
    have hm := hands_mul h1 h6 hsp.1 hsp.2
    exact ⟨⟨_, rfl, hsp.1, hb1.1, hb1.2.2.1, hm.1, hm.2⟩, hb⟩
theorem bound_is {v : Value} {ts : List (Int × List Int)} {hands : Int} {s : Nat} {w : World} (hp : PlanAt w v ts) (hc : CheckIs ts 0 0) (h1 : 1 ≤ hands) (h6 : hands ≤ 6) (hs : Stops ts hands.toNat s) :
    Calls Try.prog 7 #[v, .int .i64 hands] w fun e w' => (∃ b : Int, e = .returned (.tuple #[.int .i64 b, .nilIface]) ∧ (s : Int) ≤ b) ∧ Below w.heap.size w w' := by
  refine (bound_any v _ hands w hp).mono ?_
  rintro e w' ⟨hl, hb⟩
  rcases hl with ⟨p, q, hc', hq, _⟩ | ⟨_, _, _, ord, ho, rfl⟩
  · exact absurd (gErr_good hc hc' h1 h6) hq
  · have hb1 := bounds_are hc ho h1 h6 hs
    refine ⟨⟨_, rfl, ?_⟩, hb⟩
    rw [Int.le_ediv_iff_mul_le (by omega), Int.mul_comm]
    exact hb1.2.2.1
theorem ord_exists {v : Value} {ts : List (Int × List Int)} (hc : CheckIs ts 0 0) (W : World) (hp : PlanAt W v ts) : ∃ ord, OrdIs ts ord := by
  obtain ⟨e, w', fr, ⟨h, _⟩, _⟩ := span_any v ts W hp []
  rcases h with ⟨p, q, hq, hc', _⟩ | ⟨_, ord, ho, _⟩
  · exact absurd (CheckIs.det hc' hc).2 hq
  · exact ⟨ord, ho⟩
/-- Bits in a row of their own are bits that may be read. -/
theorem RowB.bitsAt {b : Nat} {w : World} {v : Value} {bs : List (Nat × Nat × Nat)} (h : RowB b w v bs) (hl : bs.length * 24 ≤ 140737488351232) : BitsAt w v (bs.map bitZ) := by
  have hgd : ∀ k, k < bs.length → (bs.map bitZ).getD k (0, 0, 0) = bitZ (bs.getD k (0, 0, 0)) := fun k hk => by
    simp [List.getD_eq_getElem?_getD, hk]
  by_cases hz : 0 < bs.length
  · obtain ⟨g, c, rfl, _, hlt, hcells⟩ := h.full hz
    refine ⟨by rw [List.length_map]; exact hl, _, _, by rw [List.length_map], Or.inr ⟨g, 0, rfl, hlt, fun k hk => ?_⟩⟩
    rw [List.length_map] at hk
    rw [hgd k hk, Nat.zero_add]
    exact hcells.2 k hk
  · obtain ⟨a, c, rfl⟩ := h.shape
    exact ⟨by rw [List.length_map]; exact hl, a, c, by rw [List.length_map], Or.inl (by rw [List.eq_nil_of_length_eq_zero (show bs.length = 0 by omega)]; rfl)⟩
theorem jErr_good {q hands : Int} {ts : List (Int × List Int)} {p : Int} (hc : CheckIs ts 0 0) (hc' : CheckIs ts p q) (h1 : 1 ≤ hands) (h6 : hands ≤ 6) : jErr q hands = 0 := by
  obtain ⟨_, rfl⟩ := hc.det hc'
  unfold jErr
  rw [if_pos rfl, if_neg (by omega)]
theorem judge_is {v bv : Value} {ts : List (Int × List Int)} {hands : Int} {s b : Nat} {w : World} (hp : PlanAt w v ts) (hc : CheckIs ts 0 0) (h1 : 1 ≤ hands) (h6 : hands ≤ 6) (hs : Stops ts hands.toNat s) (hb : RowB b w bv (bitsTo ts hands.toNat s)) (hl : (bitsTo ts hands.toNat s).length ≤ 3600) :
    Calls Try.prog 10 #[v, .int .i64 hands, bv] w fun e w' => e = .returned .nilIface ∧ Below w.heap.size w w' := by
  refine (bits_any v bv ts _ hands w hp (hb.bitsAt (by omega))).mono ?_
  rintro e w' ⟨hl, hb⟩
  refine ⟨?_, hb⟩
  obtain ⟨hw, hr, hno⟩ := hc.worksJ
  rcases hl with ⟨p, q, hc', hq, _⟩ | ⟨_, _, _, rfl⟩
  · exact absurd (jErr_good hc hc' h1 h6) hq
  · rw [(bits_ok hw hr).2 (greedy_bits hw hr hno (by omega) hs), errV_zero]

set_option maxRecDepth 100000 in
set_option maxHeartbeats 8000000 in
theorem greedyBound_any (v : Value) (ts : List (Int × List Int)) (hands : Int) (w : World) (hp : PlanAt w v ts) :
    Calls Try.prog 3 #[v, .int .i64 hands] w fun e w' => e = .returned (.bool true) ∧ Below w.heap.size w w' := by
  have HP : Hid (∀ wx, Below w.heap.size w wx → PlanAt wx v ts) := fun wx hx => hp.later hx
  obtain ⟨hl, a, c, rfl, hp⟩ := hp
  clear hp
  have hB0 : Below w.heap.size w (w.alloc (.cells #[.int .i64 3, .slice none 0 0, .int .i64 2, .slice none 0 0, .int .i64 4, .slice none 0 0] 26)) := (Below.refl _ _).alloc (Nat.le_refl _) _
  have hlo := long_is (hands := 2) (one_plan w) one_check (by omega) (by omega) (s := 6) one_stops
  go_enter Try.func3, Try.ntmps3
  go_wp2_with fail
  refine hlo.mono ?_
  clear hlo
  rintro e w1 ⟨rfl, hb1⟩
  have hB1 : Below w.heap.size w w1 := hB0.trans (hb1.mono hB0.size)
  have hrun := run_any _ ts hands w1 (HP.out _ hB1)
  clear hb1 hB0
  go_wp2_with fail
  refine hrun.mono ?_
  clear hrun
  rintro e w2 ⟨hro, hb2⟩
  have hB2 : Below w.heap.size w w2 := hB1.trans (hb2.mono hB1.size)
  rcases hro with ⟨p, q, hc, hq, rfl⟩ | ⟨hc, h1, h6, s, bv, hs, rfl, hrow⟩
  · have hev := errV_some hq
    rw [hev]
    clear hev hc hq
    generalize gErr q hands = g at *
    go_wp2
    go_ret
    exact ⟨rfl, hB2⟩
  · have HROW : Hid (RowB w1.heap.size w2 bv (bitsTo ts hands.toNat s)) := hrow
    obtain ⟨ba, bc, rfl⟩ := hrow.shape
    have HC : Hid (CheckIs ts 0 0) := hc
    have HS : Hid (Stops ts hands.toNat s) := hs
    obtain ⟨ord, hord⟩ : ∃ ord, OrdIs ts ord := ord_exists hc w2 (HP.out _ hB2)
    obtain ⟨_, g2, _, hbl, h600⟩ := bounds_are hc hord h1 h6 hs
    have hbl2 : (bitsTo ts hands.toNat s).length ≤ 3600 := by
      have : hands * (s : Int) ≤ 6 * 600 := by
        have h3 : hands * (s : Int) ≤ 6 * (s : Int) := Int.mul_le_mul_of_nonneg_right h6 (by omega)
        omega
      omega
    have hpm : 0 ≤ hands * (s : Int) ∧ hands * (s : Int) ≤ 3600 := by
      refine ⟨Int.mul_nonneg (by omega) (by omega), ?_⟩
      have h3 : hands * (s : Int) ≤ 6 * (s : Int) := Int.mul_le_mul_of_nonneg_right h6 (by omega)
      omega
    have hwk0 : 0 ≤ workTo ts ts.length := by omega
    have HBL : Hid (((bitsTo ts hands.toNat s).length : Int) = workTo ts ts.length) := hbl
    have HJ : Hid (∀ wx, Below w2.heap.size w2 wx → Calls Try.prog 10 #[.slice a ts.length c, .int .i64 hands, .slice ba (bitsTo ts hands.toNat s).length bc] wx fun e w' => e = .returned .nilIface ∧ Below wx.heap.size wx w') := fun wx hx => judge_is (HP.out _ (hB2.trans (hx.mono hB2.size))) HC.out h1 h6 HS.out (HROW.out.later hx) hbl2
    have c5 := long_is (HP.out _ hB2) hc h1 h6 hs
    have HB2 : Hid (Below w.heap.size w w2) := hB2
    clear hrow hc hs hord hb2 hB1 hbl
    generalize (bitsTo ts hands.toNat s).length = bl at *
    generalize hwkz : workTo ts ts.length = wk at *
    have HWK : Hid (workTo ts ts.length = wk) := hwkz
    clear hwkz
    go_wp2_with fail
    refine c5.mono ?_
    clear c5
    rintro e w3 ⟨rfl, hb3⟩
    have HB3 : Hid (Below w2.heap.size w2 w3) := hb3
    have c7 := bound_is (HP.out _ (HB2.out.trans (hb3.mono HB2.out.size))) HC.out h1 h6 HS.out
    clear hb3
    go_wp2_with fail
    refine c7.mono ?_
    clear c7
    rintro e w4 ⟨⟨bd, rfl, hbd⟩, hb4⟩
    have HB4 : Hid (Below w2.heap.size w2 w4) := HB3.out.trans (hb4.mono HB3.out.size)
    have c8 := work_is (HP.out _ (HB2.out.trans (HB4.out.mono HB2.out.size))) HC.out
    rw [HWK.out] at c8
    clear hb4
    go_wp2_with fail
    refine c8.mono ?_
    clear c8
    rintro e w5 ⟨rfl, hb5⟩
    have HB5 : Hid (Below w2.heap.size w2 w5) := HB4.out.trans (hb5.mono HB4.out.size)
    have c9 := span_is (HP.out _ (HB2.out.trans (HB5.out.mono HB2.out.size))) HC.out h1 h6 HS.out
    rw [HWK.out] at c9
    clear hb5
    go_wp2_with fail
    refine c9.mono ?_
    clear c9
    rintro e w6 ⟨⟨sp, rfl, hsp0, hsp, hup, hm0, hm1⟩, hb6⟩
    have HB6 : Hid (Below w2.heap.size w2 w6) := HB5.out.trans (hb6.mono HB5.out.size)
    have c10 := HJ.out w6 HB6.out
    clear hb6
    have hlg0 : (0 : Int) ≤ (s : Int) := by omega
    generalize hpq : (hands - 1) * sp = qq at *
    generalize hpp : hands * (s : Int) = pp at *
    generalize hlg : (s : Int) = lg at *
    have HBLW : Hid ((bl : Int) = wk) := HBL
    have k1 : ¬ lg < 0 := by omega
    have k2 : ¬ 600 < lg := by omega
    have k3 : ¬ lg < sp := by omega
    have k4 : ¬ pp < wk := by omega
    have k5 : ¬ wk + qq < pp := by omega
    have k6 : ¬ bd < lg := by omega
    have k7 : ¬ hands < 1 := by omega
    have k8 : ¬ 6 < hands := by omega
    have k9 : ((bl : Int) == wk) = true := by rw [HBLW.out]; simp
    go_wp2_with (go_at_call 10; refine c10.mono ?_; clear c10; rintro e w7 ⟨rfl, hb7⟩)
    go_ret
    exact ⟨rfl, HB2.out.trans ((HB6.out.trans (hb7.mono HB6.out.size)).mono HB2.out.size)⟩
end Go.Proofs.Ytkgdhfdahafaoaa
