/- The walk of BenchAdds. -/
import Derived.Test.YtilpjhhjlokfcaaBnd
namespace Go.Proofs.Ytilpjhhjlokfcaa
open Go.RowKit Go.Deep

/-- The law's own bits. -/
def twoB : List BitZ := [(0, 1, 0), (4, 1, 0)]
theorem two_bits (w : World) : BitsAt (w.alloc (.cells #[.int .i64 0, .int .i64 1, .int .i64 0, .int .i64 4, .int .i64 1, .int .i64 0] 31)) (.slice (some ⟨w.heap.size, 0, none⟩) 2 2) twoB := by
  refine ⟨by decide, _, _, rfl, Or.inr ⟨w.heap.size, 0, rfl, by simp, fun k hk => ?_⟩⟩
  have hk2 : k < 2 := hk
  rcases (by omega : k = 0 ∨ k = 1) with rfl | rfl
  · unfold World.cell?
    dsimp only
    rw [blk_alloc_new]
    exact ⟨rfl, rfl, rfl⟩
  · unfold World.cell?
    dsimp only
    rw [blk_alloc_new]
    exact ⟨rfl, rfl, rfl⟩
theorem two_busy (w : World) : Calls Try.prog 5 #[.slice (some ⟨w.heap.size, 0, none⟩) 2 2, .int .i64 2] (w.alloc (.cells #[.int .i64 0, .int .i64 1, .int .i64 0, .int .i64 4, .int .i64 1, .int .i64 0] 31)) fun e w' => (∃ b, e = .returned (.tuple #[.slice (some ⟨b, 0, none⟩) 2 2, .nilIface]) ∧ b < w'.heap.size ∧ w'.cell? ⟨b, 1, none⟩ = some (.int .i64 2)) ∧ Below w.heap.size w w' := by
  refine (busy_any _ twoB 2 _ (two_bits w)).mono ?_
  rintro e w' ⟨hbo, hb⟩
  rcases hbo with ⟨h0, _⟩ | ⟨_, b, rfl, _, hlt, hrow⟩
  · exact absurd (by decide) h0
  · exact ⟨⟨b, rfl, hlt, hrow.cell (i := 1) (by decide)⟩, ((Below.refl _ _).alloc (Nat.le_refl _) _).trans (hb.mono (by simp))⟩
theorem speed_adds (pv : Value) (ts : List (Int × List Int)) (hands : Int) (w : World) (hp : PlanAt w pv ts) :
    Calls Try.prog 8 #[pv, .int .i64 hands] w fun e w' => (∃ u q : Int, e = .returned (.tuple #[.int .i64 u, errV q]) ∧ (q ≠ 0 ∨ (q = 0 ∧ 100 ≤ u ∧ u ≤ 100 * hands ∧ 1 ≤ hands ∧ hands ≤ 6))) ∧ Below w.heap.size w w' := by
  refine (speed_any pv ts hands w hp).mono ?_
  rintro e w' ⟨hs, hb⟩
  rcases hs with ⟨p, q, _, hq, rfl⟩ | ⟨hc, h1, h6, s, s1, hs, hs1, rfl⟩
  · exact ⟨⟨_, _, rfl, Or.inl hq⟩, hb⟩
  · obtain ⟨hw, hr, hno⟩ := hc.works
    have := speed_bound hw hr hno h1 hs hs1
    exact ⟨⟨_, 0, rfl, Or.inr ⟨rfl, this.1, this.2, h1, h6⟩⟩, hb⟩
/-- Bits of so many hands are bits of six. -/
theorem bnErr_six {l : List BitZ} {hands : Int} (h : bnErr l hands = 0) : bnErr l 6 = 0 := by
  obtain ⟨h600, h1, h6, hb⟩ := bnErr_zero h
  rw [bnErr_any (by omega) (by omega), anyB_miss (fun k hk => ?_)]
  · rfl
  · have := hb k hk
    unfold badBit belowB
    simp
    omega

/-- How many bits each hand did; how many each step had. -/
def handC (l : List BitZ) (j : Nat) : Int := cntZ (fun b => b.2.1) l l.length j
def stepC (l : List BitZ) (j : Nat) : Int := cntZ (fun b => b.1) l l.length j
set_option maxRecDepth 100000 in
set_option maxHeartbeats 8000000 in
theorem benchAdds_any (v : Value) (l : List BitZ) (hands : Int) (pv : Value) (ts : List (Int × List Int)) (w : World) (hg : BitsAt w v l) (hp : PlanAt w pv ts) :
    Calls Try.prog 3 #[v, .int .i64 hands, pv] w fun e w' => e = .returned (.bool true) ∧ Below w.heap.size w w' := by
  have HG : Hid (BitsAt w v l) := hg
  have HSP : Hid (∀ wx, Below w.heap.size w wx → Calls Try.prog 8 #[pv, .int .i64 hands] wx fun e w' => (∃ u q : Int, e = .returned (.tuple #[.int .i64 u, errV q]) ∧ (q ≠ 0 ∨ (q = 0 ∧ 100 ≤ u ∧ u ≤ 100 * hands ∧ 1 ≤ hands ∧ hands ≤ 6))) ∧ Below wx.heap.size wx w') := fun wx hx => speed_adds pv ts hands wx (hp.later hx)
  have htw := two_busy w
  obtain ⟨hl, a, c, rfl, hc⟩ := hg
  obtain ⟨pl, pa, pc, rfl, hpc⟩ := hp
  clear hc hpc
  go_enter Try.func3, Try.ntmps3
  go_wp2_with fail
  refine htw.mono ?_
  clear htw
  rintro e w1 ⟨⟨b, rfl, hlt, hcell⟩, hb1⟩
  have HB1 : Hid (Below w.heap.size w w1) := hb1
  have hby := busy_any _ l hands w1 (HG.out.later hb1)
  clear hb1
  go_wp2_with fail
  refine hby.mono ?_
  clear hby
  rintro e w2 ⟨hbo, hb2⟩
  have HB2 : Hid (Below w.heap.size w w2) := HB1.out.trans (hb2.mono HB1.out.size)
  clear hb2 hcell hlt
  rcases hbo with ⟨hq, rfl⟩ | ⟨hq, b1, rfl, -, hb1l, hrow1⟩
  · have HQ : Hid (bnErr l hands ≠ 0) := hq
    have hev := errV_some hq
    rw [hev]
    have hsp := HSP.out w2 HB2.out
    clear hq hev HSP HG
    generalize bnErr l hands = g at *
    go_wp2_with fail
    refine hsp.mono ?_
    clear hsp
    rintro e w3 ⟨⟨u, q, rfl, hcase⟩, hb3⟩
    have HB3 : Hid (Below w.heap.size w w3) := HB2.out.trans (hb3.mono HB2.out.size)
    clear hb3
    rcases hcase with hq0 | ⟨rfl, hu1, hu2, hh1, hh6⟩
    · have hev := errV_some hq0
      rw [hev]
      clear hev hq0
      go_wp2
      go_ret
      exact ⟨rfl, HB3.out⟩
    · rw [errV_zero]
      have hp0 : 0 ≤ 100 * hands ∧ 100 * hands ≤ 600 := by omega
      generalize hpr : 100 * hands = pr at *
      go_wp2
      go_ret
      exact ⟨rfl, HB3.out⟩
  · obtain ⟨h600, hh1, hh6, hbits⟩ := bnErr_zero hq
    have HQ6 : Hid (bnErr l 6 = 0) := bnErr_six hq
    have hrw := brow_any _ l w2 (HG.out.later HB2.out)
    have HWA : Hid (∀ wx, Below w.heap.size w wx → Calls Try.prog 7 #[.slice a l.length c, .int .i64 hands] wx fun e w' => e = .returned (.tuple #[.int .i64 (hands * (stepsZ l l.length : Int) - l.length), .nilIface]) ∧ Below wx.heap.size wx w') := fun wx hx => by
      have := waste_any _ l hands wx (HG.out.later hx)
      rw [hq, errV_zero, show wasteZ l hands = hands * (stepsZ l l.length : Int) - l.length from if_pos hq] at this
      exact this
    have hsl := stepsZ_le l l.length (fun k hk => (hbits k hk).2.1) l.length (Nat.le_refl _)
    have hml := waste_mul hh1 hh6 hsl
    obtain ⟨hn, rfl⟩ : ∃ hn : Nat, hands = hn := ⟨hands.toNat, by omega⟩
    rw [Int.toNat_natCast] at hrow1 ⊢
    have HX : Hid (sumTo (handC l) hn = l.length ∧ ∀ k, k ≤ hn → 0 ≤ sumTo (handC l) k ∧ sumTo (handC l) k ≤ l.length) := by
      have h1 : sumTo (handC l) hn = l.length := cnt_sum (fun b => b.2.1) l hn l.length (fun k hk => ⟨(hbits k hk).2.2.1, (hbits k hk).2.2.2.1⟩) l.length (Nat.le_refl _)
      exact ⟨h1, fun k hk => by have := sumTo_up (F := handC l) (fun j => (cntZ_bound _ l j _).1) hk; omega⟩
    have HY : Hid (sumTo (stepC l) (stepsZ l l.length) = l.length ∧ ∀ k, k ≤ stepsZ l l.length → 0 ≤ sumTo (stepC l) k ∧ sumTo (stepC l) k ≤ l.length) := by
      have h1 : sumTo (stepC l) (stepsZ l l.length) = l.length := cnt_sum (fun b => b.1) l (stepsZ l l.length) l.length (fun k hk => ⟨(hbits k hk).1, stepsZ_lt l l.length k hk⟩) l.length (Nat.le_refl _)
      exact ⟨h1, fun k hk => by have := sumTo_up (F := stepC l) (fun j => (cntZ_bound _ l j _).1) hk; omega⟩
    have HC1 : Hid (∀ wx, Below w2.heap.size w2 wx → ∀ j, j < hn → wx.cell? ⟨b1, j, none⟩ = some (.int .i64 (handC l j))) := fun wx hx j hj => (hx.cell (p := ⟨b1, j, none⟩) hrow1.lt).trans (hrow1.cell hj)
    clear hq hbits hrow1 hb1l
    go_wp2_with fail
    refine hrw.mono ?_
    clear hrw
    rintro e w3 ⟨hro, hb3⟩
    obtain ⟨-, b2, rfl, -, hb2l, hrow2⟩ := hro.resolve_left (fun h => h.1 HQ6.out)
    have HB3 : Hid (Below w2.heap.size w2 w3) := hb3
    have HC2 : Hid (∀ wx, Below w3.heap.size w3 wx → ∀ j, j < stepsZ l l.length → wx.cell? ⟨b2, j, none⟩ = some (.int .i64 (stepC l j))) := fun wx hx j hj => (hx.cell (p := ⟨b2, j, none⟩) hrow2.lt).trans (hrow2.cell hj)
    have hwa := HWA.out w3 (HB2.out.trans (hb3.mono HB2.out.size))
    clear hrow2 hb2l hb3 hro HWA HQ6
    generalize stepsZ l l.length = st at *
    generalize handC l = F1 at *
    generalize stepC l = F2 at *
    generalize hpr : (hn : Int) * (st : Int) = pr at *
    go_wp2_with fail
    refine hwa.mono ?_
    clear hwa
    rintro e w4 ⟨rfl, hb4⟩
    have HD1 : Hid (∀ j, j < hn → w4.cell? ⟨b1, j, none⟩ = some (.int .i64 (F1 j))) := HC1.out w4 (HB3.out.trans (hb4.mono HB3.out.size))
    have HD2 : Hid (∀ j, j < st → w4.cell? ⟨b2, j, none⟩ = some (.int .i64 (F2 j))) := HC2.out w4 hb4
    have HB4 : Hid (Below w.heap.size w w4) := HB2.out.trans ((HB3.out.trans (hb4.mono HB3.out.size)).mono HB2.out.size)
    clear HC1 HC2 hb4 HB3
    go_wp2
    go_loopw [15, 17] (fun s15 s17 wr => ∃ k : Nat, k ≤ hn ∧ s17 = .int .i64 k ∧ s15 = .int .i64 (sumTo F1 k) ∧ w4 = wr) (fun _ s17 _ => hn - (intOf s17).toNat)
    case atStart => exact ⟨0, Nat.zero_le _, rfl, rfl, rfl⟩
    case round =>
      obtain ⟨k, hk, rfl, rfl, rfl⟩ := hrel
      have hb0 := HX.out.2 k hk
      by_cases hkl : k < hn
      · have hce := HD1.out k hkl
        have HS : Hid (sumTo F1 (k + 1) = sumTo F1 k + F1 k) := rfl
        have hb1 := HX.out.2 (k + 1) (by omega)
        rw [HS.out] at hb1
        generalize sumTo F1 k = z at *
        generalize F1 k = x at *
        go_wp2
        go_roundw
        case rel => exact ⟨k + 1, by omega, by go_num, by rw [HS.out], trivial⟩
        case measure => simp [intOf]; omega
      · have hke : k = hn := by omega
        have hz : sumTo F1 k = l.length := by rw [hke]; exact HX.out.1
        rw [hz]
        clear hz hb0 hke HX HD1
        go_wp2
        go_loopw [16, 18] (fun s16 s18 wr => ∃ k : Nat, k ≤ st ∧ s18 = .int .i64 k ∧ s16 = .int .i64 (sumTo F2 k) ∧ w4 = wr) (fun _ s18 _ => st - (intOf s18).toNat)
        case atStart => exact ⟨0, Nat.zero_le _, rfl, rfl, rfl⟩
        case round =>
          obtain ⟨m, hm, rfl, rfl, rfl⟩ := hrel
          have hb0 := HY.out.2 m hm
          by_cases hml : m < st
          · have hce := HD2.out m hml
            have HS : Hid (sumTo F2 (m + 1) = sumTo F2 m + F2 m) := rfl
            have hb1 := HY.out.2 (m + 1) (by omega)
            rw [HS.out] at hb1
            generalize sumTo F2 m = z at *
            generalize F2 m = x at *
            go_wp2
            go_roundw
            case rel => exact ⟨m + 1, by omega, by go_num, by rw [HS.out], trivial⟩
            case measure => simp [intOf]; omega
          · have hme : m = st := by omega
            have hz : sumTo F2 m = l.length := by rw [hme]; exact HY.out.1
            rw [hz]
            clear hz hb0 hme HY HD2
            have hsp := HSP.out w4 HB4.out
            clear HSP HG
            go_wp2_with fail
            refine hsp.mono ?_
            clear hsp
            rintro e w5 ⟨⟨u, q, rfl, hcase⟩, hb5⟩
            have HB5 : Hid (Below w.heap.size w w5) := HB4.out.trans (hb5.mono HB4.out.size)
            clear hb5
            rcases hcase with hq0 | ⟨rfl, hu1, hu2, hv1, hv6⟩
            · have hev := errV_some hq0
              rw [hev]
              clear hev hq0
              go_wp2
              go_ret
              exact ⟨rfl, HB5.out⟩
            · rw [errV_zero]
              have hp0 : 0 ≤ 100 * (hn : Int) ∧ 100 * (hn : Int) ≤ 600 := by omega
              generalize hpr2 : 100 * (hn : Int) = pr2 at *
              go_wp2
              go_ret
              exact ⟨rfl, HB5.out⟩
end Go.Proofs.Ytilpjhhjlokfcaa
