/- The walk of BenchTells. -/
import Derived.Test.YtilpjhhjlokfcaaDoorBtd
import Derived.Deep.CutRange
import Derived.Deep.CutBlock
namespace Go.Proofs.YtilpjhhjlokfcaaDoor
open Go.RowKit Go.Deep

/-- A row that the law counts itself: where nothing is wrong, so many of each; else none. -/
def CntS (e0 : Int) (f : BitZ → Int) (l : List BitZ) (many N k : Nat) (W wr : World) (v : Value) : Prop :=
  (e0 = 0 ∧ v = .slice (some ⟨N, 0, none⟩) many many ∧ CntM N many W wr (fun j => cntZ f l k j)) ∨ (e0 ≠ 0 ∧ v = .slice none 0 0 ∧ W = wr)
theorem CntS.below {e0 : Int} {f : BitZ → Int} {l : List BitZ} {many k : Nat} {W wr : World} {v : Value} (h : CntS e0 f l many W.heap.size k W wr v) : Below W.heap.size W wr := by
  rcases h with ⟨_, _, h⟩ | ⟨_, _, h⟩
  · exact h.below
  · rw [← h]; exact Below.refl _ _
theorem CntS.ints {e0 : Int} {f : BitZ → Int} {l : List BitZ} {many N k : Nat} {W wr : World} {v : Value} {zs : List Int} (h : CntS e0 f l many N k W wr v) (hz : zs = if e0 = 0 then cntL f l many else []) (hm : e0 = 0 → many ≤ 10001) (hk : e0 = 0 → k = l.length) : IntsAt wr v zs := by
  rcases h with ⟨h0, rfl, h⟩ | ⟨h0, rfl, h⟩
  · rw [hz, if_pos h0]
    rw [hk h0] at h
    exact h.ints (hm h0)
  · rw [hz, if_neg h0]; exact ints_none _
theorem spd_none {ts : List (Int × List Int)} {h s : Nat} (hs : Stops ts h s) (hl : ts.length = 0) : s = 0 := by
  rcases Nat.eq_zero_or_pos s with h0 | hp
  · exact h0
  · have := hs.1 0 hp
    rw [hl] at this
    exact absurd rfl this
theorem spd_some {ts : List (Int × List Int)} {h s : Nat} (hc : CheckIs ts 0 0) (hs : Stops ts h s) (hl : ts.length ≠ 0) : s ≠ 0 := by
  intro h0
  subst h0
  obtain ⟨hw, hr, hno⟩ := hc.works
  have h1 := rdy_none hr hno (fun x => (leftAt_bound hw h 0 x).1) hs.2 0 (by omega)
  have h2 := (hw.2 0 (by omega)).1
  have h3 : leftAt ts h 0 0 = wkOf ts 0 := rfl
  omega

set_option maxRecDepth 100000 in
set_option maxHeartbeats 16000000 in
theorem benchTells_any (v : Value) (l : List BitZ) (hands : Int) (pv : Value) (ts : List (Int × List Int)) (w : World) (hT : Typed w) (hg : BitsAt w v l) (hp : PlanAt w pv ts) :
    Calls Tryd.prog 3 #[v, .int .i64 hands, pv] w fun e w' => e = .returned (.bool true) ∧ Below w.heap.size w w' := by
  have HT : Hid (Typed w) := hT
  have HG : Hid (BitsAt w v l) := hg
  have HP : Hid (PlanAt w pv ts) := hp
  have hd1 := docBench_any v l hands w hg
  have HD2 : Hid (∀ wx, Below w.heap.size w wx → Calls Tryd.prog 4 #[v, .int .i64 6] wx fun e w' => e = .returned (.int .i64 (bnErr l 6)) ∧ Below wx.heap.size wx w') := fun wx hx => docBench_any v l 6 wx (hg.later hx)
  have HBY : Hid (∀ wx, Below w.heap.size w wx → Calls Tryd.prog 5 #[v, .int .i64 hands] wx fun e w' => ∃ xv, e = .returned (.tuple #[xv, errV (bnErr l hands)]) ∧ IntsAt w' xv (busyL l hands) ∧ Below wx.heap.size wx w') := fun wx hx => busy_one v l hands wx (hg.later hx)
  have HRW : Hid (∀ wx, Below w.heap.size w wx → Calls Tryd.prog 9 #[v] wx fun e w' => ∃ xv, e = .returned (.tuple #[xv, errV (bnErr l 6)]) ∧ IntsAt w' xv (rowL l) ∧ Below wx.heap.size wx w') := fun wx hx => row_one v l wx (hg.later hx)
  have HWA : Hid (∀ wx, Below w.heap.size w wx → Calls Tryd.prog 10 #[v, .int .i64 hands] wx fun e w' => e = .returned (.tuple #[.int .i64 (wasteZ l hands), errV (bnErr l hands)]) ∧ Below wx.heap.size wx w') := fun wx hx => waste_any v l hands wx (hg.later hx)
  have HRI : Hid (∀ wx, Below w.heap.size w wx → Calls Tryd.prog 11 #[pv] wx fun e w' => (∃ p q, e = .returned (.int .i64 q) ∧ CheckIs ts p q) ∧ Below wx.heap.size wx w') := fun wx hx => rightR_any pv ts wx (hp.later hx)
  have HST : Hid (∀ wx, Below w.heap.size w wx → bnErr l 6 = 0 → Calls Tryd.prog 8 #[v] wx fun e w' => e = .returned (.int .i64 (stepsZ l l.length)) ∧ w' = wx) := fun wx hx h0 => docSteps_any v l wx (hg.later hx) (fun k hk => ⟨((bnErr_zero h0).2.2.2 k hk).1, ((bnErr_zero h0).2.2.2 k hk).2.1⟩)
  have HER : Hid (∀ q wx, Below w.heap.size w wx → Calls Tryd.prog 6 #[errV q, .int .i64 q] wx fun e w' => e = .returned (.bool true) ∧ Below wx.heap.size wx w') := fun q wx hx => error_same q wx (hT.later hx)
  obtain ⟨e0, he0⟩ : ∃ e0, e0 = bnErr l hands := ⟨_, rfl⟩
  obtain ⟨f0, hf0⟩ : ∃ f0, f0 = bnErr l 6 := ⟨_, rfl⟩
  obtain ⟨wz, hwz⟩ : ∃ wz, wz = wasteZ l hands := ⟨_, rfl⟩
  obtain ⟨bzs, hbz⟩ : ∃ bzs, bzs = busyL l hands := ⟨_, rfl⟩
  obtain ⟨rzs, hrz⟩ : ∃ rzs, rzs = rowL l := ⟨_, rfl⟩
  have HE0 : Hid (e0 = bnErr l hands) := he0
  have HF0 : Hid (f0 = bnErr l 6) := hf0
  have HWZ : Hid (wz = wasteZ l hands) := hwz
  have HBZ : Hid (bzs = if e0 = 0 then cntL (fun b => b.2.1) l hands.toNat else []) := by show _ = _; rw [hbz, he0]; rfl
  have HRZ : Hid (rzs = if f0 = 0 then cntL (fun b => b.1) l (stepsZ l l.length) else []) := by show _ = _; rw [hrz, hf0]; rfl
  rw [← he0] at hd1 HBY HWA
  rw [← hf0] at HD2 HRW HST
  rw [← hbz] at HBY
  rw [← hrz] at HRW
  rw [← hwz] at HWA
  clear he0 hf0 hwz hbz hrz hT
  obtain ⟨hl, a, c, rfl, hc⟩ := hg
  obtain ⟨hpl, pa, pc, rfl, hpc⟩ := hp
  clear hc hpc
  go_enter Tryd.func3, Tryd.ntmps3
  go_wp2_with fail
  refine hd1.mono ?_
  clear hd1
  rintro e w1 ⟨rfl, hb1⟩
  have HB1 : Hid (Below w.heap.size w w1) := hb1
  have hd2 := HD2.out w1 hb1
  clear hb1 HD2
  go_wp2_with fail
  refine hd2.mono ?_
  clear hd2
  rintro e w2 ⟨rfl, hb2⟩
  have HB2 : Hid (Below w.heap.size w w2) := HB1.out.trans (hb2.mono HB1.out.size)
  clear hb2 HB1
  obtain ⟨hm, hhm⟩ : ∃ hm : Nat, hm = hands.toNat := ⟨_, rfl⟩
  have HMH : Hid (hm = hands.toNat) := hhm
  rw [← hhm] at HBZ
  clear hhm
  have HL6 : Hid (e0 = 0 → l.length ≤ 600) := fun h => (bnErr_zero (HE0.out.symm.trans h)).1
  have HL7 : Hid (f0 = 0 → l.length ≤ 600) := fun h => (bnErr_zero (HF0.out.symm.trans h)).1
  have HR1 : Hid (e0 = 0 → 1 ≤ hands ∧ hands ≤ 6 ∧ ∀ k, k < l.length → 0 ≤ (bitA l k).2.1 ∧ (bitA l k).2.1 < (hm : Int)) := fun h => by
    have hhm := HMH.out
    have h1 := bnErr_zero (HE0.out.symm.trans h)
    exact ⟨h1.2.1, h1.2.2.1, fun k hk => by have := h1.2.2.2 k hk; omega⟩
  have HR2 : Hid (f0 = 0 → stepsZ l l.length ≤ 10001 ∧ ∀ k, k < l.length → 0 ≤ (bitA l k).1 ∧ (bitA l k).1 < (stepsZ l l.length : Int)) := fun h => by
    have h1 := bnErr_zero (HF0.out.symm.trans h)
    exact ⟨stepsZ_le l l.length (fun k hk => (h1.2.2.2 k hk).2.1) _ (Nat.le_refl _), fun k hk => ⟨(h1.2.2.2 k hk).1, stepsZ_lt l l.length k hk⟩⟩
  obtain ⟨Nx, hNx⟩ : ∃ N, N = w2.heap.size := ⟨_, rfl⟩
  have HNx : Hid (Nx = w2.heap.size) := hNx
  clear hNx
  go_upto_if 31 with fail
  go_cut [9] from 25 to 183 (fun sx wx => ∃ va, va = sx ∧ Hid (CntS e0 (fun b => b.2.1) l hm Nx 0 w2 wx va))
  case first => as_aux_lemma =>
    by_cases hz : e0 = 0
    · have hez : (e0 == 0) = true := by rw [beq_iff_eq]; exact hz
      obtain ⟨hh1, hh6, -⟩ := HR1.out hz
      obtain rfl : hands = (hm : Int) := by have := HMH.out; omega
      have hmk := fun wx => run_make_row' (P := Tryd.prog) 26 3 (.int .i64 0) 8 Tryd.underlying26 Tryd.infoIntB rfl .i64 .i64 hm (by omega) (by omega) wx
      have HM0 : Hid (CntS e0 (fun b => b.2.1) l hm Nx 0 w2 (w2.alloc (.cells (madeCells #[.int .i64 0] hm) 3)) (.slice (some ⟨w2.heap.size, 0, none⟩) hm hm)) := by
        have h1 := HNx.out
        refine Or.inl ⟨hz, by rw [h1], ?_⟩
        rw [h1]
        exact ⟨(World.rowIs_made w2 (.int .i64 0) hm 3).congr (fun k _ => rfl), (Below.refl _ _).alloc (Nat.le_refl _) _⟩
      clear hz
      go_wp2
      go_meet
      exact ⟨_, rfl, HM0⟩
    · have hez : (e0 == 0) = false := by rw [beq_eq_false_iff_ne]; exact hz
      have HM0 : Hid (CntS e0 (fun b => b.2.1) l hm Nx 0 w2 w2 (.slice none 0 0)) := Or.inr ⟨hz, rfl, rfl⟩
      clear hz
      go_wp2
      go_meet
      exact ⟨_, rfl, HM0⟩
  case rest => as_aux_lemma =>
    obtain ⟨xv, rfl, hcut⟩ := hcut
    go_wp2
    go_loopw [11] (fun sk wr => ∃ k : Nat, k ≤ l.length ∧ sk = .int .i64 k ∧ Hid (CntS e0 (fun b => b.2.1) l hm Nx k w2 wr xv)) (fun sk _ => l.length - (intOf sk).toNat)
    case atStart => exact ⟨0, Nat.zero_le _, rfl, hcut⟩
    case round =>
      clear hcut
      obtain ⟨k, hk, rfl, hS⟩ := hrel
      obtain ⟨wa, rfl⟩ : ∃ wa, wa = wr := ⟨_, rfl⟩
      go_upto_region 7 with fail
      go_cut [41] from 34 to 53 (fun st wx => ∃ bb : Bool, st = .bool bb ∧ Hid (bb = true ↔ (k < l.length ∧ e0 = 0)) ∧ wa = wx)
      case first => as_aux_lemma =>
        by_cases hkl : k < l.length
        · have hki : (k : Int) < (l.length : Int) := by omega
          have H1 : Hid (k < l.length) := hkl
          by_cases hz : e0 = 0
          · have hez : (e0 == 0) = true := by rw [beq_iff_eq]; exact hz
            have H2 : Hid (e0 = 0) := hz
            clear hz
            go_wp2
            go_meet
            exact ⟨true, rfl, iff_of_true rfl ⟨H1.out, H2.out⟩, rfl⟩
          · have hez : (e0 == 0) = false := by rw [beq_eq_false_iff_ne]; exact hz
            have H2 : Hid (¬ e0 = 0) := hz
            clear hz
            go_wp2
            go_meet
            exact ⟨false, rfl, iff_of_false (by simp) (fun h => H2.out h.2), rfl⟩
        · have hki : ¬ (k : Int) < (l.length : Int) := by omega
          have H1 : Hid (¬ k < l.length) := hkl
          clear hkl
          go_wp2
          go_meet
          exact ⟨false, rfl, iff_of_false (by simp) (fun h => H1.out h.1), rfl⟩
      case rest => as_aux_lemma =>
        obtain ⟨bb, rfl, hbb, rfl⟩ := hcut
        cases bb
        · have HE : Hid (e0 = 0 → k = l.length) := fun h0 => by
            by_cases hkl : k < l.length
            · have := hbb.out.2 ⟨hkl, h0⟩; cases this
            · omega
          clear hbb
          have HI : Hid (IntsAt wa xv bzs) := hS.out.ints HBZ.out (fun h => by have := HR1.out h; have := HMH.out; omega) HE.out
          have hbw : Below w2.heap.size w2 wa := by have h1 := hS.out; rw [HNx.out] at h1; exact h1.below
          have HB3 : Hid (Below w.heap.size w wa) := HB2.out.trans (hbw.mono HB2.out.size)
          obtain ⟨-, xa, xc, rfl, -⟩ := HI.out
          have hby := HBY.out wa HB3.out
          clear hS HE hbw HBY HBZ
          go_wp2_with fail
          refine hby.mono ?_
          clear hby
          rintro e w4 ⟨yv, rfl, hy4, hb4⟩
          have HB4 : Hid (Below w.heap.size w w4) := HB3.out.trans (hb4.mono HB3.out.size)
          have HX4 : Hid (IntsAt w4 (.slice xa bzs.length xc) bzs) := HI.out.later hb4
          have HY4 : Hid (IntsAt w4 yv bzs) := hy4
          obtain ⟨-, ya, yc, rfl, -⟩ := hy4
          have her := HER.out e0 w4 HB4.out
          clear hb4 HB3 HI
          go_wp2_with fail
          refine her.mono ?_
          clear her
          rintro e w5 ⟨rfl, hb5⟩
          have HB5 : Hid (Below w.heap.size w w5) := HB4.out.trans (hb5.mono HB4.out.size)
          have hsi := sameInts_any _ _ _ w5 (HY4.out.later hb5) (HX4.out.later hb5)
          clear hb5 HB4 HX4 HY4
          go_wp2_with fail
          refine hsi.mono ?_
          clear hsi
          rintro e w6 ⟨rfl, hb6⟩
          have HB6 : Hid (Below w.heap.size w w6) := HB5.out.trans (hb6.mono HB5.out.size)
          clear hb6 HB5
          generalize bzs.length = bzl at *
          obtain ⟨Ny, hNy⟩ : ∃ N, N = w6.heap.size := ⟨_, rfl⟩
          have HNy : Hid (Ny = w6.heap.size) := hNy
          clear hNy
          go_upto_if 67 with fail
          go_cut [10] from 25 to 183 (fun sx wx => ∃ va, va = sx ∧ Hid (CntS f0 (fun b => b.1) l (stepsZ l l.length) Ny 0 w6 wx va))
          case first => as_aux_lemma =>
            by_cases hz : f0 = 0
            · have hez : (f0 == 0) = true := by rw [beq_iff_eq]; exact hz
              have hm1 := (HR2.out hz).1
              have hst := HST.out w6 HB6.out hz
              have hmk := fun wx => run_make_row' (P := Tryd.prog) 26 3 (.int .i64 0) 8 Tryd.underlying26 Tryd.infoIntB rfl .i64 .i64 (stepsZ l l.length) (by omega) (by omega) wx
              have HM0 : Hid (CntS f0 (fun b => b.1) l (stepsZ l l.length) Ny 0 w6 (w6.alloc (.cells (madeCells #[.int .i64 0] (stepsZ l l.length)) 3)) (.slice (some ⟨w6.heap.size, 0, none⟩) (stepsZ l l.length) (stepsZ l l.length))) := by
                have h1 := HNy.out
                refine Or.inl ⟨hz, by rw [h1], ?_⟩
                rw [h1]
                exact ⟨(World.rowIs_made w6 (.int .i64 0) (stepsZ l l.length) 3).congr (fun k _ => rfl), (Below.refl _ _).alloc (Nat.le_refl _) _⟩
              clear hz
              go_wp2_with (go_at_call 8; refine hst.mono ?_; clear hst; rintro e wq ⟨rfl, rfl⟩)
              go_meet
              exact ⟨_, rfl, HM0⟩
            · have hez : (f0 == 0) = false := by rw [beq_eq_false_iff_ne]; exact hz
              have HM0 : Hid (CntS f0 (fun b => b.1) l (stepsZ l l.length) Ny 0 w6 w6 (.slice none 0 0)) := Or.inr ⟨hz, rfl, rfl⟩
              clear hz
              go_wp2
              go_meet
              exact ⟨_, rfl, HM0⟩
          case rest => as_aux_lemma =>
            obtain ⟨xv, rfl, hcut⟩ := hcut
            go_wp2
            go_loopw [16] (fun sk wr => ∃ k : Nat, k ≤ l.length ∧ sk = .int .i64 k ∧ Hid (CntS f0 (fun b => b.1) l (stepsZ l l.length) Ny k w6 wr xv)) (fun sk _ => l.length - (intOf sk).toNat)
            case atStart => exact ⟨0, Nat.zero_le _, rfl, hcut⟩
            case round =>
              clear hcut
              obtain ⟨k, hk, rfl, hS⟩ := hrel
              obtain ⟨wa, rfl⟩ : ∃ wa, wa = wr := ⟨_, rfl⟩
              go_upto_region 16 with fail
              go_cut [78] from 71 to 90 (fun st wx => ∃ bb : Bool, st = .bool bb ∧ Hid (bb = true ↔ (k < l.length ∧ f0 = 0)) ∧ wa = wx)
              case first => as_aux_lemma =>
                by_cases hkl : k < l.length
                · have hki : (k : Int) < (l.length : Int) := by omega
                  have H1 : Hid (k < l.length) := hkl
                  by_cases hz : f0 = 0
                  · have hez : (f0 == 0) = true := by rw [beq_iff_eq]; exact hz
                    have H2 : Hid (f0 = 0) := hz
                    clear hz
                    go_wp2
                    go_meet
                    exact ⟨true, rfl, iff_of_true rfl ⟨H1.out, H2.out⟩, rfl⟩
                  · have hez : (f0 == 0) = false := by rw [beq_eq_false_iff_ne]; exact hz
                    have H2 : Hid (¬ f0 = 0) := hz
                    clear hz
                    go_wp2
                    go_meet
                    exact ⟨false, rfl, iff_of_false (by simp) (fun h => H2.out h.2), rfl⟩
                · have hki : ¬ (k : Int) < (l.length : Int) := by omega
                  have H1 : Hid (¬ k < l.length) := hkl
                  clear hkl
                  go_wp2
                  go_meet
                  exact ⟨false, rfl, iff_of_false (by simp) (fun h => H1.out h.1), rfl⟩
              case rest => as_aux_lemma =>
                obtain ⟨bb, rfl, hbb, rfl⟩ := hcut
                cases bb
                · have HE : Hid (f0 = 0 → k = l.length) := fun h0 => by
                    by_cases hkl : k < l.length
                    · have := hbb.out.2 ⟨hkl, h0⟩; cases this
                    · omega
                  clear hbb
                  have HI : Hid (IntsAt wa xv rzs) := hS.out.ints HRZ.out (fun h => (HR2.out h).1) HE.out
                  have hbw : Below w6.heap.size w6 wa := by have h1 := hS.out; rw [HNy.out] at h1; exact h1.below
                  have HB7 : Hid (Below w.heap.size w wa) := HB6.out.trans (hbw.mono HB6.out.size)
                  obtain ⟨-, xa, xc, rfl, -⟩ := HI.out
                  have hrw := HRW.out wa HB7.out
                  clear hS HE hbw HRW HRZ
                  go_wp2_with fail
                  refine hrw.mono ?_
                  clear hrw
                  rintro e w8 ⟨yv, rfl, hy4, hb4⟩
                  have HB8 : Hid (Below w.heap.size w w8) := HB7.out.trans (hb4.mono HB7.out.size)
                  have HX4 : Hid (IntsAt w8 (.slice xa rzs.length xc) rzs) := HI.out.later hb4
                  have HY4 : Hid (IntsAt w8 yv rzs) := hy4
                  obtain ⟨-, ya, yc, rfl, -⟩ := hy4
                  have her := HER.out f0 w8 HB8.out
                  clear hb4 HB7 HI
                  go_wp2_with fail
                  refine her.mono ?_
                  clear her
                  rintro e w9 ⟨rfl, hb5⟩
                  have HB9 : Hid (Below w.heap.size w w9) := HB8.out.trans (hb5.mono HB8.out.size)
                  have hsi := sameInts_any _ _ _ w9 (HY4.out.later hb5) (HX4.out.later hb5)
                  clear hb5 HB8 HX4 HY4
                  go_wp2_with fail
                  refine hsi.mono ?_
                  clear hsi
                  rintro e w10 ⟨rfl, hb6⟩
                  have HB10 : Hid (Below w.heap.size w w10) := HB9.out.trans (hb6.mono HB9.out.size)
                  clear hb6 HB9
                  generalize rzs.length = rzl at *
                  go_upto_if 103 with fail
                  go_cut [20] from 25 to 183 (fun sx wx => sx = .int .i64 wz ∧ w10 = wx)
                  case first => as_aux_lemma =>
                    by_cases hz : e0 = 0
                    · have hez : (e0 == 0) = true := by rw [beq_iff_eq]; exact hz
                      have h6 := bnErr_six (HE0.out.symm.trans hz)
                      have hst := HST.out w10 HB10.out (HF0.out.trans h6)
                      have HX : Hid (wz = hands * (stepsZ l l.length : Int) - l.length) := by show _ = _; rw [HWZ.out]; exact if_pos (HE0.out.symm.trans hz)
                      obtain ⟨hh1, hh6, -⟩ := HR1.out hz
                      have hml := waste_mul hh1 hh6 (HR2.out (HF0.out.trans h6)).1
                      have hll := HL6.out hz
                      generalize stepsZ l l.length = sst at *
                      generalize hpr : hands * (sst : Int) = pr at *
                      clear hz h6
                      go_wp2_with (go_at_call 8; refine hst.mono ?_; clear hst; rintro e wq ⟨rfl, rfl⟩)
                      go_meet
                      exact ⟨by rw [HX.out], rfl⟩
                    · have hez : (e0 == 0) = false := by rw [beq_eq_false_iff_ne]; exact hz
                      have HX : Hid (wz = 0) := by show _ = _; rw [HWZ.out]; exact if_neg (fun h => hz (HE0.out.trans h))
                      clear hz
                      go_wp2
                      go_meet
                      exact ⟨by rw [HX.out], rfl⟩
                  case rest => as_aux_lemma =>
                    obtain ⟨rfl, rfl⟩ := hcut
                    have hwa := HWA.out w10 HB10.out
                    clear HWA HST HR1 HR2 HL6 HL7 HWZ HF0 HG
                    go_wp2_with fail
                    refine hwa.mono ?_
                    clear hwa
                    rintro e w11 ⟨rfl, hb11⟩
                    have HB11 : Hid (Below w.heap.size w w11) := HB10.out.trans (hb11.mono HB10.out.size)
                    have her := HER.out e0 w11 HB11.out
                    clear hb11 HB10
                    go_wp2_with fail
                    refine her.mono ?_
                    clear her
                    rintro e w12 ⟨rfl, hb12⟩
                    have HB12 : Hid (Below w.heap.size w w12) := HB11.out.trans (hb12.mono HB11.out.size)
                    have hri := HRI.out w12 HB12.out
                    clear hb12 HB11 HRI
                    go_wp2_with fail
                    refine hri.mono ?_
                    clear hri
                    rintro e w13 ⟨⟨p, q, rfl, hc⟩, hb13⟩
                    have HB13 : Hid (Below w.heap.size w w13) := HB12.out.trans (hb13.mono HB12.out.size)
                    have HC : Hid (CheckIs ts p q) := hc
                    obtain ⟨sp, hsi, hsp⟩ := speed_one _ ts hands p q w HP.out hc
                    have HSI : Hid (SpeedIs ts hands q sp) := hsi
                    have HSP : Hid (∀ wx, Below w.heap.size w wx → Calls Tryd.prog 14 #[.slice pa ts.length pc, .int .i64 hands] wx fun e w' => e = .returned (.tuple #[.int .i64 sp, errV (gErr q hands)]) ∧ Below wx.heap.size wx w') := hsp
                    clear hb13 HB12 hc hsi hsp
                    obtain ⟨g0, hg0⟩ : ∃ g0, g0 = gErr q hands := ⟨_, rfl⟩
                    have HG0 : Hid (g0 = gErr q hands) := hg0
                    rw [← hg0] at HSP
                    clear hg0
                    go_upto_region 28 with fail
                    go_cut [136] from 25 to 183 (fun sx wx => ∃ bb : Bool, sx = .bool bb ∧ Hid (g0 = if bb then 1 else q) ∧ w13 = wx)
                    case first => as_aux_lemma =>
                      by_cases hz : q = 0
                      · have hez : (q == 0) = true := by rw [beq_iff_eq]; exact hz
                        by_cases h1 : hands < 1
                        · have HX : Hid (g0 = 1) := by show _ = _; rw [HG0.out]; unfold gErr; rw [if_pos hz, if_pos (Or.inl h1)]
                          clear hz
                          go_wp2
                          go_meet
                          exact ⟨true, rfl, HX, rfl⟩
                        · by_cases h6 : 6 < hands
                          · have HX : Hid (g0 = 1) := by show _ = _; rw [HG0.out]; unfold gErr; rw [if_pos hz, if_pos (Or.inr h6)]
                            clear hz
                            go_wp2
                            go_meet
                            exact ⟨true, rfl, HX, rfl⟩
                          · have HX : Hid (g0 = q) := by show _ = _; rw [HG0.out]; unfold gErr; rw [if_pos hz, if_neg (by omega)]; exact hz.symm
                            clear hz
                            go_wp2
                            go_meet
                            exact ⟨false, rfl, HX, rfl⟩
                      · have hez : (q == 0) = false := by rw [beq_eq_false_iff_ne]; exact hz
                        have HX : Hid (g0 = q) := by show _ = _; rw [HG0.out]; unfold gErr; rw [if_neg hz]
                        clear hz
                        go_wp2
                        go_meet
                        exact ⟨false, rfl, HX, rfl⟩
                    case rest => as_aux_lemma =>
                      obtain ⟨bb, rfl, hbb, rfl⟩ := hcut
                      go_upto_if 136 with fail
                      go_cut [7] from 25 to 183 (fun sx wx => sx = .int .i64 g0 ∧ w13 = wx)
                      case first => as_aux_lemma =>
                        cases bb
                        · have HX : Hid (g0 = q) := hbb.out
                          clear hbb
                          go_wp2
                          go_meet
                          exact ⟨by rw [HX.out], rfl⟩
                        · have HX : Hid (g0 = 1) := hbb.out
                          clear hbb
                          go_wp2
                          go_meet
                          exact ⟨by rw [HX.out], rfl⟩
                      case rest => as_aux_lemma =>
                        obtain ⟨rfl, rfl⟩ := hcut
                        clear hbb
                        go_upto_region 31 with fail
                        go_cut [143] from 25 to 183 (fun sx wx => ∃ bb : Bool, sx = .bool bb ∧ Hid (bb = true ↔ (g0 = 0 ∧ ts.length = 0)) ∧ w13 = wx)
                        case first => as_aux_lemma =>
                          by_cases hz : g0 = 0
                          · have hez : (g0 == 0) = true := by rw [beq_iff_eq]; exact hz
                            have H1 : Hid (g0 = 0) := hz
                            by_cases ht : ts.length = 0
                            · have hte : ((ts.length : Int) == 0) = true := by rw [beq_iff_eq]; omega
                              have H2 : Hid (ts.length = 0) := ht
                              clear hz ht
                              go_wp2
                              go_meet
                              exact ⟨true, rfl, iff_of_true rfl ⟨H1.out, H2.out⟩, rfl⟩
                            · have hte : ((ts.length : Int) == 0) = false := by rw [beq_eq_false_iff_ne]; omega
                              have H2 : Hid (¬ ts.length = 0) := ht
                              clear hz ht
                              go_wp2
                              go_meet
                              exact ⟨false, rfl, iff_of_false (by simp) (fun h => H2.out h.2), rfl⟩
                          · have hez : (g0 == 0) = false := by rw [beq_eq_false_iff_ne]; exact hz
                            have H1 : Hid (¬ g0 = 0) := hz
                            clear hz
                            go_wp2
                            go_meet
                            exact ⟨false, rfl, iff_of_false (by simp) (fun h => H1.out h.1), rfl⟩
                        case rest => as_aux_lemma =>
                          obtain ⟨bb, rfl, hbb, rfl⟩ := hcut
                          go_upto_if 143 with fail
                          go_cut [23] from 25 to 183 (fun sx wx => sx = .int .i64 sp ∧ Hid (Below w.heap.size w wx))
                          case first => as_aux_lemma =>
                            cases bb
                            · by_cases hz : g0 = 0
                              · have hez : (g0 == 0) = true := by rw [beq_iff_eq]; exact hz
                                have hne : ts.length ≠ 0 := fun h => by have := hbb.out.2 ⟨hz, h⟩; cases this
                                have hgz : gErr q hands = 0 := HG0.out.symm.trans hz
                                obtain ⟨rfl, hh1, hh6⟩ := gErr_zero hgz
                                have hc := HC.out
                                obtain ⟨rfl, -⟩ := hc.ok rfl
                                obtain ⟨-, s, s1, hs, hs1, hspz⟩ := HSI.out.resolve_left (fun h => h.1 hgz)
                                have hs0 := spd_some hc hs hne
                                have hsl := hs.le hc.works.1 (by omega)
                                have hwk : (s1 : Int) = workTo ts ts.length := by obtain ⟨h1, h2, h3⟩ := hc.works; exact hs1.alone h1 h2 h3
                                have hwa2 := hc.works.1.all
                                obtain ⟨hd, rfl⟩ : ∃ hd : Nat, hands = hd := ⟨hands.toNat, by omega⟩
                                rw [Int.toNat_natCast] at hs
                                have HX : Hid (sp = 100 * workTo ts ts.length / (s : Int)) := by show _ = _; rw [hspz, ← hwk]; exact if_neg hs0
                                have hsb : (((s : Nat) : Int) == 0) = false := by rw [beq_eq_false_iff_ne]; omega
                                have hq0 : 0 ≤ 100 * workTo ts ts.length / (s : Int) := Int.ediv_nonneg (by omega) (by omega)
                                have hkn : KnG w (.slice pa ts.length pc) ts (bitsTo ts hd s) [] w13 := ⟨HB13.out, HT.out.later HB13.out, HP.out.later HB13.out, fun u hu => by cases hu⟩
                                have HK1 : Hid (∀ W, KnG w (.slice pa ts.length pc) ts (bitsTo ts hd s) [] W → Calls Tryd.prog 13 #[.slice pa ts.length pc, .int .i64 hd] W fun e W' => ∃ u, e = .returned u ∧ KnG w (.slice pa ts.length pc) ts (bitsTo ts hd s) [u] W') := fun W hW => g_greedyR hc (by omega) (by omega) hs hW
                                have HK2 : Hid (∀ u W, KnG w (.slice pa ts.length pc) ts (bitsTo ts hd s) [u] W → Calls Tryd.prog 8 #[u] W fun e W' => e = .returned (.int .i64 s) ∧ KnG w (.slice pa ts.length pc) ts (bitsTo ts hd s) [u] W') := fun u W hW => g_stepsR hc (by omega) hs hW
                                have hwkc := g_workR hc hkn
                                clear hbb hne hgz hc hspz hs hs1 hwk hz hkn HC HSI HSP HG0
                                generalize workTo ts ts.length = wk at *
                                go_wp2_with (first | (go_at_call 12; refine hwkc.mono ?_; clear hwkc; rintro e wp ⟨rfl, hk1⟩; have hgr := HK1.out wp hk1; clear hk1) | (go_at_call 13; refine hgr.mono ?_; clear hgr; rintro e wq ⟨u, rfl, hk2⟩; have hsr := HK2.out u wq hk2; clear hk2) | (go_at_call 8; refine hsr.mono ?_; clear hsr; rintro e wt ⟨rfl, hk3⟩; have HK3 := hk3.below; have HB : Hid (Below w.heap.size w wt) := HK3; clear hk3 HK3))
                                go_meet
                                exact ⟨by rw [HX.out], HB⟩
                              · have hez : (g0 == 0) = false := by rw [beq_eq_false_iff_ne]; exact hz
                                have HX : Hid (sp = 0) := (HSI.out.resolve_right (fun h => hz (HG0.out.trans h.1))).2
                                clear hz hbb
                                go_wp2
                                go_meet
                                exact ⟨by rw [HX.out], HB13⟩
                            · have hgz := hbb.out.1 rfl
                              have HX : Hid (sp = 100) := by
                                obtain ⟨-, s, s1, hs, hs1, hspz⟩ := HSI.out.resolve_left (fun h => h.1 (HG0.out.symm.trans hgz.1))
                                show _ = _
                                rw [hspz]
                                exact if_pos (spd_none hs hgz.2)
                              clear hgz hbb
                              go_wp2
                              go_meet
                              exact ⟨by rw [HX.out], HB13⟩
                          case rest => as_aux_lemma =>
                            obtain ⟨rfl, hbc⟩ := hcut
                            have hsp := HSP.out wc hbc.out
                            clear hbb HSP HSI HC HG0
                            go_wp2_with fail
                            refine hsp.mono ?_
                            clear hsp
                            rintro e w15 ⟨rfl, hb15⟩
                            have HB15 : Hid (Below w.heap.size w w15) := hbc.out.trans (hb15.mono hbc.out.size)
                            have her := HER.out g0 w15 HB15.out
                            clear hb15 hbc
                            go_wp2_with fail
                            refine her.mono ?_
                            clear her
                            rintro e w16 ⟨rfl, hb16⟩
                            have HB16 : Hid (Below w.heap.size w w16) := HB15.out.trans (hb16.mono HB15.out.size)
                            clear hb16 HB15
                            go_wp2
                            go_ret
                            exact ⟨by simp, HB16.out⟩
                · obtain ⟨hkl, hz⟩ := hbb.out.1 rfl
                  have HZ : Hid (f0 = 0) := hz
                  have hbw : Below w6.heap.size w6 wa := by have h1 := hS.out; rw [HNy.out] at h1; exact h1.below
                  obtain ⟨-, rfl, hM⟩ := hS.out.resolve_right (fun h => h.1 hz)
                  have HM : Hid (CntM Ny (stepsZ l l.length) w6 wa (fun j => cntZ (fun b => b.1) l k j)) := hM
                  have hrg := (HR2.out hz).2 k hkl
                  have hbd := HG.out.later (HB6.out.trans (hbw.mono HB6.out.size))
                  obtain ⟨_, a', c', he', hcb⟩ := hbd
                  simp only [Value.slice.injEq] at he'
                  obtain ⟨rfl, -, rfl⟩ := he'
                  rcases hcb with h0 | ⟨b, o, rfl, hbl, hcb⟩
                  · rw [h0] at hkl; simp at hkl
                  have hc1 := (hcb k hkl).1
                  have e1 : (l.getD k (0, 0, 0)) = bitA l k := rfl
                  rw [e1] at hc1
                  obtain ⟨q, hq⟩ : ∃ q : Nat, (bitA l k).1 = q := ⟨((bitA l k).1).toNat, by omega⟩
                  have hcd := cntZ_bound (fun b => b.1) l q k
                  have HNX : Hid (∀ j : Nat, cntZ (fun b => b.1) l (k + 1) j = if j = q then cntZ (fun b => b.1) l k q + 1 else cntZ (fun b => b.1) l k j) := fun j => by
                    show cntZ (fun b => b.1) l k j + (if (bitA l k).1 = (j : Int) then 1 else 0) = _
                    rw [hq]
                    by_cases e : j = q
                    · subst e; rw [if_pos rfl, if_pos rfl]
                    · rw [if_neg e, if_neg (by omega)]; omega
                  rw [hq] at hc1 hrg
                  have hqm : q < (stepsZ l l.length) := by omega
                  have hce := hM.row.cell hqm
                  have hfz := hM.row.frozen q
                  have hNl := hM.row.lt
                  have hk600 : l.length ≤ 600 := HL7.out hz
                  clear hcb hq hrg hM e1 hS hz hbb hbw
                  obtain ⟨u, hu⟩ : ∃ u, cntZ (fun b => b.1) l k q = u := ⟨_, rfl⟩
                  rw [hu] at hce hcd HNX
                  clear hu
                  have HM5 : Hid (CntS f0 (fun b => b.1) l (stepsZ l l.length) Ny (k + 1) w6 (wa.setCell ⟨Ny, q, none⟩ (.int .i64 (u + 1))) (.slice (some ⟨Ny, 0, none⟩) (stepsZ l l.length) (stepsZ l l.length))) := Or.inl ⟨HZ.out, rfl, HM.out.set q (u + 1) (fun j _ => HNX.out j)⟩
                  clear HM HNX
                  go_wp2
                  go_roundw
                  case rel => exact ⟨k + 1, by omega, by go_num, HM5⟩
                  case measure => simp [intOf]; omega
        · obtain ⟨hkl, hz⟩ := hbb.out.1 rfl
          have HZ : Hid (e0 = 0) := hz
          have hbw : Below w2.heap.size w2 wa := by have h1 := hS.out; rw [HNx.out] at h1; exact h1.below
          obtain ⟨-, rfl, hM⟩ := hS.out.resolve_right (fun h => h.1 hz)
          have HM : Hid (CntM Nx hm w2 wa (fun j => cntZ (fun b => b.2.1) l k j)) := hM
          have hrg := ((HR1.out hz).2).2 k hkl
          have hbd := HG.out.later (HB2.out.trans (hbw.mono HB2.out.size))
          obtain ⟨_, a', c', he', hcb⟩ := hbd
          simp only [Value.slice.injEq] at he'
          obtain ⟨rfl, -, rfl⟩ := he'
          rcases hcb with h0 | ⟨b, o, rfl, hbl, hcb⟩
          · rw [h0] at hkl; simp at hkl
          have hc1 := (hcb k hkl).2.1
          have e1 : (l.getD k (0, 0, 0)) = bitA l k := rfl
          rw [e1] at hc1
          obtain ⟨q, hq⟩ : ∃ q : Nat, (bitA l k).2.1 = q := ⟨((bitA l k).2.1).toNat, by omega⟩
          have hcd := cntZ_bound (fun b => b.2.1) l q k
          have HNX : Hid (∀ j : Nat, cntZ (fun b => b.2.1) l (k + 1) j = if j = q then cntZ (fun b => b.2.1) l k q + 1 else cntZ (fun b => b.2.1) l k j) := fun j => by
            show cntZ (fun b => b.2.1) l k j + (if (bitA l k).2.1 = (j : Int) then 1 else 0) = _
            rw [hq]
            by_cases e : j = q
            · subst e; rw [if_pos rfl, if_pos rfl]
            · rw [if_neg e, if_neg (by omega)]; omega
          rw [hq] at hc1 hrg
          have hqm : q < hm := by omega
          have hce := hM.row.cell hqm
          have hfz := hM.row.frozen q
          have hNl := hM.row.lt
          have hk600 : l.length ≤ 600 := HL6.out hz
          clear hcb hq hrg hM e1 hS hz hbb hbw
          obtain ⟨u, hu⟩ : ∃ u, cntZ (fun b => b.2.1) l k q = u := ⟨_, rfl⟩
          rw [hu] at hce hcd HNX
          clear hu
          have HM5 : Hid (CntS e0 (fun b => b.2.1) l hm Nx (k + 1) w2 (wa.setCell ⟨Nx, q, none⟩ (.int .i64 (u + 1))) (.slice (some ⟨Nx, 0, none⟩) hm hm)) := Or.inl ⟨HZ.out, rfl, HM.out.set q (u + 1) (fun j _ => HNX.out j)⟩
          clear HM HNX
          go_wp2
          go_roundw
          case rel => exact ⟨k + 1, by omega, by go_num, HM5⟩
          case measure => simp [intOf]; omega
end Go.Proofs.YtilpjhhjlokfcaaDoor
