/- The walk of YardTells where nothing is wrong. -/
import Derived.Test.YtajmnnjafhanaaaDoorYo
namespace Go.Proofs.YtajmnnjafhanaaaDoor
open Go.RowKit Go.Deep

/-- What the law counts, up to the k-th. -/
def flrL (N n : Nat) (wt : Nat → Nat) (k : Nat) : List Int := (List.range k).map (fun i => (flrY N n wt i : Int))
theorem flrL_length (N n : Nat) (wt : Nat → Nat) (k : Nat) : (flrL N n wt k).length = k := by simp [flrL]
theorem flrL_succ (N n : Nat) (wt : Nat → Nat) (k : Nat) : flrL N n wt (k + 1) = flrL N n wt k ++ [(flrY N n wt k : Int)] := by simp [flrL, List.range_succ]
/-- So many have one more. -/
def oneL (N n : Nat) (wt : Nat → Nat) (m : Nat) : List Int := (List.range n).map (fun i => ((flrY N n wt i + if i < m then 1 else 0 : Nat) : Int))
theorem oneL_length (N n : Nat) (wt : Nat → Nat) (m : Nat) : (oneL N n wt m).length = n := by simp [oneL]
theorem oneL_zero (N n : Nat) (wt : Nat → Nat) : oneL N n wt 0 = flrL N n wt n := by simp [oneL, flrL]
theorem oneL_at {N n : Nat} (wt : Nat → Nat) {m : Nat} (hm : m < n) : (oneL N n wt m).getD m 0 = (flrY N n wt m : Int) := by simp [oneL, hm]
theorem oneL_set {N n : Nat} (wt : Nat → Nat) {m : Nat} (hm : m < n) : (oneL N n wt m).set m ((flrY N n wt m : Int) + 1) = oneL N n wt (m + 1) := by
  unfold oneL
  refine List.ext_getElem? fun j => ?_
  rw [List.getElem?_set]
  by_cases e : m = j
  · subst e
    simp [hm]
  · rw [if_neg e]
    by_cases hj : j < n
    · by_cases h2 : j < m
      · simp [hj, h2, show j < m + 1 by omega]
      · simp [hj, h2, show ¬ j < m + 1 by omega]
    · simp [hj]
theorem oneL_over (gs : List Jb) (N : Nat) : oneL N gs.length (wtN gs) (overY N gs.length (wtN gs)) = shrL gs N := rfl
theorem RowI.put {b g n c : Nat} {w : World} {zs : List Int} (h : RowI b w (.slice (some ⟨g, 0, none⟩) n c) zs) (hn : n = zs.length) {i : Nat} (x : Int) : RowI b (w.setCell ⟨g, i, none⟩ (.int .i64 x)) (.slice (some ⟨g, 0, none⟩) n c) (zs.set i x) := by
  subst hn
  unfold RowI at h ⊢
  rw [List.length_set, List.map_set]
  exact (World.ownsRow.stored h i (.int .i64 x)).1
theorem RowI.frz {b g n c : Nat} {w : World} {zs : List Int} (h : RowI b w (.slice (some ⟨g, 0, none⟩) n c) zs) (hn : n = zs.length) (i : Nat) : w.frozen? ⟨g, i, none⟩ = false := by
  subst hn
  exact World.ownsRow.frozenAt h i
set_option maxRecDepth 100000 in
set_option maxHeartbeats 4000000 in
theorem tells_ok (v : Value) (gs : List Jb) (N : Nat) (w : World) (hg : JobsAt w v gs) (hT : Typed w) (he : jobErr gs = 0) (hN : N ≤ 1000) (hl1 : 1 ≤ gs.length) :
    Calls Tryd.prog 3 #[v, .int .i64 (N : Int)] w fun e w' => e = .returned (.bool true) ∧ Below w.heap.size w w' := by
  have hdj := dJobs_any v gs w hg
  have hck := check_any v gs w hg
  have h6 := (jobErr_right he).1
  have HER : Hid (∀ wx, Below w.heap.size w wx → Calls Tryd.prog 5 #[errV 0, .int .i64 0] wx fun e w' => e = .returned (.bool true) ∧ Below wx.heap.size wx w') := fun wx hb => error_same 0 wx (hT.low hb)
  have hmb : manyB (N : Int) = true := by unfold manyB; simp; omega
  have hF : srvErr gs (N : Int) = 0 := by unfold srvErr; rw [if_pos he, if_pos hmb]
  have HS : Hid (∀ wx, Below w.heap.size w wx → Calls Tryd.prog 8 #[v, .int .i64 (N : Int)] wx fun e w' => ∃ ov lv, e = .returned (.tuple #[ov, lv, errV 0]) ∧ IntsAt w' ov (srvOut gs N) ∧ JobsAt w' lv (srvLeft gs N) ∧ Below wx.heap.size wx w') := fun wx hb => by have h := serve_one v gs N wx (hg.later hb); rw [hF] at h; exact h
  have HD : Hid (∀ wx, Below w.heap.size w wx → Calls Tryd.prog 7 #[v, .int .i64 (N : Int)] wx fun e w' => ∃ ov av, e = .returned (.tuple #[ov, av]) ∧ IntsAt w' ov (srvOut gs N) ∧ JobsAt w' av (srvLeft gs N) ∧ Below wx.heap.size wx w') := fun wx hb => dServe_one v gs N wx (hg.later hb) hF
  have HH : Hid (∀ wx, Below w.heap.size w wx → Calls Tryd.prog 11 #[v, .int .i64 (N : Int)] wx fun e w' => ∃ sv, e = .returned (.tuple #[sv, errV 0]) ∧ IntsAt w' sv (oneL N gs.length (wtN gs) (overY N gs.length (wtN gs))) ∧ Below wx.heap.size wx w') := fun wx hb => by rw [oneL_over]; exact shares_yes v gs N wx (hg.later hb) he hl1 hN
  rw [he] at hdj hck
  have HW : Hid (∀ k, k < gs.length → 1 ≤ wtN gs k ∧ wtN gs k ≤ 20) := fun k hk => (wtN_eq he hk).2
  have HSL : Hid (∀ k, k ≤ gs.length → sumY (wtN gs) k ≤ 120) := fun k hk => by
    have := sumY_le (f := wtN gs) (c := 20) (n := k) (fun i hi => (wtN_eq he (by omega)).2.2)
    omega
  have hsp : 0 < sumY (wtN gs) gs.length := sumY_pos (fun i hi => (wtN_eq he hi).2.1) hl1
  have HFL : Hid (∀ j, j < gs.length → flrY N gs.length (wtN gs) j = N * wtN gs j / sumY (wtN gs) gs.length ∧ flrY N gs.length (wtN gs) j ≤ 1000) := fun j hj => ⟨rfl, Nat.le_trans (flrY_le N _ _ hj) hN⟩
  have HFS : Hid (∀ j, j ≤ gs.length → sumY (flrY N gs.length (wtN gs)) j ≤ N) := fun j hj => Nat.le_trans (sumY_mono _ hj) (floors_le hsp)
  have HOV : Hid (overY N gs.length (wtN gs) < gs.length) := overY_lt hsp hl1
  have HSP : Hid (0 < sumY (wtN gs) gs.length) := hsp
  obtain ⟨_, a, c, rfl, hc⟩ := hg
  obtain ⟨b, o, rfl, hbl, hc⟩ : ∃ b o, a = some ⟨b, o, none⟩ ∧ b < w.heap.size ∧ ∀ k, k < gs.length → w.cell? ⟨b, o + k * 2, none⟩ = some (.int .i64 (wtN gs k : Int)) := by
    rcases hc with h0 | ⟨b, o, h1, h2, h3⟩
    · rw [h0] at hl1; simp at hl1
    · exact ⟨b, o, h1, h2, fun k hk => by rw [← (wtN_eq he hk).1]; exact (h3 k hk).1⟩
  have HC : Hid (∀ k, k < gs.length → w.cell? ⟨b, o + k * 2, none⟩ = some (.int .i64 (wtN gs k : Int))) := hc
  have hlz : ((gs.length : Int) == 0) = false := beq_eq_false_iff_ne.2 (by omega)
  clear hc hmb hF hT he hsp
  generalize srvOut gs N = zs at *
  generalize srvLeft gs N = js at *
  generalize wtN gs = wt at *
  generalize gs.length = n at *
  go_enter Tryd.func3, Tryd.ntmps3
  go_wp2_with fail
  refine hdj.mono ?_
  clear hdj
  rintro e w ⟨rfl, rfl⟩
  go_wp2_with fail
  refine hck.mono ?_
  clear hck
  rintro e w1 ⟨rfl, hb1⟩
  have her := HER.out w1 hb1
  go_wp2_with fail
  refine her.mono ?_
  clear her
  rintro e w2 ⟨rfl, hb2⟩
  have HB2 : Hid (Below w.heap.size w w2) := hb1.trans (hb2.mono hb1.size)
  have hds := HD.out w2 HB2.out
  clear hb1 hb2 HD
  go_wp2_with fail
  refine hds.mono ?_
  clear hds
  rintro e w3 ⟨dv, dl, rfl, hi3, hj3, hb3⟩
  have HB3 : Hid (Below w.heap.size w w3) := HB2.out.trans (hb3.mono HB2.out.size)
  have HI3 : Hid (IntsAt w3 dv zs) := hi3
  have HJ3 : Hid (JobsAt w3 dl js) := hj3
  obtain ⟨-, da, dc, rfl, -⟩ := hi3
  obtain ⟨-, ea, ec, rfl, -⟩ := hj3
  clear hb3 HB2
  have hsv := HS.out w3 HB3.out
  clear HS
  go_wp2_with fail
  refine hsv.mono ?_
  clear hsv
  rintro e w4 ⟨ov, lv, rfl, hi4, hj4, hb4⟩
  have HB4 : Hid (Below w.heap.size w w4) := HB3.out.trans (hb4.mono HB3.out.size)
  have HP4 : Hid (IntsAt w4 (.slice da zs.length dc) zs ∧ JobsAt w4 (.slice ea js.length ec) js) := ⟨HI3.out.later hb4, HJ3.out.later hb4⟩
  have HI4 : Hid (IntsAt w4 ov zs) := hi4
  have HJ4 : Hid (JobsAt w4 lv js) := hj4
  obtain ⟨-, oa, oc, rfl, -⟩ := hi4
  obtain ⟨-, la, lc, rfl, -⟩ := hj4
  have her := HER.out w4 HB4.out
  clear hb4 HB3 HI3 HJ3
  go_wp2_with fail
  refine her.mono ?_
  clear her
  rintro e w5 ⟨rfl, hb5⟩
  have hsi := sameInts_any _ _ _ w5 (HI4.out.later hb5) (HP4.out.1.later hb5)
  have HB5 : Hid (Below w.heap.size w w5) := HB4.out.trans (hb5.mono HB4.out.size)
  have HJ5 : Hid (JobsAt w5 (.slice la js.length lc) js ∧ JobsAt w5 (.slice ea js.length ec) js) := ⟨HJ4.out.later hb5, HP4.out.2.later hb5⟩
  clear hb5 HB4 HI4 HJ4 HP4
  go_wp2_with fail
  refine hsi.mono ?_
  clear hsi
  rintro e w6 ⟨rfl, hb6⟩
  have hsj := sameJobs_any _ _ _ w6 (HJ5.out.1.later hb6) (HJ5.out.2.later hb6)
  have HB6 : Hid (Below w.heap.size w w6) := HB5.out.trans (hb6.mono HB5.out.size)
  clear hb6 HB5 HJ5
  go_wp2_with fail
  refine hsj.mono ?_
  clear hsj
  rintro e w7 ⟨rfl, hb7⟩
  have HB7 : Hid (Below w.heap.size w w7) := HB6.out.trans (hb7.mono HB6.out.size)
  clear hb7 HB6
  go_wp2
  go_loopw [16, 17] (fun s16 s17 wr => ∃ k : Nat, k ≤ n ∧ s16 = .int .i64 (sumY wt k : Nat) ∧ s17 = .int .i64 k ∧ w7 = wr) (fun _ s17 _ => n - (intOf s17).toNat)
  case atStart => exact ⟨0, Nat.zero_le _, rfl, rfl, rfl⟩
  case round =>
    obtain ⟨k, hk, rfl, rfl, rfl⟩ := hrel
    by_cases hkn : k < n
    · have hc1 := (HB7.out.cell (p := ⟨b, o + k * 2, none⟩) hbl).trans (HC.out k hkn)
      have hs1 := HSL.out k hk
      have hw1 := (HW.out k hkn).2
      have HSS : Hid (sumY wt (k + 1) = sumY wt k + wt k) := rfl
      clear HB7 HC HSL HW HFL HFS HOV HSP HH HER
      generalize sumY wt k = sk at *
      generalize wt k = x at *
      go_wp2
      go_roundw
      case rel => exact ⟨k + 1, by omega, by rw [HSS.out]; go_num, by go_num, trivial⟩
      case measure => simp [intOf]; omega
    · have hke : k = n := by omega
      subst hke
      have hs1 := HSL.out k (Nat.le_refl _)
      have hsp := HSP.out
      have HBW : Hid (Below w7.heap.size w7 w7) := Below.refl _ _
      clear hkn hk HSL
      generalize hS : sumY wt k = S at *
      clear hS
      go_wp2
      go_loopw [8, 18, 19] (fun s8 s18 s19 wr => ∃ j : Nat, j ≤ k ∧ s18 = .int .i64 ((N - sumY (flrY N k wt) j : Nat) : Int) ∧ s19 = .int .i64 j ∧ Hid (RowI w7.heap.size wr s8 (flrL N k wt j)) ∧ Hid (Below w7.heap.size w7 wr)) (fun _ _ s19 _ => k - (intOf s19).toNat)
      case atStart => exact ⟨0, Nat.zero_le _, rfl, rfl, RowI.nil _ _, HBW⟩
      case round =>
        clear HBW
        obtain ⟨j, hj, rfl, rfl, hR, hB⟩ := hrel
        obtain ⟨ra, rc, rfl⟩ := hR.out.shape
        by_cases hjk : j < k
        · have hbw : b < w7.heap.size := Nat.lt_of_lt_of_le hbl HB7.out.size
          have hc1 := (hB.out.cell (p := ⟨b, o + j * 2, none⟩) hbw).trans ((HB7.out.cell (p := ⟨b, o + j * 2, none⟩) hbl).trans (HC.out j hjk))
          have hw1 := (HW.out j hjk).2
          obtain ⟨hq1, hq2⟩ := HFL.out j hjk
          have hf1 := HFS.out (j + 1) hjk
          have hf0 := HFS.out j hj
          have e1 : sumY (flrY N k wt) (j + 1) = sumY (flrY N k wt) j + flrY N k wt j := rfl
          rw [e1] at hf1
          have HE1 : Hid (sumY (flrY N k wt) (j + 1) = sumY (flrY N k wt) j + flrY N k wt j) := e1
          have HLS : Hid (flrL N k wt (j + 1) = flrL N k wt j ++ [(flrY N k wt j : Int)]) := flrL_succ _ _ _ _
          have HLL : Hid ((flrL N k wt j).length = j) := flrL_length _ _ _ _
          obtain ⟨p, hp⟩ : ∃ p, p = N * wt j := ⟨_, rfl⟩
          have hp2 : p ≤ 20000 := by rw [hp]; exact Nat.le_trans (Nat.mul_le_mul hN hw1) (by omega)
          have hp3 : (N : Int) * (wt j : Int) = (p : Int) := by rw [hp]; exact (Int.natCast_mul N (wt j)).symm
          have hdv : Int.tdiv (p : Int) (S : Int) = (flrY N k wt j : Int) := by rw [hq1, ← hp]; rfl
          have hsz := hB.out.size
          have HO : Hid (Rds (fun _ => True) (wr.alloc (.cells #[.int .i64 (flrY N k wt j : Int)] 3)) (.slice (some ⟨wr.heap.size, 0, none⟩) 1 1) [(flrY N k wt j : Int)]) := one_rds wr _
          have HRA : Hid (RowI w7.heap.size (wr.alloc (.cells #[.int .i64 (flrY N k wt j : Int)] 3)) (.slice ra (flrL N k wt j).length rc) (flrL N k wt j)) := hR.out.alloc _
          have HBA : Hid (Below w7.heap.size w7 (wr.alloc (.cells #[.int .i64 (flrY N k wt j : Int)] 3))) := hB.out.alloc hB.out.size _
          clear hR hB hq1 hp e1 HB7 HC HW HFL HFS HOV HSP HH HER
          generalize flrL N k wt j = l at *
          generalize sumY (flrY N k wt) j = sj at *
          generalize flrY N k wt j = q at *
          generalize wt j = x at *
          obtain ⟨ll, hll⟩ : ∃ ll, ll = l.length := ⟨_, rfl⟩
          rw [← hll] at HLL HRA ⊢
          have HLN : Hid (ll = l.length) := hll
          have hl6 : ll ≤ 6 := by have := HLL.out; omega
          clear hll
          go_wp2_with (first | (at_builtin; go_loud (refine wpList_append_rows rfl (.tmp 112) (.tmp 114) rfl w7.heap.size (fun _ => True) (.slice ra ll rc) (.slice (some ⟨wr.heap.size, 0, none⟩) 1 1) l [(q : Int)] rfl rfl HRA.out HO.out (by rw [← HLN.out]; simp; omega) (by simp; omega) ?_; intro v2 w2 hown hgr hat)))
          have HN : Hid (RowI w7.heap.size w2 v2 (flrL N k wt (j + 1))) := by rw [HLS.out]; exact hown
          have HBN : Hid (Below w7.heap.size w7 w2) := HBA.out.trans ⟨hgr.os, hgr.tape, hgr.output, hgr.size, fun i hi => hgr.block i (by simp; omega) (fun e => by have := (HRA.out.low e.symm).1; omega)⟩
          clear hown hgr hat HRA HO HBA
          go_wp2
          go_roundw
          case rel => exact ⟨j + 1, by omega, by rw [HE1.out]; go_num, by go_num, HN, HBN⟩
          case measure => simp [intOf]; omega
        · have hje : j = k := by omega
          subst hje
          have HO : Hid (N - sumY (flrY N j wt) j = overY N j wt) := rfl
          rw [HO.out]
          obtain ⟨g, gc, hgv, hg1, hg2, _⟩ := hR.out.full (by rw [flrL_length]; omega)
          rw [flrL_length] at hgv
          have hfl := flrL_length N j wt j
          rw [hfl] at hR ⊢
          simp only [Value.slice.injEq, true_and] at hgv
          obtain ⟨rfl, rfl⟩ := hgv
          have HR0 : Hid (RowI w7.heap.size wr (.slice (some ⟨g, 0, none⟩) j rc) (oneL N j wt 0)) := by rw [oneL_zero]; exact hR.out
          have hov := HOV.out
          clear hR HO hfl hjk hj HOV HC HW HFS HSP
          generalize overY N j wt = ov at *
          go_wp2
          go_loopw [21] (fun s21 wi => ∃ m : Nat, m ≤ ov ∧ s21 = .int .i64 m ∧ Hid (RowI w7.heap.size wi (.slice (some ⟨g, 0, none⟩) j rc) (oneL N j wt m)) ∧ Hid (Below w7.heap.size w7 wi)) (fun s21 _ => ov - (intOf s21).toNat)
          case atStart => exact ⟨0, Nat.zero_le _, rfl, HR0, hB⟩
          case round =>
            clear HR0 hB
            obtain ⟨m, hm, rfl, hR, hB⟩ := hrel
            by_cases hmo : m < ov
            · have hmj : m < j := by omega
              have hcA := RowI.cell hR.out (k := m) (by rw [oneL_length]; exact hmj)
              rw [oneL_at wt hmj] at hcA
              have hfA := RowI.frz hR.out (oneL_length N j wt m).symm m
              have hq := (HFL.out m hmj).2
              have HX : Hid (RowI w7.heap.size (wr.setCell ⟨g, m, none⟩ (.int .i64 ((flrY N j wt m : Int) + 1))) (.slice (some ⟨g, 0, none⟩) j rc) (oneL N j wt (m + 1))) := by
                rw [← oneL_set wt hmj]
                exact hR.out.put (oneL_length N j wt m).symm _
              have HB3 : Hid (Below w7.heap.size w7 (wr.setCell ⟨g, m, none⟩ (.int .i64 ((flrY N j wt m : Int) + 1)))) := hB.out.setCell (p := ⟨g, m, none⟩) hg1 _
              clear hR hB HFL HH HER HB7
              generalize flrY N j wt m = q at *
              go_wp2
              go_roundw
              case rel => exact ⟨m + 1, by omega, by go_num, HX, HB3⟩
              case measure => simp [intOf]; omega
            · have hme : m = ov := by omega
              subst hme
              have hBW : Below w.heap.size w wr := HB7.out.trans (hB.out.mono HB7.out.size)
              have hsh := HH.out wr hBW
              have HBW2 : Hid (Below w.heap.size w wr) := hBW
              have HWA : Hid (IntsAt wr (.slice (some ⟨g, 0, none⟩) j rc) (oneL N j wt m)) := hR.out.ints (by rw [oneL_length]; omega)
              clear hR hB HH HB7 HFL hBW hmo hm
              go_wp2_with fail
              refine hsh.mono ?_
              clear hsh
              rintro e w8 ⟨sv, rfl, hi8, hb8⟩
              have HI8 : Hid (IntsAt w8 sv (oneL N j wt m)) := hi8
              have HWB : Hid (IntsAt w8 (.slice (some ⟨g, 0, none⟩) j rc) (oneL N j wt m)) := HWA.out.later hb8
              have HB8 : Hid (Below w.heap.size w w8) := HBW2.out.trans (hb8.mono HBW2.out.size)
              obtain ⟨-, sa, sc, rfl, -⟩ := hi8
              have her := HER.out w8 HB8.out
              clear hb8 HWA HBW2 HER
              go_wp2_with fail
              refine her.mono ?_
              clear her
              rintro e w9 ⟨rfl, hb9⟩
              have hsi := sameInts_any _ _ _ w9 (HI8.out.later hb9) (HWB.out.later hb9)
              have HB9 : Hid (Below w.heap.size w w9) := HB8.out.trans (hb9.mono HB8.out.size)
              clear hb9 HI8 HWB HB8
              go_wp2_with fail
              refine hsi.mono ?_
              clear hsi
              rintro e w10 ⟨rfl, hb10⟩
              have HB10 : Hid (Below w.heap.size w w10) := HB9.out.trans (hb10.mono HB9.out.size)
              clear hb10 HB9
              go_wp2
              go_ret
              exact ⟨rfl, HB10.out⟩
theorem tells_any (v : Value) (gs : List Jb) (n : Int) (w : World) (hg : JobsAt w v gs) (hT : Typed w) :
    Calls Tryd.prog 3 #[v, .int .i64 n] w fun e w' => e = .returned (.bool true) ∧ Below w.heap.size w w' := by
  by_cases he : jobErr gs = 0
  · by_cases h0 : n < 0
    · by_cases hl : gs.length = 0
      · exact tells_loNone v gs n w hg hT he h0 hl
      · exact tells_loSome v gs n w hg hT he h0 (by omega)
    · by_cases h1 : 1000 < n
      · by_cases hl : gs.length = 0
        · exact tells_hiNone v gs n w hg hT he h1 hl
        · exact tells_hiSome v gs n w hg hT he h1 (by omega)
      · by_cases hl : gs.length = 0
        · exact tells_none v gs n w hg hT he (by omega) (by omega) hl
        · obtain ⟨N, rfl⟩ : ∃ N : Nat, n = N := ⟨n.toNat, by omega⟩
          exact tells_ok v gs N w hg hT he (by omega) (by omega)
  · exact tells_bad v gs n w hg hT he
end Go.Proofs.YtajmnnjafhanaaaDoor
