/- The walk of the document's Serve; the sameness of ints. -/
import Derived.Test.YtajmnnjafhanaaaDoorYl
namespace Go.Proofs.YtajmnnjafhanaaaDoor
open Go.RowKit Go.Deep

set_option maxRecDepth 100000 in
set_option maxHeartbeats 4000000 in
theorem dServe_any (v : Value) (gs : List Jb) (most : Nat) (w : World) (hg : JobsAt w v gs) (he : jobErr gs = 0) (hm : most ≤ 1000) :
    Calls Tryd.prog 7 #[v, .int .i64 (most : Int)] w fun e w' => ∃ ov av, e = .returned (.tuple #[ov, av]) ∧ DM w.heap.size gs.length (wgtJ gs) w w' av ov (endY gs most) := by
  have h6 := (jobErr_right he).1
  have HW : Hid (∀ k, k < gs.length → wgtJ gs k = (wtN gs k : Int) ∧ 1 ≤ wtN gs k ∧ wtN gs k ≤ 20) := fun k hk => wtN_eq he hk
  have HG : Hid (JobsAt w v gs) := hg
  have HE : Hid (jobErr gs = 0) := he
  have HEND : Hid (roundsY most gs.length (wtN gs) (wsN gs) (most + 1) = endY gs most) := roundsY_same (roundsY_most (fun i hi => (wtN_eq he hi).2.1)) (roundsY_ends (fun i hi => (wtN_eq he hi).2.1))
  have HLE : Hid (∀ r, (roundsY most gs.length (wtN gs) (wsN gs) r).out.length ≤ most) := fun r => (OkY.rounds most gs.length (wtN gs) (wsN gs) r).le
  have HLT : Hid (∀ r k, (roundsY most gs.length (wtN gs) (wsN gs) r).left k ≤ 10000) := fun r k => Nat.le_trans (roundsY_left _ _ _ _ _ _) (wsN_le he k)
  obtain ⟨_, a, c, rfl, hc⟩ := hg
  have HC : Hid (∀ k, k < gs.length → ∃ b o, a = some ⟨b, o, none⟩ ∧ b < w.heap.size ∧ w.cell? ⟨b, o + k * 2, none⟩ = some (.int .i64 (wtN gs k : Int))) := fun k hk => by
    rcases hc with h0 | ⟨b, o, h1, h2, h3⟩
    · rw [h0] at hk; simp at hk
    · exact ⟨b, o, h1, h2, by rw [← (wtN_eq he hk).1]; exact (h3 k hk).1⟩
  have HDM : Hid (∀ w1 av, RowJ w.heap.size w1 av gs → Below w.heap.size w w1 → DM w.heap.size gs.length (wgtJ gs) w w1 av (.slice none 0 0) (roundsY most gs.length (wtN gs) (wsN gs) 0)) := fun w1 av hr hb => by
    refine ⟨?_, RowI.nil _ _, hb, hb.size⟩
    have e : jobsL gs.length (wgtJ gs) (fun k => ((roundsY most gs.length (wtN gs) (wsN gs) 0).left k : Int)) = gs := by
      refine List.ext_getElem? fun j => ?_
      unfold jobsL
      by_cases hj : j < gs.length
      · rw [List.getElem?_map, List.getElem?_range hj]
        show some (wgtJ gs j, (wsN gs j : Int)) = _
        rw [← (wsN_eq he hj).1]
        unfold wgtJ wtsJ
        rw [List.getD_eq_getElem?_getD, List.getElem?_eq_getElem hj]
        rfl
      · rw [List.getElem?_eq_none (by simp; omega), List.getElem?_eq_none (by omega)]
    rw [e]
    exact hr
  clear he hc HE
  generalize wsN gs = ws at *
  generalize wtN gs = wt at *
  generalize wgtJ gs = W at *
  generalize endY gs most = es at *
  generalize hnl : gs.length = n at *
  have HNL : Hid (gs.length = n) := hnl
  have h6' : Hid (gs.length ≤ 6) := by rw [hnl]; exact h6
  clear hnl
  go_enter Tryd.func7, Tryd.ntmps7
  go_wp2_with (first | (at_builtin; go_loud (refine wpList_append_jobs rfl (.tmp 11) (.tmp 12) rfl gs (.slice a n c) rfl rfl HG.out h6'.out ?_; intro av w1 hr1 hb1; have HR1 := HDM.out w1 av hr1 hb1; obtain ⟨aa, ac, hav⟩ := hr1.any; rw [HNL.out] at hav; subst hav; have HD : Hid (DM w.heap.size n W w w1 (.slice aa n ac) (.slice none 0 0) (roundsY most n wt ws 0)) := HR1; clear hr1 hb1 HR1)))
  clear HG HDM
  go_loopw [7, 8] (fun s7 s8 wr => ∃ r : Nat, r ≤ most + 1 ∧ s8 = .int .i64 r ∧ Hid (DM w.heap.size n W w wr (.slice aa n ac) s7 (roundsY most n wt ws r))) (fun _ s8 _ => most + 1 - (intOf s8).toNat)
  case atStart => exact ⟨0, Nat.zero_le _, rfl, HD⟩
  case round =>
    clear HD
    obtain ⟨r, hr, rfl, hD⟩ := hrel
    obtain ⟨oa, oc, rfl⟩ := hD.out.out.shape
    by_cases hrm : r ≤ most
    · have HS : Hid (roundsY most n wt ws (r + 1) = roundY most wt (roundsY most n wt ws r) n) := rfl
      have HL1 := HLE.out r
      have HL2 : Hid (∀ k, (roundsY most n wt ws r).left k ≤ 10000) := HLT.out r
      have HL3 : Hid ((roundsY most n wt ws r).out.length ≤ most) := HL1
      clear HL1
      generalize roundsY most n wt ws r = S at *
      generalize hzz : (intsOf S.out).length = zz at *
      clear hzz
      go_wp2
      go_loopw [7, 9] (fun s7 s9 wr => ∃ i : Nat, i ≤ n ∧ s9 = .int .i64 i ∧ Hid (DM w.heap.size n W w wr (.slice aa n ac) s7 (roundY most wt S i))) (fun _ s9 _ => n - (intOf s9).toNat)
      case atStart => exact ⟨0, Nat.zero_le _, rfl, hD⟩
      case round =>
        clear hD
        obtain ⟨i, hi, rfl, hD⟩ := hrel
        obtain ⟨pa, pc, rfl⟩ := hD.out.out.shape
        by_cases hin : i < n
        · have HT : Hid (roundY most wt S (i + 1) = turnY most (wt i) (roundY most wt S i) i) := rfl
          have HT1 : Hid ((roundY most wt S i).out.length ≤ most) := roundY_len HL3.out i
          have HT2 : Hid (∀ k, (roundY most wt S i).left k ≤ 10000) := fun k => Nat.le_trans ((roundY_mono most wt S i).1 k) (HL2.out k)
          obtain ⟨hw1, hw2, hw3⟩ := HW.out i hin
          obtain ⟨b, o, rfl, hbl, hcb⟩ := HC.out i hin
          obtain ⟨g, gc, hgv, _⟩ := hD.out.cells hin
          simp only [Value.slice.injEq, true_and] at hgv
          obtain ⟨rfl, rfl⟩ := hgv
          have HWI : Hid (W i = (wt i : Int)) := hw1
          have HD0 : Hid (DM w.heap.size n W w wr (.slice (some ⟨g, 0, none⟩) n ac) (.slice pa (intsOf (roundY most wt S i).out).length pc) (turnY most 0 (roundY most wt S i) i)) := by rw [turnY_zero]; exact hD.out
          clear hD hw1
          generalize roundY most wt S i = T at *
          generalize hzz : (intsOf T.out).length = z2 at *
          clear hzz
          generalize wt i = x at *
          go_wp2
          go_loopw [7, 10] (fun s7 s10 wr => ∃ k : Nat, k ≤ x ∧ s10 = .int .i64 k ∧ Hid (DM w.heap.size n W w wr (.slice (some ⟨g, 0, none⟩) n ac) s7 (turnY most k T i))) (fun _ s10 _ => x - (intOf s10).toNat)
          case atStart => exact ⟨0, Nat.zero_le _, rfl, HD0⟩
          case round =>
            clear HD0
            obtain ⟨k, hk, rfl, hD⟩ := hrel
            obtain ⟨qa, qc, rfl⟩ := hD.out.out.shape
            obtain ⟨g2, c2, hgv, hc1, hc2, hfz⟩ := hD.out.cells hin
            simp only [Value.slice.injEq, Option.some.injEq, Addr.mk.injEq, true_and, and_true] at hgv
            obtain ⟨rfl, rfl⟩ := hgv
            rw [HWI.out] at hc1
            have hcl := (hD.out.below.cell (p := ⟨b, o + i * 2, none⟩) hbl).trans hcb
            by_cases hkx : k < x
            · have HZ : Hid ((intsOf (turnY most k T i).out).length = (turnY most k T i).out.length) := intsOf_length _
              have hlf : (turnY most k T i).left i ≤ 10000 := Nat.le_trans (turnY_mono most k T i i).1 (HT2.out i)
              have hlm : (turnY most k T i).out.length ≤ most := by
                have h1 := HT1.out
                have h2 := (takeY_le most k T i).2.2
                rw [turnY_len]
                omega
              by_cases hco : 0 < (turnY most k T i).left i ∧ (turnY most k T i).out.length < most
              · have HN : Hid (turnY most (k + 1) T i = bitY (turnY most k T i) i) := turnY_take hco.1 hco.2
                obtain ⟨hq1, hq2⟩ := hco
                have hz : (intsOf (turnY most k T i).out).length < most := by rw [HZ.out]; exact hq2
                have HDA : Hid (DM w.heap.size n W w (wr.alloc (.cells #[.int .i64 (i : Int)] 3)) (.slice (some ⟨g, 0, none⟩) n ac) (.slice qa (intsOf (turnY most k T i).out).length qc) (turnY most k T i)) := hD.out.later ((Below.refl _ _).alloc (Nat.le_refl _) _)
                have HO : Hid (Rds (fun _ => True) (wr.alloc (.cells #[.int .i64 (i : Int)] 3)) (.slice (some ⟨wr.heap.size, 0, none⟩) 1 1) [(i : Int)]) := one_rds wr i
                have hBs := hD.out.ge
                clear hD hfz hlm hq2
                generalize turnY most k T i = U at *
                obtain ⟨zl, hzl⟩ : ∃ zl, zl = (intsOf U.out).length := ⟨_, rfl⟩
                rw [← hzl] at hz HDA ⊢
                have HZL : Hid (zl = (intsOf U.out).length) := hzl
                obtain ⟨f, hf⟩ : ∃ f, f = U.left i := ⟨_, rfl⟩
                rw [← hf] at hc2 hq1 hlf
                have HF : Hid (f = U.left i) := hf
                clear hzl hf
                go_wp2_with (first | (at_builtin; go_loud (refine wpList_append_rows rfl (.tmp 55) (.tmp 57) rfl w.heap.size (fun _ => True) (.slice qa zl qc) (.slice (some ⟨wr.heap.size, 0, none⟩) 1 1) (intsOf U.out) [(i : Int)] rfl rfl HDA.out.out HO.out (by rw [← HZL.out]; simp; omega) (by simp; omega) ?_; intro v2 w2 hown hgr hat; have HD2 : Hid (DM w.heap.size n W w w2 (.slice (some ⟨g, 0, none⟩) n ac) v2 ⟨U.out ++ [i], U.left⟩) := HDA.out.more hown hgr; obtain ⟨hcw, hfw⟩ := HD2.out.at hin; dsimp only at hcw; rw [← HF.out] at hcw; clear hown hgr hat HDA HO)))
                have HD3 : Hid (DM w.heap.size n W w (w2.setCell ⟨g, i * 2 + 1, none⟩ (.int .i64 ((f : Int) - 1))) (.slice (some ⟨g, 0, none⟩) n ac) v2 (bitY U i)) := by
                  have h := HD2.out.put hin (f - 1)
                  rw [show ((f - 1 : Nat) : Int) = (f : Int) - 1 by omega] at h
                  unfold bitY
                  rw [← HF.out]
                  exact h
                clear HD2
                go_wp2
                go_roundw
                case rel => exact ⟨k + 1, by omega, by go_num, by rw [HN.out]; exact HD3⟩
                case measure => simp [intOf]; omega
              · have HN : Hid (turnY most (k + 1) T i = turnY most k T i) := turnY_stay hco HT1.out
                have hz : ¬ (0 < (turnY most k T i).left i ∧ (intsOf (turnY most k T i).out).length < most) := by rw [HZ.out]; exact hco
                have HD2 : Hid (DM w.heap.size n W w wr (.slice (some ⟨g, 0, none⟩) n ac) (.slice qa (intsOf (turnY most k T i).out).length qc) (turnY most (k + 1) T i)) := by rw [HN.out]; exact hD.out
                clear hD hco hlm HN HZ
                generalize hff : (turnY most k T i).left i = f at *
                clear hff
                generalize hzz : (intsOf (turnY most k T i).out).length = zl at *
                clear hzz
                by_cases hf0 : 0 < f
                · have hzm : ¬ zl < most := fun h => hz ⟨hf0, h⟩
                  clear hz
                  go_wp2
                  go_roundw
                  case rel => exact ⟨k + 1, by omega, by go_num, HD2⟩
                  case measure => simp [intOf]; omega
                · clear hz
                  go_wp2
                  go_roundw
                  case rel => exact ⟨k + 1, by omega, by go_num, HD2⟩
                  case measure => simp [intOf]; omega
            · have hke : k = x := by omega
              subst hke
              have HD2 : Hid (DM w.heap.size n W w wr (.slice (some ⟨g, 0, none⟩) n ac) (.slice qa (intsOf (turnY most k T i).out).length qc) (roundY most wt S (i + 1))) := by rw [HT.out]; exact hD.out
              clear hD
              generalize hzz : (intsOf (turnY most k T i).out).length = zl at *
              clear hzz
              go_wp2
              go_roundw
              case rel => exact ⟨i + 1, by omega, by go_num, HD2⟩
              case measure => simp [intOf]; omega
        · have hie : i = n := by omega
          subst hie
          have HD2 : Hid (DM w.heap.size i W w wr (.slice aa i ac) (.slice pa (intsOf (roundY most wt S i).out).length pc) (roundsY most i wt ws (r + 1))) := by rw [HS.out]; exact hD.out
          clear hD
          generalize hzz : (intsOf (roundY most wt S i).out).length = zl at *
          clear hzz
          go_wp2
          go_roundw
          case rel => exact ⟨r + 1, by omega, by go_num, HD2⟩
          case measure => simp [intOf]; omega
    · have hre : r = most + 1 := by omega
      subst hre
      have HD2 : Hid (DM w.heap.size n W w wr (.slice aa n ac) (.slice oa (intsOf (roundsY most n wt ws (most + 1)).out).length oc) es) := by rw [← HEND.out]; exact hD.out
      clear hD
      generalize hzz : (intsOf (roundsY most n wt ws (most + 1)).out).length = zl at *
      clear hzz
      go_wp2
      go_ret2
      exact ⟨_, _, rfl, HD2.out⟩
set_option maxRecDepth 100000 in
set_option maxHeartbeats 1000000 in
theorem sameInts_any (v u : Value) (zs : List Int) (w : World) (hv : IntsAt w v zs) (hu : IntsAt w u zs) :
    Calls Tryd.prog 9 #[v, u] w fun e w' => e = .returned (.bool true) ∧ Below w.heap.size w w' := by
  obtain ⟨hl, a, c, rfl, hv⟩ := hv
  obtain ⟨-, a2, c2, rfl, hu⟩ := hu
  have HV : Hid (∀ k, k < zs.length → ∃ b o, a = some ⟨b, o, none⟩ ∧ w.cell? ⟨b, o + k, none⟩ = some (.int .i64 (zs.getD k 0))) := fun k hk => by
    rcases hv with h0 | ⟨b, o, h1, -, h2⟩
    · rw [h0] at hk; simp at hk
    · exact ⟨b, o, h1, h2 k hk⟩
  have HU : Hid (∀ k, k < zs.length → ∃ b o, a2 = some ⟨b, o, none⟩ ∧ w.cell? ⟨b, o + k, none⟩ = some (.int .i64 (zs.getD k 0))) := fun k hk => by
    rcases hu with h0 | ⟨b, o, h1, -, h2⟩
    · rw [h0] at hk; simp at hk
    · exact ⟨b, o, h1, h2 k hk⟩
  clear hv hu
  go_enter Tryd.func9, Tryd.ntmps9
  go_wp2
  go_loopw [5] (fun s5 wr => ∃ k q : Nat, k ≤ zs.length ∧ s5 = .int .i64 k ∧ wr = w.drewN q) (fun s5 _ => zs.length - (intOf s5).toNat)
  case atStart => exact ⟨0, 0, Nat.zero_le _, rfl, rfl⟩
  case round =>
    obtain ⟨k, q, hk, rfl, rfl⟩ := hrel
    by_cases hkl : k < zs.length
    · obtain ⟨b, o, rfl, h1⟩ := HV.out k hkl
      obtain ⟨b2, o2, rfl, h3⟩ := HU.out k hkl
      generalize zs.getD k 0 = p at *
      go_wp2
      go_quiet (fail)
      go_wp2
      go_roundw
      case rel => exact ⟨k + 1, _, by omega, by go_num, rfl⟩
      case measure => simp [intOf]; omega
    · go_wp2
      go_ret
      exact ⟨rfl, drawn_below w q⟩
end Go.Proofs.YtajmnnjafhanaaaDoor
