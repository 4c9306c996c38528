/- The contract of Do. -/
import Derived.Test.YtkdlhhogbpjplaaDoorClf
namespace Go.Proofs.YtkdlhhogbpjplaaDoor
open Go.RowKit Go.Deep

/-- What is wrong with an op and its cells; what is told. -/
def doErr (o : Opn) (cs : List Cl) : Int := if opErr o = 0 then (if 30 < cs.length then 4 else firstBad cellErr cs) else opErr o
def doR (o : Opn) (cs : List Cl) : Cl := if doErr o cs = 0 then doC o cs else (0, false)
theorem doR_bad {o : Opn} {cs : List Cl} (h : doErr o cs ≠ 0) : doR o cs = (0, false) := if_neg h
theorem doR_ok {o : Opn} {cs : List Cl} (h : doErr o cs = 0) : doR o cs = doC o cs := if_pos h
theorem doErr_zero {o : Opn} {cs : List Cl} (h1 : opErr o = 0) (h2 : cs.length ≤ 30) (h3 : ∀ c, c ∈ cs → cellErr c = 0) : doErr o cs = 0 := by
  unfold doErr
  rw [if_pos h1, if_neg (by omega)]
  exact firstBad_zero.2 h3

/-- The end of Do. -/
theorem do2_end {Q : Ending → World → Prop} {a : Act} {w w1 : World} {t n x : Int} {f : Bool} {u : Value} (hK : DoK w t n w1) (ht : a.tmps[4]? = some (.pointer (some ⟨w.heap.size + 1, 0, none⟩))) (hu : a.tmps[5]? = some u) (hd : a.defers = [])
    (hq : ∀ w', Below w.heap.size w w' → Q (.returned (.tuple #[.agg #[.int .i64 x, .bool f], u])) w') : bodyPost Tryd.prog Tryd.f7 Q Exit.ret a ((w1.setCell ⟨w.heap.size + 1, 0, none⟩ (.int .i64 x)).setCell ⟨w.heap.size + 1, 1, none⟩ (.bool f)) := by
  obtain ⟨r0, r1, _⟩ := pair_cells (setP_block hK.blk.out (.int .i64 x) (.bool f))
  have hb := hq _ ((hK.below.setCell (p := ⟨w.heap.size + 1, 0, none⟩) (by show _ ≤ w.heap.size + 1; omega) (.int .i64 x)).setCell (p := ⟨w.heap.size + 1, 1, none⟩) (by show _ ≤ w.heap.size + 1; omega) (.bool f))
  refine bodyPost_ret (v := .tuple #[.agg #[.int .i64 x, .bool f], u]) ?_ hd hb
  unfold setP at r0 r1
  simp [results, go_sem, ht, hu, r0, r1]

set_option maxRecDepth 100000 in
set_option maxHeartbeats 2000000 in
theorem cDo_any (o : Opn) (v : Value) (cs : List Cl) (w : World) (hc : CellsAt w v cs) :
    Calls Tryd.prog 7 #[opV o, v] w fun e w' => e = .returned (.tuple #[clV (doR o cs), errV (doErr o cs)]) ∧ Below w.heap.size w w' := by
  obtain ⟨t, n⟩ := o
  show Calls Tryd.prog 7 #[.agg #[.int .i64 t, .int .i64 n], v] w _
  have hck := checkOp_any t n (doW w t n)
  rw [doW_size] at hck
  have HC : Hid (CellsAt w v cs) := hc
  obtain ⟨hl, a, c, rfl, hc⟩ := hc
  have HW : Hid (doW w t n = (w.alloc (.cells #[.int .i64 t, .int .i64 n] 23)).alloc (.cells #[.int .i64 0, .bool false] 32)) := rfl
  by_cases hq : opErr (t, n) = 0
  · rw [hq, errV_zero] at hck
    by_cases h30 : 30 < cs.length
    · have HE : Hid (doErr (t, n) cs = 4) := by show _ = _; unfold doErr; rw [if_pos hq, if_pos h30]
      have h30i : (30 : Int) < (cs.length : Int) := by omega
      clear hc hq h30
      go_enter Tryd.func7, Tryd.ntmps7
      go_wp2_with fail
      rw [← HW.out]
      refine hck.mono ?_
      rintro e w1 ⟨rfl, hb⟩
      have hK := DoK.of hb
      have h1 := hK.c0
      have h2 := hK.c1
      have h3 := hK.f0
      have h4 := hK.f1
      clear hck HW hb
      go_wp2
      exact do2_end hK rfl rfl rfl (fun w' hb => ⟨by rw [doR_bad (by rw [HE.out]; omega), HE.out]; rfl, hb⟩)
    · have h30i : ¬ (30 : Int) < (cs.length : Int) := by omega
      have HD : Hid (doErr (t, n) cs = firstBad cellErr cs) := by show _ = _; unfold doErr; rw [if_pos hq, if_neg h30]
      have HQ : Hid (opErr (t, n) = 0) := hq
      clear hq h30
      go_enter Tryd.func7, Tryd.ntmps7
      go_wp2_with fail
      rw [← HW.out]
      refine hck.mono ?_
      rintro e w1 ⟨rfl, hb⟩
      clear hck HW
      have HB : Hid (Below (w.heap.size + 2) (doW w t n) w1) := hb
      clear hb
      go_wp2
      go_loopw [23] (fun s23 wr => ∃ k : Nat, k ≤ cs.length ∧ s23 = .int .i64 k ∧ Hid (Below (w.heap.size + 2) (doW w t n) wr) ∧ Hid (∀ j, j < k → cellErr (cs.getD j (0, false)) = 0)) (fun s23 _ => cs.length - (intOf s23).toNat)
      case atStart => exact ⟨0, Nat.zero_le _, rfl, HB, fun j hj => by omega⟩
      case round =>
        obtain ⟨k, hk, rfl, hb, hno⟩ := hrel
        have hK0 := DoK.of hb.out
        have hbw := hK0.below
        clear HB
        by_cases hkl : k < cs.length
        · rcases hc with rfl | ⟨b, o, rfl, hbl, hc⟩
          · simp at hkl
          obtain ⟨hc1, hc2⟩ := hc k hkl
          have hc1' := (hbw.cell (p := ⟨b, o + k * 2, none⟩) hbl).trans hc1
          have hc2' := (hbw.cell (p := ⟨b, o + k * 2 + 1, none⟩) hbl).trans hc2
          clear hc hc1 hc2
          have hch := cCheck_any (numC cs k) (fltC cs k) (wr.alloc (.cells #[.int .i64 (numC cs k), .bool (fltC cs k)] 32))
          have hs2 : w.heap.size + 2 ≤ wr.heap.size := by have := hb.out.size; rw [doW_size] at this; exact this
          have hbA : Hid (Below (w.heap.size + 2) (doW w t n) (wr.alloc (.cells #[.int .i64 (numC cs k), .bool (fltC cs k)] 32))) := hb.out.alloc hs2 _
          have HZ : Hid (∀ w2, Below (wr.alloc (.cells #[.int .i64 (numC cs k), .bool (fltC cs k)] 32)).heap.size (wr.alloc (.cells #[.int .i64 (numC cs k), .bool (fltC cs k)] 32)) w2 → Below (w.heap.size + 2) (doW w t n) w2) := fun w2 h => hbA.out.trans (h.mono (by simp; omega))
          have HO : Hid (cellErr (cs.getD k (0, false)) = cellErr (numC cs k, fltC cs k)) := rfl
          clear hbA hb hK0 hbw
          generalize numC cs k = x at *
          generalize fltC cs k = f at *
          by_cases hq : cellErr (x, f) = 0
          · have HF : Hid (∀ j, j < k + 1 → cellErr (cs.getD j (0, false)) = 0) := fun j hj => by
              by_cases e : j = k
              · rw [e, HO.out]; exact hq
              · exact hno.out j (by omega)
            rw [hq, errV_zero] at hch
            clear hq hno HO
            go_wp2_with (go_at_call 16; refine hch.mono ?_; rintro e w2 ⟨rfl, hb2⟩; have HB2 : Hid (Below (w.heap.size + 2) (doW w t n) w2) := HZ.out w2 hb2; clear hb2)
            go_roundw
            case rel => exact ⟨k + 1, by omega, by go_num, HB2, HF⟩
            case measure => simp [intOf]; omega
          · have HF : Hid (∀ u, u = errV (cellErr (x, f)) → u = errV (doErr (t, n) cs) ∧ doErr (t, n) cs ≠ 0) := fun u hu => by
              have e : doErr (t, n) cs = cellErr (x, f) := by rw [HD.out, firstBad_at cellErr (0, false) cs k hkl hno.out (by rw [HO.out]; exact hq), HO.out]
              rw [hu, e]
              exact ⟨rfl, hq⟩
            rw [errV_some hq] at hch HF
            clear hq hno HO
            generalize cellErr (x, f) = q at *
            go_wp2_with (go_at_call 16; refine hch.mono ?_; rintro e w2 ⟨rfl, hb2⟩; have hK := DoK.of (HZ.out w2 hb2); have h1 := hK.c0; have h2 := hK.c1; have h3 := hK.f0; have h4 := hK.f1; clear hb2)
            exact do2_end hK rfl rfl rfl (fun w' hb => ⟨by rw [← (HF.out _ rfl).1, doR_bad (HF.out _ rfl).2]; rfl, hb⟩)
        · clear hc
          have hall : ∀ j, j < cs.length → cellErr (cs.getD j (0, false)) = 0 := fun j hj => hno.out j (by omega)
          have HE : Hid (doErr (t, n) cs = 0) := HD.out.trans (firstBad_none cellErr (0, false) cs hall)
          have hdo := do_any (t, n) _ cs wr (HC.out.later hbw) HQ.out (firstBad_zero.1 (firstBad_none cellErr (0, false) cs hall))
          obtain ⟨⟨x, f⟩, hxf⟩ : ∃ c, doC (t, n) cs = c := ⟨_, rfl⟩
          rw [hxf] at hdo
          have HX : Hid (doC (t, n) cs = (x, f)) := hxf
          unfold clV opV at hdo
          dsimp only at hdo
          have k0 := hK0.a0
          have k1 := hK0.a1
          have hs2 : w.heap.size + 2 ≤ wr.heap.size := by have := hb.out.size; rw [doW_size] at this; exact this
          have HZ : Hid (∀ w2, Below wr.heap.size wr w2 → Below (w.heap.size + 2) (doW w t n) w2) := fun w2 h => hb.out.trans (h.mono hs2)
          clear hxf hall hno hb hK0 hbw
          go_wp2_with (go_at_call 19; refine hdo.mono ?_; rintro e w2 ⟨rfl, hb2⟩; have hK := DoK.of (HZ.out w2 hb2); have h1 := hK.c0; have h2 := hK.c1; have h3 := hK.f0; have h4 := hK.f1; clear hb2)
          exact do2_end hK rfl rfl rfl (fun w' hb => ⟨by rw [doR_ok HE.out, HE.out, HX.out]; rfl, hb⟩)
  · have HE : Hid (∀ u, u = errV (opErr (t, n)) → u = errV (doErr (t, n) cs) ∧ doErr (t, n) cs ≠ 0) := fun u hu => by
      have e : doErr (t, n) cs = opErr (t, n) := by unfold doErr; rw [if_neg hq]
      rw [hu, e]
      exact ⟨rfl, hq⟩
    rw [errV_some hq] at hck HE
    clear hc hq
    generalize opErr (t, n) = q at *
    go_enter Tryd.func7, Tryd.ntmps7
    go_wp2_with fail
    rw [← HW.out]
    refine hck.mono ?_
    rintro e w1 ⟨rfl, hb⟩
    have hK := DoK.of hb
    have h1 := hK.c0
    have h2 := hK.c1
    have h3 := hK.f0
    have h4 := hK.f1
    clear hck HW hb
    go_wp2
    exact do2_end hK rfl rfl rfl (fun w' hb => ⟨by rw [← (HE.out _ rfl).1, doR_bad (HE.out _ rfl).2]; rfl, hb⟩)
end Go.Proofs.YtkdlhhogbpjplaaDoor
