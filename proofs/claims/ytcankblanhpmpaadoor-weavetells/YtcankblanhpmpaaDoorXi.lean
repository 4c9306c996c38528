/- beside: weaves beside each other. -/
import Derived.Test.YtcankblanhpmpaaDoorXh
namespace Go.Proofs.YtcankblanhpmpaaDoor
open Go.RowKit Go.Deep

theorem next_false {R : Nat} {l : List UInt8} {k : Nat} {e : Int} {c : UInt8} {ts' : List (Int × List Int)} {wr : World} (hrw : Rw R l k e ts' wr) (hb : nextB e l k c = false) {ts2 : List (Int × List Int)} (h : Rw R l k 0 ts2 wr) : (l.drop k).head? ≠ some c := by
  obtain rfl := hrw.same h
  intro hc
  unfold nextB at hb
  rw [hc] at hb
  simp at hb
theorem next_true {e : Int} {l : List UInt8} {k : Nat} {c : UInt8} (hb : nextB e l k c = true) : e = 0 ∧ (l.drop k).head? = some c := by
  unfold nextB at hb
  simpa using hb

set_option maxRecDepth 100000 in
set_option maxHeartbeats 4000000 in
theorem beside_of (n : Nat) (ih : TellOk 21 .chain n) : TellOk 13 .weave n := by
  intro R l i ts w hl hi hn hts hr
  have hRl := hr.lt
  have hch := ih R l i ts _ hl hi hn hts (hr.alloc (.cells #[.slice none 0 0, .slice none 0 0, .int .i64 0, .int .i64 0] 46))
  have HIH : Hid (TellOk 21 .chain n) := ih
  clear hr ih
  go_enter Tryd.func13, Tryd.ntmps13
  go_wp2_with fail
  refine hch.mono ?_; clear hch
  rintro e w1 ⟨hk, k, fv, lv, zf, zl, wk, sp, rfl, hik, hkl, hcl, hc⟩
  obtain ⟨fa, fc, rfl⟩ := hcl.first.shape
  obtain ⟨la, lc, rfl⟩ := hcl.last.shape
  have HLS : Hid (LoopS .weave .weaveL R l i ts w w1.heap.size (w1.alloc (.cells #[.slice fa zf.length fc, .slice la zl.length lc, .int .i64 wk, .int .i64 sp] 46)) k (.slice fa zf.length fc) (.slice la zl.length lc) zf zl wk sp) := LoopS.start (fun _ h => Gr.weaveNo h) (fun _ _ _ _ h1 h2 => Gr.weaveOf h1 h2) hRl hk hik hkl hcl hc
  unfold clothV
  clear hk hik hkl hcl hc
  go_wp2_with fail
  obtain ⟨B3, hB3⟩ : ∃ B3, w1.heap.size = B3 := ⟨_, rfl⟩
  rw [hB3] at HLS ⊢
  go_loopg [] l.length (fun gg wr => ∃ k fv lv zf zl wk sp, Hid (LoopS .weave .weaveL R l i ts w B3 wr k fv lv zf zl wk sp) ∧ l.length - k ≤ gg)
  case atStart => exact ⟨k, _, _, _, _, _, _, HLS, by omega⟩
  case round =>
    clear HLS
    obtain ⟨k, fv, lv, zf, zl, wk, sp, HL, hgg⟩ := hrel
    obtain ⟨G, hGk⟩ : ∃ G, G = gk := ⟨_, rfl⟩
    obtain ⟨fa, fc, rfl⟩ := HL.out.cl.first.shape
    obtain ⟨la, lc, rfl⟩ := HL.out.cl.last.shape
    obtain ⟨e, ts', hee, hrw⟩ := HL.out.fault
    have hnx := nextR_any R l k e ts' 124 wr hl HL.out.kl hrw
    have hlo := HL.out.lo
    by_cases hb : nextB e l k 124 = true
    · rw [hb] at hnx
      change Calls Tryd.prog 22 #[.pointer (some ⟨R, 0, none⟩), .int .u8 124] _ _ at hnx
      obtain ⟨rfl, hhead⟩ := next_true hb
      have hik := HL.out.ik
      obtain ⟨hkL, hdr⟩ := drop_head hhead
      rcases HL.out.st with ⟨_, ts2, _, hbad⟩ | ⟨t, hgr, hct, hzf, hzl, hwk, hsp, hrw0⟩
      · exact absurd (hrw.same hbad) (by decide)
      have HRW : Hid (∀ q, Rw R l (k + 1) 0 (t.lay V2 ts) ((wr.drewN q).setCell ⟨R, 1, none⟩ (.int .i64 (k + 1 : Nat)))) := fun q => (hrw0.drewN q).place (k + 1)
      obtain ⟨_, h1, _, hf⟩ := hrw0.cells
      have hf1 := hf 1
      have hlen : (t.lay V2 ts).length = ts.length + t.count := t.lay_length V2 ts
      have HST : Hid ((∀ r, Gr (.weaveL t) (l.drop k) r → Gr .weave (l.drop i) r) ∧ zf = ofNats (t.first ts.length) ∧ zl = ofNats (t.last ts.length) ∧ wk = t.work V2 ∧ sp = t.span V2 ∧ l.drop k = 124 :: l.drop (k + 1)) := ⟨hgr, hzf, hzl, hwk, hsp, hdr⟩
      have HRT : Hid (∃ cs, wr.heap[R]? = some (.cells cs 44 (0, 0))) := hrw0.typed
      clear hgr hzf hzl hwk hsp hdr hrw hrw0 hf hb hhead
      go_wp2_with (first | (go_at_call 22; refine hnx.mono ?_; clear hnx; rintro e w' ⟨rfl, nn, rfl⟩))
      refine (HIH.out R l (k + 1) (t.lay V2 ts) _ hl (by omega) (by omega) (by omega) ?hrw).mono ?_
      case hrw => exact HRW.out nn
      rintro e w3 ⟨hk3, k2, fv2, lv2, zf2, zl2, wk2, sp2, rfl, hik2, hkl2, hcl2, hcase⟩
      have hk3' : Kp R ((wr.drewN nn).setCell ⟨R, 1, none⟩ (.int .i64 (k + 1 : Nat))) w3 := hk3
      have hRr : R < wr.heap.size := by have := HL.out.kp.size; omega
      have hB3w : ((wr.drewN nn).setCell ⟨R, 1, none⟩ (.int .i64 (k + 1 : Nat))).heap[B3]? = some (.cells #[.slice fa zf.length fc, .slice la zl.length lc, .int .i64 wk, .int .i64 sp] 46 (0, 0)) := (Below.heap_setCell _ _ _ _ (by show B3 ≠ R; omega)).trans HL.out.b3
      have hN0w : ((wr.drewN nn).setCell ⟨R, 1, none⟩ (.int .i64 (k + 1 : Nat))).heap[w.heap.size]? = some (.cells #[.slice none 0 0, .slice none 0 0, .int .i64 0, .int .i64 0] 46 (0, 0)) := (Below.heap_setCell _ _ _ _ (by show w.heap.size ≠ R; omega)).trans HL.out.n0
      have hB3_3 := hk3'.other hB3w (by omega) (by decide)
      have hN0_3 := hk3'.other hN0w (by omega) (by decide)
      obtain ⟨cR, hcR⟩ := (HRW.out nn).typed
      obtain ⟨cR0, hcR0⟩ := HRT.out
      have hcl3 : Cloths w.heap.size w3 (.slice fa zf.length fc) (.slice la zl.length lc) zf zl wk sp i k := ((HL.out.cl.kinds (w' := wr.drewN nn) (fun _ _ _ _ => rfl)).kinds (fun q cs fr hq => Below.heap_setCell _ _ _ _ (by show q ≠ R; exact ne_of_kind (w := wr.drewN nn) hcR0 hq (by decide)))).kpw hcR hk3'
      have hKP3 : Kp R w w3 := ((HL.out.kp.drewN nn).setR 1 _).trans hk3'
      have hs3 : w.heap.size ≤ ((wr.drewN nn).setCell ⟨R, 1, none⟩ (.int .i64 (k + 1 : Nat))).heap.size := by have := HL.out.kp.size; simpa using this
      have hcl2' : Cloths w.heap.size w3 fv2 lv2 zf2 zl2 wk2 sp2 (k + 1) k2 := Cloths.mono (b := ((wr.drewN nn).setCell ⟨R, 1, none⟩ (.int .i64 (k + 1 : Nat))).heap.size) hcl2 hs3
      clear hk3 hcl2 hB3w hN0w hcR hcR0 HRT hs3 h1 hf1 hk3' HL HRW
      obtain ⟨fa2, fc2, rfl⟩ := hcl2'.first.shape
      obtain ⟨la2, lc2, rfl⟩ := hcl2'.last.shape
      unfold clothV
      have hB3l : B3 < w3.heap.size := lt_of_block hB3_3
      have hB3_4 := (blk_alloc_lt w3 (.cells #[.slice fa2 zf2.length fc2, .slice la2 zl2.length lc2, .int .i64 wk2, .int .i64 sp2] 46) B3 hB3l).trans hB3_3
      have hN0_4 := (blk_alloc_lt w3 (.cells #[.slice fa2 zf2.length fc2, .slice la2 zl2.length lc2, .int .i64 wk2, .int .i64 sp2] 46) w.heap.size (lt_of_block hN0_3)).trans hN0_3
      have hB4_4 := blk_alloc_new w3 (.cells #[.slice fa2 zf2.length fc2, .slice la2 zl2.length lc2, .int .i64 wk2, .int .i64 sp2] 46)
      have hc4 := hcl3.alloc (.cells #[.slice fa2 zf2.length fc2, .slice la2 zl2.length lc2, .int .i64 wk2, .int .i64 sp2] 46)
      have hd4 := hcl2'.alloc (.cells #[.slice fa2 zf2.length fc2, .slice la2 zl2.length lc2, .int .i64 wk2, .int .i64 sp2] 46)
      have hKP4 := hKP3.alloc (.cells #[.slice fa2 zf2.length fc2, .slice la2 zl2.length lc2, .int .i64 wk2, .int .i64 sp2] 46)
      have hcase4 : (Gr .chain (l.drop (k + 1)) none ∧ ∃ ts', ts'.length ≤ k2 ∧ Rw R l k2 2 ts' (w3.alloc (.cells #[.slice fa2 zf2.length fc2, .slice la2 zl2.length lc2, .int .i64 wk2, .int .i64 sp2] 46))) ∨ (∃ t2, Gr .chain (l.drop (k + 1)) (some (t2, l.drop k2)) ∧ ts.length + t.count + t2.count ≤ k2 ∧ zf2 = ofNats (t2.first (ts.length + t.count)) ∧ zl2 = ofNats (t2.last (ts.length + t.count)) ∧ wk2 = t2.work V2 ∧ sp2 = t2.span V2 ∧ Rw R l k2 0 (t2.lay V2 (t.lay V2 ts)) (w3.alloc (.cells #[.slice fa2 zf2.length fc2, .slice la2 zl2.length lc2, .int .i64 wk2, .int .i64 sp2] 46))) := by
        rw [hlen] at hcase
        rcases hcase with ⟨hg, ts3, h3, hr3⟩ | ⟨t2, hg, g1, g2, g3, g4, g5, hr3⟩
        · exact Or.inl ⟨hg, ts3, h3, hr3.alloc _⟩
        · exact Or.inr ⟨t2, hg, g1, g2, g3, g4, g5, hr3.alloc _⟩
      clear hcase
      obtain ⟨B4, hB4⟩ : ∃ B4, w3.heap.size = B4 := ⟨_, rfl⟩
      rw [hB4] at hB4_4 hB3l
      have hw34 : (w3.alloc (.cells #[.slice fa2 zf2.length fc2, .slice la2 zl2.length lc2, .int .i64 wk2, .int .i64 sp2] 46)).heap.size = B4 + 1 := by rw [nblk_alloc, hB4]
      have HB4 : Hid (w3.heap.size = B4) := hB4
      obtain ⟨w4, hw4⟩ : ∃ w4, w4 = w3.alloc (.cells #[.slice fa2 zf2.length fc2, .slice la2 zl2.length lc2, .int .i64 wk2, .int .i64 sp2] 46) := ⟨_, rfl⟩
      rw [← hw4] at hB3_4 hN0_4 hB4_4 hc4 hd4 hKP4 hcase4 hw34
      have hlf := hc4.lf
      have hll := hc4.ll
      have hlf2 := hd4.lf
      have hll2 := hd4.ll
      obtain ⟨r0, r1, r2, r3, rf⟩ := cloth_cells hB3_4
      obtain ⟨s0, s1, s2, s3, _⟩ := cloth_cells hB4_4
      go_upto_region 6 with fail
      rw [← hw4]
      have HW4 : Hid (w4 = w3.alloc (.cells #[.slice fa2 zf2.length fc2, .slice la2 zl2.length lc2, .int .i64 wk2, .int .i64 sp2] 46)) := hw4
      clear hw4 hB4
      go_wp2_with (first | (at_builtin; refine wpList_append_rows rfl (.tmp 21) (.tmp 23) rfl w.heap.size w.heap.size (.slice none 0 0) (.slice fa zf.length fc) [] zf rfl rfl (rowI_nil _ _) hc4.first (by simp; omega) (by have := hKP4.size; omega) ?_))
      intro v5 w5 hv5 hg5 hat5
      have hb5 : Below w4.heap.size w4 w5 := (Below.refl _ _).grown hg5 (Nat.le_refl _) (fun j e => by simp [Value.ownBlock] at e)
      have hB3_5 := (hb5.block B3 (by omega)).trans hB3_4
      have hB4_5 := (hb5.block B4 (by omega)).trans hB4_4
      obtain ⟨a5, c5, rfl⟩ := hv5.shape
      clear r0 r1 r2 r3 rf s0 s1 s2 s3
      obtain ⟨r0, r1, r2, r3, rf⟩ := cloth_cells hB3_5
      obtain ⟨s0, s1, s2, s3, _⟩ := cloth_cells hB4_5
      have hd5 := hd4.first.later hb5
      go_wp2_with (first | (at_builtin; refine wpList_append_rows rfl (.tmp 25) (.tmp 27) rfl w.heap.size w.heap.size (.slice a5 zf.length c5) (.slice fa2 zf2.length fc2) zf zf2 rfl rfl hv5 hd5 (by omega) (by have := hKP4.size; have := hb5.size; omega) ?_))
      intro v6 w6 hv6 hg6 hat6
      have hb6 : Below w4.heap.size w4 w6 := hb5.grown hg6 hb5.size (fun j e => by
        rcases hat5 with h | h
        · rw [h] at e; simp [Value.ownBlock] at e
        · rw [h] at e; simp only [Option.some.injEq] at e; omega)
      have hB3_6 := (hb6.block B3 (by omega)).trans hB3_4
      have hB4_6 := (hb6.block B4 (by omega)).trans hB4_4
      obtain ⟨a6, c6, rfl⟩ := hv6.shape
      clear r0 r1 r2 r3 rf s0 s1 s2 s3
      obtain ⟨r0, r1, r2, r3, rf⟩ := cloth_cells hB3_6
      obtain ⟨s0, s1, s2, s3, _⟩ := cloth_cells hB4_6
      have hl6 := hc4.last.later hb6
      clear hd5 hv5 hat5 hg5 hg6 hat6 hB3_5 hB4_5
      have hs6 := hb6.size
      try rw [List.length_append]
      go_wp2_with (first | (at_builtin; refine wpList_append_rows rfl (.tmp 29) (.tmp 31) rfl w.heap.size w.heap.size (.slice none 0 0) (.slice la zl.length lc) [] zl rfl rfl (rowI_nil _ _) hl6 (by simp; omega) (by have := hKP4.size; omega) ?_))
      intro v7 w7 hv7 hg7 hat7
      have hb7 : Below w6.heap.size w6 w7 := (Below.refl _ _).grown hg7 (Nat.le_refl _) (fun j e => by simp [Value.ownBlock] at e)
      have hB3_7 := (hb7.block B3 (by omega)).trans hB3_6
      have hB4_7 := (hb7.block B4 (by omega)).trans hB4_6
      obtain ⟨a7, c7, rfl⟩ := hv7.shape
      clear r0 r1 r2 r3 rf s0 s1 s2 s3
      obtain ⟨r0, r1, r2, r3, rf⟩ := cloth_cells hB3_7
      obtain ⟨s0, s1, s2, s3, _⟩ := cloth_cells hB4_7
      have hd7 := (hd4.last.later hb6).later hb7
      have hs7 := hb7.size
      go_wp2_with (first | (at_builtin; refine wpList_append_rows rfl (.tmp 33) (.tmp 35) rfl w.heap.size w.heap.size (.slice a7 zl.length c7) (.slice la2 zl2.length lc2) zl zl2 rfl rfl hv7 hd7 (by omega) (by have := hKP4.size; omega) ?_))
      intro v8 w8 hv8 hg8 hat8
      have hb8 : Below w6.heap.size w6 w8 := hb7.grown hg8 hs7 (fun j e => by
        rcases hat7 with h | h
        · rw [h] at e; simp [Value.ownBlock] at e
        · rw [h] at e; simp only [Option.some.injEq] at e; omega)
      have hB3_8 := (hb8.block B3 (by omega)).trans hB3_6
      have hB4_8 := (hb8.block B4 (by omega)).trans hB4_6
      obtain ⟨a8, c8, rfl⟩ := hv8.shape
      clear r0 r1 r2 r3 rf s0 s1 s2 s3
      obtain ⟨r0, r1, r2, r3, rf⟩ := cloth_cells hB3_8
      obtain ⟨s0, s1, s2, s3, _⟩ := cloth_cells hB4_8
      have rf0 := rf 0
      have rf1 := rf 1
      have rf2 := rf 2
      have rf3 := rf 3
      have hv6' := hv6.later hb8
      have hb48 : Below w4.heap.size w4 w8 := hb6.trans (hb8.mono hs6)
      have hN0_8 := (hb48.block w.heap.size (lt_of_block hN0_4)).trans hN0_4
      have hKP8 : Kp R w w8 := hKP4.of_below hb48
      have hcb := hc4
      have hdb := hd4
      have HNEXT : Hid (∀ m, m = max sp sp2 → LoopS .weave .weaveL R l i ts w B3 (setP w8 B3 (.slice a6 (zf ++ zf2).length c6) (.slice a8 (zl ++ zl2).length c8) (.int .i64 (wk + wk2)) (.int .i64 m)) k2 (.slice a6 (zf ++ zf2).length c6) (.slice a8 (zl ++ zl2).length c8) (zf ++ zf2) (zl ++ zl2) (wk + wk2) m) := by
        intro m hm
        have q1 := hcb.lf
        have q2 := hcb.ll
        have q3 := hdb.lf
        have q4 := hdb.ll
        have q5 := hcb.w0
        have q6 := hcb.w1
        have q7 := hdb.w0
        have q8 := hdb.w1
        have q9 := hcb.s0
        have q10 := hcb.s1
        have q11 := hdb.s0
        have q12 := hdb.s1
        refine ⟨by omega, hkl2, ⟨hv6'.setC hB3_8 _ _ _ _, hv8.setC hB3_8 _ _ _ _, by simp; omega, by simp; omega, by omega, by omega, by omega, by omega⟩, setP_block46 hB3_8 _ _ _ _, (setP_other (by omega) _ _ _ _).trans hN0_8, hKP8.setP (by omega) _ _ _ _, hlo, ?_⟩
        obtain ⟨hgr, hzf, hzl, hwk, hsp, hdr⟩ := HST.out
        rcases hcase4 with ⟨hg, ts3, h3, hr3⟩ | ⟨t2, hg, g1, g2, g3, g4, g5, hr3⟩
        · exact Or.inl ⟨hgr _ (by rw [hdr]; exact Gr.weaveBad hg), ts3, h3, (hr3.of_below hb48).setC hB3_8 _ _ _ _⟩
        · refine Or.inr ⟨.par t t2, fun r h => hgr r (by rw [hdr]; exact Gr.weaveMore hg h), by simp only [Tree.count]; omega, ?_, ?_, ?_, ?_, (hr3.of_below hb48).setC hB3_8 _ _ _ _⟩
          · simp only [Tree.first]; rw [ofNats_append, hzf, g2]
          · simp only [Tree.last]; rw [ofNats_append, hzl, g3]
          · simp only [Tree.work]; rw [hwk, g4]
          · simp only [Tree.span]; rw [hm, hsp, g5]
      have w0 := hcb.w0
      have w1' := hcb.w1
      have w2' := hdb.w0
      have w3' := hdb.w1
      have hwr : -9223372036854775808 ≤ wk + wk2 ∧ wk + wk2 ≤ 9223372036854775807 := by omega
      clear hv6 hv6' hv7 hv8 hb8 hb7 hb6 hb5 hg7 hat7 hg8 hat8 hl6 hd7 hc4 hd4 hcb hdb hKP8 hKP4 hcase4 hN0_8 hN0_4 hb48 hB3_6 hB4_6 hB3_7 hB4_7 hB4_8 rf HST
      simp only [List.length_append] at *
      by_cases hgt : sp < sp2
      · have HM : Hid (sp2 = max sp sp2) := (Int.max_eq_right (by omega)).symm
        go_wp2
        go_roundg (l.length - k2)
        case measure => omega
        case rel => exact ⟨k2, _, _, _, _, _, _, HNEXT.out _ HM.out, Nat.le_refl _⟩
      · have HM : Hid (sp = max sp sp2) := (Int.max_eq_left (by omega)).symm
        go_wp2
        go_roundg (l.length - k2)
        case measure => omega
        case rel => exact ⟨k2, _, _, _, _, _, _, HNEXT.out _ HM.out, Nat.le_refl _⟩
    · have hb' : nextB e l k 124 = false := by simpa using hb
      rw [hb'] at hnx
      change Calls Tryd.prog 22 #[.pointer (some ⟨R, 0, none⟩), .int .u8 124] _ _ at hnx
      have HEND : Hid (∀ q, TellsTo .weave R l i ts w (.returned (clothV (.slice fa zf.length fc) (.slice la zl.length lc) wk sp)) (setP (wr.drewN q) w.heap.size (.slice fa zf.length fc) (.slice la zl.length lc) (.int .i64 wk) (.int .i64 sp))) := fun q => (HL.out.drewN q).done (fun t h => Gr.weaveEnd (next_false hrw hb' (ts2 := t.lay V2 ts) (by obtain ⟨tv, h1, h2⟩ := h; exact ⟨tv, h1, h2.of_kinds (fun _ _ _ _ => rfl) (fun _ _ _ _ => rfl)⟩)))
      have HN0 : Hid (∀ q, (wr.drewN q).heap[w.heap.size]? = some (.cells #[.slice none 0 0, .slice none 0 0, .int .i64 0, .int .i64 0] 46 (0, 0))) := fun q => HL.out.n0
      obtain ⟨q0, q1, q2, q3, qf⟩ := cloth_cells HL.out.n0
      have qf0 := qf 0
      have qf1 := qf 1
      have qf2 := qf 2
      have qf3 := qf 3
      obtain ⟨r0, r1, r2, r3, _⟩ := cloth_cells HL.out.b3
      clear qf HL hrw hb hb'
      go_wp2_with (first | (go_at_call 22; refine hnx.mono ?_; clear hnx; rintro e w' ⟨rfl, nn, rfl⟩))
      exact cloth_ret (b := w.heap.size) rfl (setP_block46 (HN0.out nn) _ _ _ _) rfl rfl (HEND.out nn)
end Go.Proofs.YtcankblanhpmpaaDoor
