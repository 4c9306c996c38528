/- one, at a text that begins with a sign that opens. -/
import Derived.Test.YtcankblanhpmpaaDoorXc
namespace Go.Proofs.YtcankblanhpmpaaDoor
open Go.RowKit Go.Deep

theorem cloth_ret {fn : Func} {Q : Ending → World → Prop} {a : Act} {w : World} {b : Nat} {a1 a2 a3 a4 : Value} (hr : fn.results = #[ResultVar.cell 2 46]) (h : w.heap[b]? = some (.cells #[a1, a2, a3, a4] 46 (0, 0))) (ht : a.tmps[2]? = some (.pointer (some ⟨b, 0, none⟩))) (hd : a.defers = []) (hq : Q (.returned (.agg #[a1, a2, a3, a4])) w) :
    bodyPost Tryd.prog fn Q Exit.ret a w := by
  have q0 : w.cell? ⟨b, 0, none⟩ = some a1 := by simp [World.cell?, h]
  have q1 : w.cell? ⟨b, 1, none⟩ = some a2 := by simp [World.cell?, h]
  have q2 : w.cell? ⟨b, 2, none⟩ = some a3 := by simp [World.cell?, h]
  have q3 : w.cell? ⟨b, 3, none⟩ = some a4 := by simp [World.cell?, h]
  refine bodyPost_ret (v := .agg #[a1, a2, a3, a4]) ?_ hd hq
  simp [results, hr, go_sem, ht, q0, q1, q2, q3]

theorem setP_other {w : World} {b k : Nat} (hk : k ≠ b) (a1 a2 a3 a4 : Value) : (setP w b a1 a2 a3 a4).heap[k]? = w.heap[k]? := by
  unfold setP
  rw [Below.heap_setCell _ _ _ _ (by show k ≠ b; exact hk), Below.heap_setCell _ _ _ _ (by show k ≠ b; exact hk), Below.heap_setCell _ _ _ _ (by show k ≠ b; exact hk), Below.heap_setCell _ _ _ _ (by show k ≠ b; exact hk)]
theorem setP_block46 {w : World} {b : Nat} {o1 o2 o3 o4 : Value} (h : w.heap[b]? = some (.cells #[o1, o2, o3, o4] 46 (0, 0))) (a1 a2 a3 a4 : Value) : (setP w b a1 a2 a3 a4).heap[b]? = some (.cells #[a1, a2, a3, a4] 46 (0, 0)) := by
  unfold setP
  have h1 := heap_setCell_same w b 0 _ 46 a1 h
  have h2 := heap_setCell_same _ b 1 _ 46 a2 h1
  have h3 := heap_setCell_same _ b 2 _ 46 a3 h2
  have h4 := heap_setCell_same _ b 3 _ 46 a4 h3
  simpa using h4
theorem ne_of_kind {w : World} {b k : Nat} {c0 cs : Array Value} {f0 fr : Nat × Nat} {t u : TypeId} (hb : w.heap[b]? = some (.cells c0 u f0)) (hk : w.heap[k]? = some (.cells cs t fr)) (ht : t ≠ u) : k ≠ b := fun e => by
  rw [e, hb] at hk
  simp only [Option.some.injEq, Obj.cells.injEq] at hk
  exact ht hk.2.1.symm
theorem Rw.setC {R i : Nat} {l : List UInt8} {e : Int} {ts : List (Int × List Int)} {w : World} {b : Nat} {c0 : Array Value} {f0 : Nat × Nat} (h : Rw R l i e ts w) (hb : w.heap[b]? = some (.cells c0 46 f0)) (a1 a2 a3 a4 : Value) : Rw R l i e ts (setP w b a1 a2 a3 a4) := by
  obtain ⟨tv, h1, h2⟩ := h
  exact ⟨tv, (setP_other (ne_of_kind hb h1 (by decide)) _ _ _ _).trans h1, h2.of_kinds (fun k cs fr hk => setP_other (ne_of_kind hb hk (by decide)) _ _ _ _) (fun k cs fr hk => setP_other (ne_of_kind hb hk (by decide)) _ _ _ _)⟩
theorem RowI.setC {b' : Nat} {w : World} {v : Value} {zs : List Int} {b : Nat} {c0 : Array Value} {f0 : Nat × Nat} (h : RowI b' w v zs) (hb : w.heap[b]? = some (.cells c0 46 f0)) (a1 a2 a3 a4 : Value) : RowI b' (Go.Proofs.YtcankblanhpmpaaDoor.setP w b a1 a2 a3 a4) v zs := h.of_kinds (fun k cs fr hk => setP_other (ne_of_kind hb hk (by decide)) _ _ _ _)

set_option maxRecDepth 100000 in
set_option maxHeartbeats 4000000 in
theorem oneOpen_any (n : Nat) (hB : TellOk 13 .weave n) (R : Nat) (l : List UInt8) (i : Nat) (ts : List (Int × List Int)) (w : World) (hl : l.length ≤ 200) (hi : i < l.length) (hn : l.length - i ≤ n + 1) (hts : ts.length ≤ i) (h40 : l.drop i = 40 :: l.drop (i + 1)) (hr : Rw R l i 0 ts w) :
    Calls Tryd.prog 32 #[.pointer (some ⟨R, 0, none⟩)] w (TellsTo .link R l i ts w) := by
  have HR : Hid (Rw R l i 0 ts w) := hr
  have HB : Hid (TellOk 13 .weave n) := hB
  have hRl := hr.lt
  have hr0 := hr.alloc (.cells #[.slice none 0 0, .slice none 0 0, .int .i64 0, .int .i64 0] 46)
  obtain ⟨h0, h1, h3, hf⟩ := hr0.cells
  have hf1 := hf 1
  have hnx := nextR_any R l i 0 ts 40 _ hl (by omega) hr0
  have hnb : nextB 0 l i 40 = true := by unfold nextB; rw [h40]; rfl
  rw [hnb] at hnx
  change Calls Tryd.prog 22 #[.pointer (some ⟨R, 0, none⟩), .int .u8 40] _ _ at hnx
  have H40 : Hid (l.drop i = 40 :: l.drop (i + 1)) := h40
  clear hr hr0 hf hB hnb h40 h0 h3
  go_enter Tryd.func32, Tryd.ntmps32
  go_wp2_with (first | (go_at_call 22; refine hnx.mono ?_; clear hnx; rintro e w' ⟨rfl, nn, rfl⟩))
  refine (HB.out R l (i + 1) ts _ hl (by omega) (by omega) (by omega) ?hrw).mono ?_
  case hrw => exact ((HR.out.alloc _).drewN nn).place (i + 1)
  have hkw : Kp R w (((w.alloc (.cells #[.slice none 0 0, .slice none 0 0, .int .i64 0, .int .i64 0] 46)).drewN nn).setCell ⟨R, 1, none⟩ (.int .i64 (i + 1 : Nat))) := (((Kp.refl R w).alloc _).drewN nn).setR 1 _
  have hN1 : (((w.alloc (.cells #[.slice none 0 0, .slice none 0 0, .int .i64 0, .int .i64 0] 46)).drewN nn).setCell ⟨R, 1, none⟩ (.int .i64 (i + 1 : Nat))).heap[w.heap.size]? = some (.cells #[.slice none 0 0, .slice none 0 0, .int .i64 0, .int .i64 0] 46 (0, 0)) :=
    (Below.heap_setCell _ _ _ _ (by show w.heap.size ≠ R; omega)).trans (blk_alloc_new w _)
  rintro e w2 ⟨hk, k, fv, lv, zf, zl, wk, sp, rfl, hik, hkl, hcl, hcase⟩
  have hk' : Kp R (((w.alloc (.cells #[.slice none 0 0, .slice none 0 0, .int .i64 0, .int .i64 0] 46)).drewN nn).setCell ⟨R, 1, none⟩ (.int .i64 (i + 1 : Nat))) w2 := hk
  have HK2 : Hid (Kp R w w2) := hkw.trans hk'
  have hN2 := hk'.other hN1 (by omega) (by decide)
  have hsz2 : w.heap.size < w2.heap.size := lt_of_block hN2
  clear hk hk' hkw hN1 h1 hf1
  have HCL : Hid (Cloths w.heap.size w2 fv lv zf zl wk sp (i + 1) k) := by
    have hm : w.heap.size ≤ (((w.alloc (.cells #[.slice none 0 0, .slice none 0 0, .int .i64 0, .int .i64 0] 46)).drewN nn).setCell ⟨R, 1, none⟩ (.int .i64 (i + 1 : Nat))).heap.size := by simp
    exact ⟨hcl.first.mono hm, hcl.last.mono hm, hcl.lf, hcl.ll, hcl.w0, hcl.w1, hcl.s0, hcl.s1⟩
  obtain ⟨fa, fc, rfl⟩ : ∃ a c, fv = .slice a zf.length c := by
    rcases hcl.first.2 with ⟨h1, h2⟩ | ⟨g, cap, cur, hv, _⟩
    · exact ⟨none, 0, by rw [h1, h2]⟩
    · exact ⟨_, _, hv⟩
  obtain ⟨la, lc, rfl⟩ : ∃ a c, lv = .slice a zl.length c := by
    rcases hcl.last.2 with ⟨h1, h2⟩ | ⟨g, cap, cur, hv, _⟩
    · exact ⟨none, 0, by rw [h1, h2]⟩
    · exact ⟨_, _, hv⟩
  clear hcl
  have hN3 := (blk_alloc_lt w2 (.cells #[.slice fa zf.length fc, .slice la zl.length lc, .int .i64 wk, .int .i64 sp] 46) w.heap.size hsz2).trans hN2
  have n0 : (w2.alloc (.cells #[.slice fa zf.length fc, .slice la zl.length lc, .int .i64 wk, .int .i64 sp] 46)).cell? ⟨w.heap.size, 0, none⟩ = some (.slice none 0 0) := by simp only [World.cell?, hN3]; rfl
  have n1 : (w2.alloc (.cells #[.slice fa zf.length fc, .slice la zl.length lc, .int .i64 wk, .int .i64 sp] 46)).cell? ⟨w.heap.size, 1, none⟩ = some (.slice none 0 0) := by simp only [World.cell?, hN3]; rfl
  have n2 : (w2.alloc (.cells #[.slice fa zf.length fc, .slice la zl.length lc, .int .i64 wk, .int .i64 sp] 46)).cell? ⟨w.heap.size, 2, none⟩ = some (.int .i64 0) := by simp only [World.cell?, hN3]; rfl
  have n3 : (w2.alloc (.cells #[.slice fa zf.length fc, .slice la zl.length lc, .int .i64 wk, .int .i64 sp] 46)).cell? ⟨w.heap.size, 3, none⟩ = some (.int .i64 0) := by simp only [World.cell?, hN3]; rfl
  have nf : ∀ j, (w2.alloc (.cells #[.slice fa zf.length fc, .slice la zl.length lc, .int .i64 wk, .int .i64 sp] 46)).frozen? ⟨w.heap.size, j, none⟩ = false := fun j => by simp [World.frozen?, hN3]
  have nf0 := nf 0
  have nf1 := nf 1
  have nf2 := nf 2
  have nf3 := nf 3
  have hRne : ¬ R = w.heap.size := by omega
  unfold clothV
  rcases hcase with ⟨hg, ts', hts', hrw⟩ | ⟨t, hg, hc, hzf, hzl, hwk, hsp, hrw⟩
  · have hr3 := hrw.alloc (.cells #[.slice fa zf.length fc, .slice la zl.length lc, .int .i64 wk, .int .i64 sp] 46)
    have hnx := nextR_any R l k 2 ts' 41 _ hl hkl hr3
    have hnb : nextB 2 l k 41 = false := by unfold nextB; rfl
    rw [hnb] at hnx
    change Calls Tryd.prog 22 #[.pointer (some ⟨R, 0, none⟩), .int .u8 41] _ _ at hnx
    obtain ⟨_, _, h33, hf⟩ := hr3.cells
    have hf3 := hf 3
    have HR3 : Hid (Rw R l k 2 ts' (w2.alloc (.cells #[.slice fa zf.length fc, .slice la zl.length lc, .int .i64 wk, .int .i64 sp] 46))) := hr3
    have HG : Hid (Gr .weave (l.drop (i + 1)) none) := hg
    clear hf nf hr3 hrw hnb hg
    go_wp2_with (first | (go_at_call 22; refine hnx.mono ?_; clear hnx; rintro e w' ⟨rfl, mm, rfl⟩))
    have hN4 : ((((w2.alloc (.cells #[.slice fa zf.length fc, .slice la zl.length lc, .int .i64 wk, .int .i64 sp] 46)).drewN mm).setCell ⟨R, 3, none⟩ (.int .i64 2))).heap[w.heap.size]? = some (.cells #[.slice none 0 0, .slice none 0 0, .int .i64 0, .int .i64 0] 46 (0, 0)) := (Below.heap_setCell _ _ _ _ (by show w.heap.size ≠ R; omega)).trans hN3
    have hq : TellsTo .link R l i ts w (.returned (clothV (.slice none 0 0) (.slice none 0 0) 0 0)) (setP (((w2.alloc (.cells #[.slice fa zf.length fc, .slice la zl.length lc, .int .i64 wk, .int .i64 sp] 46)).drewN mm).setCell ⟨R, 3, none⟩ (.int .i64 2)) w.heap.size (.slice none 0 0) (.slice none 0 0) (.int .i64 0) (.int .i64 0)) :=
      tells_fault (k := k) ((((HK2.out.alloc _).drewN mm).setR 3 _).setP (Nat.le_refl _) _ _ _ _) (by omega) hkl (by rw [H40.out]; exact Gr.opened HG.out) hts' (((HR3.out.drewN mm).fault 2).setC hN4 _ _ _ _)
    exact cloth_ret (b := w.heap.size) rfl (setP_block46 hN4 _ _ _ _) rfl rfl hq
  · have hr3 := hrw.alloc (.cells #[.slice fa zf.length fc, .slice la zl.length lc, .int .i64 wk, .int .i64 sp] 46)
    have HR3 : Hid (Rw R l k 0 (t.lay V2 ts) (w2.alloc (.cells #[.slice fa zf.length fc, .slice la zl.length lc, .int .i64 wk, .int .i64 sp] 46))) := hr3
    have hnx := nextR_any R l k 0 (t.lay V2 ts) 41 _ hl hkl hr3
    obtain ⟨_, h31, h33, hf⟩ := hr3.cells
    have hf3 := hf 3
    have hf1 := hf 1
    have HG : Hid (Gr .weave (l.drop (i + 1)) (some (t, l.drop k))) := hg
    have HZ : Hid (zf = ofNats (t.first ts.length) ∧ zl = ofNats (t.last ts.length) ∧ wk = t.work V2 ∧ sp = t.span V2) := ⟨hzf, hzl, hwk, hsp⟩
    have HLL : Hid ((t.lay V2 ts).length ≤ k) := by show _ ≤ _; rw [Tree.lay_length]; exact hc
    clear hf nf hr3 hrw hg hzf hzl hwk hsp
    by_cases h41 : (l.drop k).head? = some 41
    · have hnb : nextB 0 l k 41 = true := by unfold nextB; rw [h41]; rfl
      rw [hnb] at hnx
      change Calls Tryd.prog 22 #[.pointer (some ⟨R, 0, none⟩), .int .u8 41] _ _ at hnx
      have hkk : k < l.length := by
        rcases Nat.lt_or_ge k l.length with h | h
        · exact h
        · rw [head_end h] at h41; cases h41
      have H41 : Hid (l.drop k = 41 :: l.drop (k + 1)) := by
        show _ = _
        rw [List.drop_eq_getElem_cons hkk]
        rw [head_drop hkk] at h41
        rw [Option.some.inj h41]
      clear hnb h41
      have hM3 := blk_alloc_new w2 (.cells #[.slice fa zf.length fc, .slice la zl.length lc, .int .i64 wk, .int .i64 sp] 46)
      have m0 : (w2.alloc (.cells #[.slice fa zf.length fc, .slice la zl.length lc, .int .i64 wk, .int .i64 sp] 46)).cell? ⟨w2.heap.size, 0, none⟩ = some (.slice fa zf.length fc) := by simp only [World.cell?, hM3]; rfl
      have m1 : (w2.alloc (.cells #[.slice fa zf.length fc, .slice la zl.length lc, .int .i64 wk, .int .i64 sp] 46)).cell? ⟨w2.heap.size, 1, none⟩ = some (.slice la zl.length lc) := by simp only [World.cell?, hM3]; rfl
      have m2 : (w2.alloc (.cells #[.slice fa zf.length fc, .slice la zl.length lc, .int .i64 wk, .int .i64 sp] 46)).cell? ⟨w2.heap.size, 2, none⟩ = some (.int .i64 wk) := by simp only [World.cell?, hM3]; rfl
      have m3 : (w2.alloc (.cells #[.slice fa zf.length fc, .slice la zl.length lc, .int .i64 wk, .int .i64 sp] 46)).cell? ⟨w2.heap.size, 3, none⟩ = some (.int .i64 sp) := by simp only [World.cell?, hM3]; rfl
      have hRn2 : ¬ R = w2.heap.size := by omega
      go_wp2_with (first | (go_at_call 22; refine hnx.mono ?_; clear hnx; rintro e w' ⟨rfl, mm, rfl⟩))
      have hN4 : (((w2.alloc (.cells #[.slice fa zf.length fc, .slice la zl.length lc, .int .i64 wk, .int .i64 sp] 46)).drewN mm).setCell ⟨R, 1, none⟩ (.int .i64 (k + 1 : Nat))).heap[w.heap.size]? = some (.cells #[.slice none 0 0, .slice none 0 0, .int .i64 0, .int .i64 0] 46 (0, 0)) := (Below.heap_setCell _ _ _ _ (by show w.heap.size ≠ R; omega)).trans hN3
      have hcl := HCL.out
      have hfr : RowI w.heap.size (((w2.alloc (.cells #[.slice fa zf.length fc, .slice la zl.length lc, .int .i64 wk, .int .i64 sp] 46)).drewN mm).setCell ⟨R, 1, none⟩ (.int .i64 (k + 1 : Nat))) (.slice fa zf.length fc) zf := ((hcl.first.alloc _).drewN mm).of_kinds (fun kk cs fr hk => Below.heap_setCell _ _ _ _ (by obtain ⟨tv, hRb, _⟩ := HR3.out; exact ne_of_kind (k := kk) (b := R) hRb hk (by decide)))
      have hlr : RowI w.heap.size (((w2.alloc (.cells #[.slice fa zf.length fc, .slice la zl.length lc, .int .i64 wk, .int .i64 sp] 46)).drewN mm).setCell ⟨R, 1, none⟩ (.int .i64 (k + 1 : Nat))) (.slice la zl.length lc) zl := ((hcl.last.alloc _).drewN mm).of_kinds (fun kk cs fr hk => Below.heap_setCell _ _ _ _ (by obtain ⟨tv, hRb, _⟩ := HR3.out; exact ne_of_kind (k := kk) (b := R) hRb hk (by decide)))
      have hq : TellsTo .link R l i ts w (.returned (clothV (.slice fa zf.length fc) (.slice la zl.length lc) wk sp)) (setP (((w2.alloc (.cells #[.slice fa zf.length fc, .slice la zl.length lc, .int .i64 wk, .int .i64 sp] 46)).drewN mm).setCell ⟨R, 1, none⟩ (.int .i64 (k + 1 : Nat))) w.heap.size (.slice fa zf.length fc) (.slice la zl.length lc) (.int .i64 wk) (.int .i64 sp)) := by
        refine ⟨(((HK2.out.alloc _).drewN mm).setR 1 _).setP (Nat.le_refl _) _ _ _ _, k + 1, _, _, zf, zl, wk, sp, rfl, by omega, by omega, ⟨hfr.setC hN4 _ _ _ _, hlr.setC hN4 _ _ _ _, ?_, ?_, hcl.w0, ?_, hcl.s0, ?_⟩, Or.inr ⟨t, ?_, by omega, HZ.out.1, HZ.out.2.1, HZ.out.2.2.1, HZ.out.2.2.2, ((HR3.out.drewN mm).place (k + 1)).setC hN4 _ _ _ _⟩⟩
        · have := hcl.lf; omega
        · have := hcl.ll; omega
        · have := hcl.w1; omega
        · have := hcl.s1; omega
        · rw [H40.out]
          have := HG.out
          rw [H41.out] at this
          exact Gr.signs this
      exact cloth_ret (b := w.heap.size) rfl (setP_block46 hN4 _ _ _ _) rfl rfl hq
    · have hnb : nextB 0 l k 41 = false := by unfold nextB; rw [decide_eq_false h41]; rfl
      rw [hnb] at hnx
      change Calls Tryd.prog 22 #[.pointer (some ⟨R, 0, none⟩), .int .u8 41] _ _ at hnx
      have H41 : Hid ((l.drop k).head? ≠ some 41) := h41
      clear hnb h41
      go_wp2_with (first | (go_at_call 22; refine hnx.mono ?_; clear hnx; rintro e w' ⟨rfl, mm, rfl⟩))
      have hN4 : ((((w2.alloc (.cells #[.slice fa zf.length fc, .slice la zl.length lc, .int .i64 wk, .int .i64 sp] 46)).drewN mm).setCell ⟨R, 3, none⟩ (.int .i64 2))).heap[w.heap.size]? = some (.cells #[.slice none 0 0, .slice none 0 0, .int .i64 0, .int .i64 0] 46 (0, 0)) := (Below.heap_setCell _ _ _ _ (by show w.heap.size ≠ R; omega)).trans hN3
      have hq : TellsTo .link R l i ts w (.returned (clothV (.slice none 0 0) (.slice none 0 0) 0 0)) (setP (((w2.alloc (.cells #[.slice fa zf.length fc, .slice la zl.length lc, .int .i64 wk, .int .i64 sp] 46)).drewN mm).setCell ⟨R, 3, none⟩ (.int .i64 2)) w.heap.size (.slice none 0 0) (.slice none 0 0) (.int .i64 0) (.int .i64 0)) :=
        tells_fault (k := k) ((((HK2.out.alloc _).drewN mm).setR 3 _).setP (Nat.le_refl _) _ _ _ _) (by omega) hkl (by rw [H40.out]; exact Gr.unshut HG.out H41.out) HLL.out (((HR3.out.drewN mm).fault 2).setC hN4 _ _ _ _)
      exact cloth_ret (b := w.heap.size) rfl (setP_block46 hN4 _ _ _ _) rfl rfl hq
end Go.Proofs.YtcankblanhpmpaaDoor
