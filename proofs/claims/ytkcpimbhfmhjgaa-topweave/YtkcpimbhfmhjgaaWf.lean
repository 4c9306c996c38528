/- The contract of weave's weave. -/
import Derived.Test.YtkcpimbhfmhjgaaWe
namespace Go.Proofs.Ytkcpimbhfmhjgaa
open Go.RowKit Go.Deep

/-- A row of numbers grows: the reader is as it was. -/
theorem Rd.grownI {R i b : Nat} {l : List UInt8} {ts : List (Int × List Int)} {A : Nat → Prop} {w w' : World} {fv : Value} {zs : List Int} (h : Rd R l i ts A w) (hf : RowW b w fv zs) (hA : ∀ k, A k → fv.ownBlock ≠ some k) (hg : w.grownBy w' fv.ownBlock) : Rd R l i ts A w' := by
  obtain ⟨tv, h1, xs, ho, hx⟩ := h
  refine ⟨tv, grown_other hf hg h1 (by decide), xs, ?_, fun j hj => ?_⟩
  · rcases ho.2 with ⟨rfl, hn⟩ | ⟨g, cap, cur, rfl, hb, hh, hr⟩
    · exact ⟨ho.1, Or.inl ⟨rfl, hn⟩⟩
    · exact ⟨ho.1, Or.inr ⟨g, cap, cur, rfl, hb, grown_other hf hg hh (by decide), hr⟩⟩
  · obtain ⟨g1, nv, g2, g3, g4⟩ := hx j hj
    exact ⟨g1, nv, g2, g3.of_blocks (fun k e => hg.block k (g3.low e).2 (fun hc => hA k (g4 k e) hc.symm)), g4⟩
theorem RowW.grownI {b : Nat} {w w' : World} {v : Value} {zs : List Int} {row : Option Nat} (h : RowW b w v zs) (hg : w.grownBy w' row) (hne : v.ownBlock ≠ row) : RowW b w' v zs := World.ownsRow.kept h hg (Or.inr hne)
theorem ofNats_append (a b : List Nat) : ofNats (a ++ b) = ofNats a ++ ofNats b := by simp [ofNats]
theorem PartRows.blocks {b : Nat} {w : World} {n : Nat} {t : Tree} {fg fc fn lg lc ln : Nat} (h : PartRows b w n t (.slice (some ⟨fg, 0, none⟩) fn fc) (.slice (some ⟨lg, 0, none⟩) ln lc)) : b ≤ fg ∧ fg < w.heap.size ∧ b ≤ lg ∧ lg < w.heap.size ∧ fg ≠ lg := by
  have h1 := h.1.low (k := fg) rfl
  have h2 := h.2.1.low (k := lg) rfl
  have h3 := h.2.2
  simp only [Value.ownBlock, ne_eq, Option.some.injEq] at h3
  exact ⟨h1.1, h1.2, h2.1, h2.2, h3⟩

/-- While a weave is read: at place k, t was read; the part lies in block B3, what is told in block N0. -/
structure Going (K : Kind) (KL : Tree → Kind) (R : Nat) (l : List UInt8) (i : Nat) (ts : List (Int × List Int)) (A : Nat → Prop) (w : World) (B3 : Nat) (wr : World) (t : Tree) (k : Nat) (fg fc lg lc : Nat) : Prop where
  gr : ∀ r, Gr (KL t) (l.drop k) r → Gr K (l.drop i) r
  ik : i < k
  kl : k ≤ l.length
  ct : ts.length + t.count ≤ k
  rd : Rd R l k (t.lay V1 ts) (Allow A w.heap.size (.slice (some ⟨fg, 0, none⟩) (t.first ts.length).length fc) (.slice (some ⟨lg, 0, none⟩) (t.last ts.length).length lc)) wr
  pr : PartRows w.heap.size wr ts.length t (.slice (some ⟨fg, 0, none⟩) (t.first ts.length).length fc) (.slice (some ⟨lg, 0, none⟩) (t.last ts.length).length lc)
  b3 : wr.heap[B3]? = some (.cells #[.int .i64 (t.work V1), .int .i64 (t.span V1), .slice (some ⟨fg, 0, none⟩) (t.first ts.length).length fc, .slice (some ⟨lg, 0, none⟩) (t.last ts.length).length lc] 49 (0, 0))
  n0 : wr.heap[w.heap.size]? = some (.cells #[.int .i64 0, .int .i64 0, .slice none 0 0, .slice none 0 0] 49 (0, 0))
  kp : Kp R w wr
  lo : w.heap.size < B3

theorem tree_bounds {t : Tree} {n k : Nat} (h : n + t.count ≤ k) (hk : k ≤ 200) : 0 ≤ t.work V1 ∧ t.work V1 ≤ 4200 ∧ 0 ≤ t.span V1 ∧ t.span V1 ≤ 4200 := by
  have h1 := t.work_le V1_le
  have h2 := t.span_le V1_le
  omega

theorem part_set2 {w : World} {b : Nat} {a1 a2 a3 a4 : Value} (h : w.heap[b]? = some (.cells #[a1, a2, a3, a4] 49 (0, 0))) (u : Value) : (w.setCell ⟨b, 2, none⟩ u).heap[b]? = some (.cells #[a1, a2, u, a4] 49 (0, 0)) := by
  have := heap_setCell_same w b 2 _ 49 u h
  simpa using this
theorem part_set3 {w : World} {b : Nat} {a1 a2 a3 a4 : Value} (h : w.heap[b]? = some (.cells #[a1, a2, a3, a4] 49 (0, 0))) (u : Value) : (w.setCell ⟨b, 3, none⟩ u).heap[b]? = some (.cells #[a1, a2, a3, u] 49 (0, 0)) := by
  have := heap_setCell_same w b 3 _ 49 u h
  simpa using this

set_option maxRecDepth 100000 in
set_option maxHeartbeats 8000000 in
theorem weave_of (n : Nat) (ih : ReadOk 50 .chain n) : ReadOk 32 .weave n := by
  intro R l i ts A w hl hi hn hts hr
  have hRl := hr.lt
  obtain ⟨i3, hi3, hz0, hz1, hz2⟩ := info_parts Try.info3
  have hch := ih R l i ts _ _ hl hi hn hts (hr.old.alloc part0)
  have HIH : Hid (ReadOk 50 .chain n) := ih
  clear hr ih
  unfold part0 at hch
  go_enter Try.func32, Try.ntmps32
  go_wp2_with fail
  refine hch.mono ?_
  rintro e w1 ⟨hk, h⟩
  clear hch
  have hkZ : Kp R w w1 := ((Kp.refl R w).alloc _).trans hk
  have hN1 : w1.heap[w.heap.size]? = some (.cells #[.int .i64 0, .int .i64 0, .slice none 0 0, .slice none 0 0] 49 (0, 0)) := hk.other (k := w.heap.size) (blk_alloc_new _ _) (by omega) (by decide)
  have hs1 : w.heap.size < w1.heap.size := lt_of_block hN1
  clear hk
  rcases h with ⟨hno, rfl⟩ | ⟨t, k, fv, lv, hg, hik, hkl, hct, rfl, hrd, hpr⟩
  · exact ⟨rfl, hkZ, Or.inl ⟨Gr.weaveNo hno, rfl⟩⟩
  obtain ⟨fg, fc, lg, lc, rfl, rfl⟩ := hpr.shapes
  unfold partV
  have hle : w.heap.size ≤ (w.alloc (Obj.cells #[.int .i64 0, .int .i64 0, .slice none 0 0, .slice none 0 0] 49)).heap.size := by simp
  have HGO : Hid (Going .weave .weaveL R l i ts A w w1.heap.size (w1.alloc (.cells #[.int .i64 (t.work V1), .int .i64 (t.span V1), .slice (some ⟨fg, 0, none⟩) (t.first ts.length).length fc, .slice (some ⟨lg, 0, none⟩) (t.last ts.length).length lc] 49)) t k fg fc lg lc) :=
    { gr := fun r h => Gr.weaveOf hg h, ik := hik, kl := hkl, ct := hct, rd := (hrd.allow (fun k h _ => h.mono hle)).alloc _, pr := (hpr.mono hle).alloc _, b3 := blk_alloc_new _ _, n0 := (Below.heap_alloc _ _ _ hs1).trans hN1, kp := hkZ.alloc _, lo := hs1 }
  clear hg hik hkl hct hrd hpr hkZ hN1 hle
  go_wp2_with fail
  obtain ⟨B3, hB3⟩ : ∃ B3, w1.heap.size = B3 := ⟨_, rfl⟩
  rw [hB3] at HGO ⊢
  go_loopg [] l.length (fun gg wr => ∃ t k fg fc lg lc, Hid (Going .weave .weaveL R l i ts A w B3 wr t k fg fc lg lc) ∧ l.length - k ≤ gg)
  case atStart => exact ⟨t, k, fg, fc, lg, lc, HGO, by omega⟩
  case round =>
    clear HGO
    obtain ⟨t, k, fg, fc, lg, lc, HG, hgg⟩ := hrel
    have hlo := HG.out.lo
    have htk := take_any R l k _ _ 124 wr hl HG.out.kl HG.out.rd
    go_wp2_with fail
    refine htk.mono ?_
    rintro e w2 ⟨hk2, h⟩
    clear htk
    obtain ⟨cR, hcR⟩ := HG.out.rd.typed
    have hkp2 := HG.out.kp.trans hk2
    have hB2 := hk2.other HG.out.b3 (by omega) (by decide)
    have hN2 := hk2.other HG.out.n0 (by omega) (by decide)
    have hpr2 := HG.out.pr.kp hcR hk2
    have hik := HG.out.ik
    have hkl := HG.out.kl
    have hct := HG.out.ct
    clear hcR hk2
    rcases h with ⟨hne, rfl, hrd2⟩ | ⟨hil, hdr, rfl, hrd2⟩
    · have HGR : Hid (Gr .weave (l.drop i) (some (t, l.drop k))) := HG.out.gr _ (Gr.weaveEnd hne)
      have HRD : Hid (Rd R l k (t.lay V1 ts) (Allow A w.heap.size (.slice (some ⟨fg, 0, none⟩) (t.first ts.length).length fc) (.slice (some ⟨lg, 0, none⟩) (t.last ts.length).length lc)) w2) := hrd2
      have HPR : Hid (PartRows w.heap.size w2 ts.length t (.slice (some ⟨fg, 0, none⟩) (t.first ts.length).length fc) (.slice (some ⟨lg, 0, none⟩) (t.last ts.length).length lc)) := hpr2
      obtain ⟨q0, q1, q2, q3, qf⟩ := part_cells hN2
      have qf0 := qf 0
      have qf1 := qf 1
      have qf2 := qf 2
      have qf3 := qf 3
      obtain ⟨r0, r1, r2, r3, _⟩ := part_cells hB2
      clear qf hrd2 hpr2 HG hne
      go_wp2
      exact reads_done Try.results32 rfl rfl (Nat.le_refl _) hkp2 hN2 HGR.out hik hkl hct HRD.out HPR.out
    · have hlen : (t.lay V1 ts).length = ts.length + t.count := t.lay_length V1 ts
      have hch := HIH.out R l (k + 1) (t.lay V1 ts) _ w2 hl (by omega) (by omega) (by omega) hrd2.old
      have HGR : Hid (∀ r, Gr (.weaveL t) (l.drop k) r → Gr .weave (l.drop i) r) := HG.out.gr
      obtain ⟨cR2, hcR2⟩ := hrd2.typed
      clear HG hrd2
      go_wp2_with fail
      refine hch.mono ?_
      rintro e w3 ⟨hk3, h⟩
      clear hch
      have hkp3 := hkp2.trans hk3
      have hs3 := hk3.size
      have hB3' := hk3.other hB2 (by omega) (by decide)
      have hN3 := hk3.other hN2 (by omega) (by decide)
      have hpr3 := hpr2.kp hcR2 hk3
      clear hcR2 hk3 hB2 hN2
      rcases h with ⟨hno, rfl⟩ | ⟨t2, k2, fv2, lv2, hg2, hik2, hkl2, hct2, rfl, hrd3, hpq⟩
      · refine ⟨rfl, hkp3, Or.inl ⟨HGR.out _ ?_, rfl⟩⟩
        rw [hdr]
        exact Gr.weaveBad hno
      · obtain ⟨fg2, fc2, lg2, lc2, rfl, rfl⟩ := hpq.shapes
        rw [hlen] at hpq hct2 ⊢
        unfold partV
        obtain ⟨hf1, hf2, hg1, hg2', hne⟩ := hpr2.blocks
        obtain ⟨pf1, pf2, pg1, pg2, pne⟩ := hpq.blocks
        have hrd4 : Rd R l k2 (t2.lay V1 (t.lay V1 ts)) (fun q => q < w3.heap.size ∧ q ≠ fg ∧ q ≠ lg ∧ (q < w.heap.size → Old A w.heap.size q)) w3 := hrd3.allow (fun q h hq => by
          rcases h with ⟨⟨h, h1⟩, _⟩ | ⟨h, _⟩
          · rcases h with h | ⟨h2, h3, h4⟩
            · have := h.2
              exact ⟨hq, by omega, by omega, fun _ => h⟩
            · simp only [Value.ownBlock, ne_eq, Option.some.injEq] at h3 h4
              exact ⟨hq, fun e => h3 e.symm, fun e => h4 e.symm, fun h => by omega⟩
          · exact ⟨hq, by omega, by omega, fun h => by omega⟩)
        have hbd1 := tree_bounds hct (by omega)
        have hbd2 := tree_bounds hct2 (by omega)
        have hb3l : B3 < w3.heap.size := lt_of_block hB3'
        have hn0l : w.heap.size < w3.heap.size := lt_of_block hN3
        have HGR2 : Hid (∀ r, Gr (.weaveL (.par t t2)) (l.drop k2) r → Gr .weave (l.drop i) r) := fun r h => HGR.out r (by rw [hdr]; exact Gr.weaveMore hg2 h)
        have hfl := t.first_len ts.length
        have hll := t.last_len ts.length
        have hfl2 := t2.first_len (ts.length + t.count)
        have hll2 := t2.last_len (ts.length + t.count)
        obtain ⟨mx, hmx⟩ : ∃ mx, mx = max (t.span V1) (t2.span V1) := ⟨_, rfl⟩
        have HMX : Hid (mx = max (t.span V1) (t2.span V1)) := hmx
        obtain ⟨r0, r1, r2, r3, rf⟩ := part_cells hB3'
        have rf0 := rf 0
        have rf1 := rf 1
        -- the memory ahead of the first append
        have hc0 := heap_setCell_same w3 B3 0 _ 49 (.int .i64 (t.work V1 + t2.work V1)) hB3'
        have hc1 := heap_setCell_same _ B3 1 _ 49 (.int .i64 mx) hc0
        have hrdW := ((hrd4.setPart hB3' 0 (.int .i64 (t.work V1 + t2.work V1))).setPart hc0 1 (.int .i64 mx)).alloc (.cells #[.int .i64 (t2.work V1), .int .i64 (t2.span V1), .slice (some ⟨fg2, 0, none⟩) (t2.first (ts.length + t.count)).length fc2, .slice (some ⟨lg2, 0, none⟩) (t2.last (ts.length + t.count)).length lc2] 49)
        have hF := ((hpr3.1.setPart hB3' 0 (.int .i64 (t.work V1 + t2.work V1))).setPart hc0 1 (.int .i64 mx)).alloc (.cells #[.int .i64 (t2.work V1), .int .i64 (t2.span V1), .slice (some ⟨fg2, 0, none⟩) (t2.first (ts.length + t.count)).length fc2, .slice (some ⟨lg2, 0, none⟩) (t2.last (ts.length + t.count)).length lc2] 49)
        have hL := ((hpr3.2.1.setPart hB3' 0 (.int .i64 (t.work V1 + t2.work V1))).setPart hc0 1 (.int .i64 mx)).alloc (.cells #[.int .i64 (t2.work V1), .int .i64 (t2.span V1), .slice (some ⟨fg2, 0, none⟩) (t2.first (ts.length + t.count)).length fc2, .slice (some ⟨lg2, 0, none⟩) (t2.last (ts.length + t.count)).length lc2] 49)
        have hF2 := ((hpq.1.setPart hB3' 0 (.int .i64 (t.work V1 + t2.work V1))).setPart hc0 1 (.int .i64 mx)).alloc (.cells #[.int .i64 (t2.work V1), .int .i64 (t2.span V1), .slice (some ⟨fg2, 0, none⟩) (t2.first (ts.length + t.count)).length fc2, .slice (some ⟨lg2, 0, none⟩) (t2.last (ts.length + t.count)).length lc2] 49)
        have hL2 := ((hpq.2.1.setPart hB3' 0 (.int .i64 (t.work V1 + t2.work V1))).setPart hc0 1 (.int .i64 mx)).alloc (.cells #[.int .i64 (t2.work V1), .int .i64 (t2.span V1), .slice (some ⟨fg2, 0, none⟩) (t2.first (ts.length + t.count)).length fc2, .slice (some ⟨lg2, 0, none⟩) (t2.last (ts.length + t.count)).length lc2] 49)
        have hkpW := ((hkp3.setNew (b := B3) (by omega) 0 (.int .i64 (t.work V1 + t2.work V1))).setNew (b := B3) (by omega) 1 (.int .i64 mx)).alloc (.cells #[.int .i64 (t2.work V1), .int .i64 (t2.span V1), .slice (some ⟨fg2, 0, none⟩) (t2.first (ts.length + t.count)).length fc2, .slice (some ⟨lg2, 0, none⟩) (t2.last (ts.length + t.count)).length lc2] 49)
        obtain ⟨W4, hW4⟩ : ∃ W4, (((w3.setCell ⟨B3, 0, none⟩ (.int .i64 (t.work V1 + t2.work V1))).setCell ⟨B3, 1, none⟩ (.int .i64 mx)).alloc (.cells #[.int .i64 (t2.work V1), .int .i64 (t2.span V1), .slice (some ⟨fg2, 0, none⟩) (t2.first (ts.length + t.count)).length fc2, .slice (some ⟨lg2, 0, none⟩) (t2.last (ts.length + t.count)).length lc2] 49)) = W4 := ⟨_, rfl⟩
        have HW4 : Hid ((((w3.setCell ⟨B3, 0, none⟩ (.int .i64 (t.work V1 + t2.work V1))).setCell ⟨B3, 1, none⟩ (.int .i64 mx)).alloc (.cells #[.int .i64 (t2.work V1), .int .i64 (t2.span V1), .slice (some ⟨fg2, 0, none⟩) (t2.first (ts.length + t.count)).length fc2, .slice (some ⟨lg2, 0, none⟩) (t2.last (ts.length + t.count)).length lc2] 49)) = W4) := hW4
        have hBW : W4.heap[B3]? = some (.cells #[.int .i64 (t.work V1 + t2.work V1), .int .i64 mx, .slice (some ⟨fg, 0, none⟩) (t.first ts.length).length fc, .slice (some ⟨lg, 0, none⟩) (t.last ts.length).length lc] 49 (0, 0)) := by
          rw [← hW4, blk_alloc_lt _ _ _ (by simp; omega)]
          simpa using hc1
        have hNW : W4.heap[w.heap.size]? = some (.cells #[.int .i64 0, .int .i64 0, .slice none 0 0, .slice none 0 0] 49 (0, 0)) := by
          rw [← hW4, blk_alloc_lt _ _ _ (by simp; omega), Below.heap_setCell _ _ _ _ (by show w.heap.size ≠ B3; omega), Below.heap_setCell _ _ _ _ (by show w.heap.size ≠ B3; omega)]
          exact hN3
        have hsW : W4.heap.size = w3.heap.size + 1 := by rw [← hW4]; simp
        have hCW : W4.heap[w3.heap.size]? = some (.cells #[.int .i64 (t2.work V1), .int .i64 (t2.span V1), .slice (some ⟨fg2, 0, none⟩) (t2.first (ts.length + t.count)).length fc2, .slice (some ⟨lg2, 0, none⟩) (t2.last (ts.length + t.count)).length lc2] 49 (0, 0)) := by
          rw [← hW4]
          have := blk_alloc_new ((w3.setCell ⟨B3, 0, none⟩ (.int .i64 (t.work V1 + t2.work V1))).setCell ⟨B3, 1, none⟩ (.int .i64 mx)) (.cells #[.int .i64 (t2.work V1), .int .i64 (t2.span V1), .slice (some ⟨fg2, 0, none⟩) (t2.first (ts.length + t.count)).length fc2, .slice (some ⟨lg2, 0, none⟩) (t2.last (ts.length + t.count)).length lc2] 49)
          simpa using this
        have hFx := hF
        have hF2x := World.ownsRow.cells hF2 (g := fg2) rfl
        rw [hW4] at hrdW hF hL hF2 hL2 hkpW
        clear hW4 hc0 hc1 hrd4 hrd3 hpr3 hpr2 hpq hkp3 hkp2 hB3' hN3 rf
        have hmx3 : (t.span V1 < t2.span V1 ∧ mx = t2.span V1) ∨ (¬ t.span V1 < t2.span V1 ∧ mx = t.span V1) := by omega
        clear hmx
        rcases hmx3 with ⟨hsp, rfl⟩ | ⟨hsp, rfl⟩
        all_goals
          go_wp2_with (at_builtin; refine wpList_append_own_at _ rfl (.tmp 24) (.tmp 26) 32 rfl w.heap.size 3 i3 (.int .i64 0) 1 8 Try.underlying32 hi3 hz0 hz1 hz2 rfl (by decide) _ (ofNats (t.first ts.length)).length ((ofNats (t.first ts.length)).map (Value.int .i64)) rfl hFx ⟨fg2, 0, none⟩ (t2.first (ts.length + t.count)).length fc2 ((ofNats (t2.first (ts.length + t.count))).map (Value.int .i64)) rfl ?cl hF2x ?c2 ?c3 ?c4 ?c5 ?_)
          case cl => simp [ofNats]
          case c2 => intro u hu; simp at hu; obtain ⟨_, _, rfl⟩ := hu; rfl
          case c3 => rw [ofNats_length]; unfold maxLen; omega
          case c4 => rw [ofNats_length]; omega
          case c5 => simp; omega
          intro v' w5 hown' hgrow _ hloc
          rw [HW4.out] at hgrow
          have hV : RowW w.heap.size w5 v' (ofNats ((Tree.par t t2).first ts.length)) := by
            have e : ofNats ((Tree.par t t2).first ts.length) = ofNats (t.first ts.length) ++ ofNats (t2.first (ts.length + t.count)) := ofNats_append _ _
            unfold RowW
            rw [e, List.length_append, List.map_append, ofNats_length (t2.first (ts.length + t.count))]
            exact hown'
          have hrd5 := hrdW.grownI hF (fun q h e => h.2.1 (Option.some.inj e).symm) hgrow
          have hB5 := grown_other hF hgrow hBW (by decide)
          have hN5 := grown_other hF hgrow hNW (by decide)
          have hL5 := hL.grownI hgrow (by simp [Value.ownBlock]; omega)
          have hL25 := hL2.grownI hgrow (by simp [Value.ownBlock]; omega)
          have hkp5 := hkpW.grown hgrow (fun q e => by cases e; exact Or.inr (Or.inl hf1))
          have hs5 := hgrow.size
          obtain ⟨vg, vc, rfl⟩ := owns_shape hV (by rw [ofNats_length]; exact (Tree.par t t2).first_pos _)
          rw [ofNats_length] at hV ⊢
          have hvg := hV.low (k := vg) rfl
          have hvloc : vg = fg ∨ vg = w3.heap.size + 1 := by simpa [Value.ownBlock] using hloc
          obtain ⟨s0, s1, s2, s3, sf⟩ := part_cells hB5
          have sf2 := sf 2
          have sf3 := sf 3
          -- the memory ahead of the second append
          have hrd6 := hrd5.setPart hB5 2 (.slice (some ⟨vg, 0, none⟩) ((Tree.par t t2).first ts.length).length vc)
          have hL6 := hL5.setPart hB5 2 (.slice (some ⟨vg, 0, none⟩) ((Tree.par t t2).first ts.length).length vc)
          have hL26 := hL25.setPart hB5 2 (.slice (some ⟨vg, 0, none⟩) ((Tree.par t t2).first ts.length).length vc)
          have hV6 := hV.setPart hB5 2 (.slice (some ⟨vg, 0, none⟩) ((Tree.par t t2).first ts.length).length vc)
          have hkp6 := hkp5.setNew (b := B3) (by omega) 2 (.slice (some ⟨vg, 0, none⟩) ((Tree.par t t2).first ts.length).length vc)
          have hN6 : (w5.setCell ⟨B3, 2, none⟩ (.slice (some ⟨vg, 0, none⟩) ((Tree.par t t2).first ts.length).length vc)).heap[w.heap.size]? = some (.cells #[.int .i64 0, .int .i64 0, .slice none 0 0, .slice none 0 0] 49 (0, 0)) := (Below.heap_setCell _ _ _ _ (by show w.heap.size ≠ B3; omega)).trans hN5
          have hB6 := part_set2 hB5 (.slice (some ⟨vg, 0, none⟩) ((Tree.par t t2).first ts.length).length vc)
          have hL26x := World.ownsRow.cells hL26 (g := lg2) rfl
          have hb45 : w3.heap.size < w5.heap.size := by omega
          have hB4 : w5.heap[w3.heap.size]? = some (.cells #[.int .i64 (t2.work V1), .int .i64 (t2.span V1), .slice (some ⟨fg2, 0, none⟩) (t2.first (ts.length + t.count)).length fc2, .slice (some ⟨lg2, 0, none⟩) (t2.last (ts.length + t.count)).length lc2] 49 (0, 0)) := grown_other hF hgrow hCW (by decide)
          obtain ⟨u0, u1, u2, u3, _⟩ := part_cells hB4
          have hne34 : ¬ B3 = w3.heap.size := by omega
          clear hown' hloc hgrow hrd5 hL5 hL25 hkp5 hN5 hB4 sf
          go_wp2_with (at_builtin; refine wpList_append_own_at _ rfl (.tmp 30) (.tmp 32) 32 rfl w.heap.size 3 i3 (.int .i64 0) 1 8 Try.underlying32 hi3 hz0 hz1 hz2 rfl (by decide) _ (ofNats (t.last ts.length)).length ((ofNats (t.last ts.length)).map (Value.int .i64)) rfl hL6 ⟨lg2, 0, none⟩ (t2.last (ts.length + t.count)).length lc2 ((ofNats (t2.last (ts.length + t.count))).map (Value.int .i64)) rfl ?el hL26x ?e2 ?e3 ?e4 ?e5 ?_)
          case el => simp [ofNats]
          case e2 => intro u hu; simp at hu; obtain ⟨_, _, rfl⟩ := hu; rfl
          case e3 => rw [ofNats_length]; unfold maxLen; omega
          case e4 => rw [ofNats_length]; omega
          case e5 => simp; omega
          intro v' w7 hown' hgrow _ hloc
          have hU : RowW w.heap.size w7 v' (ofNats ((Tree.par t t2).last ts.length)) := by
            have e : ofNats ((Tree.par t t2).last ts.length) = ofNats (t.last ts.length) ++ ofNats (t2.last (ts.length + t.count)) := ofNats_append _ _
            unfold RowW
            rw [e, List.length_append, List.map_append, ofNats_length (t2.last (ts.length + t.count))]
            exact hown'
          have hrd7 := hrd6.grownI hL6 (fun q h e => h.2.2.1 (Option.some.inj e).symm) hgrow
          have hB7 := grown_other hL6 hgrow hB6 (by decide)
          have hN7 := grown_other hL6 hgrow hN6 (by decide)
          have hV7 := hV6.grownI hgrow (by simp [Value.ownBlock]; omega)
          have hkp7 := hkp6.grown hgrow (fun q e => by cases e; exact Or.inr (Or.inl hg1))
          have hs7 := hgrow.size
          obtain ⟨ug, uc, rfl⟩ := owns_shape hU (by rw [ofNats_length]; exact (Tree.par t t2).last_pos _)
          rw [ofNats_length] at hU ⊢
          have huloc : ug = lg ∨ ug = w5.heap.size := by simpa [Value.ownBlock] using hloc
          obtain ⟨x0, x1, x2, x3, xf⟩ := part_cells hB7
          have xf3 := xf 3
          have hd3 := part_set3 hB7 (.slice (some ⟨ug, 0, none⟩) ((Tree.par t t2).last ts.length).length uc)
          have HNEW : Hid (Going .weave .weaveL R l i ts A w B3 (w7.setCell ⟨B3, 3, none⟩ (.slice (some ⟨ug, 0, none⟩) ((Tree.par t t2).last ts.length).length uc)) (.par t t2) k2 vg vc ug uc) :=
            { gr := HGR2.out, ik := by omega, kl := hkl2, ct := by simp only [Tree.count]; omega
              rd := (hrd7.allow (fun q h _ => by
                by_cases hq : q < w.heap.size
                · exact Or.inl (h.2.2.2 hq)
                · refine Or.inr ⟨by omega, ?_, ?_⟩
                  · simp only [Value.ownBlock, ne_eq, Option.some.injEq]
                    have h1 := h.1
                    have h2 := h.2.1
                    omega
                  · simp only [Value.ownBlock, ne_eq, Option.some.injEq]
                    have h1 := h.1
                    have h2 := h.2.2.1
                    omega)).setPart hB7 3 _
              pr := ⟨hV7.setPart hB7 3 _, hU.setPart hB7 3 _, by simp only [Value.ownBlock, ne_eq, Option.some.injEq]; omega⟩
              b3 := by
                have hm := HMX.out
                simp only [Tree.work, Tree.span]
                rw [← hm]
                exact hd3
              n0 := (Below.heap_setCell _ _ _ _ (by show w.heap.size ≠ B3; omega)).trans hN7
              kp := hkp7.setNew (b := B3) (by omega) 3 _
              lo := hlo }
          clear hown' hloc hgrow hrd7 hB7 hN7 hV7 hkp7 hU hV6 hL6 hrd6 hB6 hN6 hkp6 xf hd3 hV
          go_wp2
          go_roundg (l.length - k2)
          case measure => omega
          case rel => exact ⟨.par t t2, k2, vg, vc, ug, uc, HNEW, Nat.le_refl _⟩
end Go.Proofs.Ytkcpimbhfmhjgaa
