/- The contracts of slices.Clone at []int, and of weave's link. The contract of weave's weave. The contract of Check. -/
import Derived.Test.YtlfbdjeojgbniaaGreatDoorRcm03
import Derived.Lib.SliceRun
import Derived.Test.YtlfbdjeojgbniaaGreatDoorRcm01

namespace Go.Proofs.YtlfbdjeojgbniaaGreatDoor
open Go.RowKit Go.Deep

set_option maxRecDepth 100000 in
set_option maxHeartbeats 1000000 in
theorem clone_any (b : Nat) (v : Value) (zs : List Int) (w : World) (hz : RowW b w v zs) (h0 : 0 < zs.length) (hl : zs.length ≤ 1000) :
    Calls Tryz.prog 201 #[v] w fun e w' => ∃ nv, e = .returned nv ∧ RowW w.heap.size w' nv zs ∧ Below w.heap.size w w' := by
  obtain ⟨i3, hi3, hz0, hz1, hz2⟩ := info_parts Tryz.info3
  have hA := hz.alloc (.cells #[] 3)
  obtain ⟨g, cap, rfl⟩ := owns_shape hz h0
  have hsrc := World.ownsRow.cells hA (g := g) rfl
  have hemp : (w.alloc (.cells #[] 3)).ownsRow w.heap.size 3 1 (.slice (some ⟨w.heap.size, 0, none⟩) 0 0) 0 [] := World.ownsRow_lit (base := w.heap.size) (e := 3) (size := 1) w #[] 0 (Nat.le_refl _) (by unfold maxLen; omega) rfl
  have HA : Hid (RowW b (w.alloc (.cells #[] 3)) (.slice (some ⟨g, 0, none⟩) zs.length cap) zs) := hA
  clear hA hz
  have hnil := fun (wx : World) => Lib.run_eql_slice_nil (P := Tryz.prog) wx 73 3 (some ⟨g, 0, none⟩) zs.length cap 0 0 Tryz.underlying73
  go_enter Tryz.func201, Tryz.ntmps201
  go_wp2_with (at_builtin; refine wpList_append_own _ rfl (.tmp 5) (.tmp 6) 73 rfl w.heap.size 3 i3 (.int .i64 0) 1 8 Tryz.underlying73 hi3 hz0 hz1 hz2 rfl (by decide) _ 0 [] rfl hemp ⟨g, 0, none⟩ zs.length cap (zs.map (Value.int .i64)) rfl (by simp) hsrc ?c2 ?c3 ?c4 ?c5 ?_)
  case c2 => intro u hu; simp at hu; obtain ⟨_, _, rfl⟩ := hu; rfl
  case c3 => unfold maxLen; omega
  case c4 => omega
  case c5 => simp
  intro v' w1 hown' hgrow _
  replace hown' : w1.ownsRow w.heap.size 3 1 v' zs.length (zs.map (Value.int .i64)) := by simpa using hown'
  obtain ⟨vg, vc, rfl⟩ := owns_shape hown' h0
  have hB : Below w.heap.size w w1 := ((Below.refl _ _).alloc (Nat.le_refl _) _).grown hgrow (by simp) (fun k e => by simp [Value.ownBlock] at e; omega)
  go_wp2
  go_ret
  exact ⟨_, rfl, hown', hB⟩

/-- What a reader of a kind answers. -/
def ReadsTo (K : Kind) (R : Nat) (l : List UInt8) (i : Nat) (ts : List (Int × List Int)) (A : Nat → Prop) (w : World) (e : Ending) (w' : World) : Prop :=
  Kp R w w' ∧ ((Gr K (l.drop i) none ∧ e = .panicked [{ v := synErr, recovered := false }]) ∨
    ∃ t k fv lv, Gr K (l.drop i) (some (t, l.drop k)) ∧ i < k ∧ k ≤ l.length ∧ ts.length + t.count ≤ k ∧ e = .returned (partV t fv lv) ∧ Rd R l k (t.lay V1 ts) (Allow A w.heap.size fv lv) w' ∧ PartRows w.heap.size w' ts.length t fv lv)
def ReadOk (f : Nat) (K : Kind) (n : Nat) : Prop := ∀ R l i ts A w, l.length ≤ 200 → i ≤ l.length → l.length - i ≤ n → ts.length ≤ i → Rd R l i ts A w → Calls Tryz.prog f #[.pointer (some ⟨R, 0, none⟩)] w (ReadsTo K R l i ts A w)

theorem ofNats_length (l : List Nat) : (ofNats l).length = l.length := by simp [ofNats]
theorem PartRows.shapes {b : Nat} {w : World} {n : Nat} {t : Tree} {fv lv : Value} (h : PartRows b w n t fv lv) : ∃ fg fc lg lc, fv = .slice (some ⟨fg, 0, none⟩) (t.first n).length fc ∧ lv = .slice (some ⟨lg, 0, none⟩) (t.last n).length lc := by
  obtain ⟨h1, h2, _⟩ := h
  obtain ⟨fg, fc, e1⟩ := owns_shape h1 (by rw [ofNats_length]; exact t.first_pos n)
  obtain ⟨lg, lc, e2⟩ := owns_shape h2 (by rw [ofNats_length]; exact t.last_pos n)
  rw [ofNats_length] at e1 e2
  exact ⟨fg, fc, lg, lc, e1, e2⟩
theorem PartRows.mono {b b' : Nat} {w : World} {n : Nat} {t : Tree} {fv lv : Value} (h : PartRows b w n t fv lv) (hb : b' ≤ b) : PartRows b' w n t fv lv := ⟨h.1.mono hb, h.2.1.mono hb, h.2.2⟩
theorem PartRows.setP {b : Nat} {w : World} {n : Nat} {t : Tree} {fv lv : Value} {g : Nat} {o1 o2 o3 o4 : Value} (h : PartRows b w n t fv lv) (hg : w.heap[g]? = some (.cells #[o1, o2, o3, o4] 199 (0, 0))) (a1 a2 a3 a4 : Value) : PartRows b (setP w g a1 a2 a3 a4) n t fv lv := ⟨h.1.setP hg _ _ _ _, h.2.1.setP hg _ _ _ _, h.2.2⟩
theorem PartRows.alloc {b : Nat} {w : World} {n : Nat} {t : Tree} {fv lv : Value} (h : PartRows b w n t fv lv) (o : Obj) : PartRows b (w.alloc o) n t fv lv := ⟨h.1.alloc o, h.2.1.alloc o, h.2.2⟩
theorem PartRows.kp {R b : Nat} {w w' : World} {n : Nat} {t : Tree} {fv lv : Value} {cs : Array Value} (h : PartRows b w n t fv lv) (hR : w.heap[R]? = some (.cells cs 234 (0, 0))) (hk : Kp R w w') : PartRows b w' n t fv lv := ⟨h.1.kp hR hk, h.2.1.kp hR hk, h.2.2⟩
theorem Allow.mono {A : Nat → Prop} {n n' : Nat} {fv lv : Value} (h : n' ≤ n) {k : Nat} (hk : Allow (Old A n') n fv lv k) : Allow A n' fv lv k := hk.imp (fun h => h.1) (fun ⟨h1, h2⟩ => ⟨Nat.le_trans h h1, h2⟩)

/-- The block of a part that holds nothing yet. -/
def part0 : Obj := .cells #[.int .i64 0, .int .i64 0, .slice none 0 0, .slice none 0 0] 199

/-- A reader has read: what it tells is laid, and told. -/
theorem reads_done {fn : Func} {a : Act} {K : Kind} {R : Nat} {l : List UInt8} {i : Nat} {ts : List (Int × List Int)} {A : Nat → Prop} {w w2 : World} {t : Tree} {k b : Nat} {fv lv o1 o2 o3 o4 : Value} (hres : fn.results = #[ResultVar.cell 2 199]) (ht : a.tmps[2]? = some (.pointer (some ⟨b, 0, none⟩))) (hd : a.defers = [])
    (hb : w.heap.size ≤ b) (hkp : Kp R w w2) (hblk : w2.heap[b]? = some (.cells #[o1, o2, o3, o4] 199 (0, 0))) (hg : Gr K (l.drop i) (some (t, l.drop k))) (hik : i < k) (hkl : k ≤ l.length) (hc : ts.length + t.count ≤ k)
    (hrd : Rd R l k (t.lay V1 ts) (Allow A w.heap.size fv lv) w2) (hpr : PartRows w.heap.size w2 ts.length t fv lv) :
    bodyPost Tryz.prog fn (ReadsTo K R l i ts A w) Exit.ret a (setP w2 b (.int .i64 (t.work V1)) (.int .i64 (t.span V1)) fv lv) :=
  part_ret hres (setP_block hblk _ _ _ _) ht hd ⟨hkp.setP hb _ _ _ _, Or.inr ⟨t, k, fv, lv, hg, hik, hkl, hc, rfl, hrd.setP hblk _ _ _ _, hpr.setP hblk _ _ _ _⟩⟩

set_option maxRecDepth 100000 in
set_option maxHeartbeats 4000000 in
theorem link_of (n : Nat) (ih : ∀ m, m < n → ReadOk 149 .weave m) : ReadOk 200 .link n := by
  intro R l i ts A w hl hi hn hts hr
  have hRl := hr.lt
  replace hr := hr.old
  have htk := take_any R l i ts _ 40 _ hl hi (hr.alloc part0)
  clear hr
  unfold part0 at htk
  go_enter Tryz.func200, Tryz.ntmps200
  go_wp2_with fail
  refine htk.mono ?_
  rintro e w1 ⟨hk, h⟩
  clear htk
  have hkZ : Kp R w w1 := ((Kp.refl R w).alloc _).trans hk
  have hN1 : w1.heap[w.heap.size]? = some (.cells #[.int .i64 0, .int .i64 0, .slice none 0 0, .slice none 0 0] 199 (0, 0)) := hk.other (k := w.heap.size) (blk_alloc_new _ _) (by omega) (by decide)
  clear hk
  have hs1 := hkZ.size
  rcases h with ⟨hne, rfl, hrd⟩ | ⟨hil, hdr, rfl, hrd⟩
  · have htask := task_any R l i ts _ w1 hl hi hts hrd
    go_wp2_with fail
    refine htask.mono ?_
    rintro e w2 ⟨hk2, h⟩
    clear htask
    have hkZ2 : Kp R w w2 := hkZ.trans hk2
    have hN2 := hk2.other hN1 (by omega) (by decide)
    rcases h with ⟨hno, rfl⟩ | ⟨p, k, fv, lv, hso, hik, hkl, rfl, hrd2, hpr⟩
    · exact ⟨rfl, hkZ2, Or.inl ⟨by have := Gr.num hne; rwa [hno] at this, rfl⟩⟩
    · have HG : Hid (Gr .link (l.drop i) (some (.num p, l.drop k))) := by have := Gr.num hne; rwa [hso] at this
      have HRD : Hid (Rd R l k ((Tree.num p).lay V1 ts) (Old A w.heap.size) w2) := hrd2
      have HPR : Hid (PartRows w1.heap.size w2 ts.length (.num p) fv lv) := hpr
      obtain ⟨fg, fc, lg, lc, rfl, rfl⟩ := hpr.shapes
      unfold partV
      clear hpr hrd2 hso hne hrd
      obtain ⟨q0, q1, q2, q3, qf⟩ := part_cells hN2
      have qf0 := qf 0
      have qf1 := qf 1
      have qf2 := qf 2
      have qf3 := qf 3
      clear qf
      go_wp2
      exact reads_done Tryz.results200 rfl rfl (Nat.le_refl _) hkZ2 hN2 HG.out hik hkl (by simp [Tree.count]; omega) (HRD.out.allow (fun k h _ => Or.inl h)) (HPR.out.mono hs1)
  · have hw := ih (l.length - (i + 1)) (by omega) R l (i + 1) ts _ w1 hl (by omega) (Nat.le_refl _) (by omega) hrd
    go_wp2_with fail
    refine hw.mono ?_
    rintro e w2 ⟨hk2, h⟩
    clear hw
    have hkZ2 : Kp R w w2 := hkZ.trans hk2
    have hN2 := hk2.other hN1 (by omega) (by decide)
    rcases h with ⟨hno, rfl⟩ | ⟨t, k, fv, lv, hg, hik, hkl, hct, rfl, hrd2, hpr⟩
    · refine ⟨rfl, hkZ2, Or.inl ⟨?_, rfl⟩⟩
      rw [hdr]
      exact Gr.opened hno
    · have HPR : Hid (PartRows w1.heap.size w2 ts.length t fv lv) := hpr
      obtain ⟨fg, fc, lg, lc, rfl, rfl⟩ := hpr.shapes
      have htk := take_any R l k (t.lay V1 ts) _ 41 _ hl hkl (hrd2.alloc (.cells #[.int .i64 (t.work V1), .int .i64 (t.span V1), .slice (some ⟨fg, 0, none⟩) (t.first ts.length).length fc, .slice (some ⟨lg, 0, none⟩) (t.last ts.length).length lc] 199))
      have hb3 := blk_alloc_new w2 (.cells #[.int .i64 (t.work V1), .int .i64 (t.span V1), .slice (some ⟨fg, 0, none⟩) (t.first ts.length).length fc, .slice (some ⟨lg, 0, none⟩) (t.last ts.length).length lc] 199)
      have hpr3 := hpr.alloc (.cells #[.int .i64 (t.work V1), .int .i64 (t.span V1), .slice (some ⟨fg, 0, none⟩) (t.first ts.length).length fc, .slice (some ⟨lg, 0, none⟩) (t.last ts.length).length lc] 199)
      obtain ⟨cR, hcR⟩ := (hrd2.alloc (.cells #[.int .i64 (t.work V1), .int .i64 (t.span V1), .slice (some ⟨fg, 0, none⟩) (t.first ts.length).length fc, .slice (some ⟨lg, 0, none⟩) (t.last ts.length).length lc] 199)).typed
      have hN3 := (Below.heap_alloc w2 (.cells #[.int .i64 (t.work V1), .int .i64 (t.span V1), .slice (some ⟨fg, 0, none⟩) (t.first ts.length).length fc, .slice (some ⟨lg, 0, none⟩) (t.last ts.length).length lc] 199) _ (lt_of_block hN2)).trans hN2
      have hsz2 : w.heap.size < w2.heap.size := lt_of_block hN2
      unfold partV
      go_wp2_with fail
      refine htk.mono ?_
      rintro e w3 ⟨hk3, h⟩
      clear htk
      have hkZ3 : Kp R w w3 := (hkZ2.alloc _).trans hk3
      have HB3 := hk3.other hb3 (by omega) (by decide)
      have HN3 := hk3.other hN3 (by omega) (by decide)
      have HP3 : Hid (PartRows w1.heap.size w3 ts.length t _ _) := hpr3.kp hcR hk3
      clear hb3 hN3 hpr3 hcR hpr hrd2 hk3 HPR
      rcases h with ⟨hne, rfl, hrd3⟩ | ⟨hil3, hdr3, rfl, hrd3⟩
      · have HG : Hid (Gr .link (l.drop i) none) := by
          show Gr _ _ _
          rw [hdr]
          exact Gr.unshut hg hne
        go_wp2
        exact ⟨rfl, hkZ3, Or.inl ⟨HG.out, rfl⟩⟩
      · have HG : Hid (Gr .link (l.drop i) (some (t, l.drop (k + 1)))) := by
          show Gr _ _ _
          rw [hdr]
          rw [hdr3] at hg
          exact Gr.signs hg
        obtain ⟨q0, q1, q2, q3, qf⟩ := part_cells HN3
        have qf0 := qf 0
        have qf1 := qf 1
        have qf2 := qf 2
        have qf3 := qf 3
        obtain ⟨r0, r1, r2, r3, _⟩ := part_cells HB3
        clear qf hdr hdr3 hg
        have HRD3 : Hid (Rd R l (k + 1) (t.lay V1 ts) (Allow (Old A w.heap.size) w1.heap.size _ _) w3) := hrd3
        clear hrd3
        go_wp2
        exact reads_done Tryz.results200 rfl rfl (Nat.le_refl _) hkZ3 HN3 HG.out (by omega) (by omega) (by omega) (HRD3.out.allow (fun k h _ => h.mono hs1)) (HP3.out.mono hs1)
end Go.Proofs.YtlfbdjeojgbniaaGreatDoor

namespace Go.Proofs.YtlfbdjeojgbniaaGreatDoor
open Go.RowKit Go.Deep

/-- A row of numbers grows: the reader is as it was. -/
theorem Rd.grownI {R i b : Nat} {l : List UInt8} {ts : List (Int × List Int)} {A : Nat → Prop} {w w' : World} {fv : Value} {zs : List Int} (h : Rd R l i ts A w) (hf : RowW b w fv zs) (hA : ∀ k, A k → fv.ownBlock ≠ some k) (hg : w.grownBy w' fv.ownBlock) : Rd R l i ts A w' := by
  obtain ⟨tv, h1, xs, ho, hx⟩ := h
  refine ⟨tv, grown_other hf hg h1 (by decide), xs, ?_, fun j hj => ?_⟩
  · rcases ho.2 with ⟨rfl, hn⟩ | ⟨g, cap, cur, rfl, hb, hh, hr⟩
    · exact ⟨ho.1, Or.inl ⟨rfl, hn⟩⟩
    · exact ⟨ho.1, Or.inr ⟨g, cap, cur, rfl, hb, grown_other hf hg hh (by decide), hr⟩⟩
  · obtain ⟨g1, nv, g2, g3, g4⟩ := hx j hj
    exact ⟨g1, nv, g2, g3.of_blocks (fun k e => hg.block k (g3.low e).2 (fun hc => hA k (g4 k e) hc.symm)), g4⟩
theorem RowW.grownI {b : Nat} {w w' : World} {v : Value} {zs : List Int} {row : Option Nat} (h : RowW b w v zs) (hg : w.grownBy w' row) (hne : v.ownBlock ≠ row) : RowW b w' v zs := World.ownsRow.kept h hg (Or.inr hne)
theorem ofNats_append (a b : List Nat) : ofNats (a ++ b) = ofNats a ++ ofNats b := by simp [ofNats]
theorem PartRows.blocks {b : Nat} {w : World} {n : Nat} {t : Tree} {fg fc fn lg lc ln : Nat} (h : PartRows b w n t (.slice (some ⟨fg, 0, none⟩) fn fc) (.slice (some ⟨lg, 0, none⟩) ln lc)) : b ≤ fg ∧ fg < w.heap.size ∧ b ≤ lg ∧ lg < w.heap.size ∧ fg ≠ lg := by
  have h1 := h.1.low (k := fg) rfl
  have h2 := h.2.1.low (k := lg) rfl
  have h3 := h.2.2
  simp only [Value.ownBlock, ne_eq, Option.some.injEq] at h3
  exact ⟨h1.1, h1.2, h2.1, h2.2, h3⟩

/-- While a weave is read: at place k, t was read; the part lies in block B3, what is told in block N0. -/
structure Going (K : Kind) (KL : Tree → Kind) (R : Nat) (l : List UInt8) (i : Nat) (ts : List (Int × List Int)) (A : Nat → Prop) (w : World) (B3 : Nat) (wr : World) (t : Tree) (k : Nat) (fg fc lg lc : Nat) : Prop where
  gr : ∀ r, Gr (KL t) (l.drop k) r → Gr K (l.drop i) r
  ik : i < k
  kl : k ≤ l.length
  ct : ts.length + t.count ≤ k
  rd : Rd R l k (t.lay V1 ts) (Allow A w.heap.size (.slice (some ⟨fg, 0, none⟩) (t.first ts.length).length fc) (.slice (some ⟨lg, 0, none⟩) (t.last ts.length).length lc)) wr
  pr : PartRows w.heap.size wr ts.length t (.slice (some ⟨fg, 0, none⟩) (t.first ts.length).length fc) (.slice (some ⟨lg, 0, none⟩) (t.last ts.length).length lc)
  b3 : wr.heap[B3]? = some (.cells #[.int .i64 (t.work V1), .int .i64 (t.span V1), .slice (some ⟨fg, 0, none⟩) (t.first ts.length).length fc, .slice (some ⟨lg, 0, none⟩) (t.last ts.length).length lc] 199 (0, 0))
  n0 : wr.heap[w.heap.size]? = some (.cells #[.int .i64 0, .int .i64 0, .slice none 0 0, .slice none 0 0] 199 (0, 0))
  kp : Kp R w wr
  lo : w.heap.size < B3

theorem tree_bounds {t : Tree} {n k : Nat} (h : n + t.count ≤ k) (hk : k ≤ 200) : 0 ≤ t.work V1 ∧ t.work V1 ≤ 4200 ∧ 0 ≤ t.span V1 ∧ t.span V1 ≤ 4200 := by
  have h1 := t.work_le V1_le
  have h2 := t.span_le V1_le
  omega

theorem part_set2 {w : World} {b : Nat} {a1 a2 a3 a4 : Value} (h : w.heap[b]? = some (.cells #[a1, a2, a3, a4] 199 (0, 0))) (u : Value) : (w.setCell ⟨b, 2, none⟩ u).heap[b]? = some (.cells #[a1, a2, u, a4] 199 (0, 0)) := by
  have := heap_setCell_same w b 2 _ 199 u h
  simpa using this
theorem part_set3 {w : World} {b : Nat} {a1 a2 a3 a4 : Value} (h : w.heap[b]? = some (.cells #[a1, a2, a3, a4] 199 (0, 0))) (u : Value) : (w.setCell ⟨b, 3, none⟩ u).heap[b]? = some (.cells #[a1, a2, a3, u] 199 (0, 0)) := by
  have := heap_setCell_same w b 3 _ 199 u h
  simpa using this

set_option maxRecDepth 100000 in
set_option maxHeartbeats 8000000 in
theorem weave_of (n : Nat) (ih : ReadOk 176 .chain n) : ReadOk 149 .weave n := by
  intro R l i ts A w hl hi hn hts hr
  have hRl := hr.lt
  obtain ⟨i3, hi3, hz0, hz1, hz2⟩ := info_parts Tryz.info3
  have hch := ih R l i ts _ _ hl hi hn hts (hr.old.alloc part0)
  have HIH : Hid (ReadOk 176 .chain n) := ih
  clear hr ih
  unfold part0 at hch
  go_enter Tryz.func149, Tryz.ntmps149
  go_wp2_with fail
  refine hch.mono ?_
  rintro e w1 ⟨hk, h⟩
  clear hch
  have hkZ : Kp R w w1 := ((Kp.refl R w).alloc _).trans hk
  have hN1 : w1.heap[w.heap.size]? = some (.cells #[.int .i64 0, .int .i64 0, .slice none 0 0, .slice none 0 0] 199 (0, 0)) := hk.other (k := w.heap.size) (blk_alloc_new _ _) (by omega) (by decide)
  have hs1 : w.heap.size < w1.heap.size := lt_of_block hN1
  clear hk
  rcases h with ⟨hno, rfl⟩ | ⟨t, k, fv, lv, hg, hik, hkl, hct, rfl, hrd, hpr⟩
  · exact ⟨rfl, hkZ, Or.inl ⟨Gr.weaveNo hno, rfl⟩⟩
  obtain ⟨fg, fc, lg, lc, rfl, rfl⟩ := hpr.shapes
  unfold partV
  have hle : w.heap.size ≤ (w.alloc (Obj.cells #[.int .i64 0, .int .i64 0, .slice none 0 0, .slice none 0 0] 199)).heap.size := by simp
  have HGO : Hid (Going .weave .weaveL R l i ts A w w1.heap.size (w1.alloc (.cells #[.int .i64 (t.work V1), .int .i64 (t.span V1), .slice (some ⟨fg, 0, none⟩) (t.first ts.length).length fc, .slice (some ⟨lg, 0, none⟩) (t.last ts.length).length lc] 199)) t k fg fc lg lc) :=
    { gr := fun r h => Gr.weaveOf hg h, ik := hik, kl := hkl, ct := hct, rd := (hrd.allow (fun k h _ => h.mono hle)).alloc _, pr := (hpr.mono hle).alloc _, b3 := blk_alloc_new _ _, n0 := (Below.heap_alloc _ _ _ hs1).trans hN1, kp := hkZ.alloc _, lo := hs1 }
  clear hg hik hkl hct hrd hpr hkZ hN1 hle
  go_wp2_with fail
  obtain ⟨B3, hB3⟩ : ∃ B3, w1.heap.size = B3 := ⟨_, rfl⟩
  rw [hB3] at HGO ⊢
  go_loopg [] l.length (fun gg wr => ∃ t k fg fc lg lc, Hid (Going .weave .weaveL R l i ts A w B3 wr t k fg fc lg lc) ∧ l.length - k ≤ gg)
  case atStart => exact ⟨t, k, fg, fc, lg, lc, HGO, by omega⟩
  case round =>
    clear HGO
    obtain ⟨t, k, fg, fc, lg, lc, HG, hgg⟩ := hrel
    have hlo := HG.out.lo
    have htk := take_any R l k _ _ 124 wr hl HG.out.kl HG.out.rd
    go_wp2_with fail
    refine htk.mono ?_
    rintro e w2 ⟨hk2, h⟩
    clear htk
    obtain ⟨cR, hcR⟩ := HG.out.rd.typed
    have hkp2 := HG.out.kp.trans hk2
    have hB2 := hk2.other HG.out.b3 (by omega) (by decide)
    have hN2 := hk2.other HG.out.n0 (by omega) (by decide)
    have hpr2 := HG.out.pr.kp hcR hk2
    have hik := HG.out.ik
    have hkl := HG.out.kl
    have hct := HG.out.ct
    clear hcR hk2
    rcases h with ⟨hne, rfl, hrd2⟩ | ⟨hil, hdr, rfl, hrd2⟩
    · have HGR : Hid (Gr .weave (l.drop i) (some (t, l.drop k))) := HG.out.gr _ (Gr.weaveEnd hne)
      have HRD : Hid (Rd R l k (t.lay V1 ts) (Allow A w.heap.size (.slice (some ⟨fg, 0, none⟩) (t.first ts.length).length fc) (.slice (some ⟨lg, 0, none⟩) (t.last ts.length).length lc)) w2) := hrd2
      have HPR : Hid (PartRows w.heap.size w2 ts.length t (.slice (some ⟨fg, 0, none⟩) (t.first ts.length).length fc) (.slice (some ⟨lg, 0, none⟩) (t.last ts.length).length lc)) := hpr2
      obtain ⟨q0, q1, q2, q3, qf⟩ := part_cells hN2
      have qf0 := qf 0
      have qf1 := qf 1
      have qf2 := qf 2
      have qf3 := qf 3
      obtain ⟨r0, r1, r2, r3, _⟩ := part_cells hB2
      clear qf hrd2 hpr2 HG hne
      go_wp2
      exact reads_done Tryz.results149 rfl rfl (Nat.le_refl _) hkp2 hN2 HGR.out hik hkl hct HRD.out HPR.out
    · have hlen : (t.lay V1 ts).length = ts.length + t.count := t.lay_length V1 ts
      have hch := HIH.out R l (k + 1) (t.lay V1 ts) _ w2 hl (by omega) (by omega) (by omega) hrd2.old
      have HGR : Hid (∀ r, Gr (.weaveL t) (l.drop k) r → Gr .weave (l.drop i) r) := HG.out.gr
      obtain ⟨cR2, hcR2⟩ := hrd2.typed
      clear HG hrd2
      go_wp2_with fail
      refine hch.mono ?_
      rintro e w3 ⟨hk3, h⟩
      clear hch
      have hkp3 := hkp2.trans hk3
      have hs3 := hk3.size
      have hB3' := hk3.other hB2 (by omega) (by decide)
      have hN3 := hk3.other hN2 (by omega) (by decide)
      have hpr3 := hpr2.kp hcR2 hk3
      clear hcR2 hk3 hB2 hN2
      rcases h with ⟨hno, rfl⟩ | ⟨t2, k2, fv2, lv2, hg2, hik2, hkl2, hct2, rfl, hrd3, hpq⟩
      · refine ⟨rfl, hkp3, Or.inl ⟨HGR.out _ ?_, rfl⟩⟩
        rw [hdr]
        exact Gr.weaveBad hno
      · obtain ⟨fg2, fc2, lg2, lc2, rfl, rfl⟩ := hpq.shapes
        rw [hlen] at hpq hct2 ⊢
        unfold partV
        obtain ⟨hf1, hf2, hg1, hg2', hne⟩ := hpr2.blocks
        obtain ⟨pf1, pf2, pg1, pg2, pne⟩ := hpq.blocks
        have hrd4 : Rd R l k2 (t2.lay V1 (t.lay V1 ts)) (fun q => q < w3.heap.size ∧ q ≠ fg ∧ q ≠ lg ∧ (q < w.heap.size → Old A w.heap.size q)) w3 := hrd3.allow (fun q h hq => by
          rcases h with ⟨⟨h, h1⟩, _⟩ | ⟨h, _⟩
          · rcases h with h | ⟨h2, h3, h4⟩
            · have := h.2
              exact ⟨hq, by omega, by omega, fun _ => h⟩
            · simp only [Value.ownBlock, ne_eq, Option.some.injEq] at h3 h4
              exact ⟨hq, fun e => h3 e.symm, fun e => h4 e.symm, fun h => by omega⟩
          · exact ⟨hq, by omega, by omega, fun h => by omega⟩)
        have hbd1 := tree_bounds hct (by omega)
        have hbd2 := tree_bounds hct2 (by omega)
        have hb3l : B3 < w3.heap.size := lt_of_block hB3'
        have hn0l : w.heap.size < w3.heap.size := lt_of_block hN3
        have HGR2 : Hid (∀ r, Gr (.weaveL (.par t t2)) (l.drop k2) r → Gr .weave (l.drop i) r) := fun r h => HGR.out r (by rw [hdr]; exact Gr.weaveMore hg2 h)
        have hfl := t.first_len ts.length
        have hll := t.last_len ts.length
        have hfl2 := t2.first_len (ts.length + t.count)
        have hll2 := t2.last_len (ts.length + t.count)
        obtain ⟨mx, hmx⟩ : ∃ mx, mx = max (t.span V1) (t2.span V1) := ⟨_, rfl⟩
        have HMX : Hid (mx = max (t.span V1) (t2.span V1)) := hmx
        obtain ⟨r0, r1, r2, r3, rf⟩ := part_cells hB3'
        have rf0 := rf 0
        have rf1 := rf 1
        -- the memory ahead of the first append
        have hc0 := heap_setCell_same w3 B3 0 _ 199 (.int .i64 (t.work V1 + t2.work V1)) hB3'
        have hc1 := heap_setCell_same _ B3 1 _ 199 (.int .i64 mx) hc0
        have hrdW := ((hrd4.setPart hB3' 0 (.int .i64 (t.work V1 + t2.work V1))).setPart hc0 1 (.int .i64 mx)).alloc (.cells #[.int .i64 (t2.work V1), .int .i64 (t2.span V1), .slice (some ⟨fg2, 0, none⟩) (t2.first (ts.length + t.count)).length fc2, .slice (some ⟨lg2, 0, none⟩) (t2.last (ts.length + t.count)).length lc2] 199)
        have hF := ((hpr3.1.setPart hB3' 0 (.int .i64 (t.work V1 + t2.work V1))).setPart hc0 1 (.int .i64 mx)).alloc (.cells #[.int .i64 (t2.work V1), .int .i64 (t2.span V1), .slice (some ⟨fg2, 0, none⟩) (t2.first (ts.length + t.count)).length fc2, .slice (some ⟨lg2, 0, none⟩) (t2.last (ts.length + t.count)).length lc2] 199)
        have hL := ((hpr3.2.1.setPart hB3' 0 (.int .i64 (t.work V1 + t2.work V1))).setPart hc0 1 (.int .i64 mx)).alloc (.cells #[.int .i64 (t2.work V1), .int .i64 (t2.span V1), .slice (some ⟨fg2, 0, none⟩) (t2.first (ts.length + t.count)).length fc2, .slice (some ⟨lg2, 0, none⟩) (t2.last (ts.length + t.count)).length lc2] 199)
        have hF2 := ((hpq.1.setPart hB3' 0 (.int .i64 (t.work V1 + t2.work V1))).setPart hc0 1 (.int .i64 mx)).alloc (.cells #[.int .i64 (t2.work V1), .int .i64 (t2.span V1), .slice (some ⟨fg2, 0, none⟩) (t2.first (ts.length + t.count)).length fc2, .slice (some ⟨lg2, 0, none⟩) (t2.last (ts.length + t.count)).length lc2] 199)
        have hL2 := ((hpq.2.1.setPart hB3' 0 (.int .i64 (t.work V1 + t2.work V1))).setPart hc0 1 (.int .i64 mx)).alloc (.cells #[.int .i64 (t2.work V1), .int .i64 (t2.span V1), .slice (some ⟨fg2, 0, none⟩) (t2.first (ts.length + t.count)).length fc2, .slice (some ⟨lg2, 0, none⟩) (t2.last (ts.length + t.count)).length lc2] 199)
        have hkpW := ((hkp3.setNew (b := B3) (by omega) 0 (.int .i64 (t.work V1 + t2.work V1))).setNew (b := B3) (by omega) 1 (.int .i64 mx)).alloc (.cells #[.int .i64 (t2.work V1), .int .i64 (t2.span V1), .slice (some ⟨fg2, 0, none⟩) (t2.first (ts.length + t.count)).length fc2, .slice (some ⟨lg2, 0, none⟩) (t2.last (ts.length + t.count)).length lc2] 199)
        obtain ⟨W4, hW4⟩ : ∃ W4, (((w3.setCell ⟨B3, 0, none⟩ (.int .i64 (t.work V1 + t2.work V1))).setCell ⟨B3, 1, none⟩ (.int .i64 mx)).alloc (.cells #[.int .i64 (t2.work V1), .int .i64 (t2.span V1), .slice (some ⟨fg2, 0, none⟩) (t2.first (ts.length + t.count)).length fc2, .slice (some ⟨lg2, 0, none⟩) (t2.last (ts.length + t.count)).length lc2] 199)) = W4 := ⟨_, rfl⟩
        have HW4 : Hid ((((w3.setCell ⟨B3, 0, none⟩ (.int .i64 (t.work V1 + t2.work V1))).setCell ⟨B3, 1, none⟩ (.int .i64 mx)).alloc (.cells #[.int .i64 (t2.work V1), .int .i64 (t2.span V1), .slice (some ⟨fg2, 0, none⟩) (t2.first (ts.length + t.count)).length fc2, .slice (some ⟨lg2, 0, none⟩) (t2.last (ts.length + t.count)).length lc2] 199)) = W4) := hW4
        have hBW : W4.heap[B3]? = some (.cells #[.int .i64 (t.work V1 + t2.work V1), .int .i64 mx, .slice (some ⟨fg, 0, none⟩) (t.first ts.length).length fc, .slice (some ⟨lg, 0, none⟩) (t.last ts.length).length lc] 199 (0, 0)) := by
          rw [← hW4, blk_alloc_lt _ _ _ (by simp; omega)]
          simpa using hc1
        have hNW : W4.heap[w.heap.size]? = some (.cells #[.int .i64 0, .int .i64 0, .slice none 0 0, .slice none 0 0] 199 (0, 0)) := by
          rw [← hW4, blk_alloc_lt _ _ _ (by simp; omega), Below.heap_setCell _ _ _ _ (by show w.heap.size ≠ B3; omega), Below.heap_setCell _ _ _ _ (by show w.heap.size ≠ B3; omega)]
          exact hN3
        have hsW : W4.heap.size = w3.heap.size + 1 := by rw [← hW4]; simp
        have hCW : W4.heap[w3.heap.size]? = some (.cells #[.int .i64 (t2.work V1), .int .i64 (t2.span V1), .slice (some ⟨fg2, 0, none⟩) (t2.first (ts.length + t.count)).length fc2, .slice (some ⟨lg2, 0, none⟩) (t2.last (ts.length + t.count)).length lc2] 199 (0, 0)) := by
          rw [← hW4]
          have := blk_alloc_new ((w3.setCell ⟨B3, 0, none⟩ (.int .i64 (t.work V1 + t2.work V1))).setCell ⟨B3, 1, none⟩ (.int .i64 mx)) (.cells #[.int .i64 (t2.work V1), .int .i64 (t2.span V1), .slice (some ⟨fg2, 0, none⟩) (t2.first (ts.length + t.count)).length fc2, .slice (some ⟨lg2, 0, none⟩) (t2.last (ts.length + t.count)).length lc2] 199)
          simpa using this
        have hFx := hF
        have hF2x := World.ownsRow.cells hF2 (g := fg2) rfl
        rw [hW4] at hrdW hF hL hF2 hL2 hkpW
        clear hW4 hc0 hc1 hrd4 hrd3 hpr3 hpr2 hpq hkp3 hkp2 hB3' hN3 rf
        have hmx3 : (t.span V1 < t2.span V1 ∧ mx = t2.span V1) ∨ (¬ t.span V1 < t2.span V1 ∧ mx = t.span V1) := by omega
        clear hmx
        rcases hmx3 with ⟨hsp, rfl⟩ | ⟨hsp, rfl⟩
        all_goals
          go_wp2_with (at_builtin; refine wpList_append_own_at _ rfl (.tmp 24) (.tmp 26) 73 rfl w.heap.size 3 i3 (.int .i64 0) 1 8 Tryz.underlying73 hi3 hz0 hz1 hz2 rfl (by decide) _ (ofNats (t.first ts.length)).length ((ofNats (t.first ts.length)).map (Value.int .i64)) rfl hFx ⟨fg2, 0, none⟩ (t2.first (ts.length + t.count)).length fc2 ((ofNats (t2.first (ts.length + t.count))).map (Value.int .i64)) rfl ?cl hF2x ?c2 ?c3 ?c4 ?c5 ?_)
          case cl => simp [ofNats]
          case c2 => intro u hu; simp at hu; obtain ⟨_, _, rfl⟩ := hu; rfl
          case c3 => rw [ofNats_length]; unfold maxLen; omega
          case c4 => rw [ofNats_length]; omega
          case c5 => simp; omega
          intro v' w5 hown' hgrow _ hloc
          rw [HW4.out] at hgrow
          have hV : RowW w.heap.size w5 v' (ofNats ((Tree.par t t2).first ts.length)) := by
            have e : ofNats ((Tree.par t t2).first ts.length) = ofNats (t.first ts.length) ++ ofNats (t2.first (ts.length + t.count)) := ofNats_append _ _
            unfold RowW
            rw [e, List.length_append, List.map_append, ofNats_length (t2.first (ts.length + t.count))]
            exact hown'
          have hrd5 := hrdW.grownI hF (fun q h e => h.2.1 (Option.some.inj e).symm) hgrow
          have hB5 := grown_other hF hgrow hBW (by decide)
          have hN5 := grown_other hF hgrow hNW (by decide)
          have hL5 := hL.grownI hgrow (by simp [Value.ownBlock]; omega)
          have hL25 := hL2.grownI hgrow (by simp [Value.ownBlock]; omega)
          have hkp5 := hkpW.grown hgrow (fun q e => by cases e; exact Or.inr (Or.inl hf1))
          have hs5 := hgrow.size
          obtain ⟨vg, vc, rfl⟩ := owns_shape hV (by rw [ofNats_length]; exact (Tree.par t t2).first_pos _)
          rw [ofNats_length] at hV ⊢
          have hvg := hV.low (k := vg) rfl
          have hvloc : vg = fg ∨ vg = w3.heap.size + 1 := by simpa [Value.ownBlock] using hloc
          obtain ⟨s0, s1, s2, s3, sf⟩ := part_cells hB5
          have sf2 := sf 2
          have sf3 := sf 3
          -- the memory ahead of the second append
          have hrd6 := hrd5.setPart hB5 2 (.slice (some ⟨vg, 0, none⟩) ((Tree.par t t2).first ts.length).length vc)
          have hL6 := hL5.setPart hB5 2 (.slice (some ⟨vg, 0, none⟩) ((Tree.par t t2).first ts.length).length vc)
          have hL26 := hL25.setPart hB5 2 (.slice (some ⟨vg, 0, none⟩) ((Tree.par t t2).first ts.length).length vc)
          have hV6 := hV.setPart hB5 2 (.slice (some ⟨vg, 0, none⟩) ((Tree.par t t2).first ts.length).length vc)
          have hkp6 := hkp5.setNew (b := B3) (by omega) 2 (.slice (some ⟨vg, 0, none⟩) ((Tree.par t t2).first ts.length).length vc)
          have hN6 : (w5.setCell ⟨B3, 2, none⟩ (.slice (some ⟨vg, 0, none⟩) ((Tree.par t t2).first ts.length).length vc)).heap[w.heap.size]? = some (.cells #[.int .i64 0, .int .i64 0, .slice none 0 0, .slice none 0 0] 199 (0, 0)) := (Below.heap_setCell _ _ _ _ (by show w.heap.size ≠ B3; omega)).trans hN5
          have hB6 := part_set2 hB5 (.slice (some ⟨vg, 0, none⟩) ((Tree.par t t2).first ts.length).length vc)
          have hL26x := World.ownsRow.cells hL26 (g := lg2) rfl
          have hb45 : w3.heap.size < w5.heap.size := by omega
          have hB4 : w5.heap[w3.heap.size]? = some (.cells #[.int .i64 (t2.work V1), .int .i64 (t2.span V1), .slice (some ⟨fg2, 0, none⟩) (t2.first (ts.length + t.count)).length fc2, .slice (some ⟨lg2, 0, none⟩) (t2.last (ts.length + t.count)).length lc2] 199 (0, 0)) := grown_other hF hgrow hCW (by decide)
          obtain ⟨u0, u1, u2, u3, _⟩ := part_cells hB4
          have hne34 : ¬ B3 = w3.heap.size := by omega
          clear hown' hloc hgrow hrd5 hL5 hL25 hkp5 hN5 hB4 sf
          go_wp2_with (at_builtin; refine wpList_append_own_at _ rfl (.tmp 30) (.tmp 32) 73 rfl w.heap.size 3 i3 (.int .i64 0) 1 8 Tryz.underlying73 hi3 hz0 hz1 hz2 rfl (by decide) _ (ofNats (t.last ts.length)).length ((ofNats (t.last ts.length)).map (Value.int .i64)) rfl hL6 ⟨lg2, 0, none⟩ (t2.last (ts.length + t.count)).length lc2 ((ofNats (t2.last (ts.length + t.count))).map (Value.int .i64)) rfl ?el hL26x ?e2 ?e3 ?e4 ?e5 ?_)
          case el => simp [ofNats]
          case e2 => intro u hu; simp at hu; obtain ⟨_, _, rfl⟩ := hu; rfl
          case e3 => rw [ofNats_length]; unfold maxLen; omega
          case e4 => rw [ofNats_length]; omega
          case e5 => simp; omega
          intro v' w7 hown' hgrow _ hloc
          have hU : RowW w.heap.size w7 v' (ofNats ((Tree.par t t2).last ts.length)) := by
            have e : ofNats ((Tree.par t t2).last ts.length) = ofNats (t.last ts.length) ++ ofNats (t2.last (ts.length + t.count)) := ofNats_append _ _
            unfold RowW
            rw [e, List.length_append, List.map_append, ofNats_length (t2.last (ts.length + t.count))]
            exact hown'
          have hrd7 := hrd6.grownI hL6 (fun q h e => h.2.2.1 (Option.some.inj e).symm) hgrow
          have hB7 := grown_other hL6 hgrow hB6 (by decide)
          have hN7 := grown_other hL6 hgrow hN6 (by decide)
          have hV7 := hV6.grownI hgrow (by simp [Value.ownBlock]; omega)
          have hkp7 := hkp6.grown hgrow (fun q e => by cases e; exact Or.inr (Or.inl hg1))
          have hs7 := hgrow.size
          obtain ⟨ug, uc, rfl⟩ := owns_shape hU (by rw [ofNats_length]; exact (Tree.par t t2).last_pos _)
          rw [ofNats_length] at hU ⊢
          have huloc : ug = lg ∨ ug = w5.heap.size := by simpa [Value.ownBlock] using hloc
          obtain ⟨x0, x1, x2, x3, xf⟩ := part_cells hB7
          have xf3 := xf 3
          have hd3 := part_set3 hB7 (.slice (some ⟨ug, 0, none⟩) ((Tree.par t t2).last ts.length).length uc)
          have HNEW : Hid (Going .weave .weaveL R l i ts A w B3 (w7.setCell ⟨B3, 3, none⟩ (.slice (some ⟨ug, 0, none⟩) ((Tree.par t t2).last ts.length).length uc)) (.par t t2) k2 vg vc ug uc) :=
            { gr := HGR2.out, ik := by omega, kl := hkl2, ct := by simp only [Tree.count]; omega
              rd := (hrd7.allow (fun q h _ => by
                by_cases hq : q < w.heap.size
                · exact Or.inl (h.2.2.2 hq)
                · refine Or.inr ⟨by omega, ?_, ?_⟩
                  · simp only [Value.ownBlock, ne_eq, Option.some.injEq]
                    have h1 := h.1
                    have h2 := h.2.1
                    omega
                  · simp only [Value.ownBlock, ne_eq, Option.some.injEq]
                    have h1 := h.1
                    have h2 := h.2.2.1
                    omega)).setPart hB7 3 _
              pr := ⟨hV7.setPart hB7 3 _, hU.setPart hB7 3 _, by simp only [Value.ownBlock, ne_eq, Option.some.injEq]; omega⟩
              b3 := by
                have hm := HMX.out
                simp only [Tree.work, Tree.span]
                rw [← hm]
                exact hd3
              n0 := (Below.heap_setCell _ _ _ _ (by show w.heap.size ≠ B3; omega)).trans hN7
              kp := hkp7.setNew (b := B3) (by omega) 3 _
              lo := hlo }
          clear hown' hloc hgrow hrd7 hB7 hN7 hV7 hkp7 hU hV6 hL6 hrd6 hB6 hN6 hkp6 xf hd3 hV
          go_wp2
          go_roundg (l.length - k2)
          case measure => omega
          case rel => exact ⟨.par t t2, k2, vg, vc, ug, uc, HNEW, Nat.le_refl _⟩
end Go.Proofs.YtlfbdjeojgbniaaGreatDoor

namespace Go.Proofs.YtlfbdjeojgbniaaGreatDoor
open Go.RowKit

/-- What is wrong with the k-th task by itself. -/
def errOf (ts : List (Int × List Int)) (k : Nat) : Int := taskErr (ts.getD k (0, [])).1 (needsOf ts k) ts.length

/-- What Check tells: which task, and how. -/
def CheckIs (ts : List (Int × List Int)) (p q : Int) : Prop :=
  (30 < ts.length ∧ p = 0 ∧ q = 4) ∨
  (∃ k : Nat, ts.length ≤ 30 ∧ k < ts.length ∧ (∀ j, j < k → errOf ts j = 0) ∧ errOf ts k ≠ 0 ∧ p = k ∧ q = errOf ts k) ∨
  (∃ k : Nat, ts.length ≤ 30 ∧ (∀ j, j < ts.length → errOf ts j = 0) ∧ k < ts.length ∧ (∀ j, j < k → ¬ Reach ts j j) ∧ Reach ts k k ∧ p = k ∧ q = 8) ∨
  (ts.length ≤ 30 ∧ (∀ j, j < ts.length → errOf ts j = 0) ∧ (∀ j, j < ts.length → ¬ Reach ts j j) ∧ p = 0 ∧ q = 0)
theorem CheckIs.full {ts : List (Int × List Int)} (h : 30 < ts.length) : CheckIs ts 0 4 := Or.inl ⟨h, rfl, rfl⟩
theorem CheckIs.task {ts : List (Int × List Int)} (k : Nat) (h1 : ts.length ≤ 30) (h2 : k < ts.length) (h3 : ∀ j, j < k → errOf ts j = 0) (h4 : errOf ts k ≠ 0) : CheckIs ts k (errOf ts k) :=
  Or.inr (Or.inl ⟨k, h1, h2, h3, h4, rfl, rfl⟩)
theorem CheckIs.ring {ts : List (Int × List Int)} (k : Nat) (h1 : ts.length ≤ 30) (h2 : ∀ j, j < ts.length → errOf ts j = 0) (h3 : k < ts.length) (h4 : ∀ j, j < k → ¬ Reach ts j j) (h5 : Reach ts k k) : CheckIs ts k 8 :=
  Or.inr (Or.inr (Or.inl ⟨k, h1, h2, h3, h4, h5, rfl, rfl⟩))
theorem CheckIs.none {ts : List (Int × List Int)} (h1 : ts.length ≤ 30) (h2 : ∀ j, j < ts.length → errOf ts j = 0) (h3 : ∀ j, j < ts.length → ¬ Reach ts j j) : CheckIs ts 0 0 :=
  Or.inr (Or.inr (Or.inr ⟨h1, h2, h3, rfl, rfl⟩))
theorem CheckIs.elim {ts : List (Int × List Int)} {motive : ∀ p q, CheckIs ts p q → Prop} (full : ∀ h : 30 < ts.length, motive 0 4 (CheckIs.full h))
    (task : ∀ (k : Nat) (h1 : ts.length ≤ 30) (h2 : k < ts.length) (h3 : ∀ j, j < k → errOf ts j = 0) (h4 : errOf ts k ≠ 0), motive k (errOf ts k) (CheckIs.task k h1 h2 h3 h4))
    (ring : ∀ (k : Nat) (h1 : ts.length ≤ 30) (h2 : ∀ j, j < ts.length → errOf ts j = 0) (h3 : k < ts.length) (h4 : ∀ j, j < k → ¬ Reach ts j j) (h5 : Reach ts k k), motive k 8 (CheckIs.ring k h1 h2 h3 h4 h5))
    (none : ∀ (h1 : ts.length ≤ 30) (h2 : ∀ j, j < ts.length → errOf ts j = 0) (h3 : ∀ j, j < ts.length → ¬ Reach ts j j), motive 0 0 (CheckIs.none h1 h2 h3)) {p q : Int} (h : CheckIs ts p q) : motive p q h := by
  rcases h with ⟨h, rfl, rfl⟩ | ⟨k, h1, h2, h3, h4, rfl, rfl⟩ | ⟨k, h1, h2, h3, h4, h5, rfl, rfl⟩ | ⟨h1, h2, h3, rfl, rfl⟩
  · exact full h
  · exact task k h1 h2 h3 h4
  · exact ring k h1 h2 h3 h4 h5
  · exact none h1 h2 h3

theorem inRange_of {ts : List (Int × List Int)} (h : ∀ j, j < ts.length → errOf ts j = 0) : InRange ts := by
  intro x hx y hy
  have he := h x hx
  unfold errOf taskErr at he
  split at he
  · simp at he
  · split at he
    · simp at he
    · rename_i hn
      have : ∀ z, z ∈ needsOf ts x → inRange z ts.length = true := by
        intro z hz
        cases hr : inRange z ts.length with
        | true => rfl
        | false => exact absurd (List.any_eq_true.2 ⟨z, hz, by simp [hr]⟩) hn
      have := this y hy
      simpa [inRange] using this

theorem errV_zero : errV 0 = .nilIface := rfl
theorem errV_some {n : Int} (h : n ≠ 0) : errV n = .iface 97 (.int .i64 n) := by simp [errV, h]

set_option maxRecDepth 100000 in
set_option maxHeartbeats 4000000 in
theorem check_any (v : Value) (ts : List (Int × List Int)) (w : World) (hp : PlanAt w v ts) :
    Calls Tryz.prog 40 #[v] w fun e w' => (∃ p q, e = .returned (.tuple #[.int .i64 p, errV q]) ∧ CheckIs ts p q) ∧ Below w.heap.size w w' := by
  have HP : Hid (PlanAt w v ts) := hp
  obtain ⟨hl, a, c, rfl, hp⟩ := hp
  by_cases hfull : 30 < ts.length
  · have hfi : (30 : Int) < (ts.length : Int) := by omega
    clear hp
    go_enter Tryz.func40, Tryz.ntmps40
    go_wp2
    go_ret2
    exact ⟨⟨0, 4, rfl, CheckIs.full hfull⟩, Below.refl _ _⟩
  have hfi : ¬ (30 : Int) < (ts.length : Int) := by omega
  go_enter Tryz.func40, Tryz.ntmps40
  go_wp2
  go_loopw [14] (fun s14 wr => ∃ k : Nat, k ≤ ts.length ∧ s14 = .int .i64 k ∧ Below w.heap.size w wr ∧ Hid (∀ j, j < k → errOf ts j = 0)) (fun s14 _ => ts.length - (intOf s14).toNat)
  case atStart => exact ⟨0, Nat.zero_le _, rfl, Below.refl _ _, fun j hj => by omega⟩
  case round =>
    obtain ⟨k, hk, rfl, hb, hno⟩ := hrel
    by_cases hkl : k < ts.length
    · rcases hp with rfl | ⟨b, o, rfl, hbl, hc⟩
      · simp at hkl
      obtain ⟨hc1, nv, hc2, hin⟩ := hc k hkl
      obtain ⟨a2, c2, rfl⟩ : ∃ a2 c2, nv = .slice a2 (needsOf ts k).length c2 := by
        obtain ⟨_, a2, c2, h, _⟩ := hin
        exact ⟨a2, c2, h⟩
      have hc1' := (hb.cell (p := ⟨b, o + k * 2, none⟩) hbl).trans hc1
      have hc2' := (hb.cell (p := ⟨b, o + k * 2 + 1, none⟩) hbl).trans hc2
      have hin' := hin.later (hb.alloc hb.size (.cells #[.int .i64 (ts.getD k (0, [])).1, .slice a2 (needsOf ts k).length c2] 94))
      have hct := checkTask_any (ts.getD k (0, [])).1 _ (needsOf ts k) ts.length _ hin'
      have HE : Hid (taskErr (ts.getD k (0, [])).1 (needsOf ts k) ts.length = errOf ts k) := rfl
      clear hc hc1 hc2 hin hin'
      generalize (ts.getD k (0, [])).1 = wk at *
      rw [HE.out] at hct
      clear HE
      by_cases he : errOf ts k = 0
      · rw [he, errV_zero] at hct
        have HZ : Hid (errOf ts k = 0) := he
        clear he
        go_wp2_with (go_at_call 78; refine hct.mono ?_; rintro e w' ⟨rfl, hb1⟩)
        go_roundw
        case rel =>
          refine ⟨k + 1, by omega, by go_num, (hb.alloc hb.size _).trans (hb1.mono (by have := hb.size; simp; omega)), fun j hj => ?_⟩
          by_cases e : j = k
          · subst e; exact HZ.out
          · exact hno.out j (by omega)
        case measure => simp [intOf]; omega
      · have hev := errV_some he
        rw [hev] at hct
        have HZ : Hid (errOf ts k ≠ 0) := he
        have HV : Hid (errV (errOf ts k) = .iface 97 (.int .i64 (errOf ts k))) := hev
        clear he hev
        go_wp2_with (go_at_call 78; refine hct.mono ?_; rintro e w' ⟨rfl, hb1⟩)
        go_ret2
        refine ⟨⟨k, errOf ts k, by rw [HV.out]; rfl, CheckIs.task k (by omega) hkl hno.out HZ.out⟩, (hb.alloc hb.size _).trans (hb1.mono (by have := hb.size; simp; omega))⟩
    · have hall : Hid (∀ j, j < ts.length → errOf ts j = 0) := fun j hj => hno.out j (by omega)
      clear hno
      go_wp2
      go_loopw [30] (fun s30 wr => ∃ k : Nat, k ≤ ts.length ∧ s30 = .int .i64 k ∧ Below w.heap.size w wr ∧ Hid (∀ j, j < k → ¬ Reach ts j j)) (fun s30 _ => ts.length - (intOf s30).toNat)
      case atStart => exact ⟨0, Nat.zero_le _, rfl, hb, fun j hj => by omega⟩
      case round =>
        clear hb hkl hk
        obtain ⟨m, hm, rfl, hb, hno⟩ := hrel
        by_cases hml : m < ts.length
        · have hrg := inRing_any _ ts m _ (HP.out.later hb) hml (inRange_of hall.out)
          by_cases hR : Reach ts m m
          · have hrg' := hrg.mono (R' := fun e w' => e = .returned (.bool true) ∧ Below wr.heap.size wr w') (fun e w' ⟨⟨bb, h1, h2⟩, h3⟩ => ⟨by rw [h1, h2.2 hR], h3⟩)
            have HRR : Hid (Reach ts m m) := hR
            clear hrg hR hp
            go_wp2_with (go_at_call 79; refine hrg'.mono ?_; rintro e w' ⟨rfl, hb1⟩)
            go_ret2
            exact ⟨⟨m, 8, rfl, CheckIs.ring m (by omega) hall.out hml hno.out HRR.out⟩, hb.trans (hb1.mono hb.size)⟩
          · have hrg' := hrg.mono (R' := fun e w' => e = .returned (.bool false) ∧ Below wr.heap.size wr w') (fun e w' ⟨⟨bb, h1, h2⟩, h3⟩ => ⟨by rw [h1, Bool.eq_false_iff.2 (fun h => hR (h2.1 h))], h3⟩)
            have HRR : Hid (¬ Reach ts m m) := hR
            clear hrg hR hp
            go_wp2_with (go_at_call 79; refine hrg'.mono ?_; rintro e w' ⟨rfl, hb1⟩)
            go_roundw
            case rel =>
              refine ⟨m + 1, by omega, by go_num, hb.trans (hb1.mono hb.size), fun j hj => ?_⟩
              by_cases e : j = m
              · subst e; exact HRR.out
              · exact hno.out j (by omega)
            case measure => simp [intOf]; omega
        · clear hp
          go_wp2
          go_ret2
          exact ⟨⟨0, 0, rfl, CheckIs.none (by omega) hall.out (fun j hj => hno.out j (by omega))⟩, hb⟩
end Go.Proofs.YtlfbdjeojgbniaaGreatDoor
