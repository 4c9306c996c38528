/- The contracts of slices.Clone at []int, and of weave's link. -/
import Derived.Test.YtkcpimbhfmhjgaaWd
import Derived.Lib.SliceRun
namespace Go.Proofs.Ytkcpimbhfmhjgaa
open Go.RowKit Go.Deep

set_option maxRecDepth 100000 in
set_option maxHeartbeats 1000000 in
theorem clone_any (b : Nat) (v : Value) (zs : List Int) (w : World) (hz : RowW b w v zs) (h0 : 0 < zs.length) (hl : zs.length ≤ 1000) :
    Calls Try.prog 71 #[v] w fun e w' => ∃ nv, e = .returned nv ∧ RowW w.heap.size w' nv zs ∧ Below w.heap.size w w' := by
  obtain ⟨i3, hi3, hz0, hz1, hz2⟩ := info_parts Try.info3
  have hA := hz.alloc (.cells #[] 3)
  obtain ⟨g, cap, rfl⟩ := owns_shape hz h0
  have hsrc := World.ownsRow.cells hA (g := g) rfl
  have hemp : (w.alloc (.cells #[] 3)).ownsRow w.heap.size 3 1 (.slice (some ⟨w.heap.size, 0, none⟩) 0 0) 0 [] := World.ownsRow_lit (base := w.heap.size) (e := 3) (size := 1) w #[] 0 (Nat.le_refl _) (by unfold maxLen; omega) rfl
  have HA : Hid (RowW b (w.alloc (.cells #[] 3)) (.slice (some ⟨g, 0, none⟩) zs.length cap) zs) := hA
  clear hA hz
  have hnil := fun (wx : World) => Lib.run_eql_slice_nil (P := Try.prog) wx 32 3 (some ⟨g, 0, none⟩) zs.length cap 0 0 Try.underlying32
  go_enter Try.func71, Try.ntmps71
  go_wp2_with (at_builtin; refine wpList_append_own _ rfl (.tmp 5) (.tmp 6) 32 rfl w.heap.size 3 i3 (.int .i64 0) 1 8 Try.underlying32 hi3 hz0 hz1 hz2 rfl (by decide) _ 0 [] rfl hemp ⟨g, 0, none⟩ zs.length cap (zs.map (Value.int .i64)) rfl (by simp) hsrc ?c2 ?c3 ?c4 ?c5 ?_)
  case c2 => intro u hu; simp at hu; obtain ⟨_, _, rfl⟩ := hu; rfl
  case c3 => unfold maxLen; omega
  case c4 => omega
  case c5 => simp
  intro v' w1 hown' hgrow _
  replace hown' : w1.ownsRow w.heap.size 3 1 v' zs.length (zs.map (Value.int .i64)) := by simpa using hown'
  obtain ⟨vg, vc, rfl⟩ := owns_shape hown' h0
  have hB : Below w.heap.size w w1 := ((Below.refl _ _).alloc (Nat.le_refl _) _).grown hgrow (by simp) (fun k e => by simp [Value.ownBlock] at e; omega)
  go_wp2
  go_ret
  exact ⟨_, rfl, hown', hB⟩

/-- What a reader of a kind answers. -/
def ReadsTo (K : Kind) (R : Nat) (l : List UInt8) (i : Nat) (ts : List (Int × List Int)) (A : Nat → Prop) (w : World) (e : Ending) (w' : World) : Prop :=
  Kp R w w' ∧ ((Gr K (l.drop i) none ∧ e = .panicked [{ v := synErr, recovered := false }]) ∨
    ∃ t k fv lv, Gr K (l.drop i) (some (t, l.drop k)) ∧ i < k ∧ k ≤ l.length ∧ ts.length + t.count ≤ k ∧ e = .returned (partV t fv lv) ∧ Rd R l k (t.lay V1 ts) (Allow A w.heap.size fv lv) w' ∧ PartRows w.heap.size w' ts.length t fv lv)
def ReadOk (f : Nat) (K : Kind) (n : Nat) : Prop := ∀ R l i ts A w, l.length ≤ 200 → i ≤ l.length → l.length - i ≤ n → ts.length ≤ i → Rd R l i ts A w → Calls Try.prog f #[.pointer (some ⟨R, 0, none⟩)] w (ReadsTo K R l i ts A w)

theorem ofNats_length (l : List Nat) : (ofNats l).length = l.length := by simp [ofNats]
theorem PartRows.shapes {b : Nat} {w : World} {n : Nat} {t : Tree} {fv lv : Value} (h : PartRows b w n t fv lv) : ∃ fg fc lg lc, fv = .slice (some ⟨fg, 0, none⟩) (t.first n).length fc ∧ lv = .slice (some ⟨lg, 0, none⟩) (t.last n).length lc := by
  obtain ⟨h1, h2, _⟩ := h
  obtain ⟨fg, fc, e1⟩ := owns_shape h1 (by rw [ofNats_length]; exact t.first_pos n)
  obtain ⟨lg, lc, e2⟩ := owns_shape h2 (by rw [ofNats_length]; exact t.last_pos n)
  rw [ofNats_length] at e1 e2
  exact ⟨fg, fc, lg, lc, e1, e2⟩
theorem PartRows.mono {b b' : Nat} {w : World} {n : Nat} {t : Tree} {fv lv : Value} (h : PartRows b w n t fv lv) (hb : b' ≤ b) : PartRows b' w n t fv lv := ⟨h.1.mono hb, h.2.1.mono hb, h.2.2⟩
theorem PartRows.setP {b : Nat} {w : World} {n : Nat} {t : Tree} {fv lv : Value} {g : Nat} {o1 o2 o3 o4 : Value} (h : PartRows b w n t fv lv) (hg : w.heap[g]? = some (.cells #[o1, o2, o3, o4] 49 (0, 0))) (a1 a2 a3 a4 : Value) : PartRows b (setP w g a1 a2 a3 a4) n t fv lv := ⟨h.1.setP hg _ _ _ _, h.2.1.setP hg _ _ _ _, h.2.2⟩
theorem PartRows.alloc {b : Nat} {w : World} {n : Nat} {t : Tree} {fv lv : Value} (h : PartRows b w n t fv lv) (o : Obj) : PartRows b (w.alloc o) n t fv lv := ⟨h.1.alloc o, h.2.1.alloc o, h.2.2⟩
theorem PartRows.kp {R b : Nat} {w w' : World} {n : Nat} {t : Tree} {fv lv : Value} {cs : Array Value} (h : PartRows b w n t fv lv) (hR : w.heap[R]? = some (.cells cs 77 (0, 0))) (hk : Kp R w w') : PartRows b w' n t fv lv := ⟨h.1.kp hR hk, h.2.1.kp hR hk, h.2.2⟩
theorem Allow.mono {A : Nat → Prop} {n n' : Nat} {fv lv : Value} (h : n' ≤ n) {k : Nat} (hk : Allow (Old A n') n fv lv k) : Allow A n' fv lv k := hk.imp (fun h => h.1) (fun ⟨h1, h2⟩ => ⟨Nat.le_trans h h1, h2⟩)

/-- The block of a part that holds nothing yet. -/
def part0 : Obj := .cells #[.int .i64 0, .int .i64 0, .slice none 0 0, .slice none 0 0] 49

/-- A reader has read: what it tells is laid, and told. -/
theorem reads_done {fn : Func} {a : Act} {K : Kind} {R : Nat} {l : List UInt8} {i : Nat} {ts : List (Int × List Int)} {A : Nat → Prop} {w w2 : World} {t : Tree} {k b : Nat} {fv lv o1 o2 o3 o4 : Value} (hres : fn.results = #[ResultVar.cell 2 49]) (ht : a.tmps[2]? = some (.pointer (some ⟨b, 0, none⟩))) (hd : a.defers = [])
    (hb : w.heap.size ≤ b) (hkp : Kp R w w2) (hblk : w2.heap[b]? = some (.cells #[o1, o2, o3, o4] 49 (0, 0))) (hg : Gr K (l.drop i) (some (t, l.drop k))) (hik : i < k) (hkl : k ≤ l.length) (hc : ts.length + t.count ≤ k)
    (hrd : Rd R l k (t.lay V1 ts) (Allow A w.heap.size fv lv) w2) (hpr : PartRows w.heap.size w2 ts.length t fv lv) :
    bodyPost Try.prog fn (ReadsTo K R l i ts A w) Exit.ret a (setP w2 b (.int .i64 (t.work V1)) (.int .i64 (t.span V1)) fv lv) :=
  part_ret hres (setP_block hblk _ _ _ _) ht hd ⟨hkp.setP hb _ _ _ _, Or.inr ⟨t, k, fv, lv, hg, hik, hkl, hc, rfl, hrd.setP hblk _ _ _ _, hpr.setP hblk _ _ _ _⟩⟩

set_option maxRecDepth 100000 in
set_option maxHeartbeats 4000000 in
theorem link_of (n : Nat) (ih : ∀ m, m < n → ReadOk 32 .weave m) : ReadOk 70 .link n := by
  intro R l i ts A w hl hi hn hts hr
  have hRl := hr.lt
  replace hr := hr.old
  have htk := take_any R l i ts _ 40 _ hl hi (hr.alloc part0)
  clear hr
  unfold part0 at htk
  go_enter Try.func70, Try.ntmps70
  go_wp2_with fail
  refine htk.mono ?_
  rintro e w1 ⟨hk, h⟩
  clear htk
  have hkZ : Kp R w w1 := ((Kp.refl R w).alloc _).trans hk
  have hN1 : w1.heap[w.heap.size]? = some (.cells #[.int .i64 0, .int .i64 0, .slice none 0 0, .slice none 0 0] 49 (0, 0)) := hk.other (k := w.heap.size) (blk_alloc_new _ _) (by omega) (by decide)
  clear hk
  have hs1 := hkZ.size
  rcases h with ⟨hne, rfl, hrd⟩ | ⟨hil, hdr, rfl, hrd⟩
  · have htask := task_any R l i ts _ w1 hl hi hts hrd
    go_wp2_with fail
    refine htask.mono ?_
    rintro e w2 ⟨hk2, h⟩
    clear htask
    have hkZ2 : Kp R w w2 := hkZ.trans hk2
    have hN2 := hk2.other hN1 (by omega) (by decide)
    rcases h with ⟨hno, rfl⟩ | ⟨p, k, fv, lv, hso, hik, hkl, rfl, hrd2, hpr⟩
    · exact ⟨rfl, hkZ2, Or.inl ⟨by have := Gr.num hne; rwa [hno] at this, rfl⟩⟩
    · have HG : Hid (Gr .link (l.drop i) (some (.num p, l.drop k))) := by have := Gr.num hne; rwa [hso] at this
      have HRD : Hid (Rd R l k ((Tree.num p).lay V1 ts) (Old A w.heap.size) w2) := hrd2
      have HPR : Hid (PartRows w1.heap.size w2 ts.length (.num p) fv lv) := hpr
      obtain ⟨fg, fc, lg, lc, rfl, rfl⟩ := hpr.shapes
      unfold partV
      clear hpr hrd2 hso hne hrd
      obtain ⟨q0, q1, q2, q3, qf⟩ := part_cells hN2
      have qf0 := qf 0
      have qf1 := qf 1
      have qf2 := qf 2
      have qf3 := qf 3
      clear qf
      go_wp2
      exact reads_done Try.results70 rfl rfl (Nat.le_refl _) hkZ2 hN2 HG.out hik hkl (by simp [Tree.count]; omega) (HRD.out.allow (fun k h _ => Or.inl h)) (HPR.out.mono hs1)
  · have hw := ih (l.length - (i + 1)) (by omega) R l (i + 1) ts _ w1 hl (by omega) (Nat.le_refl _) (by omega) hrd
    go_wp2_with fail
    refine hw.mono ?_
    rintro e w2 ⟨hk2, h⟩
    clear hw
    have hkZ2 : Kp R w w2 := hkZ.trans hk2
    have hN2 := hk2.other hN1 (by omega) (by decide)
    rcases h with ⟨hno, rfl⟩ | ⟨t, k, fv, lv, hg, hik, hkl, hct, rfl, hrd2, hpr⟩
    · refine ⟨rfl, hkZ2, Or.inl ⟨?_, rfl⟩⟩
      rw [hdr]
      exact Gr.opened hno
    · have HPR : Hid (PartRows w1.heap.size w2 ts.length t fv lv) := hpr
      obtain ⟨fg, fc, lg, lc, rfl, rfl⟩ := hpr.shapes
      have htk := take_any R l k (t.lay V1 ts) _ 41 _ hl hkl (hrd2.alloc (.cells #[.int .i64 (t.work V1), .int .i64 (t.span V1), .slice (some ⟨fg, 0, none⟩) (t.first ts.length).length fc, .slice (some ⟨lg, 0, none⟩) (t.last ts.length).length lc] 49))
      have hb3 := blk_alloc_new w2 (.cells #[.int .i64 (t.work V1), .int .i64 (t.span V1), .slice (some ⟨fg, 0, none⟩) (t.first ts.length).length fc, .slice (some ⟨lg, 0, none⟩) (t.last ts.length).length lc] 49)
      have hpr3 := hpr.alloc (.cells #[.int .i64 (t.work V1), .int .i64 (t.span V1), .slice (some ⟨fg, 0, none⟩) (t.first ts.length).length fc, .slice (some ⟨lg, 0, none⟩) (t.last ts.length).length lc] 49)
      obtain ⟨cR, hcR⟩ := (hrd2.alloc (.cells #[.int .i64 (t.work V1), .int .i64 (t.span V1), .slice (some ⟨fg, 0, none⟩) (t.first ts.length).length fc, .slice (some ⟨lg, 0, none⟩) (t.last ts.length).length lc] 49)).typed
      have hN3 := (Below.heap_alloc w2 (.cells #[.int .i64 (t.work V1), .int .i64 (t.span V1), .slice (some ⟨fg, 0, none⟩) (t.first ts.length).length fc, .slice (some ⟨lg, 0, none⟩) (t.last ts.length).length lc] 49) _ (lt_of_block hN2)).trans hN2
      have hsz2 : w.heap.size < w2.heap.size := lt_of_block hN2
      unfold partV
      go_wp2_with fail
      refine htk.mono ?_
      rintro e w3 ⟨hk3, h⟩
      clear htk
      have hkZ3 : Kp R w w3 := (hkZ2.alloc _).trans hk3
      have HB3 := hk3.other hb3 (by omega) (by decide)
      have HN3 := hk3.other hN3 (by omega) (by decide)
      have HP3 : Hid (PartRows w1.heap.size w3 ts.length t _ _) := hpr3.kp hcR hk3
      clear hb3 hN3 hpr3 hcR hpr hrd2 hk3 HPR
      rcases h with ⟨hne, rfl, hrd3⟩ | ⟨hil3, hdr3, rfl, hrd3⟩
      · have HG : Hid (Gr .link (l.drop i) none) := by
          show Gr _ _ _
          rw [hdr]
          exact Gr.unshut hg hne
        go_wp2
        exact ⟨rfl, hkZ3, Or.inl ⟨HG.out, rfl⟩⟩
      · have HG : Hid (Gr .link (l.drop i) (some (t, l.drop (k + 1)))) := by
          show Gr _ _ _
          rw [hdr]
          rw [hdr3] at hg
          exact Gr.signs hg
        obtain ⟨q0, q1, q2, q3, qf⟩ := part_cells HN3
        have qf0 := qf 0
        have qf1 := qf 1
        have qf2 := qf 2
        have qf3 := qf 3
        obtain ⟨r0, r1, r2, r3, _⟩ := part_cells HB3
        clear qf hdr hdr3 hg
        have HRD3 : Hid (Rd R l (k + 1) (t.lay V1 ts) (Allow (Old A w.heap.size) w1.heap.size _ _) w3) := hrd3
        clear hrd3
        go_wp2
        exact reads_done Try.results70 rfl rfl (Nat.le_refl _) hkZ3 HN3 HG.out (by omega) (by omega) (by omega) (HRD3.out.allow (fun k h _ => h.mono hs1)) (HP3.out.mono hs1)
end Go.Proofs.Ytkcpimbhfmhjgaa
