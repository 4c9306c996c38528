/- The contract of weave's read. -/
import Derived.Test.YtkcpimbhfmhjgaaWh
namespace Go.Proofs.Ytkcpimbhfmhjgaa
open Go.RowKit Go.Deep

/-- A text is a weave. -/
def Whole (l : List UInt8) (t : Tree) : Prop := Gr .weave l (some (t, []))
/-- A text is none. -/
def Broken (l : List UInt8) : Prop := ∃ r, Gr .weave l r ∧ ∀ t, r ≠ some (t, [])
theorem Whole.det {l : List UInt8} {t t' : Tree} (h : Whole l t) (h' : Whole l t') : t = t' := by
  have := Gr.det h h'
  simp at this
  exact this
theorem Broken.not {l : List UInt8} (h : Broken l) (t : Tree) : ¬ Whole l t := fun hw => by
  obtain ⟨r, h1, h2⟩ := h
  exact h2 t (Gr.det h1 hw)

/-- What read answers. -/
def ReadOut (l : List UInt8) (w : World) (e : Ending) (w' : World) : Prop :=
  Below w.heap.size w w' ∧ ((∃ t tv fv lv, Whole l t ∧ t.count ≤ l.length ∧ e = .returned (.tuple #[tv, partV t fv lv, .nilIface]) ∧ (∃ fg fn fc lg ln lc, fv = .slice (some ⟨fg, 0, none⟩) fn fc ∧ lv = .slice (some ⟨lg, 0, none⟩) ln lc) ∧ RowT w.heap.size (fun _ => True) w' tv (t.lay V1 [])) ∨
    (Broken l ∧ e = .returned (.tuple #[.slice none 0 0, .agg #[.int .i64 0, .int .i64 0, .slice none 0 0, .slice none 0 0], synErr])))

theorem RowT.mono {b b' : Nat} {A : Nat → Prop} {w : World} {v : Value} {ts : List (Int × List Int)} (h : RowT b A w v ts) (hb : b' ≤ b) : RowT b' A w v ts := by
  obtain ⟨xs, ho, hx⟩ := h
  refine ⟨xs, ?_, fun j hj => ?_⟩
  · rcases ho.2 with hn | ⟨g, cap, cur, hv, hg, r⟩
    · exact ⟨ho.1, Or.inl hn⟩
    · exact ⟨ho.1, Or.inr ⟨g, cap, cur, hv, Nat.le_trans hb hg, r⟩⟩
  · obtain ⟨h1, nv, h2, h3, h4⟩ := hx j hj
    exact ⟨h1, nv, h2, h3.mono hb, h4⟩
/-- The memory in which read begins to read. -/
def readW (w : World) (l : List UInt8) : World := (((w.alloc (.cells #[.slice none 0 0] 24)).alloc (.cells #[.int .i64 0, .int .i64 0, .slice none 0 0, .slice none 0 0] 49)).alloc (.cells #[.nilIface] 26)).alloc (.cells #[.string ⟨l.toArray⟩, .int .i64 0, .slice none 0 0] 77)

set_option maxRecDepth 100000 in
set_option maxHeartbeats 1000000 in
/-- A reading that goes wrong is ended, and told. -/
theorem read_fails (l : List UInt8) (w W : World) (a : Act) (o0 o1 o2 o3 o4 o5 : Value) (hB : Broken l) (hb : Below w.heap.size w W)
    (h2 : a.tmps[2]?.getD undef = .pointer (some ⟨w.heap.size, 0, none⟩)) (h3 : a.tmps[3]?.getD undef = .pointer (some ⟨w.heap.size + 1, 0, none⟩)) (h4 : a.tmps[4]?.getD undef = .pointer (some ⟨w.heap.size + 1 + 1, 0, none⟩))
    (hd : a.defers = [{ target := .fn (.func 31) #[.pointer (some ⟨w.heap.size, 0, none⟩), .pointer (some ⟨w.heap.size + 1, 0, none⟩), .pointer (some ⟨w.heap.size + 1 + 1, 0, none⟩)], args := #[] }])
    (hA1 : W.heap[w.heap.size]? = some (.cells #[o0] 24 (0, 0))) (hB1 : W.heap[w.heap.size + 1]? = some (.cells #[o1, o2, o3, o4] 49 (0, 0))) (hC1 : W.heap[w.heap.size + 2]? = some (.cells #[o5] 26 (0, 0))) :
    bodyPostD Try.prog Try.f14 (ReadOut l w) (Exit.panic [{ v := synErr, recovered := false }]) a W := by
  obtain ⟨tmps, defers⟩ := a
  dsimp only at h2 h3 h4 hd
  subst hd
  refine leaves_cons (f := 31) (args := #[.pointer (some ⟨w.heap.size, 0, none⟩), .pointer (some ⟨w.heap.size + 1, 0, none⟩), .pointer (some ⟨w.heap.size + 1 + 1, 0, none⟩)]) (by simp) (by simp [go_sem]) ?_
  refine (catch_panicking w.heap.size (w.heap.size + 1) (w.heap.size + 1 + 1) o0 o1 o2 o3 o4 o5 [] W ?_ ?_ hB1 ?_ ?_ (by omega) (by omega) (by omega)).mono ?_
  · simp [World.cell?, hA1]
  · simp [World.frozen?, hA1]
  · simp [World.cell?, hC1]
  · simp [World.frozen?, hC1]
  rintro e u' w'' ⟨rfl, rfl, rfl⟩
  have hAs := heap_setCell_same W w.heap.size 0 _ 24 (.slice none 0 0) hA1
  have hB2 : (W.setCell ⟨w.heap.size, 0, none⟩ (.slice none 0 0)).heap[w.heap.size + 1]? = some (.cells #[o1, o2, o3, o4] 49 (0, 0)) := (Below.heap_setCell _ _ _ _ (by show w.heap.size + 1 ≠ w.heap.size; omega)).trans hB1
  have hBs := setP_block hB2 (.int .i64 0) (.int .i64 0) (.slice none 0 0) (.slice none 0 0)
  have hoth : ∀ k, k ≠ w.heap.size + 1 → (setP (W.setCell ⟨w.heap.size, 0, none⟩ (.slice none 0 0)) (w.heap.size + 1) (.int .i64 0) (.int .i64 0) (.slice none 0 0) (.slice none 0 0)).heap[k]? = (W.setCell ⟨w.heap.size, 0, none⟩ (.slice none 0 0)).heap[k]? := fun k hk => by
    unfold setP
    rw [Below.heap_setCell _ _ _ _ hk, Below.heap_setCell _ _ _ _ hk, Below.heap_setCell _ _ _ _ hk, Below.heap_setCell _ _ _ _ hk]
  have hCs : (setP (W.setCell ⟨w.heap.size, 0, none⟩ (.slice none 0 0)) (w.heap.size + 1) (.int .i64 0) (.int .i64 0) (.slice none 0 0) (.slice none 0 0)).heap[w.heap.size + 1 + 1]? = some (.cells #[o5] 26 (0, 0)) := by
    rw [hoth _ (by omega), Below.heap_setCell _ _ _ _ (by show w.heap.size + 1 + 1 ≠ w.heap.size; omega)]
    exact hC1
  have hCf := heap_setCell_same _ (w.heap.size + 1 + 1) 0 _ 26 synErr hCs
  have hbF : Below w.heap.size w ((setP (W.setCell ⟨w.heap.size, 0, none⟩ (.slice none 0 0)) (w.heap.size + 1) (.int .i64 0) (.int .i64 0) (.slice none 0 0) (.slice none 0 0)).setCell ⟨w.heap.size + 1 + 1, 0, none⟩ synErr) := by
    unfold setP
    exact (((((hb.setCell (Nat.le_refl _) _).setCell (by show _ ≤ w.heap.size + 1; omega) _).setCell (by show _ ≤ w.heap.size + 1; omega) _).setCell (by show _ ≤ w.heap.size + 1; omega) _).setCell (by show _ ≤ w.heap.size + 1; omega) _).setCell (by show _ ≤ w.heap.size + 1 + 1; omega) _
  have fA : ((setP (W.setCell ⟨w.heap.size, 0, none⟩ (.slice none 0 0)) (w.heap.size + 1) (.int .i64 0) (.int .i64 0) (.slice none 0 0) (.slice none 0 0)).setCell ⟨w.heap.size + 1 + 1, 0, none⟩ synErr).heap[w.heap.size]? = some (.cells #[.slice none 0 0] 24 (0, 0)) := by
    rw [Below.heap_setCell _ _ _ _ (by show w.heap.size ≠ w.heap.size + 1 + 1; omega), hoth _ (by omega)]
    simpa using hAs
  have fB := (Below.heap_setCell (setP (W.setCell ⟨w.heap.size, 0, none⟩ (.slice none 0 0)) (w.heap.size + 1) (.int .i64 0) (.int .i64 0) (.slice none 0 0) (.slice none 0 0)) ⟨w.heap.size + 1 + 1, 0, none⟩ synErr (w.heap.size + 1) (by show w.heap.size + 1 ≠ w.heap.size + 1 + 1; omega)).trans hBs
  generalize (setP (W.setCell ⟨w.heap.size, 0, none⟩ (.slice none 0 0)) (w.heap.size + 1) (.int .i64 0) (.int .i64 0) (.slice none 0 0) (.slice none 0 0)).setCell ⟨w.heap.size + 1 + 1, 0, none⟩ synErr = WF at *
  have cA : WF.cell? ⟨w.heap.size, 0, none⟩ = some (.slice none 0 0) := by simp [World.cell?, fA]
  obtain ⟨q0, q1, q2, q3, _⟩ := part_cells fB
  have cC : WF.cell? ⟨w.heap.size + 1 + 1, 0, none⟩ = some synErr := by simp [World.cell?, hCf]
  have hout : ReadOut l w (.returned (.tuple #[.slice none 0 0, .agg #[.int .i64 0, .int .i64 0, .slice none 0 0, .slice none 0 0], synErr])) WF := ⟨hbF, Or.inr ⟨hB, rfl⟩⟩
  simp [Leaves, settle, results, Try.results14, go_sem, h2, h3, h4, cA, q0, q1, q2, q3, cC]
  exact hout

set_option maxRecDepth 100000 in
set_option maxHeartbeats 2000000 in
theorem read_any (l : List UInt8) (w : World) (hl : l.length ≤ 200) : Calls Try.prog 14 #[.string ⟨l.toArray⟩] w (ReadOut l w) := by
  have hRb : (readW w l).heap[w.heap.size + 3]? = some (.cells #[.string ⟨l.toArray⟩, .int .i64 (0 : Nat), .slice none 0 0] 77 (0, 0)) := by
    have := blk_alloc_new (((w.alloc (.cells #[.slice none 0 0] 24)).alloc (.cells #[.int .i64 0, .int .i64 0, .slice none 0 0, .slice none 0 0] 49)).alloc (.cells #[.nilIface] 26)) (.cells #[.string ⟨l.toArray⟩, .int .i64 0, .slice none 0 0] 77)
    simpa [readW] using this
  have hrd : Rd (w.heap.size + 3) l 0 [] (fun _ => False) (readW w l) := ⟨_, hRb, RowT.nil _ _ _⟩
  have hcall := weave_all l.length (w.heap.size + 3) l 0 [] _ (readW w l) hl (Nat.zero_le _) (by omega) (Nat.le_refl _) hrd
  have hmf : ∀ (fn : Fn) (first cap : Array Value) (w : World), (Instr.makeFunc fn first cap).run Try.prog w = .ok (.func fn first cap) w := fun _ _ _ _ => rfl
  have hbW : Below w.heap.size w (readW w l) := ((((Below.refl _ _).alloc (Nat.le_refl _) _).alloc (by simp) _).alloc (by simp; omega) _).alloc (by simp; omega) _
  have hA0 : (readW w l).heap[w.heap.size]? = some (.cells #[.slice none 0 0] 24 (0, 0)) := by
    unfold readW
    rw [blk_alloc_lt _ _ _ (by simp; omega), blk_alloc_lt _ _ _ (by simp; omega), blk_alloc_lt _ _ _ (by simp)]
    exact blk_alloc_new _ _
  have hB0 : (readW w l).heap[w.heap.size + 1]? = some (.cells #[.int .i64 0, .int .i64 0, .slice none 0 0, .slice none 0 0] 49 (0, 0)) := by
    unfold readW
    rw [blk_alloc_lt _ _ _ (by simp), blk_alloc_lt _ _ _ (by simp)]
    have := blk_alloc_new (w.alloc (.cells #[.slice none 0 0] 24)) (.cells #[.int .i64 0, .int .i64 0, .slice none 0 0, .slice none 0 0] 49)
    simpa using this
  have hC0 : (readW w l).heap[w.heap.size + 2]? = some (.cells #[.nilIface] 26 (0, 0)) := by
    unfold readW
    rw [blk_alloc_lt _ _ _ (by simp)]
    have := blk_alloc_new ((w.alloc (.cells #[.slice none 0 0] 24)).alloc (.cells #[.int .i64 0, .int .i64 0, .slice none 0 0, .slice none 0 0] 49)) (.cells #[.nilIface] 26)
    simpa using this
  have hsW : (readW w l).heap.size = w.heap.size + 4 := by simp [readW]
  clear hRb hrd
  go_enter_defers Try.func14, Try.ntmps14
  go_wp2_with fail
  refine hcall.mono ?_
  rintro e w1 ⟨hk, h⟩
  clear hcall
  have hA1 := hk.other hA0 (by omega) (by decide)
  have hB1 := hk.other hB0 (by omega) (by decide)
  have hC1 := hk.other hC0 (by omega) (by decide)
  have hb1 : Below w.heap.size w w1 := hbW.trans ((hk.below (by omega)).mono (by omega))
  clear hA0 hB0 hC0 hbW
  rcases h with ⟨hno, rfl⟩ | ⟨t, k, fv, lv, hg, hik, hkl, hct, rfl, hrd, hpr⟩
  · exact read_fails l w w1 _ _ _ _ _ _ _ ⟨none, hno, fun t h => by cases h⟩ hb1 rfl rfl rfl rfl hA1 hB1 hC1
  · obtain ⟨fg, fc, lg, lc, rfl, rfl⟩ := hpr.shapes
    unfold partV
    have hAP := setP_block hB1 (.int .i64 (t.work V1)) (.int .i64 (t.span V1)) (.slice (some ⟨fg, 0, none⟩) (t.first 0).length fc) (.slice (some ⟨lg, 0, none⟩) (t.last 0).length lc)
    have hoth : ∀ q, q ≠ w.heap.size + 1 → (setP w1 (w.heap.size + 1) (.int .i64 (t.work V1)) (.int .i64 (t.span V1)) (.slice (some ⟨fg, 0, none⟩) (t.first 0).length fc) (.slice (some ⟨lg, 0, none⟩) (t.last 0).length lc)).heap[q]? = w1.heap[q]? := fun q hq => by
      unfold setP
      rw [Below.heap_setCell _ _ _ _ hq, Below.heap_setCell _ _ _ _ hq, Below.heap_setCell _ _ _ _ hq, Below.heap_setCell _ _ _ _ hq]
    have hrdP := hrd.setP hB1 (.int .i64 (t.work V1)) (.int .i64 (t.span V1)) (.slice (some ⟨fg, 0, none⟩) (t.first 0).length fc) (.slice (some ⟨lg, 0, none⟩) (t.last 0).length lc)
    have hbP : Below w.heap.size w (setP w1 (w.heap.size + 1) (.int .i64 (t.work V1)) (.int .i64 (t.span V1)) (.slice (some ⟨fg, 0, none⟩) (t.first 0).length fc) (.slice (some ⟨lg, 0, none⟩) (t.last 0).length lc)) := by
      unfold setP
      exact (((hb1.setCell (by show _ ≤ w.heap.size + 1; omega) _).setCell (by show _ ≤ w.heap.size + 1; omega) _).setCell (by show _ ≤ w.heap.size + 1; omega) _).setCell (by show _ ≤ w.heap.size + 1; omega) _
    have hAP0 := (hoth w.heap.size (by omega)).trans hA1
    have hCP0 := (hoth (w.heap.size + 2) (by omega)).trans hC1
    obtain ⟨q0, q1, q2, q3, qf⟩ := part_cells hB1
    have qf0 := qf 0
    have qf1 := qf 1
    have qf2 := qf 2
    have qf3 := qf 3
    obtain ⟨hR0, hR1, ⟨tv, hR2, htr⟩, _⟩ := hrd.cells
    have hne : ¬ w.heap.size + 1 = w.heap.size + 1 + 1 + 1 := by omega
    clear hrd hpr qf
    by_cases hkL : k < l.length
    · have hkI : (k : Int) < (l.length : Int) := by omega
      have HBR : Hid (Broken l) := ⟨_, hg, fun t h => by
        simp at h
        omega⟩
      clear htr hR2
      go_wp2
      exact read_fails l w _ _ _ _ _ _ _ _ HBR.out hbP rfl rfl rfl rfl hAP0 hAP hCP0
    · have hke : k = l.length := by omega
      have HKE : Hid (k = l.length) := hke
      have hkI : ¬ (k : Int) < (l.length : Int) := by omega
      clear hke
      obtain ⟨ta, tc, rfl⟩ := htr.shape
      go_wp2
      show Code.wp _ _ _ _ (setP w1 (w.heap.size + 1) (.int .i64 (t.work V1)) (.int .i64 (t.span V1)) (.slice (some ⟨fg, 0, none⟩) (t.first 0).length fc) (.slice (some ⟨lg, 0, none⟩) (t.last 0).length lc))
      obtain ⟨_, _, ⟨tv', hP2, htP⟩, _⟩ := hrdP.cells
      obtain rfl : Value.slice ta (t.lay V1 []).length tc = tv' := by
        have e : (setP w1 (w.heap.size + 1) (.int .i64 (t.work V1)) (.int .i64 (t.span V1)) (.slice (some ⟨fg, 0, none⟩) (t.first 0).length fc) (.slice (some ⟨lg, 0, none⟩) (t.last 0).length lc)).cell? ⟨w.heap.size + 3, 2, none⟩ = w1.cell? ⟨w.heap.size + 3, 2, none⟩ := World.cell?_of_block (hoth _ (by show w.heap.size + 3 ≠ w.heap.size + 1; omega))
        exact Option.some.inj (hR2.symm.trans (e.symm.trans hP2))
      clear hoth hrdP q0 q1 q2 q3 qf0 qf1 qf2 qf3 hR0 hR1 hR2 htr hA1 hB1 hC1 hb1 hk
      generalize setP w1 (w.heap.size + 1) (.int .i64 (t.work V1)) (.int .i64 (t.span V1)) (.slice (some ⟨fg, 0, none⟩) (t.first 0).length fc) (.slice (some ⟨lg, 0, none⟩) (t.last 0).length lc) = WP at *
      obtain ⟨q0, q1, q2, q3, qf⟩ := part_cells hAP
      have qf0 := qf 0
      have qf1 := qf 1
      have qf2 := qf 2
      have qf3 := qf 3
      have pA : WP.cell? ⟨w.heap.size, 0, none⟩ = some (.slice none 0 0) := by simp [World.cell?, hAP0]
      have pA' : WP.frozen? ⟨w.heap.size, 0, none⟩ = false := by simp [World.frozen?, hAP0]
      have pC : WP.cell? ⟨w.heap.size + 1 + 1, 0, none⟩ = some .nilIface := by simp [World.cell?, hCP0]
      have pC' : WP.frozen? ⟨w.heap.size + 1 + 1, 0, none⟩ = false := by simp [World.frozen?, hCP0]
      have hP2' : WP.cell? ⟨w.heap.size + 1 + 1 + 1, 2, none⟩ = some (.slice ta (t.lay V1 []).length tc) := hP2
      clear qf
      go_region
      clear q0 q1 q2 q3 qf0 qf1 qf2 qf3 pA pA' pC pC' hP2'
      go_wp2
      have hA2 := heap_setCell_same WP w.heap.size 0 _ 24 (.slice ta (t.lay V1 []).length tc) hAP0
      have hB2 : (WP.setCell ⟨w.heap.size, 0, none⟩ (.slice ta (t.lay V1 []).length tc)).heap[w.heap.size + 1]? = _ := (Below.heap_setCell _ _ _ _ (by show w.heap.size + 1 ≠ w.heap.size; omega)).trans hAP
      have hB3 := setP_block hB2 (.int .i64 (t.work V1)) (.int .i64 (t.span V1)) (.slice (some ⟨fg, 0, none⟩) (t.first 0).length fc) (.slice (some ⟨lg, 0, none⟩) (t.last 0).length lc)
      have hoth : ∀ q, q ≠ w.heap.size → q ≠ w.heap.size + 1 → (setP (WP.setCell ⟨w.heap.size, 0, none⟩ (.slice ta (t.lay V1 []).length tc)) (w.heap.size + 1) (.int .i64 (t.work V1)) (.int .i64 (t.span V1)) (.slice (some ⟨fg, 0, none⟩) (t.first 0).length fc) (.slice (some ⟨lg, 0, none⟩) (t.last 0).length lc)).heap[q]? = WP.heap[q]? := fun q h1 hq => by
        unfold setP
        rw [Below.heap_setCell _ _ _ _ hq, Below.heap_setCell _ _ _ _ hq, Below.heap_setCell _ _ _ _ hq, Below.heap_setCell _ _ _ _ hq, Below.heap_setCell _ _ _ _ h1]
      have hA3 : (setP (WP.setCell ⟨w.heap.size, 0, none⟩ (.slice ta (t.lay V1 []).length tc)) (w.heap.size + 1) (.int .i64 (t.work V1)) (.int .i64 (t.span V1)) (.slice (some ⟨fg, 0, none⟩) (t.first 0).length fc) (.slice (some ⟨lg, 0, none⟩) (t.last 0).length lc)).heap[w.heap.size]? = some (.cells #[.slice ta (t.lay V1 []).length tc] 24 (0, 0)) := by
        unfold setP
        have hq : w.heap.size ≠ w.heap.size + 1 := by omega
        rw [Below.heap_setCell _ _ _ _ hq, Below.heap_setCell _ _ _ _ hq, Below.heap_setCell _ _ _ _ hq, Below.heap_setCell _ _ _ _ hq]
        simpa using hA2
      have hC3 := (hoth (w.heap.size + 2) (by omega) (by omega)).trans hCP0
      have hbF : Below w.heap.size w (setP (WP.setCell ⟨w.heap.size, 0, none⟩ (.slice ta (t.lay V1 []).length tc)) (w.heap.size + 1) (.int .i64 (t.work V1)) (.int .i64 (t.span V1)) (.slice (some ⟨fg, 0, none⟩) (t.first 0).length fc) (.slice (some ⟨lg, 0, none⟩) (t.last 0).length lc)) := by
        unfold setP
        exact ((((hbP.setCell (Nat.le_refl _) _).setCell (by show _ ≤ w.heap.size + 1; omega) _).setCell (by show _ ≤ w.heap.size + 1; omega) _).setCell (by show _ ≤ w.heap.size + 1; omega) _).setCell (by show _ ≤ w.heap.size + 1; omega) _
      have htF : RowT w.heap.size (fun _ => True) (setP (WP.setCell ⟨w.heap.size, 0, none⟩ (.slice ta (t.lay V1 []).length tc)) (w.heap.size + 1) (.int .i64 (t.work V1)) (.int .i64 (t.span V1)) (.slice (some ⟨fg, 0, none⟩) (t.first 0).length fc) (.slice (some ⟨lg, 0, none⟩) (t.last 0).length lc)) (.slice ta (t.lay V1 []).length tc) (t.lay V1 []) :=
        ((htP.of_blocks (fun q hq _ _ => hoth q (by omega) (by omega))).allow (fun _ _ _ => trivial)).mono (by omega)
      refine leaves_cons (f := 31) (args := #[.pointer (some ⟨w.heap.size, 0, none⟩), .pointer (some ⟨w.heap.size + 1, 0, none⟩), .pointer (some ⟨w.heap.size + 1 + 1, 0, none⟩)]) (by simp) (by simp [go_sem]) ?_
      refine (catch_idle _ _ _ _).mono ?_
      rintro e u' w'' ⟨rfl, rfl, rfl⟩
      show Leaves _ _ _ _ _ _ (((setP (WP.setCell ⟨w.heap.size, 0, none⟩ (.slice ta (t.lay V1 []).length tc)) (w.heap.size + 1) (.int .i64 (t.work V1)) (.int .i64 (t.span V1)) (.slice (some ⟨fg, 0, none⟩) (t.first 0).length fc) (.slice (some ⟨lg, 0, none⟩) (t.last 0).length lc)).setCell ⟨w.heap.size + 1 + 1, 0, none⟩ .nilIface).drew)
      generalize setP (WP.setCell ⟨w.heap.size, 0, none⟩ (.slice ta (t.lay V1 []).length tc)) (w.heap.size + 1) (.int .i64 (t.work V1)) (.int .i64 (t.span V1)) (.slice (some ⟨fg, 0, none⟩) (t.first 0).length fc) (.slice (some ⟨lg, 0, none⟩) (t.last 0).length lc) = WQ at *
      have hCf := heap_setCell_same WQ (w.heap.size + 1 + 1) 0 _ 26 .nilIface hC3
      have fA := (Below.heap_setCell WQ ⟨w.heap.size + 1 + 1, 0, none⟩ .nilIface w.heap.size (by show w.heap.size ≠ w.heap.size + 1 + 1; omega)).trans hA3
      have fB := (Below.heap_setCell WQ ⟨w.heap.size + 1 + 1, 0, none⟩ .nilIface (w.heap.size + 1) (by show w.heap.size + 1 ≠ w.heap.size + 1 + 1; omega)).trans hB3
      have hbG : Below w.heap.size w (WQ.setCell ⟨w.heap.size + 1 + 1, 0, none⟩ .nilIface).drew := (hbF.setCell (by show _ ≤ w.heap.size + 1 + 1; omega) _).drew
      have htG : RowT w.heap.size (fun _ => True) (WQ.setCell ⟨w.heap.size + 1 + 1, 0, none⟩ .nilIface).drew (.slice ta (t.lay V1 []).length tc) (t.lay V1 []) := htF.of_kinds (fun q cs fr hq => Below.heap_setCell _ _ _ _ (fun e => by
          have e' : q = w.heap.size + 2 := e
          rw [e', hC3] at hq
          simp at hq)) (fun q cs fr hq => Below.heap_setCell _ _ _ _ (fun e => by
          have e' : q = w.heap.size + 2 := e
          rw [e', hC3] at hq
          simp at hq))
      have cA : (WQ.setCell ⟨w.heap.size + 1 + 1, 0, none⟩ .nilIface).drew.cell? ⟨w.heap.size, 0, none⟩ = some (.slice ta (t.lay V1 []).length tc) := by show (WQ.setCell _ _).cell? _ = _; simp [World.cell?, fA]
      obtain ⟨z0, z1, z2, z3, _⟩ := part_cells (w := (WQ.setCell ⟨w.heap.size + 1 + 1, 0, none⟩ .nilIface).drew) fB
      have cC : (WQ.setCell ⟨w.heap.size + 1 + 1, 0, none⟩ .nilIface).drew.cell? ⟨w.heap.size + 1 + 1, 0, none⟩ = some .nilIface := by show (WQ.setCell _ _).cell? _ = _; simp [World.cell?, hCf]
      have hgw : Whole l t := by
        have := hg
        rw [HKE.out, List.drop_length] at this
        exact this
      have hout : ReadOut l w (.returned (.tuple #[.slice ta (t.lay V1 []).length tc, .agg #[.int .i64 (t.work V1), .int .i64 (t.span V1), .slice (some ⟨fg, 0, none⟩) (t.first 0).length fc, .slice (some ⟨lg, 0, none⟩) (t.last 0).length lc], .nilIface])) (WQ.setCell ⟨w.heap.size + 1 + 1, 0, none⟩ .nilIface).drew :=
        ⟨hbG, Or.inl ⟨t, _, _, _, hgw, by simp at hct; omega, rfl, ⟨_, _, _, _, _, _, rfl, rfl⟩, htG⟩⟩
      generalize (WQ.setCell ⟨w.heap.size + 1 + 1, 0, none⟩ .nilIface).drew = WR at *
      simp [Leaves, settle, results, Try.results14, go_sem, cA, z0, z1, z2, z3, cC]
      exact hout
end Go.Proofs.Ytkcpimbhfmhjgaa
