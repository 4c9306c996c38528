/- one, whatever stands there; what the loops of behind and beside have come to. -/
import Derived.Test.YtcankblanhpmpaaDoorXf
import Derived.Test.YtcankblanhpmpaaDoorWg
namespace Go.Proofs.YtcankblanhpmpaaDoor
open Go.RowKit Go.Deep

theorem drop_head {l : List UInt8} {i : Nat} {c : UInt8} (h : (l.drop i).head? = some c) : i < l.length ∧ l.drop i = c :: l.drop (i + 1) := by
  rcases Nat.lt_or_ge i l.length with hi | hi
  · refine ⟨hi, ?_⟩
    rw [head_drop hi] at h
    rw [List.drop_eq_getElem_cons hi, Option.some.inj h]
  · rw [head_end hi] at h; cases h

theorem one_of (n : Nat) (h : TellOk 13 .weave n) : TellOk 32 .link (n + 1) := by
  intro R l i ts w hl hi hn hts hr
  by_cases h40 : (l.drop i).head? = some 40
  · obtain ⟨hi', hd⟩ := drop_head h40
    exact oneOpen_any n h R l i ts w hl hi' hn hts hd hr
  · cases hnum : numR (l.drop i) with
    | none => exact oneBad_any R l i ts w hl hi hts h40 hnum hr
    | some x => exact oneNum_any R l i ts w x.1 x.2 hl hi hts h40 hnum hr
theorem one_zero : TellOk 32 .link 0 := by
  intro R l i ts w hl hi hn hts hr
  have hie : l.length ≤ i := by omega
  have hnil : l.drop i = [] := List.drop_eq_nil_of_le hie
  exact oneBad_any R l i ts w hl hi hts (by rw [hnil]; simp) (by rw [hnil]; rfl) hr

/-- Where a loop stands: c lies in block B3; the text is badly read, or read so far. -/
structure LoopS (K : Kind) (KL : Tree → Kind) (R : Nat) (l : List UInt8) (i : Nat) (ts : List (Int × List Int)) (w : World) (B3 : Nat) (wr : World) (k : Nat) (fv lv : Value) (zf zl : List Int) (wk sp : Int) : Prop where
  ik : i ≤ k
  kl : k ≤ l.length
  cl : Cloths w.heap.size wr fv lv zf zl wk sp i k
  b3 : wr.heap[B3]? = some (.cells #[fv, lv, .int .i64 wk, .int .i64 sp] 46 (0, 0))
  n0 : wr.heap[w.heap.size]? = some (.cells #[.slice none 0 0, .slice none 0 0, .int .i64 0, .int .i64 0] 46 (0, 0))
  kp : Kp R w wr
  lo : w.heap.size < B3
  st : (Gr K (l.drop i) none ∧ ∃ ts', ts'.length ≤ k ∧ Rw R l k 2 ts' wr) ∨
     (∃ t, (∀ r, Gr (KL t) (l.drop k) r → Gr K (l.drop i) r) ∧ ts.length + t.count ≤ k ∧ zf = ofNats (t.first ts.length) ∧ zl = ofNats (t.last ts.length) ∧ wk = t.work V2 ∧ sp = t.span V2 ∧ Rw R l k 0 (t.lay V2 ts) wr)

theorem Cloths.mono {b b' : Nat} {w : World} {fv lv : Value} {zf zl : List Int} {wk sp : Int} {i k : Nat} (h : Cloths b w fv lv zf zl wk sp i k) (hb : b' ≤ b) : Cloths b' w fv lv zf zl wk sp i k := ⟨h.first.mono hb, h.last.mono hb, h.lf, h.ll, h.w0, h.w1, h.s0, h.s1⟩
theorem Cloths.alloc {b : Nat} {w : World} {fv lv : Value} {zf zl : List Int} {wk sp : Int} {i k : Nat} (h : Cloths b w fv lv zf zl wk sp i k) (o : Obj) : Cloths b (w.alloc o) fv lv zf zl wk sp i k := ⟨h.first.alloc o, h.last.alloc o, h.lf, h.ll, h.w0, h.w1, h.s0, h.s1⟩
theorem Cloths.kinds {b : Nat} {w w' : World} {fv lv : Value} {zf zl : List Int} {wk sp : Int} {i k : Nat} (h : Cloths b w fv lv zf zl wk sp i k) (hk : ∀ (k : Nat) (cs : Array Value) (fr : Nat × Nat), w.heap[k]? = some (.cells cs 3 fr) → w'.heap[k]? = w.heap[k]?) : Cloths b w' fv lv zf zl wk sp i k := ⟨h.first.of_kinds hk, h.last.of_kinds hk, h.lf, h.ll, h.w0, h.w1, h.s0, h.s1⟩

theorem cloth_cells {w : World} {b : Nat} {a1 a2 a3 a4 : Value} (h : w.heap[b]? = some (.cells #[a1, a2, a3, a4] 46 (0, 0))) :
    w.cell? ⟨b, 0, none⟩ = some a1 ∧ w.cell? ⟨b, 1, none⟩ = some a2 ∧ w.cell? ⟨b, 2, none⟩ = some a3 ∧ w.cell? ⟨b, 3, none⟩ = some a4 ∧ ∀ j, w.frozen? ⟨b, j, none⟩ = false :=
  ⟨by simp [World.cell?, h], by simp [World.cell?, h], by simp [World.cell?, h], by simp [World.cell?, h], fun j => by simp [World.frozen?, h]⟩
theorem set46_kinds {w : World} {b : Nat} {c0 : Array Value} {f0 : Nat × Nat} (hb : w.heap[b]? = some (.cells c0 46 f0)) (a1 a2 a3 a4 : Value) {k : Nat} {cs : Array Value} {t : TypeId} {fr : Nat × Nat} (hk : w.heap[k]? = some (.cells cs t fr)) (ht : t ≠ 46) : (setP w b a1 a2 a3 a4).heap[k]? = w.heap[k]? := setP_other (ne_of_kind hb hk ht) _ _ _ _

/-- The loop begins. -/
theorem LoopS.start {K K1 : Kind} {KL : Tree → Kind} {R : Nat} {l : List UInt8} {i : Nat} {ts : List (Int × List Int)} {w w1 : World} {k : Nat} {fv lv : Value} {zf zl : List Int} {wk sp : Int}
    (hno : ∀ s, Gr K1 s none → Gr K s none) (hof : ∀ s s2 t r, Gr K1 s (some (t, s2)) → Gr (KL t) s2 r → Gr K s r)
    (hR : R < w.heap.size) (hk : Kp R (w.alloc (.cells #[.slice none 0 0, .slice none 0 0, .int .i64 0, .int .i64 0] 46)) w1) (hik : i ≤ k) (hkl : k ≤ l.length)
    (hcl : Cloths (w.alloc (.cells #[.slice none 0 0, .slice none 0 0, .int .i64 0, .int .i64 0] 46)).heap.size w1 fv lv zf zl wk sp i k)
    (hc : (Gr K1 (l.drop i) none ∧ ∃ ts', ts'.length ≤ k ∧ Rw R l k 2 ts' w1) ∨
     (∃ t, Gr K1 (l.drop i) (some (t, l.drop k)) ∧ ts.length + t.count ≤ k ∧ zf = ofNats (t.first ts.length) ∧ zl = ofNats (t.last ts.length) ∧ wk = t.work V2 ∧ sp = t.span V2 ∧ Rw R l k 0 (t.lay V2 ts) w1)) :
    LoopS K KL R l i ts w w1.heap.size (w1.alloc (.cells #[fv, lv, .int .i64 wk, .int .i64 sp] 46)) k fv lv zf zl wk sp := by
  have hN : w1.heap[w.heap.size]? = some (.cells #[.slice none 0 0, .slice none 0 0, .int .i64 0, .int .i64 0] 46 (0, 0)) := hk.other (k := w.heap.size) (blk_alloc_new _ _) (by omega) (by decide)
  have hlt := lt_of_block hN
  refine ⟨hik, hkl, (hcl.mono (by simp)).alloc _, blk_alloc_new _ _, (blk_alloc_lt _ _ _ hlt).trans hN, (((Kp.refl R w).alloc _).trans hk).alloc _, hlt, ?_⟩
  rcases hc with ⟨hg, ts', hts, hr⟩ | ⟨t, hg, h1, h2, h3, h4, h5, hr⟩
  · exact Or.inl ⟨hno _ hg, ts', hts, hr.alloc _⟩
  · exact Or.inr ⟨t, fun r h => hof _ _ _ _ hg h, h1, h2, h3, h4, h5, hr.alloc _⟩
theorem LoopS.drewN {K : Kind} {KL : Tree → Kind} {R : Nat} {l : List UInt8} {i : Nat} {ts : List (Int × List Int)} {w : World} {B3 : Nat} {wr : World} {k : Nat} {fv lv : Value} {zf zl : List Int} {wk sp : Int} (h : LoopS K KL R l i ts w B3 wr k fv lv zf zl wk sp) (q : Nat) : LoopS K KL R l i ts w B3 (wr.drewN q) k fv lv zf zl wk sp := by
  refine ⟨h.ik, h.kl, h.cl.kinds (fun _ _ _ _ => rfl), h.b3, h.n0, h.kp.drewN q, h.lo, ?_⟩
  rcases h.st with ⟨hg, ts', hts, hr⟩ | ⟨t, hg, h1, h2, h3, h4, h5, hr⟩
  · exact Or.inl ⟨hg, ts', hts, hr.drewN q⟩
  · exact Or.inr ⟨t, hg, h1, h2, h3, h4, h5, hr.drewN q⟩
/-- The loop ends: what stands in B3 is handed back. -/
theorem LoopS.done {K : Kind} {KL : Tree → Kind} {R : Nat} {l : List UInt8} {i : Nat} {ts : List (Int × List Int)} {w : World} {B3 : Nat} {wr : World} {k : Nat} {fv lv : Value} {zf zl : List Int} {wk sp : Int} (h : LoopS K KL R l i ts w B3 wr k fv lv zf zl wk sp)
    (hend : ∀ t, (Rw R l k 0 (t.lay V2 ts) wr) → Gr (KL t) (l.drop k) (some (t, l.drop k))) :
    TellsTo K R l i ts w (.returned (clothV fv lv wk sp)) (setP wr w.heap.size fv lv (.int .i64 wk) (.int .i64 sp)) := by
  refine ⟨h.kp.setP (Nat.le_refl _) _ _ _ _, k, fv, lv, zf, zl, wk, sp, rfl, h.ik, h.kl, h.cl.kinds (fun q cs fr hq => set46_kinds h.n0 _ _ _ _ hq (by decide)), ?_⟩
  rcases h.st with ⟨hg, ts', hts, hr⟩ | ⟨t, hg, h1, h2, h3, h4, h5, hr⟩
  · exact Or.inl ⟨hg, ts', hts, hr.setC h.n0 _ _ _ _⟩
  · exact Or.inr ⟨t, hg _ (hend t hr), h1, h2, h3, h4, h5, hr.setC h.n0 _ _ _ _⟩
theorem LoopS.fault {K : Kind} {KL : Tree → Kind} {R : Nat} {l : List UInt8} {i : Nat} {ts : List (Int × List Int)} {w : World} {B3 : Nat} {wr : World} {k : Nat} {fv lv : Value} {zf zl : List Int} {wk sp : Int} (h : LoopS K KL R l i ts w B3 wr k fv lv zf zl wk sp) : ∃ e ts', (e = 0 ∨ e = 2) ∧ Rw R l k e ts' wr := by
  rcases h.st with ⟨hg, ts', hts, hr⟩ | ⟨t, hg, h1, h2, h3, h4, h5, hr⟩
  · exact ⟨2, ts', Or.inr rfl, hr⟩
  · exact ⟨0, _, Or.inl rfl, hr⟩
end Go.Proofs.YtcankblanhpmpaaDoor
