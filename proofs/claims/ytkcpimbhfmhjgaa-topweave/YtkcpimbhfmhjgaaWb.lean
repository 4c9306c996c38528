/- A reader of weaves in memory: what it holds, and what a call of it keeps. -/
import Derived.Test.YtkcpimbhfmhjgaaOrdr
import Derived.Test.YtkcpimbhfmhjgaaWa
import Derived.Maps.AppendAt
import Derived.Deep.Draws
namespace Go.Proofs.Ytkcpimbhfmhjgaa
open Go.RowKit Go.Deep

/-- Numbers in a row of their own, from block b on. -/
def RowW (b : Nat) (w : World) (v : Value) (zs : List Int) : Prop := w.ownsRow b 3 1 v zs.length (zs.map (Value.int .i64))
/-- Tasks in a row of their own, from block b on; what they need lies in blocks that A allows. -/
def RowT (b : Nat) (A : Nat → Prop) (w : World) (v : Value) (ts : List (Int × List Int)) : Prop :=
  ∃ xs, w.ownsRow b 45 2 v ts.length xs ∧ ∀ j, j < ts.length → xs[j * 2]? = some (.int .i64 (ts.getD j (0, [])).1) ∧ ∃ nv, xs[j * 2 + 1]? = some nv ∧ RowW b w nv (needsOf ts j) ∧ ∀ k, nv.ownBlock = some k → A k
/-- The reader lies in block R: its text, its place, its tasks. -/
def Rd (R : Nat) (l : List UInt8) (i : Nat) (ts : List (Int × List Int)) (A : Nat → Prop) (w : World) : Prop :=
  ∃ tv, w.heap[R]? = some (.cells #[.string ⟨l.toArray⟩, .int .i64 i, tv] 77 (0, 0)) ∧ RowT (R + 1) A w tv ts

/-- What is kept by whatever reads: all but the reader's block, rows of tasks behind it, and new blocks. -/
structure Kp (R : Nat) (w w' : World) : Prop where
  os : w'.os = w.os
  tape : w'.tape = w.tape
  output : w'.output = w.output
  size : w.heap.size ≤ w'.heap.size
  block : ∀ k, k < w.heap.size → k ≠ R → ¬ (R < k ∧ ∃ cs fr, w.heap[k]? = some (.cells cs 45 fr)) → w'.heap[k]? = w.heap[k]?

theorem Kp.refl (R : Nat) (w : World) : Kp R w w := ⟨rfl, rfl, rfl, Nat.le_refl _, fun _ _ _ _ => rfl⟩
theorem Kp.trans {R : Nat} {a b c : World} (h : Kp R a b) (k : Kp R b c) : Kp R a c :=
  ⟨k.os.trans h.os, k.tape.trans h.tape, k.output.trans h.output, Nat.le_trans h.size k.size, fun i hi hR hT => by
    have e := h.block i hi hR hT
    exact (k.block i (Nat.lt_of_lt_of_le hi h.size) hR (by rw [e]; exact hT)).trans e⟩
theorem Kp.below {R : Nat} {w w' : World} (h : Kp R w w') (hR : R ≤ w.heap.size) : Below R w w' :=
  ⟨h.os, h.tape, h.output, h.size, fun k hk => h.block k (by omega) (by omega) (fun hc => by omega)⟩
theorem Kp.grown {R : Nat} {w0 w w' : World} {row : Option Nat} (h : Kp R w0 w) (hg : w.grownBy w' row)
    (hr : ∀ k, row = some k → k = R ∨ w0.heap.size ≤ k ∨ (R < k ∧ ∃ cs fr, w.heap[k]? = some (.cells cs 45 fr))) : Kp R w0 w' :=
  ⟨hg.os.trans h.os, hg.tape.trans h.tape, hg.output.trans h.output, Nat.le_trans h.size hg.size, fun i hi hR hT => by
    have e := h.block i hi hR hT
    refine (hg.block i (Nat.lt_of_lt_of_le hi h.size) (fun hc => ?_)).trans e
    rcases hr i hc.symm with h1 | h1 | ⟨h1, h2⟩
    · exact hR h1
    · omega
    · rw [e] at h2; exact hT ⟨h1, h2⟩⟩
theorem Kp.alloc {R : Nat} {w0 w : World} (h : Kp R w0 w) (o : Obj) : Kp R w0 (w.alloc o) := h.grown (World.grownBy_alloc w o none) (fun k e => by cases e)
theorem grown_setCell (w : World) (p : Addr) (u : Value) : w.grownBy (w.setCell p u) (some p.block) := ⟨rfl, rfl, rfl, by simp, fun k _ hk => Below.heap_setCell _ _ _ _ (fun e => hk (by rw [e]))⟩
theorem Kp.setR {R : Nat} {w0 w : World} (h : Kp R w0 w) (j : Nat) (u : Value) : Kp R w0 (w.setCell ⟨R, j, none⟩ u) := h.grown (grown_setCell w ⟨R, j, none⟩ u) (fun k e => by cases e; exact Or.inl rfl)
theorem Kp.setNew {R : Nat} {w0 w : World} (h : Kp R w0 w) {b : Nat} (hb : w0.heap.size ≤ b) (j : Nat) (u : Value) : Kp R w0 (w.setCell ⟨b, j, none⟩ u) := h.grown (grown_setCell w ⟨b, j, none⟩ u) (fun k e => by cases e; exact Or.inr (Or.inl hb))
theorem Kp.drewN {R : Nat} {w0 w : World} (h : Kp R w0 w) (n : Nat) : Kp R w0 (w.drewN n) := ⟨h.os, h.tape, h.output, h.size, h.block⟩
theorem Kp.drew {R : Nat} {w0 w : World} (h : Kp R w0 w) : Kp R w0 w.drew := ⟨h.os, h.tape, h.output, h.size, h.block⟩
theorem Kp.of_below {R : Nat} {w0 w w' : World} (h : Kp R w0 w) (hb : Below w.heap.size w w') : Kp R w0 w' :=
  h.grown (row := none) ⟨hb.os, hb.tape, hb.output, hb.size, fun k hk _ => hb.block k hk⟩ (fun k e => by cases e)
/-- A block that is neither the reader nor a row of tasks. -/
theorem Kp.other {R : Nat} {w w' : World} (h : Kp R w w') {k : Nat} {cs : Array Value} {t : TypeId} {fr : Nat × Nat} (hk : w.heap[k]? = some (.cells cs t fr)) (hR : k ≠ R) (ht : t ≠ 45) : w'.heap[k]? = some (.cells cs t fr) := by
  refine (h.block k (lt_of_block hk) hR (fun ⟨_, c, f, e⟩ => ?_)).trans hk
  rw [hk] at e
  simp only [Option.some.injEq, Obj.cells.injEq] at e
  exact ht e.2.1

theorem Rd.typed {R i : Nat} {l : List UInt8} {ts : List (Int × List Int)} {A : Nat → Prop} {w : World} (h : Rd R l i ts A w) : ∃ cs, w.heap[R]? = some (.cells cs 77 (0, 0)) := by
  obtain ⟨tv, h, _⟩ := h
  exact ⟨_, h⟩
theorem Rd.lt {R i : Nat} {l : List UInt8} {ts : List (Int × List Int)} {A : Nat → Prop} {w : World} (h : Rd R l i ts A w) : R < w.heap.size := by
  obtain ⟨cs, h⟩ := h.typed
  exact lt_of_block h

theorem RowW.block {b : Nat} {w : World} {v : Value} {zs : List Int} (h : RowW b w v zs) {k : Nat} (hk : v.ownBlock = some k) : ∃ cs, w.heap[k]? = some (.cells cs 3 (0, 0)) := by
  rcases h.2 with ⟨rfl, _⟩ | ⟨g, cap, cur, rfl, _, hh, _⟩
  · simp [Value.ownBlock] at hk
  · simp only [Value.ownBlock, Option.some.injEq] at hk
    subst hk
    exact ⟨cur, hh⟩
theorem RowW.of_blocks {b : Nat} {w w' : World} {v : Value} {zs : List Int} (h : RowW b w v zs) (hk : ∀ k, v.ownBlock = some k → w'.heap[k]? = w.heap[k]?) : RowW b w' v zs := by
  rcases h.2 with ⟨rfl, hn⟩ | ⟨g, cap, cur, rfl, hb, hh, hr⟩
  · exact ⟨h.1, Or.inl ⟨rfl, hn⟩⟩
  · exact ⟨h.1, Or.inr ⟨g, cap, cur, rfl, hb, (hk g rfl).trans hh, hr⟩⟩
theorem RowW.kp {R b : Nat} {w w' : World} {v : Value} {zs : List Int} {cs : Array Value} (h : RowW b w v zs) (hR : w.heap[R]? = some (.cells cs 77 (0, 0))) (hk : Kp R w w') : RowW b w' v zs := by
  refine h.of_blocks fun k e => ?_
  obtain ⟨c, hc⟩ := h.block e
  exact (hk.other hc (fun e => by rw [e, hR] at hc; simp at hc) (by decide)).trans hc.symm
theorem RowW.mono {b b' : Nat} {w : World} {v : Value} {zs : List Int} (h : RowW b w v zs) (hb : b' ≤ b) : RowW b' w v zs := by
  rcases h.2 with hn | ⟨g, cap, cur, hv, hg, r⟩
  · exact ⟨h.1, Or.inl hn⟩
  · exact ⟨h.1, Or.inr ⟨g, cap, cur, hv, Nat.le_trans hb hg, r⟩⟩
theorem RowW.low {b : Nat} {w : World} {v : Value} {zs : List Int} (h : RowW b w v zs) {k : Nat} (hk : v.ownBlock = some k) : b ≤ k ∧ k < w.heap.size := World.ownsRow.lt h k hk
theorem RowW.shape {b : Nat} {w : World} {v : Value} {zs : List Int} (h : RowW b w v zs) : ∃ a c, v = .slice a zs.length c := by
  rcases h.2 with ⟨rfl, hn⟩ | ⟨g, cap, cur, rfl, _⟩
  · exact ⟨none, 0, by rw [hn]⟩
  · exact ⟨_, _, rfl⟩
theorem RowW.ints {b : Nat} {w : World} {v : Value} {zs : List Int} (h : RowW b w v zs) (hl : zs.length * 8 ≤ 140737488351232) : IntsAt w v zs := by
  refine ⟨hl, ?_⟩
  rcases h.2 with ⟨hv, h0⟩ | ⟨g, cap, cur, hv, _, hh, _⟩
  · exact ⟨none, 0, by rw [hv, h0], Or.inl (List.eq_nil_of_length_eq_zero h0)⟩
  · subst hv
    refine ⟨_, _, rfl, Or.inr ⟨g, 0, rfl, lt_of_block hh, fun k hk => ?_⟩⟩
    have e := World.ownsRow.cellAt h k (by omega)
    rw [Nat.zero_add, e]
    simp [hk]
theorem RowW.lit (w : World) (b : Nat) (hb : b ≤ w.heap.size) (x : Int) : RowW b (w.alloc (.cells #[.int .i64 x] 3)) (.slice (some ⟨w.heap.size, 0, none⟩) 1 1) [x] := by
  have h := World.ownsRow_lit (base := b) (e := 3) (size := 1) w #[.int .i64 x] 1 hb (by unfold maxLen; omega) rfl
  exact h

theorem RowT.of_blocks {b : Nat} {A : Nat → Prop} {w w' : World} {v : Value} {ts : List (Int × List Int)} (h : RowT b A w v ts) (hk : ∀ k, b ≤ k → k < w.heap.size → (A k ∨ v.ownBlock = some k) → w'.heap[k]? = w.heap[k]?) : RowT b A w' v ts := by
  obtain ⟨xs, ho, hx⟩ := h
  refine ⟨xs, ?_, fun j hj => ?_⟩
  · rcases ho.2 with ⟨rfl, hn⟩ | ⟨g, cap, cur, rfl, hb, hh, hr⟩
    · exact ⟨ho.1, Or.inl ⟨rfl, hn⟩⟩
    · exact ⟨ho.1, Or.inr ⟨g, cap, cur, rfl, hb, (hk g hb (lt_of_block hh) (Or.inr rfl)).trans hh, hr⟩⟩
  · obtain ⟨h1, nv, h2, h3, h4⟩ := hx j hj
    exact ⟨h1, nv, h2, h3.of_blocks (fun k e => hk k (h3.low e).1 (h3.low e).2 (Or.inl (h4 k e))), h4⟩
theorem RowT.allow {b : Nat} {A A' : Nat → Prop} {w : World} {v : Value} {ts : List (Int × List Int)} (h : RowT b A w v ts) (hA : ∀ k, A k → k < w.heap.size → A' k) : RowT b A' w v ts := by
  obtain ⟨xs, ho, hx⟩ := h
  refine ⟨xs, ho, fun j hj => ?_⟩
  obtain ⟨h1, nv, h2, h3, h4⟩ := hx j hj
  exact ⟨h1, nv, h2, h3, fun k e => hA k (h4 k e) (h3.low e).2⟩
theorem RowT.shape {b : Nat} {A : Nat → Prop} {w : World} {v : Value} {ts : List (Int × List Int)} (h : RowT b A w v ts) : ∃ a c, v = .slice a ts.length c := by
  obtain ⟨xs, ho, _⟩ := h
  rcases ho.2 with ⟨rfl, hn⟩ | ⟨g, cap, cur, rfl, _⟩
  · exact ⟨none, 0, by rw [hn]⟩
  · exact ⟨_, _, rfl⟩
theorem RowT.nil (b : Nat) (A : Nat → Prop) (w : World) : RowT b A w (.slice none 0 0) [] := ⟨[], World.ownsRow_nil _ _ _ _, fun j hj => by simp at hj⟩
theorem RowT.append {b : Nat} {A : Nat → Prop} {w w' : World} {v v' : Value} {ts : List (Int × List Int)} {xs : List Value} {wk : Int}
    (ho : w.ownsRow b 45 2 v ts.length xs) (hx : ∀ j, j < ts.length → xs[j * 2]? = some (.int .i64 (ts.getD j (0, [])).1) ∧ ∃ nv, xs[j * 2 + 1]? = some nv ∧ RowW b w nv (needsOf ts j) ∧ ∀ k, nv.ownBlock = some k → A k)
    (ho' : w'.ownsRow b 45 2 v' (ts.length + 1) (xs ++ [.int .i64 wk, .slice none 0 0])) (hg : w.grownBy w' v.ownBlock) : RowT b A w' v' (ts ++ [(wk, [])]) := by
  have hl : xs.length = ts.length * 2 := ho.1
  have kept : ∀ {nv : Value} {zs : List Int}, RowW b w nv zs → RowW b w' nv zs := fun {nv zs} hn => hn.of_blocks fun k e => by
    refine hg.block k (hn.low e).2 (fun hc => ?_)
    obtain ⟨cs, hcs⟩ := hn.block e
    rcases ho.2 with ⟨hv, _⟩ | ⟨g, cap, cur, hv, _, hh, _⟩
    · subst hv; simp [Value.ownBlock] at hc
    · subst hv
      simp only [Value.ownBlock, Option.some.injEq] at hc
      subst hc
      rw [hcs] at hh
      simp at hh
  refine ⟨xs ++ [.int .i64 wk, .slice none 0 0], by simpa using ho', fun j hj => ?_⟩
  simp at hj
  by_cases e : j = ts.length
  · subst e
    unfold needsOf
    rw [getD_snoc_at]
    refine ⟨by rw [← hl]; simp, .slice none 0 0, by rw [← hl]; simp, World.ownsRow_nil _ _ _ _, fun k e => by simp [Value.ownBlock] at e⟩
  · have hlt : j < ts.length := by omega
    obtain ⟨h1, nv2, h2, h3, h4⟩ := hx j hlt
    unfold needsOf at h3 ⊢
    rw [getD_snoc _ _ _ _ hlt]
    exact ⟨by rw [List.getElem?_append_left (by omega)]; exact h1, nv2, by rw [List.getElem?_append_left (by omega)]; exact h2, kept h3, h4⟩
/-- What the x-th needs is stored. -/
theorem RowT.set {b : Nat} {A : Nat → Prop} {w : World} {g cap x : Nat} {nv : Value} {ts : List (Int × List Int)} {zs : List Int} (h : RowT b A w (.slice (some ⟨g, 0, none⟩) ts.length cap) ts) (hx : x < ts.length) (hn : RowW b w nv zs) (hA : ∀ k, nv.ownBlock = some k → A k) :
    RowT b A (w.setCell ⟨g, x * 2 + 1, none⟩ nv) (.slice (some ⟨g, 0, none⟩) ts.length cap) (setN zs ts x) := by
  obtain ⟨xs, ho, hxs⟩ := h
  obtain ⟨ho', hg⟩ := ho.stored (x * 2 + 1) nv
  have hlx : xs.length = ts.length * 2 := ho.1
  have kept : ∀ {mv : Value} {zs : List Int}, RowW b w mv zs → RowW b (w.setCell ⟨g, x * 2 + 1, none⟩ nv) mv zs := fun {mv zs} hn => by
    refine hn.of_blocks fun k e => ?_
    refine hg.block k (hn.low e).2 (fun hc => ?_)
    obtain ⟨cs, hcs⟩ := hn.block e
    rcases ho.2 with ⟨hv, _⟩ | ⟨g', cap', cur, hv, _, hh, _⟩
    · cases hv
    · simp only [Value.slice.injEq, Option.some.injEq, Addr.mk.injEq, and_true, true_and] at hv
      obtain ⟨rfl, _⟩ := hv
      rw [← Option.some.inj hc, hcs] at hh
      simp at hh
  refine ⟨xs.set (x * 2 + 1) nv, by rw [setN_length]; exact ho', fun j hj => ?_⟩
  rw [setN_length] at hj
  obtain ⟨h1, nv2, h2, h3, h4⟩ := hxs j hj
  unfold needsOf
  rw [setN_getD]
  by_cases e : x = j
  · subst e
    rw [if_pos ⟨rfl, hx⟩]
    exact ⟨by rw [List.getElem?_set_ne (by omega)]; exact h1, nv, by simp [List.getElem?_set]; omega, kept hn, hA⟩
  · rw [if_neg (fun h => e h.1)]
    exact ⟨by rw [List.getElem?_set_ne (by omega)]; exact h1, nv2, by rw [List.getElem?_set_ne (by omega)]; exact h2, kept h3, h4⟩
theorem RowT.planAt {b : Nat} {A : Nat → Prop} {w : World} {v : Value} {ts : List (Int × List Int)} (h : RowT b A w v ts) (hl : ts.length * 32 ≤ 140737488351232) (hn : ∀ j, j < ts.length → (needsOf ts j).length * 8 ≤ 140737488351232) : PlanAt w v ts := by
  obtain ⟨xs, ho, hx⟩ := h
  refine ⟨hl, ?_⟩
  rcases ho.2 with ⟨hv, h0⟩ | ⟨g, cap, cur, hv, _, hh, _⟩
  · exact ⟨none, 0, by rw [hv, h0], Or.inl (List.eq_nil_of_length_eq_zero h0)⟩
  · subst hv
    refine ⟨_, _, rfl, Or.inr ⟨g, 0, rfl, lt_of_block hh, fun k hk => ?_⟩⟩
    obtain ⟨h1, nv, h2, h3, _⟩ := hx k hk
    have e1 := ho.cellAt (k * 2) (by omega)
    have e2 := ho.cellAt (k * 2 + 1) (by omega)
    rw [Nat.zero_add]
    exact ⟨by rw [e1]; exact h1, nv, by rw [e2]; exact h2, h3.ints (hn k hk)⟩

theorem Rd.of_heap {R i : Nat} {l : List UInt8} {ts : List (Int × List Int)} {A : Nat → Prop} {w w' : World} (h : Rd R l i ts A w) (e : ∀ k, k < w.heap.size → w'.heap[k]? = w.heap[k]?) : Rd R l i ts A w' := by
  obtain ⟨tv, h1, h2⟩ := h
  exact ⟨tv, (e R (lt_of_block h1)).trans h1, h2.of_blocks (fun k _ hk _ => e k hk)⟩
theorem Rd.later {R i : Nat} {l : List UInt8} {ts : List (Int × List Int)} {A : Nat → Prop} {w w' : World} (h : Rd R l i ts A w) (hb : Below w.heap.size w w') : Rd R l i ts A w' := h.of_heap hb.block
theorem Rd.alloc {R i : Nat} {l : List UInt8} {ts : List (Int × List Int)} {A : Nat → Prop} {w : World} (h : Rd R l i ts A w) (o : Obj) : Rd R l i ts A (w.alloc o) := h.of_heap (fun _ hk => Below.heap_alloc _ _ _ hk)
theorem Rd.drewN {R i : Nat} {l : List UInt8} {ts : List (Int × List Int)} {A : Nat → Prop} {w : World} (h : Rd R l i ts A w) (n : Nat) : Rd R l i ts A (w.drewN n) := h.of_heap (fun _ _ => rfl)
theorem Rd.allow {R i : Nat} {l : List UInt8} {ts : List (Int × List Int)} {A A' : Nat → Prop} {w : World} (h : Rd R l i ts A w) (hA : ∀ k, A k → k < w.heap.size → A' k) : Rd R l i ts A' w := by
  obtain ⟨tv, h1, h2⟩ := h
  exact ⟨tv, h1, h2.allow hA⟩
theorem Rd.cells {R i : Nat} {l : List UInt8} {ts : List (Int × List Int)} {A : Nat → Prop} {w : World} (h : Rd R l i ts A w) :
    w.cell? ⟨R, 0, none⟩ = some (.string ⟨l.toArray⟩) ∧ w.cell? ⟨R, 1, none⟩ = some (.int .i64 i) ∧ (∃ tv, w.cell? ⟨R, 2, none⟩ = some tv ∧ RowT (R + 1) A w tv ts) ∧ ∀ j, w.frozen? ⟨R, j, none⟩ = false := by
  obtain ⟨tv, h1, h2⟩ := h
  exact ⟨by simp [World.cell?, h1], by simp [World.cell?, h1], ⟨tv, by simp [World.cell?, h1], h2⟩, fun j => by simp [World.frozen?, h1]⟩
theorem Rd.place {R i : Nat} {l : List UInt8} {ts : List (Int × List Int)} {A : Nat → Prop} {w : World} (h : Rd R l i ts A w) (k : Nat) : Rd R l k ts A (w.setCell ⟨R, 1, none⟩ (.int .i64 k)) := by
  obtain ⟨tv, h1, h2⟩ := h
  refine ⟨tv, ?_, h2.of_blocks (fun k hk _ _ => Below.heap_setCell _ _ _ _ (by show k ≠ R; omega))⟩
  have := heap_setCell_same w R 1 _ 77 (.int .i64 k) h1
  simpa using this
theorem Rd.tasks {R i : Nat} {l : List UInt8} {ts ts' : List (Int × List Int)} {A A' : Nat → Prop} {w : World} {tv' : Value} (h : Rd R l i ts A w) (ht : RowT (R + 1) A' w tv' ts') : Rd R l i ts' A' (w.setCell ⟨R, 2, none⟩ tv') := by
  obtain ⟨tv, h1, h2⟩ := h
  refine ⟨tv', ?_, ht.of_blocks (fun k hk _ _ => Below.heap_setCell _ _ _ _ (by show k ≠ R; omega))⟩
  have := heap_setCell_same w R 2 _ 77 tv' h1
  simpa using this
end Go.Proofs.Ytkcpimbhfmhjgaa
