/- What LogKeeps has in memory: a log, and two rows of its own; what it keeps through each step. -/
import Derived.Test.YtbknbakbfblbiaaDoorLfl
import Derived.Test.YtbknbakbfblbiaaDoorLgw
import Derived.Test.YtbknbakbfblbiaaDoorM
namespace Go.Proofs.YtbknbakbfblbiaaDoor
open Go.RowKit Go.Deep

theorem RowI.cutI {b : Nat} {w : World} {a : Option Addr} {zs : List Int} {c n : Nat} (h : RowI b w (.slice a zs.length c) zs) (hn : n ≤ zs.length) : RowI b w (.slice a n c) (zs.take n) := by
  have hl : (zs.take n).length = n := by simp; omega
  unfold RowI
  rw [hl, List.map_take]
  rcases h.2 with ⟨hv, h0⟩ | ⟨g, cap, cur, hv, hb, hh, hc, hm, hs, ht⟩
  · simp only [Value.slice.injEq] at hv
    obtain ⟨rfl, _, rfl⟩ := hv
    obtain rfl : n = 0 := by omega
    exact ⟨by simp, Or.inl ⟨rfl, rfl⟩⟩
  · simp only [Value.slice.injEq] at hv
    obtain ⟨rfl, _, rfl⟩ := hv
    refine ⟨by rw [List.length_take, List.length_map]; omega, Or.inr ⟨g, _, cur, rfl, hb, hh, by omega, hm, hs, ?_⟩⟩
    simp only [Nat.mul_one] at ht ⊢
    rw [← ht, List.take_take, Nat.min_eq_left hn]
theorem RowI.readI {b : Nat} {w : World} {v : Value} {zs : List Int} (h : RowI b w v zs) (hl : zs.length ≤ 1000) : IntsAt w v zs := by
  refine ⟨by omega, ?_⟩
  by_cases h0 : zs = []
  · subst h0
    obtain ⟨a, c, hv⟩ := h.shape
    exact ⟨a, c, hv, Or.inl rfl⟩
  · obtain ⟨g, c, hv, _, hg, _⟩ := h.full (List.length_pos_iff.2 h0)
    subst hv
    exact ⟨_, c, rfl, Or.inr ⟨g, 0, rfl, hg, fun k hk => by rw [Nat.zero_add]; exact h.cell hk⟩⟩

/-- How many bytes there were behind each record. -/
def marksOf (m : Nat) : List Int := (List.range (m + 1)).map (fun i => ((2 * i : Nat) : Int))
theorem marksOf_length (m : Nat) : (marksOf m).length = m + 1 := by simp [marksOf]
theorem marksOf_succ (m : Nat) : marksOf (m + 1) = marksOf m ++ [((2 * (m + 1) : Nat) : Int)] := by unfold marksOf; rw [List.range_succ, List.map_append]; rfl
theorem marksOf_getD {m k : Nat} (h : k ≤ m) : (marksOf m).getD k 0 = ((2 * k : Nat) : Int) := by
  simp [marksOf, List.getD_eq_getElem?_getD, show k < m + 1 by omega]
theorem marksOf_take {m k : Nat} (h : k ≤ m) : (marksOf m).take (k + 1) = marksOf k := by
  unfold marksOf
  rw [← List.map_take, List.take_range, Nat.min_eq_left (by omega)]

/-- A log is as it was where what is written is none of its own. -/
theorem Lg.away {B T L : Nat} {X : Nat → Prop} {ts : List (Int × List Int)} {s : Ls} {w w' : World} (h : Lg B T X L ts s w) (hk : Kx (fun b => ¬ X b ∧ T ≤ b) w w') : Lg B T X L ts s w' := by
  obtain ⟨⟨XJ, J, pv, dv, hM⟩, h2⟩ := h
  have keep : ∀ b, X b → b < w.heap.size → w'.heap[b]? = w.heap[b]? := fun b hx hl => hk.block b hl (fun e => e.1 hx)
  have hpl : PlanX (fun b => X b ∨ T ≤ b) w' pv ts := hM.plan.kx (hk.weak (fun b e => Or.inr e.2)) (fun _ h => Or.inl h)
  exact ⟨⟨XJ, J, pv, dv, hM.row.of_block (keep L hM.xL.1 hM.ltL), hM.jo.kept (fun b hx hl => keep b (hM.xJ b hx).1 hl), hM.data.of_blocks (fun b e => keep b (hM.xd b e) (hM.data.low e).2), hpl, Nat.le_trans hM.top hk.size, hM.xJ, hM.xL, hM.xd, fun b hx => ⟨Nat.lt_of_lt_of_le (hM.lt b hx).1 hk.size, (hM.lt b hx).2⟩⟩, h2⟩
theorem Lg.topT {B T L : Nat} {X : Nat → Prop} {ts : List (Int × List Int)} {s : Ls} {w : World} (h : Lg B T X L ts s w) : T ≤ w.heap.size := by
  obtain ⟨⟨XJ, J, pv, dv, hM⟩, _⟩ := h
  exact hM.top

/-- What LogKeeps has in memory. -/
structure KM (B R L : Nat) (ts : List (Int × List Int)) (s : Ls) (d : List Nat) (m : Nat) (vd vm : Value) (w0 w : World) : Prop where
  ex : ∃ T X, Lg B T X L ts s w ∧ T ≤ R ∧ (∀ b, vd.ownBlock = some b → ¬ X b) ∧ ∀ b, vm.ownBlock = some b → ¬ X b
  done : RowI R w vd (intsOf d)
  marks : RowI R w vm (marksOf m)
  ne : ∀ b, vd.ownBlock = some b → vm.ownBlock ≠ some b
  below : Below B w0 w
  leB : B ≤ R
  typed : Typed w0 ∧ 0 < B
variable {B R L : Nat} {ts : List (Int × List Int)} {s s' : Ls} {d : List Nat} {m : Nat} {vd vm : Value} {w0 w w' : World}
theorem KM.size (h : KM B R L ts s d m vd vm w0 w) : B ≤ w.heap.size := by
  obtain ⟨T, X, hl, _⟩ := h.ex
  exact hl.leB
theorem KM.ok (h : KM B R L ts s d m vd vm w0 w) : s.Ok ts := by
  obtain ⟨T, X, hl, _⟩ := h.ex
  exact hl.2.1
theorem KM.later (h : KM B R L ts s d m vd vm w0 w) (hb : Below w.heap.size w w') : KM B R L ts s d m vd vm w0 w' := by
  obtain ⟨T, X, hl, h1, h2, h3⟩ := h.ex
  exact ⟨⟨T, X, hl.later hb, h1, h2, h3⟩, h.done.of_blocks (fun b e => hb.block b (h.done.low e).2), h.marks.of_blocks (fun b e => hb.block b (h.marks.low e).2), h.ne, h.below.trans (hb.mono h.size), h.leB, h.typed⟩
theorem KM.drewN (h : KM B R L ts s d m vd vm w0 w) (n : Nat) : KM B R L ts s d m vd vm w0 (w.drewN n) := h.later ⟨rfl, rfl, rfl, Nat.le_refl _, fun _ _ => rfl⟩
theorem KM.isTyped (h : KM B R L ts s d m vd vm w0 w) : Typed w :=
  (h.below.cell (p := ⟨0, 0, none⟩) (by have := h.typed.2; show 0 < B; omega)).trans h.typed.1
/-- Behind a call of the log. -/
def KTo (B R L : Nat) (ts : List (Int × List Int)) (s' : Ls) (d : List Nat) (m : Nat) (vd vm : Value) (w0 w' : World) : Prop := KM B R L ts s' d m vd vm w0 w'
theorem KM.call (h : KM B R L ts s d m vd vm w0 w) {f : Nat} {args : Array Value} {Q : Ending → Prop} (hc : ∀ T X, Lg B T X L ts s w → Calls Tryd.prog f args w fun e w' => Q e ∧ LgTo B T X L ts s' w w') :
    Calls Tryd.prog f args w fun e w' => Q e ∧ KM B R L ts s' d m vd vm w0 w' := by
  obtain ⟨T, X, hl, h1, h2, h3⟩ := h.ex
  refine (hc T X hl).mono ?_
  rintro e w' ⟨hq, X', hl', hk, hg⟩
  refine ⟨hq, ⟨T, X', hl', h1, fun b e hx => ?_, fun b e hx => ?_⟩, h.done.of_blocks (fun b e => hk.block b (h.done.low e).2 (h2 b e)), h.marks.of_blocks (fun b e => hk.block b (h.marks.low e).2 (h3 b e)), h.ne, h.below.trans (hk.below hl.ge hl.leB), h.leB, h.typed⟩
  · rcases hg b hx with e2 | e2
    · exact h2 b e e2
    · have := (h.done.low e).2; omega
  · rcases hg b hx with e2 | e2
    · exact h3 b e e2
    · have := (h.marks.low e).2; omega
theorem KM.fail (h : KM B R L ts s d m vd vm w0 w) (n : Int) (hn : -9223372036854775808 ≤ n ∧ n < 9223372036854775808) : Calls Tryd.prog 7 #[.pointer (some ⟨L, 0, none⟩), .int .i64 n] w fun e w' => e = .returned (.tuple #[]) ∧ KM B R L ts (s.fail n) d m vd vm w0 w' :=
  h.call (Q := fun e => e = .returned (.tuple #[])) (fun _ _ hl => fail_any n hl hn)
theorem KM.doneC (h : KM B R L ts s d m vd vm w0 w) (i : Int) : Calls Tryd.prog 8 #[.pointer (some ⟨L, 0, none⟩), .int .i64 i] w fun e w' => e = .returned (errV (s.doneE ts i)) ∧ KM B R L ts (s.done ts i) d m vd vm w0 w' :=
  h.call (Q := fun e => e = .returned (errV (s.doneE ts i))) (fun _ _ hl => doneL_any i hl)
theorem KM.syncC (h : KM B R L ts s d m vd vm w0 w) : Calls Tryd.prog 10 #[.pointer (some ⟨L, 0, none⟩)] w fun e w' => e = .returned (errV s.syncE) ∧ KM B R L ts s.sync d m vd vm w0 w' :=
  h.call (Q := fun e => e = .returned (errV s.syncE)) (fun _ _ hl => syncL_any hl)
theorem KM.crashC (h : KM B R L ts s d m vd vm w0 w) (keep : Int) : Calls Tryd.prog 11 #[.pointer (some ⟨L, 0, none⟩), .int .i64 keep] w fun e w' => e = .returned (.tuple #[]) ∧ KM B R L ts (s.crash keep) d m vd vm w0 w' :=
  h.call (Q := fun e => e = .returned (.tuple #[])) (fun _ _ hl => crash_any keep hl)
theorem KM.bytesC (h : KM B R L ts s d m vd vm w0 w) : Calls Tryd.prog 14 #[.pointer (some ⟨L, 0, none⟩)] w fun e w' => e = .returned (.int .i64 (dataOf s.recs s.half).length) ∧ w' = w := by
  obtain ⟨T, X, hl, _⟩ := h.ex
  exact bytes_any hl hl.le
theorem KM.safeC (h : KM B R L ts s d m vd vm w0 w) : Calls Tryd.prog 15 #[.pointer (some ⟨L, 0, none⟩)] w fun e w' => e = .returned (.int .i64 s.safe) ∧ w' = w := by
  obtain ⟨T, X, hl, _⟩ := h.ex
  exact safe_any hl
theorem KM.allC (h : KM B R L ts s d m vd vm w0 w) : Calls Tryd.prog 12 #[.pointer (some ⟨L, 0, none⟩)] w fun e w' => (∃ v, e = .returned v ∧ IntsAt w' v (intsOf s.recs)) ∧ Below w.heap.size w w' := by
  obtain ⟨T, X, hl, _⟩ := h.ex
  have h30 := hl.le
  obtain ⟨⟨XJ, J, pv, dv, hM⟩, hok, _⟩ := hl
  refine (allL_any hM hok h30).mono ?_
  rintro e w' ⟨⟨v, rfl, hv⟩, hb⟩
  exact ⟨⟨v, rfl, hv.readI (by rw [intsOf_length]; have := hok.seq.len; omega)⟩, hb⟩
theorem KM.readyC (h : KM B R L ts s d m vd vm w0 w) : Calls Tryd.prog 19 #[.pointer (some ⟨L, 0, none⟩)] w fun e w' => (∃ v, e = .returned v ∧ IntsAt w' v (intsOf (readyTo ts (inL s.recs) ts.length))) ∧ Below w.heap.size w w' := by
  obtain ⟨T, X, hl, _⟩ := h.ex
  have h30 := hl.le
  refine (readyL_any hl).mono ?_
  rintro e w' ⟨⟨v, rfl, hv⟩, hb⟩
  exact ⟨⟨v, rfl, hv.readI (by rw [intsOf_length]; have := readyTo_len ts (inL s.recs) ts.length; omega)⟩, hb⟩
theorem KM.errorC (h : KM B R L ts s d m vd vm w0 w) (q k : Int) : Calls Tryd.prog 9 #[errV q, .int .i64 k] w fun e w' => e = .returned (.bool (q == k)) ∧ KM B R L ts s d m vd vm w0 w' := by
  refine (error_any q k w h.isTyped).mono ?_
  rintro e w' ⟨rfl, hb⟩
  exact ⟨rfl, h.later hb⟩
/-- One more is written down as done. -/
theorem KM.appD {wa : World} {v2 : Value} {i : Nat} (h : KM B R L ts s d m vd vm w0 w) (hb : Below w.heap.size w wa) (hr : RowI R w' v2 (intsOf d ++ [(i : Int)])) (hg : wa.grownBy w' vd.ownBlock) (hat : v2.ownBlock = vd.ownBlock ∨ v2.ownBlock = some wa.heap.size) :
    KM B R L ts s (d ++ [i]) m v2 vm w0 w' := by
  have h0 := h.later hb
  obtain ⟨T, X, hl, h1, h2, h3⟩ := h0.ex
  have hk : Kx (fun b => ¬ X b ∧ T ≤ b) wa w' := ⟨hg.os, hg.tape, hg.output, hg.size, fun k hk hn => hg.block k hk (fun e => hn ⟨h2 k e.symm, Nat.le_trans h1 (h0.done.low e.symm).1⟩)⟩
  have hX : ∀ b, X b → b < wa.heap.size := fun b hb => by
    obtain ⟨⟨XJ, J, pv, dv, hM⟩, _⟩ := hl
    exact (hM.lt b hb).1
  have hnew : ∀ b, v2.ownBlock = some b → vd.ownBlock = some b ∨ b = wa.heap.size := fun b e => by
    rcases hat with h | h
    · exact Or.inl (h.symm.trans e)
    · exact Or.inr (Option.some.inj (e.symm.trans h))
  refine ⟨⟨T, X, hl.away hk, h1, fun b e hx => ?_, h3⟩, by rw [intsOf_append]; exact hr, h0.marks.of_blocks (fun b e => hg.block b (h0.marks.low e).2 (fun e2 => h0.ne b e2.symm e)), fun b e e2 => ?_, ?_, h.leB, h.typed⟩
  · rcases hnew b e with e2 | e2
    · exact h2 b e2 hx
    · have := hX b hx; omega
  · rcases hnew b e with e3 | e3
    · exact h0.ne b e3 e2
    · have := (h0.marks.low e2).2; omega
  · exact h0.below.grown hg h0.size (fun j e => by have := (h0.done.low e).1; have := h.leB; omega)
theorem KM.appM {wa : World} {v2 : Value} (h : KM B R L ts s d m vd vm w0 w) (hb : Below w.heap.size w wa) (hr : RowI R w' v2 (marksOf m ++ [((2 * (m + 1) : Nat) : Int)])) (hg : wa.grownBy w' vm.ownBlock) (hat : v2.ownBlock = vm.ownBlock ∨ v2.ownBlock = some wa.heap.size) :
    KM B R L ts s d (m + 1) vd v2 w0 w' := by
  have h0 := h.later hb
  obtain ⟨T, X, hl, h1, h2, h3⟩ := h0.ex
  have hk : Kx (fun b => ¬ X b ∧ T ≤ b) wa w' := ⟨hg.os, hg.tape, hg.output, hg.size, fun k hk hn => hg.block k hk (fun e => hn ⟨h3 k e.symm, Nat.le_trans h1 (h0.marks.low e.symm).1⟩)⟩
  have hX : ∀ b, X b → b < wa.heap.size := fun b hb => by
    obtain ⟨⟨XJ, J, pv, dv, hM⟩, _⟩ := hl
    exact (hM.lt b hb).1
  have hnew : ∀ b, v2.ownBlock = some b → vm.ownBlock = some b ∨ b = wa.heap.size := fun b e => by
    rcases hat with h | h
    · exact Or.inl (h.symm.trans e)
    · exact Or.inr (Option.some.inj (e.symm.trans h))
  refine ⟨⟨T, X, hl.away hk, h1, h2, fun b e hx => ?_⟩, h0.done.of_blocks (fun b e => hg.block b (h0.done.low e).2 (fun e2 => h0.ne b e e2.symm)), by rw [marksOf_succ]; exact hr, fun b e e2 => ?_, ?_, h.leB, h.typed⟩
  · rcases hnew b e with e2 | e2
    · exact h3 b e2 hx
    · have := hX b hx; omega
  · rcases hnew b e2 with e3 | e3
    · exact h0.ne b e e3
    · have := (h0.done.low e).2; omega
  · exact h0.below.grown hg h0.size (fun j e => by have := (h0.marks.low e).1; have := h.leB; omega)
/-- Both are cut. -/
theorem KM.cut {a a2 : Option Addr} {c c2 k : Nat} (h : KM B R L ts s d m (.slice a d.length c) (.slice a2 (m + 1) c2) w0 w) (hd : k ≤ d.length) (hm : k ≤ m) : KM B R L ts s (d.take k) k (.slice a k c) (.slice a2 (k + 1) c2) w0 w := by
  have o1 : ∀ b, (Value.slice a k c).ownBlock = some b → (Value.slice a d.length c).ownBlock = some b := fun b hb => by cases a <;> exact hb
  have o2 : ∀ b, (Value.slice a2 (k + 1) c2).ownBlock = some b → (Value.slice a2 (m + 1) c2).ownBlock = some b := fun b hb => by cases a2 <;> exact hb
  obtain ⟨T, X, hl, h1, h2, h3⟩ := h.ex
  have r1 := h.done
  have r2 := h.marks
  rw [← intsOf_length d] at r1
  rw [← marksOf_length m] at r2
  have q1 := r1.cutI (n := k) (by rw [intsOf_length]; exact hd)
  have q2 := r2.cutI (n := k + 1) (by rw [marksOf_length]; omega)
  rw [marksOf_take hm] at q2
  have e1 : (intsOf d).take k = intsOf (d.take k) := by simp [intsOf, List.map_take]
  rw [e1] at q1
  exact ⟨⟨T, X, hl, h1, fun b e => h2 b (o1 b e), fun b e => h3 b (o2 b e)⟩, q1, q2, fun b e e2 => h.ne b (o1 b e) (o2 b e2), h.below, h.leB, h.typed⟩
theorem KM.shapeD (h : KM B R L ts s d m vd vm w0 w) : ∃ a c, vd = .slice a d.length c ∧ d.length ≤ c := by
  obtain ⟨a, c, hv, hl⟩ := h.done.cap
  rw [intsOf_length] at hv hl
  exact ⟨a, c, hv, hl⟩
theorem KM.shapeM (h : KM B R L ts s d m vd vm w0 w) : ∃ g c, vm = .slice (some ⟨g, 0, none⟩) (m + 1) c ∧ m + 1 ≤ c ∧ ∀ k, k ≤ m → w.cell? ⟨g, k, none⟩ = some (.int .i64 ((2 * k : Nat) : Int)) := by
  obtain ⟨g, c, hv, _, _, hl, _⟩ := h.marks.full (by rw [marksOf_length]; omega)
  have hc := h.marks
  rw [hv] at hc
  rw [marksOf_length] at hv hl hc
  refine ⟨g, c, hv, hl, fun k hk => ?_⟩
  have := hc.cell (k := k) (by rw [marksOf_length]; omega)
  rw [marksOf_getD hk] at this
  exact this
/-- The same, whatever its state is. -/
def KB (B R L : Nat) (ts : List (Int × List Int)) (vd vm : Value) (w0 w : World) : Prop := ∃ s, KM B R L ts s s.recs s.recs.length vd vm w0 w

theorem IntsAt.at {w : World} {a : Option Addr} {n c : Nat} {zs : List Int} (h : IntsAt w (.slice a n c) zs) {k : Nat} (hk : k < zs.length) : ∃ b o, a = some ⟨b, o, none⟩ ∧ w.cell? ⟨b, o + k, none⟩ = some (.int .i64 (zs.getD k 0)) ∧ b < w.heap.size := by
  obtain ⟨_, a', c', hv, hz⟩ := h
  simp only [Value.slice.injEq] at hv
  obtain ⟨rfl, _, rfl⟩ := hv
  rcases hz with hz | ⟨b, o, e, hb, hc⟩
  · rw [hz] at hk; simp at hk
  · exact ⟨b, o, e, hc k hk, hb⟩
theorem wf_bounds {z : Int} (h : (Lit.int .i64 z).wf = true) : -9223372036854775808 ≤ z ∧ z < 9223372036854775808 := by
  simp [Lit.wf, IntKind.min, IntKind.max, IntKind.signed, IntKind.bits] at h
  omega
theorem sync_recs (s : Ls) : s.sync.recs = s.recs := by
  unfold Ls.sync
  split
  · rfl
  · split
    · rfl
    · unfold Ls.tick; split <;> rfl
theorem sync_safe {s : Ls} (h : s.syncE = 0) : s.sync.safe = (dataOf s.sync.recs s.sync.half).length := by
  unfold Ls.syncE at h
  unfold Ls.sync
  cases hs : s.stopped with
  | true => rw [hs] at h; simp at h
  | false =>
    rw [hs] at h
    by_cases ha : s.ahead = 0
    · rw [if_pos ha] at h; simp at h
    · simp only [Bool.false_eq_true, if_false, ha]
      unfold Ls.tick
      split <;> rfl
theorem done_cases {ts : List (Int × List Int)} {s : Ls} (hok : s.Ok ts) (x : Int) :
    (s.doneE ts x = 0 → 0 ≤ x ∧ doneErr ts (inL s.recs) x = 0 ∧ (s.done ts x).recs = s.recs ++ [x.toNat] ∧ s.half = [] ∧ (s.done ts x).half = []) ∧
    (s.doneE ts x ≠ 0 → (s.done ts x).recs = s.recs ∧ (s.doneE ts x = 6 ∨ s.doneE ts x = doneErr ts (inL s.recs) x)) := by
  cases hs : s.stopped with
  | true =>
    have e1 : s.doneE ts x = 6 := by unfold Ls.doneE; rw [hs]; rfl
    have e2 : s.done ts x = s := by unfold Ls.done; rw [hs]; rfl
    rw [e1, e2]
    exact ⟨fun h => by simp at h, fun _ => ⟨rfl, Or.inl rfl⟩⟩
  | false =>
    by_cases hd : doneErr ts (inL s.recs) x = 0
    · by_cases ha : s.ahead = 0
      · have e1 : s.doneE ts x = 6 := by unfold Ls.doneE; rw [hs, hd]; simp [ha]
        have e2 : (s.done ts x).recs = s.recs := by unfold Ls.done; rw [hs, hd]; simp [ha]
        rw [e1, e2]
        exact ⟨fun h => by simp at h, fun _ => ⟨rfl, Or.inl rfl⟩⟩
      · have e1 : s.doneE ts x = 0 := by unfold Ls.doneE; rw [hs, hd]; simp [ha]
        have e2 : s.done ts x = { s.tick with recs := s.recs ++ [x.toNat] } := by unfold Ls.done; rw [hs, hd]; simp [ha]
        have e3 : s.tick.half = s.half := by unfold Ls.tick; split <;> rfl
        refine ⟨fun _ => ⟨(doneErr_zero hd).2.1, hd, by rw [e2], hok.none hs, ?_⟩, fun h => absurd e1 h⟩
        rw [e2]
        exact e3.trans (hok.none hs)
    · have e1 : s.doneE ts x = doneErr ts (inL s.recs) x := by unfold Ls.doneE; rw [hs]; simp [hd]
      have e2 : s.done ts x = s := by unfold Ls.done; rw [hs]; simp [hd]
      rw [e2]
      exact ⟨fun h => absurd (e1.symm.trans h) hd, fun _ => ⟨rfl, Or.inr e1⟩⟩
theorem crash_facts {ts : List (Int × List Int)} {s : Ls} (hok : s.Ok ts) (kp : Int) : s.kept kp / 2 ≤ s.recs.length ∧ (s.crash kp).recs = s.recs.take (s.kept kp / 2) ∧ (s.crash kp).recs.length = s.kept kp / 2 ∧ (dataOf (s.crash kp).recs (s.crash kp).half).length = 2 * (s.kept kp / 2) ∧ (s.crash kp).safe = 2 * (s.kept kp / 2) := by
  have h2 := (hok.kept_le kp).2
  rw [dataOf_length] at h2
  have h3 := hok.half
  have hq : s.kept kp / 2 ≤ s.recs.length := by omega
  have hl : (s.crash kp).recs.length = s.kept kp / 2 := by
    show (s.recs.take (s.kept kp / 2)).length = _
    rw [List.length_take]
    omega
  refine ⟨hq, rfl, hl, ?_, rfl⟩
  rw [dataOf_length, hl]
  rfl
theorem kept_cases {ts : List (Int × List Int)} {s : Ls} (hok : s.Ok ts) (kp : Int) : (0 < kp ∧ kp < ((dataOf s.recs s.half).length : Int) - (s.safe : Int) → ((s.kept kp : Nat) : Int) = (s.safe : Int) + kp) ∧ (0 < kp ∧ ¬ kp < ((dataOf s.recs s.half).length : Int) - (s.safe : Int) → s.kept kp = (dataOf s.recs s.half).length) ∧ (¬ 0 < kp → s.kept kp = s.safe) := by
  have h1 := hok.safe
  have h2 : s.safe ≤ (dataOf s.recs s.half).length := by rw [dataOf_length]; omega
  unfold Ls.kept
  generalize (dataOf s.recs s.half).length = N at *
  generalize s.safe = F at *
  refine ⟨fun h => ?_, fun h => ?_, fun h => ?_⟩ <;> omega
end Go.Proofs.YtbknbakbfblbiaaDoor
