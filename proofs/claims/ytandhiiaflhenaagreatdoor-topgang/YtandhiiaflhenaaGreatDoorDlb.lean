/- Deeds in memory: in a row of their own, read; append of deeds. Which part of memory a block belongs to: labels; deeds in memory. -/
import Derived.Test.YtandhiiaflhenaaGreatDoorGnp
import Derived.Test.YtandhiiaflhenaaGreatDoorJna
import Derived.Maps.AppendAt
import Derived.BigQuiet
import Derived.Test.YtandhiiaflhenaaGreatDoorJnb
import Derived.Test.YtandhiiaflhenaaGreatDoorHnd
import Derived.Test.YtandhiiaflhenaaGreatDoorSpl
import Derived.Test.YtandhiiaflhenaaGreatDoorPrk

namespace Go.Proofs.YtandhiiaflhenaaGreatDoor
open Go.RowKit Go.Deep

/-- A deed's cells. -/
def deedV (s : Deed) : List Value := [.int .i64 s.1, .int .i64 s.2.1, .int .i64 s.2.2.1, .int .i64 s.2.2.2]
/-- Deeds as cells. -/
def flat4 (l : List Deed) : List Value := l.flatMap deedV
theorem flat4_append (a b : List Deed) : flat4 (a ++ b) = flat4 a ++ flat4 b := by simp [flat4]
theorem flat4_one (s : Deed) : flat4 [s] = deedV s := by simp [flat4]
theorem flat4_length (l : List Deed) : (flat4 l).length = l.length * 4 := by
  induction l with
  | nil => rfl
  | cons b r ih =>
    have : flat4 (b :: r) = flat4 [b] ++ flat4 r := flat4_append [b] r
    rw [this, List.length_append, ih, flat4_one]
    simp [deedV]; omega
theorem flat4_at {l : List Deed} {k : Nat} (hk : k < l.length) : ∀ j, j < 4 → (flat4 l)[k * 4 + j]? = (deedV (l.getD k (0, 0, 0, 0)))[j]? := by
  induction l generalizing k with
  | nil => simp at hk
  | cons b r ih =>
    intro j hj
    have e : flat4 (b :: r) = deedV b ++ flat4 r := by rw [← flat4_one]; exact flat4_append [b] r
    have hl : (deedV b).length = 4 := rfl
    rw [e]
    cases k with
    | zero =>
      rw [List.getElem?_append_left (by rw [hl]; omega)]
      simp
    | succ k =>
      rw [List.getElem?_append_right (by rw [hl]; omega), hl]
      rw [show (k + 1) * 4 + j - 4 = k * 4 + j by omega]
      simpa using ih (k := k) (by simp at hk; omega) j hj

/-- Deeds in a row of their own, from block b on. -/
def RowD (b : Nat) (w : World) (v : Value) (l : List Deed) : Prop := w.ownsRow b 43 4 v l.length (flat4 l)
theorem RowD.of_blocks {b : Nat} {w w' : World} {v : Value} {l : List Deed} (h : RowD b w v l) (hk : ∀ k, v.ownBlock = some k → w'.heap[k]? = w.heap[k]?) : RowD b w' v l := by
  rcases h.2 with ⟨rfl, hn⟩ | ⟨g, cap, cur, rfl, hb, hh, hr⟩
  · exact ⟨h.1, Or.inl ⟨rfl, hn⟩⟩
  · exact ⟨h.1, Or.inr ⟨g, cap, cur, rfl, hb, (hk g rfl).trans hh, hr⟩⟩
theorem RowD.mono {b b' : Nat} {w : World} {v : Value} {l : List Deed} (h : RowD b w v l) (hb : b' ≤ b) : RowD b' w v l := by
  rcases h.2 with hn | ⟨g, cap, cur, hv, hg, r⟩
  · exact ⟨h.1, Or.inl hn⟩
  · exact ⟨h.1, Or.inr ⟨g, cap, cur, hv, Nat.le_trans hb hg, r⟩⟩
theorem RowD.low {b : Nat} {w : World} {v : Value} {l : List Deed} (h : RowD b w v l) {k : Nat} (hk : v.ownBlock = some k) : b ≤ k ∧ k < w.heap.size := World.ownsRow.lt h k hk
theorem RowD.shape {b : Nat} {w : World} {v : Value} {l : List Deed} (h : RowD b w v l) : ∃ a c, v = .slice a l.length c := by
  rcases h.2 with ⟨rfl, hn⟩ | ⟨g, cap, cur, rfl, _, _, hc, _⟩
  · exact ⟨none, 0, by rw [hn]⟩
  · exact ⟨_, _, rfl⟩
theorem RowD.later {b : Nat} {w w' : World} {v : Value} {l : List Deed} (h : RowD b w v l) (hb : Below w.heap.size w w') : RowD b w' v l := h.of_blocks (fun _ e => hb.block _ (h.low e).2)
theorem RowD.full {b : Nat} {w : World} {v : Value} {l : List Deed} (h : RowD b w v l) (hz : 0 < l.length) : ∃ g c, v = .slice (some ⟨g, 0, none⟩) l.length c ∧ b ≤ g ∧ g < w.heap.size ∧ l.length ≤ c ∧ ∀ k, k < l.length → ∀ j, j < 4 → w.cell? ⟨g, k * 4 + j, none⟩ = (deedV (l.getD k (0, 0, 0, 0)))[j]? := by
  rcases h.2 with ⟨_, h0⟩ | ⟨g, cap, cur, hv, hb, hh, hc, hm, _⟩
  · omega
  · subst hv
    exact ⟨g, cap, rfl, hb, (Array.getElem?_eq_some_iff.1 hh).1, hc, fun k hk j hj => (World.ownsRow.cellAt h (k * 4 + j) (by omega)).trans (flat4_at hk j hj)⟩
theorem RowD.nil (b : Nat) (w : World) : RowD b w (.slice none 0 0) [] := World.ownsRow_nil _ _ _ _
/-- One deed, new. -/
theorem RowD.one (w : World) (d : Deed) : RowD w.heap.size (w.alloc (.cells #[.int .i64 d.1, .int .i64 d.2.1, .int .i64 d.2.2.1, .int .i64 d.2.2.2] 43)) (.slice (some ⟨w.heap.size, 0, none⟩) 1 1) [d] :=
  ⟨by simp [flat4, deedV], Or.inr ⟨w.heap.size, 1, _, rfl, Nat.le_refl _, blk_alloc_new w _, Nat.le_refl _, by unfold maxLen; omega, by simp, by simp [flat4, deedV]⟩⟩

theorem cell_four_new (w : World) (q : Nat) (hq : q = w.heap.size) (a b c d : Value) (t : TypeId) : ∀ j u, [a, b, c, d][j]? = some u → (w.alloc (.cells #[a, b, c, d] t)).cell? ((⟨q, 0, none⟩ : Addr).add j) = some u := by
  intro j u hu
  subst hq
  rw [Addr.add_lit, Nat.zero_add]
  unfold World.cell?
  dsimp only
  rw [blk_alloc_new]
  show (#[a, b, c, d])[j]? = some u
  simpa using hu
theorem Tryz.infoDeed : (Tryz.prog.info? 43).map (fun i => (i.zero, i.size, i.bytes)) = some (some (.agg #[.int .i64 0, .int .i64 0, .int .i64 0, .int .i64 0]), 4, 32) := by kernel_rfl

theorem append_zeroD (ty : TypeId) (b : Option Addr) (n c : Nat) (a : Option Addr) (c' : Nat) (w : World) (h : n ≤ c) : (Builtin.append_ #[38, 38] ty #[.slice b n c, .slice a 0 c']).run Tryz.prog w = .ok (.slice b n c) w := by
  unfold Builtin.append_
  cases b with
  | none =>
    cases a with
    | none => go_simp
    | some a => go_simp
  | some b =>
    cases a with
    | none => go_simp
    | some a => go_simp
theorem RowD.cap {B : Nat} {w : World} {v : Value} {l : List Deed} (h : RowD B w v l) : ∃ a c, v = .slice a l.length c ∧ l.length ≤ c := by
  rcases h.2 with ⟨rfl, hn⟩ | ⟨g, cap, cur, rfl, _, _, hc, _⟩
  · exact ⟨none, 0, by rw [hn], by omega⟩
  · exact ⟨_, _, rfl, hc⟩
theorem flat4_ones (l : List Deed) : ∀ u ∈ flat4 l, u.oneCell' = true := by
  intro u hu
  obtain ⟨d, _, h⟩ := List.mem_flatMap.1 hu
  simp [deedV] at h
  rcases h with rfl | rfl | rfl | rfl <;> rfl
theorem run_append_deeds (ty : TypeId) {B B' : Nat} {v x : Value} {ds dl : List Deed} {w : World} (hv : RowD B w v ds) (hx : RowD B' w x dl) (hb : ds.length + dl.length ≤ 1000000) (hB : B ≤ w.heap.size) :
    ∃ v' w', (Builtin.append_ #[38, 38] ty #[v, x]).run Tryz.prog w = .ok v' w' ∧ RowD B w' v' (ds ++ dl) ∧ w.grownBy w' v.ownBlock ∧ (v'.ownBlock = v.ownBlock ∨ v'.ownBlock = some w.heap.size) := by
  by_cases hy : dl = []
  · subst hy
    obtain ⟨a, c, rfl, _⟩ := hx.cap
    obtain ⟨b, d, rfl, hd⟩ := hv.cap
    refine ⟨_, w, append_zeroD ty b _ d a c w hd, by rw [List.append_nil]; exact hv, ⟨rfl, rfl, rfl, Nat.le_refl _, fun _ _ _ => rfl⟩, Or.inl rfl⟩
  · have hpos : 0 < dl.length := List.length_pos_iff.2 hy
    rcases hx.2 with ⟨_, h0⟩ | ⟨g, cap, cur, rfl, _, hh, hcap, _, hsz, htk⟩
    · omega
    obtain ⟨i3, hi3, hz0, hz1, hz2⟩ := info_parts Tryz.infoDeed
    have hcl : ∀ j u, (flat4 dl)[j]? = some u → w.cell? ((⟨g, 0, none⟩ : Addr).add j) = some u := fun j u hu => by
      have hj : j < dl.length * 4 := by rw [← flat4_length]; exact (List.getElem?_eq_some_iff.1 hu).1
      have e : (⟨g, 0, none⟩ : Addr).add j = ⟨g, j, none⟩ := by unfold Addr.add; split <;> simp_all
      rw [e, World.ownsRow.cellAt hx j hj]
      exact hu
    obtain ⟨v', w', h1, h2, h3, h4, h5⟩ := run_append_own_at (P := Tryz.prog) w B 38 ty 43 i3 _ 4 32 Tryz.underlying38 hi3 hz0 hz1 hz2 rfl (by decide) v ds.length (flat4 ds) hv ⟨g, 0, none⟩ dl.length cap (flat4 dl) (flat4_length dl) hcl (flat4_ones dl) (by unfold maxLen; omega) (by omega) hB
    refine ⟨v', w', h1, ?_, h3, h5⟩
    show w'.ownsRow B 43 4 v' (ds ++ dl).length (flat4 (ds ++ dl))
    rw [List.length_append, flat4_append]
    exact h2
theorem wpList_append_deeds {ops : Array Oper} {rest : List Oper} {o : Oper} {a : Act} {Q : Exit → Act → World → Prop} {w : World} (hgd : o.guard = none) (s x : Operand) (ho : o.op = .call { callee := .builtin .append, args := #[s, x], argTypes := #[38, 38] })
    (B B' : Nat) (v xv : Value) (ds dl : List Deed) (hs : a.eval s = v) (hx : a.eval x = xv) (hv : RowD B w v ds) (hxv : RowD B' w xv dl) (hb : ds.length + dl.length ≤ 1000000) (hB : B ≤ w.heap.size)
    (h : ∀ v' w', RowD B w' v' (ds ++ dl) → w.grownBy w' v.ownBlock → (v'.ownBlock = v.ownBlock ∨ v'.ownBlock = some w.heap.size) → wpList Tryz.prog ops Q rest (a.put o.dst v') w') : wpList Tryz.prog ops Q (o :: rest) a w := by
  refine wpList_plain hgd fun K hK => ?_
  obtain ⟨v', w', hr, h2, h3, h4⟩ := run_append_deeds o.type hv hxv hb hB
  unfold Oper.wp execOp
  simp only [ho, resolve, invoke, builtin, Sem.run_bind, Sem.run_pure, Result.andThen_ok, List.map_toArray, List.map_cons, List.map_nil, hs, hx, hr]
  exact hK _ _ (h v' w' h2 h3 h4)

/-- A slice value whose elements are these deeds. -/
def DeedsAt (w : World) (v : Value) (ds : List Deed) : Prop :=
  ds.length * 32 ≤ 140737488351232 ∧ ∃ a c, v = .slice a ds.length c ∧ (ds = [] ∨ ∃ b o, a = some ⟨b, o, none⟩ ∧ b < w.heap.size ∧ ∀ k, k < ds.length → ∀ j, j < 4 → w.cell? ⟨b, o + k * 4 + j, none⟩ = (deedV (ds.getD k (0, 0, 0, 0)))[j]?)
theorem RowD.at {b : Nat} {w : World} {v : Value} {ds : List Deed} (h : RowD b w v ds) (hl : ds.length * 32 ≤ 140737488351232) : DeedsAt w v ds := by
  refine ⟨hl, ?_⟩
  by_cases h0 : ds = []
  · obtain ⟨a, c, rfl⟩ := h.shape
    exact ⟨a, c, rfl, Or.inl h0⟩
  · obtain ⟨g, c, rfl, _, hlt, _, hc⟩ := h.full (List.length_pos_iff.2 h0)
    exact ⟨_, c, rfl, Or.inr ⟨g, 0, rfl, hlt, fun k hk j hj => by rw [Nat.zero_add]; exact hc k hk j hj⟩⟩
theorem DeedsAt.later {w w' : World} {v : Value} {ds : List Deed} (h : DeedsAt w v ds) (hb : Below w.heap.size w w') : DeedsAt w' v ds := by
  obtain ⟨hl, a, c, hv, h⟩ := h
  refine ⟨hl, a, c, hv, ?_⟩
  rcases h with h | ⟨b, o, ha, hlt, hc⟩
  · exact Or.inl h
  · exact Or.inr ⟨b, o, ha, Nat.lt_of_lt_of_le hlt hb.size, fun k hk j hj => (hb.cell (p := ⟨b, o + k * 4 + j, none⟩) hlt).trans (hc k hk j hj)⟩
/-- The four numbers of a deed that is read. -/
theorem DeedsAt.four {w : World} {a : Option Addr} {n c : Nat} {ds : List Deed} (h : DeedsAt w (.slice a n c) ds) {k : Nat} (hk : k < ds.length) : ∃ b o, a = some ⟨b, o, none⟩ ∧ b < w.heap.size ∧ w.cell? ⟨b, o + k * 4, none⟩ = some (.int .i64 (ds.getD k (0, 0, 0, 0)).1) ∧ w.cell? ⟨b, o + k * 4 + 1, none⟩ = some (.int .i64 (ds.getD k (0, 0, 0, 0)).2.1) ∧ w.cell? ⟨b, o + k * 4 + 2, none⟩ = some (.int .i64 (ds.getD k (0, 0, 0, 0)).2.2.1) ∧ w.cell? ⟨b, o + k * 4 + 3, none⟩ = some (.int .i64 (ds.getD k (0, 0, 0, 0)).2.2.2) := by
  obtain ⟨_, a2, c2, hv, h⟩ := h
  simp only [Value.slice.injEq] at hv
  obtain ⟨rfl, _, _⟩ := hv
  rcases h with h | ⟨b, o, ha, hlt, hc⟩
  · rw [h] at hk; simp at hk
  · exact ⟨b, o, ha, hlt, hc k hk 0 (by omega), hc k hk 1 (by omega), hc k hk 2 (by omega), hc k hk 3 (by omega)⟩
theorem new_deed (w : World) (a b c d : Int) : (w.alloc (.cells #[.int .i64 a, .int .i64 b, .int .i64 c, .int .i64 d] 43)).cell? ⟨w.heap.size, 0, none⟩ = some (.int .i64 a) ∧ (w.alloc (.cells #[.int .i64 a, .int .i64 b, .int .i64 c, .int .i64 d] 43)).cell? ⟨w.heap.size, 1, none⟩ = some (.int .i64 b) ∧ (w.alloc (.cells #[.int .i64 a, .int .i64 b, .int .i64 c, .int .i64 d] 43)).cell? ⟨w.heap.size, 2, none⟩ = some (.int .i64 c) ∧ (w.alloc (.cells #[.int .i64 a, .int .i64 b, .int .i64 c, .int .i64 d] 43)).cell? ⟨w.heap.size, 3, none⟩ = some (.int .i64 d) := by
  unfold World.cell?
  dsimp only
  rw [blk_alloc_new]
  exact ⟨rfl, rfl, rfl, rfl⟩
end Go.Proofs.YtandhiiaflhenaaGreatDoor

namespace Go.Proofs.YtandhiiaflhenaaGreatDoor
open Go.RowKit Go.Deep

theorem RowI.setAt {b g n c k : Nat} {w : World} {zs : List Int} (h : RowI b w (.slice (some ⟨g, 0, none⟩) n c) zs) (_hk : k < zs.length) (x : Int) : RowI b (w.setCell ⟨g, k, none⟩ (.int .i64 x)) (.slice (some ⟨g, 0, none⟩) n c) (zs.set k x) := by
  rcases h.2 with ⟨hv, _⟩ | ⟨g', cap, cur, hv, hb, hh, hcp, hm, hsz, ht⟩
  · simp at hv
  · simp only [Value.slice.injEq, Option.some.injEq, Addr.mk.injEq, and_true] at hv
    obtain ⟨rfl, rfl, rfl⟩ := hv
    refine ⟨by simp, Or.inr ⟨g, c, cur.setIfInBounds k (.int .i64 x), by simp, hb, ?_, by simpa using hcp, hm, by simpa using hsz, ?_⟩⟩
    · rw [setCell_eq_setRow w g k cur 3 (0, 0) _ hh, setRow_heap w g cur _ 3 _ hh]
    · rw [List.length_set]
      rw [Array.toList_setIfInBounds, List.take_set, ht, List.map_set]

/-- A row's block bears a label. -/
def Lb (own : Nat → Nat) (c : Nat) (v : Value) : Prop := ∀ k, v.ownBlock = some k → own k = c
/-- New blocks bear this one. -/
def relabel (own : Nat → Nat) (n c : Nat) : Nat → Nat := fun k => if k < n then own k else c
theorem relabel_lt {own : Nat → Nat} {n c k : Nat} (h : k < n) : relabel own n c k = own k := by simp [relabel, h]
theorem relabel_ge {own : Nat → Nat} {n c k : Nat} (h : n ≤ k) : relabel own n c k = c := by simp [relabel]; omega
/-- What is kept: all blocks but those of some labels, and new ones. -/
structure Kc (own : Nat → Nat) (C : Nat → Prop) (w w' : World) : Prop where
  os : w'.os = w.os
  tape : w'.tape = w.tape
  output : w'.output = w.output
  size : w.heap.size ≤ w'.heap.size
  block : ∀ k, k < w.heap.size → ¬ C (own k) → w'.heap[k]? = w.heap[k]?
theorem RowI.kc {own : Nat → Nat} {C : Nat → Prop} {b d : Nat} {w w' : World} {v : Value} {xs : List Int} (h : RowI b w v xs) (hl : Lb own d v) (hd : ¬ C d) (hk : Kc own C w w') : RowI b w' v xs :=
  h.of_blocks (fun k e => hk.block k (h.low e).2 (by rw [hl k e]; exact hd))
theorem Lb.re {own : Nat → Nat} {b d c : Nat} {w : World} {v : Value} {xs : List Int} (hl : Lb own d v) (h : RowI b w v xs) : Lb (relabel own w.heap.size c) d v :=
  fun k e => by rw [relabel_lt (h.low e).2]; exact hl k e
/-- A row that is near where it was, or new. -/
theorem Lb.near {own : Nat → Nat} {d n : Nat} {v v' : Value} (hl : Lb own d v) (hlt : ∀ k, v.ownBlock = some k → k < n) (hn : ∀ k, v'.ownBlock = some k → v.ownBlock = some k ∨ n ≤ k) : Lb (relabel own n d) d v' := fun k e => by
  rcases hn k e with h | h
  · rw [relabel_lt (hlt k h)]; exact hl k h
  · exact relabel_ge h

/-- The first so many of what is told hand by hand. -/
def upto (hands : Nat) (f : Nat → Int) : List Int := (List.range hands).map f
theorem upto_length (hands : Nat) (f : Nat → Int) : (upto hands f).length = hands := by simp [upto]
theorem upto_getD {hands k : Nat} (f : Nat → Int) (h : k < hands) : (upto hands f).getD k 0 = f k := by simp [upto, List.getD_eq_getElem?_getD, h]
theorem upto_set {hands h : Nat} (f : Nat → Int) (x : Int) : (upto hands f).set h x = upto hands (updG f h x) := by
  apply List.ext_getElem?
  intro i
  rw [List.getElem?_set]
  unfold upto
  simp only [List.length_map, List.length_range, List.getElem?_map]
  by_cases hi : i < hands
  · rw [List.getElem?_range hi]
    by_cases e : h = i
    · subst e; simp [hi, updG_self]
    · simp [e, updG_ne f x (fun e2 => e e2.symm)]
  · have : (List.range hands)[i]? = none := List.getElem?_eq_none (by simpa using hi)
    rw [this]
    by_cases e : h = i
    · subst e; simp [hi]
    · simp [e]

theorem RowI.frozen {b g n c : Nat} {w : World} {zs : List Int} (h : RowI b w (.slice (some ⟨g, 0, none⟩) n c) zs) (k : Nat) : w.frozen? ⟨g, k, none⟩ = false := by
  rcases h.2 with ⟨hv, _⟩ | ⟨g', cap, cur, hv, hb, hh, _⟩
  · simp at hv
  · simp only [Value.slice.injEq, Option.some.injEq, Addr.mk.injEq, and_true] at hv
    obtain ⟨rfl, rfl, rfl⟩ := hv
    simp [World.frozen?, hh]
/-- A store into a block that bears a label. -/
theorem Kc.store {own : Nat → Nat} {C : Nat → Prop} {w : World} {b : Nat} (hb : C (own b)) (x : Nat) (u : Value) : Kc own C w (w.setCell ⟨b, x, none⟩ u) :=
  ⟨rfl, rfl, rfl, by simp, fun k _ hk => Below.heap_setCell _ _ _ _ (by show k ≠ b; intro e; subst e; exact hk hb)⟩
theorem Kc.of_below {own : Nat → Nat} {C : Nat → Prop} {w w' : World} (hb : Below w.heap.size w w') : Kc own C w w' := ⟨hb.os, hb.tape, hb.output, hb.size, fun k hk _ => hb.block k hk⟩

/-- What stays as it was in a world: blocks of a set, and what is outside. -/
structure Bs where
  X : Nat → Prop
  w1 : World

theorem upd_id {α : Type} (f : Nat → α) (h : Nat) : updG f h (f h) = f := by
  funext k
  unfold updG
  split
  · rename_i e; rw [e]
  · rfl
theorem RowD.kc {own : Nat → Nat} {C : Nat → Prop} {b d : Nat} {w w' : World} {v : Value} {l : List Deed} (h : RowD b w v l) (hl : Lb own d v) (hd : ¬ C d) (hk : Kc own C w w') : RowD b w' v l :=
  h.of_blocks (fun k e => hk.block k (h.low e).2 (by rw [hl k e]; exact hd))
theorem Lb.reD {own : Nat → Nat} {b d c : Nat} {w : World} {v : Value} {l : List Deed} (hl : Lb own d v) (h : RowD b w v l) : Lb (relabel own w.heap.size c) d v :=
  fun k e => by rw [relabel_lt (h.low e).2]; exact hl k e
theorem putAll_snoc (room : Nat) (s : Hs) (l : List Int) (n : Int) : putAll room s (l ++ [n]) = putOne room (putAll room s l) n := by simp [putAll]
theorem upd_upd {α : Type} (f : Nat → α) (h : Nat) (x y : α) : updG (updG f h x) h y = updG f h y := by
  funext k
  unfold updG
  split <;> rfl
/-- What a hand is behind so many puts. -/
def puts (room : Nat) (g : Gs) (h : Nat) (l : List Int) : Gs := { g with near := updG g.near h (putAll room (g.near h, g.ring h, []) l).1, ring := updG g.ring h (putAll room (g.near h, g.ring h, []) l).2.1 }
theorem puts_nil (room : Nat) (g : Gs) (h : Nat) : puts room g h [] = g := by
  unfold puts putAll
  simp only [List.foldl_nil, upd_id]
theorem puts_snoc (room : Nat) (g : Gs) (h : Nat) (l : List Int) (n : Int) : puts room g h (l ++ [n]) = { puts room g h l with near := updG (puts room g h l).near h n, ring := updG (puts room g h l).ring h (putR room ((puts room g h l).near h) ((puts room g h l).ring h)) } := by
  unfold puts
  simp only [putAll_snoc, upd_upd, updG_self]
  rfl

/-- Those of a list that are not in another one. -/
def fresh (was now : List Int) : List Int := now.filter (fun x => !decide (x ∈ was))
theorem fresh_snoc (was l : List Int) (x : Int) : fresh was (l ++ [x]) = fresh was l ++ if x ∈ was then [] else [x] := by
  unfold fresh
  rw [List.filter_append]
  by_cases h : x ∈ was <;> simp [h]
theorem fresh_new {ts : List (Int × List Int)} (hg : Good ts) {S : Nat → Bool} (hd : Down ts S) {i : Nat} (hi : i < ts.length) (hr : readyB ts S i = true) :
    fresh (intsOf (readyTo ts S ts.length)) (intsOf (readyTo ts (mark S i) ts.length)) = intsOf (newL ts S i) := by
  rw [newL_eq hg hd hi (ready_parts hr).1]
  unfold fresh intsOf readyTo
  rw [List.filter_map, List.filter_filter]
  congr 1
  apply List.filter_congr
  intro k hk
  have hk' : k < ts.length := List.mem_range.1 hk
  have : ((k : Nat) : Int) ∈ List.map (fun (k : Nat) => (k : Int)) ((List.range ts.length).filter (readyB ts S)) ↔ readyB ts S k = true := by
    rw [List.mem_map]
    constructor
    · rintro ⟨j, hj, e⟩
      obtain rfl : j = k := by omega
      exact (List.mem_filter.1 hj).2
    · intro e
      exact ⟨k, List.mem_filter.2 ⟨hk, e⟩, rfl⟩
  simp only [Function.comp, this]
  cases readyB ts S k <;> simp [Bool.and_comm]
/-- A hand and the spill behind so many puts. -/
def gput (room : Nat) (g : Gs) (h : Nat) (l : List Int) : Gs := { g with near := updG g.near h (putAll room (g.near h, g.ring h, g.sp) l).1, ring := updG g.ring h (putAll room (g.near h, g.ring h, g.sp) l).2.1, sp := (putAll room (g.near h, g.ring h, g.sp) l).2.2 }
theorem gput_nil (room : Nat) (g : Gs) (h : Nat) : gput room g h [] = g := by
  unfold gput putAll
  simp only [List.foldl_nil, upd_id]
theorem gput_snoc (room : Nat) (g : Gs) (h : Nat) (l : List Int) (n : Int) : gput room g h (l ++ [n]) = { gput room g h l with near := updG (gput room g h l).near h n, ring := updG (gput room g h l).ring h (putR room ((gput room g h l).near h) ((gput room g h l).ring h)), sp := (gput room g h l).sp ++ putO room ((gput room g h l).near h) ((gput room g h l).ring h) } := by
  unfold gput
  simp only [putAll_snoc, upd_upd, updG_self]
  rfl
theorem gput_len (room : Nat) (g : Gs) (h : Nat) (l : List Int) (hl : ∀ n, n ∈ l → n ≠ -1) : (gput room g h l).sp.length ≤ g.sp.length + (allH (g.near h) (g.ring h)).length + l.length := by
  have := (putAll_perm room l (g.near h, g.ring h, g.sp) hl).length_eq
  simp only [List.length_append] at this
  show (putAll room (g.near h, g.ring h, g.sp) l).2.2.length ≤ _
  omega
end Go.Proofs.YtandhiiaflhenaaGreatDoor
