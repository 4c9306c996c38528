/- A park in memory: two cells, and a row of its own; what a call of it keeps. -/
import Derived.Test.YthbcgehmnhlahaaProg
import Derived.WalkKit
import Derived.WalkSpells
import Derived.Deep.LoopGhost
import Derived.Deep.Light
import Derived.Deep.OwnRows
import Derived.Shelf.Abstract
import Derived.OrdersHeld
import Derived.Deep.Draws
import Derived.Maps.AppendAt
import Derived.Laws.CopyOwn
namespace Go.Proofs.Ythbcgehmnhlahaa.Prk
open Go.RowKit Go.Deep

theorem Try.info3 : (Try.prog.info? 3).map (fun i => (i.zero, i.size, i.bytes)) = some (some (.int .i64 0), 1, 8) := by kernel_rfl
theorem Try.size3 : (Try.prog.info? 3).map (·.size) = some 1 := by kernel_rfl

/-- Numbers in a row of their own, from block b on. -/
def RowI (b : Nat) (w : World) (v : Value) (zs : List Int) : Prop := w.ownsRow b 3 1 v zs.length (zs.map (Value.int .i64))
theorem RowI.of_blocks {b : Nat} {w w' : World} {v : Value} {zs : List Int} (h : RowI b w v zs) (hk : ∀ k, v.ownBlock = some k → w'.heap[k]? = w.heap[k]?) : RowI b w' v zs := by
  rcases h.2 with ⟨rfl, hn⟩ | ⟨g, cap, cur, rfl, hb, hh, hr⟩
  · exact ⟨h.1, Or.inl ⟨rfl, hn⟩⟩
  · exact ⟨h.1, Or.inr ⟨g, cap, cur, rfl, hb, (hk g rfl).trans hh, hr⟩⟩
theorem RowI.mono {b b' : Nat} {w : World} {v : Value} {zs : List Int} (h : RowI b w v zs) (hb : b' ≤ b) : RowI b' w v zs := by
  rcases h.2 with hn | ⟨g, cap, cur, hv, hg, r⟩
  · exact ⟨h.1, Or.inl hn⟩
  · exact ⟨h.1, Or.inr ⟨g, cap, cur, hv, Nat.le_trans hb hg, r⟩⟩
theorem RowI.low {b : Nat} {w : World} {v : Value} {zs : List Int} (h : RowI b w v zs) {k : Nat} (hk : v.ownBlock = some k) : b ≤ k ∧ k < w.heap.size := World.ownsRow.lt h k hk
theorem RowI.cap {B : Nat} {w : World} {v : Value} {zs : List Int} (h : RowI B w v zs) : ∃ a c, v = .slice a zs.length c ∧ zs.length ≤ c := by
  rcases h.2 with ⟨rfl, hn⟩ | ⟨g, cap, cur, rfl, _, _, hc, _⟩
  · exact ⟨none, 0, by rw [hn], by omega⟩
  · exact ⟨_, _, rfl, hc⟩
theorem RowI.shape {B : Nat} {w : World} {v : Value} {zs : List Int} (h : RowI B w v zs) : ∃ a c, v = .slice a zs.length c := by
  obtain ⟨a, c, hv, _⟩ := h.cap
  exact ⟨a, c, hv⟩
theorem RowI.nil (b : Nat) (w : World) : RowI b w (.slice none 0 0) [] := World.ownsRow_nil _ _ _ _
theorem RowI.alloc {b : Nat} {w : World} {v : Value} {zs : List Int} (h : RowI b w v zs) (o : Obj) : RowI b (w.alloc o) v zs := h.of_blocks (fun _ e => Below.heap_alloc _ _ _ (h.low e).2)
theorem RowI.cell {b g n c : Nat} {w : World} {zs : List Int} (h : RowI b w (.slice (some ⟨g, 0, none⟩) n c) zs) {k : Nat} (hk : k < zs.length) : w.cell? ⟨g, k, none⟩ = some (.int .i64 (zs.getD k 0)) := by
  have := World.ownsRow.cells h (g := g) rfl k (.int .i64 (zs.getD k 0)) (by simp [List.getD_eq_getElem?_getD, List.getElem?_eq_getElem hk])
  rwa [Addr.add_lit, Nat.zero_add] at this
theorem RowI.full {b : Nat} {w : World} {v : Value} {zs : List Int} (h : RowI b w v zs) (hz : 0 < zs.length) : ∃ g c, v = .slice (some ⟨g, 0, none⟩) zs.length c ∧ b ≤ g ∧ g < w.heap.size ∧ zs.length ≤ c ∧ c ≤ maxLen := by
  rcases h.2 with ⟨_, h0⟩ | ⟨g, cap, cur, hv, hb, hh, hc, hm, _⟩
  · omega
  · exact ⟨g, cap, hv, hb, (Array.getElem?_eq_some_iff.1 hh).1, hc, hm⟩

/-- A slice that reads as these numbers, in a block that A allows. -/
def Rds (A : Nat → Prop) (w : World) (v : Value) (xs : List Int) : Prop :=
  ∃ a c, v = .slice a xs.length c ∧ xs.length ≤ c ∧ ∀ k, k < xs.length → ∃ b o, a = some ⟨b, o, none⟩ ∧ A b ∧ b < w.heap.size ∧ w.cell? ⟨b, o + k, none⟩ = some (.int .i64 (xs.getD k 0))
theorem Rds.mono {A A' : Nat → Prop} {w : World} {v : Value} {xs : List Int} (h : Rds A w v xs) (hA : ∀ b, A b → A' b) : Rds A' w v xs := by
  obtain ⟨a, c, hv, hl, h⟩ := h
  refine ⟨a, c, hv, hl, fun k hk => ?_⟩
  obtain ⟨b, o, ha, hb, hw⟩ := h k hk
  exact ⟨b, o, ha, hA b hb, hw⟩
theorem Rds.of_blocks {A : Nat → Prop} {w w' : World} {v : Value} {xs : List Int} (h : Rds A w v xs) (hs : w.heap.size ≤ w'.heap.size) (hk : ∀ b, A b → b < w.heap.size → w'.heap[b]? = w.heap[b]?) : Rds A w' v xs := by
  obtain ⟨a, c, hv, hl, h⟩ := h
  refine ⟨a, c, hv, hl, fun k hk' => ?_⟩
  obtain ⟨b, o, ha, hb, hw, hc⟩ := h k hk'
  exact ⟨b, o, ha, hb, by omega, (World.cell?_of_block (hk b hb hw)).trans hc⟩
theorem Rds.shape {A : Nat → Prop} {w : World} {v : Value} {xs : List Int} (h : Rds A w v xs) : ∃ a c, v = .slice a xs.length c := by
  obtain ⟨a, c, hv, _⟩ := h
  exact ⟨a, c, hv⟩
theorem RowI.rds {b : Nat} {w : World} {v : Value} {xs : List Int} (h : RowI b w v xs) : Rds (fun k => v.ownBlock = some k) w v xs := by
  obtain ⟨a, c, rfl, hc⟩ := h.cap
  refine ⟨a, c, rfl, hc, fun k hk => ?_⟩
  obtain ⟨g, c', hv, hg⟩ := h.full (by omega)
  simp only [Value.slice.injEq] at hv
  obtain ⟨rfl, _, rfl⟩ := hv
  exact ⟨g, 0, rfl, rfl, hg.2.1, by rw [Nat.zero_add]; exact h.cell hk⟩

/-- What is kept by a call of a park: all but its block, its row, and new blocks. -/
structure Ks (S : Nat) (o : Option Nat) (w w' : World) : Prop where
  os : w'.os = w.os
  tape : w'.tape = w.tape
  output : w'.output = w.output
  size : w.heap.size ≤ w'.heap.size
  block : ∀ k, k < w.heap.size → k ≠ S → o ≠ some k → w'.heap[k]? = w.heap[k]?
theorem Ks.refl (S : Nat) (o : Option Nat) (w : World) : Ks S o w w := ⟨rfl, rfl, rfl, Nat.le_refl _, fun _ _ _ _ => rfl⟩
theorem Ks.trans {S : Nat} {o o' : Option Nat} {a b c : World} (h : Ks S o a b) (k : Ks S o' b c) (ho : ∀ j, o' = some j → o = some j ∨ a.heap.size ≤ j) : Ks S o a c :=
  ⟨k.os.trans h.os, k.tape.trans h.tape, k.output.trans h.output, Nat.le_trans h.size k.size, fun i hi hS hO => by
    refine (k.block i (Nat.lt_of_lt_of_le hi h.size) hS (fun e => ?_)).trans (h.block i hi hS hO)
    rcases ho i e with h1 | h1
    · exact hO h1
    · omega⟩
theorem Ks.alloc {S : Nat} {o : Option Nat} {w0 w : World} (h : Ks S o w0 w) (x : Obj) : Ks S o w0 (w.alloc x) :=
  ⟨h.os, h.tape, h.output, by have := h.size; simp; omega, fun k hk hS hO => (Below.heap_alloc _ _ _ (Nat.lt_of_lt_of_le hk h.size)).trans (h.block k hk hS hO)⟩
theorem Ks.drewN {S : Nat} {o : Option Nat} {w0 w : World} (h : Ks S o w0 w) (n : Nat) : Ks S o w0 (w.drewN n) := ⟨h.os, h.tape, h.output, h.size, h.block⟩
theorem Ks.setS {S : Nat} {o : Option Nat} {w0 w : World} (h : Ks S o w0 w) (j : Nat) (u : Value) : Ks S o w0 (w.setCell ⟨S, j, none⟩ u) :=
  ⟨h.os, h.tape, h.output, by simpa using h.size, fun k hk hS hO => (Below.heap_setCell _ _ _ _ (by show k ≠ S; exact hS)).trans (h.block k hk hS hO)⟩
theorem Ks.grown {S : Nat} {o o' : Option Nat} {w0 w w' : World} (h : Ks S o w0 w) (hg : w.grownBy w' o') (ho : ∀ j, o' = some j → o = some j ∨ w0.heap.size ≤ j) : Ks S o w0 w' :=
  h.trans ⟨hg.os, hg.tape, hg.output, hg.size, fun k hk _ hO => hg.block k hk (fun e => hO e.symm)⟩ ho
theorem Ks.below {S B : Nat} {o : Option Nat} {w w' : World} (h : Ks S o w w') (hS : B ≤ S) (ho : ∀ j, o = some j → B ≤ j) (hB : B ≤ w.heap.size) : Below B w w' :=
  ⟨h.os, h.tape, h.output, h.size, fun k hk => h.block k (by omega) (by omega) (fun e => by have := ho k e; omega)⟩

/-- A park lies in block S: how many hands, those that sleep, in the order in which they fell asleep, and where these lie. -/
structure Pk (S hands : Nat) (xs : List Int) (v : Value) (w : World) : Prop where
  cells : w.heap[S]? = some (.cells #[.int .i64 hands, v] 69 (0, 0))
  row : RowI (S + 1) w v xs
  six : hands ≤ 6
  nd : xs.Nodup
  rng : ∀ x, x ∈ xs → 0 ≤ x ∧ x < hands
theorem nodup_sub_len {α : Type} [DecidableEq α] {l m : List α} (hd : l.Nodup) (hs : ∀ x, x ∈ l → x ∈ m) : l.length ≤ m.length := by
  induction l generalizing m with
  | nil => simp
  | cons a l ih =>
    have ha := hs a (List.mem_cons_self ..)
    have hd' := List.nodup_cons.1 hd
    have := ih (m := m.erase a) hd'.2 (fun x hx => by
      have hne : x ≠ a := by intro e; subst e; exact hd'.1 hx
      exact (List.mem_erase_of_ne hne).2 (hs x (List.mem_cons_of_mem _ hx)))
    rw [List.length_erase_of_mem ha] at this
    have := List.length_pos_of_mem ha
    simp only [List.length_cons]
    omega
theorem Pk.le {S hands : Nat} {xs : List Int} {v : Value} {w : World} (h : Pk S hands xs v w) : xs.length ≤ hands := by
  have := nodup_sub_len (m := (List.range hands).map (fun k : Nat => (k : Int))) h.nd (fun x hx => by
    have := h.rng x hx
    exact List.mem_map.2 ⟨x.toNat, List.mem_range.2 (by omega), by omega⟩)
  simpa using this
theorem Pk.lt {S hands : Nat} {xs : List Int} {v : Value} {w : World} (h : Pk S hands xs v w) : S < w.heap.size := (Array.getElem?_eq_some_iff.1 h.cells).1
theorem Pk.c0 {S hands : Nat} {xs : List Int} {v : Value} {w : World} (h : Pk S hands xs v w) : w.cell? ⟨S, 0, none⟩ = some (.int .i64 hands) := by simp [World.cell?, h.cells]
theorem Pk.c1 {S hands : Nat} {xs : List Int} {v : Value} {w : World} (h : Pk S hands xs v w) : w.cell? ⟨S, 1, none⟩ = some v := by simp [World.cell?, h.cells]
theorem Pk.fz {S hands : Nat} {xs : List Int} {v : Value} {w : World} (h : Pk S hands xs v w) (j : Nat) : w.frozen? ⟨S, j, none⟩ = false := by simp [World.frozen?, h.cells]
theorem Pk.of_blocks {S hands : Nat} {xs : List Int} {v : Value} {w w' : World} (h : Pk S hands xs v w) (h1 : w'.heap[S]? = w.heap[S]?) (h2 : ∀ k, v.ownBlock = some k → w'.heap[k]? = w.heap[k]?) : Pk S hands xs v w' :=
  ⟨h1.trans h.cells, h.row.of_blocks h2, h.six, h.nd, h.rng⟩
theorem Pk.alloc {S hands : Nat} {xs : List Int} {v : Value} {w : World} (h : Pk S hands xs v w) (x : Obj) : Pk S hands xs v (w.alloc x) := h.of_blocks (Below.heap_alloc _ _ _ h.lt) (fun _ e => Below.heap_alloc _ _ _ (h.row.low e).2)
theorem Pk.later {S hands : Nat} {xs : List Int} {v : Value} {w w' : World} (h : Pk S hands xs v w) (hb : Below w.heap.size w w') : Pk S hands xs v w' := h.of_blocks (hb.block _ h.lt) (fun _ e => hb.block _ (h.row.low e).2)
/-- Its slice is another one. -/
theorem Pk.set {S hands : Nat} {xs ys : List Int} {v v' : Value} {w w1 : World} (h : Pk S hands xs v w) (h1 : w1.heap[S]? = w.heap[S]?) (hr : RowI (S + 1) w1 v' ys) (hd : ys.Nodup) (hy : ∀ x, x ∈ ys → 0 ≤ x ∧ x < hands) : Pk S hands ys v' (w1.setCell ⟨S, 1, none⟩ v') := by
  have hS : w1.heap[S]? = some (.cells #[.int .i64 hands, v] 69 (0, 0)) := h1.trans h.cells
  refine ⟨?_, hr.of_blocks (fun k e => Below.heap_setCell _ _ _ _ (by show k ≠ S; have := (hr.low e).1; omega)), h.six, hd, hy⟩
  rw [setCell_eq_setRow w1 S 1 _ 69 (0, 0) v' hS, setRow_heap w1 S _ _ 69 _ hS]
  rfl
/-- A row is where it was, or in a new block. -/
def Near (n : Nat) (v v' : Value) : Prop := ∀ k, v'.ownBlock = some k → v.ownBlock = some k ∨ n ≤ k

theorem append_zero (ty : TypeId) (b : Option Addr) (n c : Nat) (a : Option Addr) (c' : Nat) (w : World) (h : n ≤ c) : (Builtin.append_ #[22, 22] ty #[.slice b n c, .slice a 0 c']).run Try.prog w = .ok (.slice b n c) w := by
  unfold Builtin.append_
  cases b with
  | none => 
    cases a with
    | none => go_simp
    | some a => go_simp
  | some b =>
    cases a with
    | none => go_simp
    | some a => go_simp
theorem run_append_rows (ty : TypeId) {B : Nat} {A : Nat → Prop} {v x : Value} {zs ys : List Int} {w : World} (hv : RowI B w v zs) (hx : Rds A w x ys) (hb : zs.length + ys.length ≤ 1000) (hB : B ≤ w.heap.size) :
    ∃ v' w', (Builtin.append_ #[22, 22] ty #[v, x]).run Try.prog w = .ok v' w' ∧ RowI B w' v' (zs ++ ys) ∧ w.grownBy w' v.ownBlock ∧ (v'.ownBlock = v.ownBlock ∨ v'.ownBlock = some w.heap.size) := by
  obtain ⟨a, c, rfl, hc, hx⟩ := hx
  by_cases hy : ys = []
  · subst hy
    obtain ⟨b, d, rfl, hd⟩ := hv.cap
    refine ⟨_, w, append_zero ty b _ d a c w hd, by rw [List.append_nil]; exact hv, ⟨rfl, rfl, rfl, Nat.le_refl _, fun _ _ _ => rfl⟩, Or.inl rfl⟩
  · have hpos : 0 < ys.length := List.length_pos_iff.2 hy
    obtain ⟨i3, hi3, hz0, hz1, hz2⟩ := info_parts Try.info3
    obtain ⟨g, o, rfl, _⟩ := hx 0 hpos
    have hcl : ∀ j u, (ys.map (Value.int .i64))[j]? = some u → w.cell? ((⟨g, o, none⟩ : Addr).add j) = some u := fun j u hu => by
      have hj : j < ys.length := by have := (List.getElem?_eq_some_iff.1 hu).1; simpa using this
      obtain ⟨g', o', e, _, _, hc⟩ := hx j hj
      simp only [Option.some.injEq, Addr.mk.injEq, and_true] at e
      obtain ⟨rfl, rfl⟩ := e
      rw [Addr.add_lit, hc]
      simpa [List.getD_eq_getElem?_getD, List.getElem?_eq_getElem hj] using hu
    obtain ⟨v', w', h1, h2, h3, h4, h5⟩ := run_append_own_at (P := Try.prog) w B 22 ty 3 i3 (.int .i64 0) 1 8 Try.underlying22 hi3 hz0 hz1 hz2 rfl (by decide) v zs.length (zs.map (Value.int .i64)) hv ⟨g, o, none⟩ ys.length c (ys.map (Value.int .i64)) (by simp) hcl (by intro u hu; obtain ⟨x, _, rfl⟩ := List.mem_map.1 hu; rfl) (by unfold maxLen; omega) (by omega) hB
    refine ⟨v', w', h1, ?_, h3, h5⟩
    show w'.ownsRow B 3 1 v' (zs ++ ys).length ((zs ++ ys).map (Value.int .i64))
    rw [List.length_append, List.map_append]
    exact h2
theorem wpList_append_rows {ops : Array Oper} {rest : List Oper} {o : Oper} {a : Act} {Q : Exit → Act → World → Prop} {w : World} (hgd : o.guard = none) (s x : Operand) (ho : o.op = .call { callee := .builtin .append, args := #[s, x], argTypes := #[22, 22] })
    (B : Nat) (A : Nat → Prop) (v xv : Value) (zs ys : List Int) (hs : a.eval s = v) (hx : a.eval x = xv) (hv : RowI B w v zs) (hxv : Rds A w xv ys) (hb : zs.length + ys.length ≤ 1000) (hB : B ≤ w.heap.size)
    (h : ∀ v' w', RowI B w' v' (zs ++ ys) → w.grownBy w' v.ownBlock → (v'.ownBlock = v.ownBlock ∨ v'.ownBlock = some w.heap.size) → wpList Try.prog ops Q rest (a.put o.dst v') w') : wpList Try.prog ops Q (o :: rest) a w := by
  refine wpList_plain hgd fun K hK => ?_
  obtain ⟨v', w', hr, h2, h3, h4⟩ := run_append_rows o.type hv hxv hb hB
  unfold Oper.wp execOp
  simp only [ho, resolve, invoke, builtin, Sem.run_bind, Sem.run_pure, Result.andThen_ok, List.map_toArray, List.map_cons, List.map_nil, hs, hx, hr]
  exact hK _ _ (h v' w' h2 h3 h4)
end Go.Proofs.Ythbcgehmnhlahaa.Prk
