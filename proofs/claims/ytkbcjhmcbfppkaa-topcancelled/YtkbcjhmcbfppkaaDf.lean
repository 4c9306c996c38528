/- The contracts of slices.Backward at []int, and of its closure: from the end on, each with its place. -/
import Derived.Test.YtkbcjhmcbfppkaaDg
import Derived.RangeFuncNested
import Derived.RangeFuncBox
import Derived.RangeFuncBound
import Derived.RangeFuncCalls
import Derived.RangeFuncLeaves
import Derived.Shelf.Abstract
import Derived.Shelf.RegionOpen
import Derived.OwnWalkIn
import Derived.TacticsInMore
import Derived.LoopNIn
import Derived.LoopIn
namespace Go.Proofs.Ytkbcjhmcbfppkaa
open Go.RowKit Go.Deep Go.Shelf

attribute [local go_sem] Oper.semAt_some

/-- What a round is handed: a place, and a number below n. -/
abbrev Come (n : Nat) : Type := { x : Nat × Nat // x.2 < n }
/-- What has come when k rounds are over. -/
def backs (f : Nat → Nat) (len : Nat) : Nat → List (Nat × Nat)
  | 0 => []
  | k + 1 => backs f len k ++ [(len - 1 - k, f (len - 1 - k))]
theorem backs_length (f : Nat → Nat) (len k : Nat) : (backs f len k).length = k := by
  induction k with
  | zero => rfl
  | succ k ih => simp [backs, ih]

/-- What a round keeps: all that lay below n₀, and the iterator's own box. -/
def KeepB (Bs n₀ : Nat) (W W' : World) : Prop := Below n₀ W W' ∧ W'.heap[Bs]? = W.heap[Bs]?
theorem keepB_t {Bs n₀ : Nat} {A B C : World} (h : KeepB Bs n₀ A B) (k : KeepB Bs n₀ B C) : KeepB Bs n₀ A C := ⟨h.1.trans k.1, k.2.trans h.2⟩
theorem keepB_b {Bs n₀ : Nat} {w : World} (hn : n₀ ≤ w.heap.size) (hB : Bs < w.heap.size) (W : World) (l : Nat) (o o' : Obj) (hl : w.heap.size ≤ l) (h : W.heap[l]? = some o) (h1 : o.isCells = false) (h2 : o.isWalk = false) : KeepB Bs n₀ W (W.putObj l o') :=
  ⟨belowK_b hn W l o o' hl h h1 h2, World.putObj_heap_other (by omega)⟩

set_option maxRecDepth 100000 in
set_option maxHeartbeats 2000000 in
theorem back1_in (F : Fence) (n : Nat) (h19 : F.fn 38) (hro : F.round = none) (hn : 1 ≤ n) (l Bs n₀ len cap bound : Nat) (a : Option Addr) (f : Nat → Nat) (hreach : len * 8 ≤ 140737488351232) (hf : ∀ q, q < len → f q < bound)
    (J Jx : List (Come bound) → World → Prop)
    (hY : ∀ pre x W, J pre W → pre.length < len → YieldAt F (n - 1) Try.prog l #[.int .i64 (x.1.1 : Nat), .int .i64 (x.1.2 : Nat)] W fun e W' =>
      (e = .returned (.bool true) ∧ J (pre ++ [x]) W' ∧ KeepB Bs n₀ W W') ∨ (e = .returned (.bool false) ∧ Jx (pre ++ [x]) W'))
    (W : World) (hBs : W.cell? ⟨Bs, 0, none⟩ = some (.slice a len cap)) (hc : ∀ q, q < len → ∃ b off, a = some ⟨b, off, none⟩ ∧ b < n₀ ∧ W.cell? ⟨b, off + q, none⟩ = some (.int .i64 (f q : Nat))) (h0 : J [] W) :
    CallsIn F n Try.prog 38 #[.func (.yield l) #[] #[], .pointer (some ⟨Bs, 0, none⟩)] W fun e W' => (∃ v, e = .returned v) ∧
      ((∃ ys : List (Come bound), ys.map Subtype.val = backs f len len ∧ J ys W') ∨ (∃ pre, Jx pre W')) := by
  have HY : Hid (∀ pre x W, J pre W → pre.length < len → YieldAt F (n - 1) Try.prog l #[.int .i64 (x.1.1 : Nat), .int .i64 (x.1.2 : Nat)] W fun e W' =>
      (e = .returned (.bool true) ∧ J (pre ++ [x]) W' ∧ KeepB Bs n₀ W W') ∨ (e = .returned (.bool false) ∧ Jx (pre ++ [x]) W')) := hY
  have HC : Hid (∀ q, q < len → ∃ b off, a = some ⟨b, off, none⟩ ∧ b < n₀ ∧ W.cell? ⟨b, off + q, none⟩ = some (.int .i64 (f q : Nat))) := hc
  clear hY hc
  refine callsIn_of_wp Try.func38 rfl h19 ?_ hro
  simp only [Try.ntmps38, List.size_toArray, List.length_cons, List.length_nil, Nat.reduceAdd, Nat.reduceSub, Array.replicate_succ, Array.replicate_zero, List.push_toArray, List.append_toArray, List.nil_append, List.cons_append]
  gi_wp2
  gi_loopw [3] (fun i wr => ∃ (k : Nat) (pre : List (Come bound)), k ≤ len ∧ i = .int .i64 ((len : Int) - 1 - (k : Int)) ∧ pre.map Subtype.val = backs f len k ∧ J pre wr ∧ KeepB Bs n₀ W wr)
    (fun i _ => (intOf i + 1).toNat)
  case atStart => exact ⟨0, [], Nat.zero_le _, by simp, rfl, h0, Below.refl _ _, rfl⟩
  case round =>
    obtain ⟨k, pre, hk, rfl, hpre, hJs, hnx⟩ := hrel
    have hbox : wr.cell? ⟨Bs, 0, none⟩ = some (.slice a len cap) := (World.cell?_of_block (w := W) (a := ⟨Bs, 0, none⟩) hnx.2).trans hBs
    by_cases hlt : k < len
    · obtain ⟨q, hq⟩ : ∃ q : Nat, q = len - 1 - k := ⟨_, rfl⟩
      have hqi : (len : Int) - 1 - (k : Int) = (q : Int) := by omega
      have hql : q < len := by omega
      obtain ⟨b, off, rfl, hb, hcell⟩ := HC.out q hql
      have hcq := (hnx.1.cell (p := ⟨b, off + q, none⟩) hb).trans hcell
      have hfq := hf q hql
      have hlen : pre.length < len := by
        have := congrArg List.length hpre
        rw [List.length_map, backs_length] at this
        omega
      obtain ⟨fn, tmps, assign, body, hy, hR⟩ := HY.out pre ⟨(q, f q), hfq⟩ wr hJs hlen
      dsimp only at hy
      have HQ : Hid (backs f len (k + 1) = backs f len k ++ [(q, f q)]) := by subst hq; rfl
      rw [hqi]
      generalize f q = fq at *
      clear hcell hq
      gi_wp2
      refine hR.mono ?_
      rintro e W3 (⟨rfl, hJ3, hk3⟩ | ⟨rfl, hJx3⟩)
      · gi_wp2
        go_roundw
        case rel => exact ⟨k + 1, _, by omega, by simp; omega, by rw [List.map_append, hpre, HQ.out]; rfl, hJ3, keepB_t hnx hk3⟩
        case measure => simp [intOf]
      · gi_wp2
        refine bodyPost_ret (results_none rfl _ _ _) rfl ?_
        exact ⟨⟨_, rfl⟩, .inr ⟨_, hJx3⟩⟩
    · obtain rfl : k = len := by omega
      have hneg : (k : Int) - 1 - (k : Int) = -1 := by omega
      rw [hneg]
      gi_wp2
      go_end0
      exact ⟨⟨_, rfl⟩, .inl ⟨_, hpre, hJs⟩⟩

set_option maxHeartbeats 1000000 in
theorem back_in (F : Fence) (n : Nat) (h15 : F.fn 33) (hro : F.round = none) (a : Option Addr) (len cap : Nat) (w : World) :
    CallsIn F n Try.prog 33 #[.slice a len cap] w fun e w' => e = .returned (.func (.func 38) #[] #[.pointer (some ⟨w.heap.size, 0, none⟩)]) ∧ w' = w.alloc (.cells #[.slice a len cap] 25) := by
  refine callsIn_of_wp Try.func33 rfl h15 ?_ hro
  simp only [Try.ntmps33, List.size_toArray, List.length_cons, List.length_nil, Nat.reduceAdd, Nat.reduceSub, Array.replicate_succ, Array.replicate_zero, List.push_toArray, List.append_toArray, List.nil_append, List.cons_append]
  gi_wp2
  go_ret
  exact ⟨rfl, rfl⟩

theorem back_stops (F : Fence) (n : Nat) (h19 : F.fn 38) (hro : F.round = none) (hn : 1 ≤ n) (Bs n₀ len cap bound : Nat) (a : Option Addr) (f : Nat → Nat) (hreach : len * 8 ≤ 140737488351232) (hf : ∀ q, q < len → f q < bound)
    (w : World) (hBs : Bs < w.heap.size) (hn₀ : n₀ ≤ w.heap.size) (hc : w.cell? ⟨Bs, 0, none⟩ = some (.slice a len cap))
    (hI : ∀ q, q < len → ∃ b off, a = some ⟨b, off, none⟩ ∧ b < n₀ ∧ w.cell? ⟨b, off + q, none⟩ = some (.int .i64 (f q : Nat))) :
    SeqStopsK F n Try.prog 38 #[.pointer (some ⟨Bs, 0, none⟩)] (fun x : Come bound => #[Value.int .i64 (x.1.1 : Nat), Value.int .i64 (x.1.2 : Nat)]) (KeepB Bs n₀) (fun ys => ys.map Subtype.val = backs f len len) (fun _ => True) len w := fun l J Jx W hW _ _ hY h0 => by
  have hc' := (hW.cell (p := ⟨Bs, 0, none⟩) hBs).trans hc
  refine (back1_in F n h19 hro hn l Bs n₀ len cap bound a f hreach hf J Jx hY W hc' (fun q hq => ?_) h0).mono ?_
  · obtain ⟨b, off, h1, h2, h3⟩ := hI q hq
    exact ⟨b, off, h1, h2, (hW.cell (p := ⟨b, off + q, none⟩) (Nat.lt_of_lt_of_le h2 hn₀)).trans h3⟩
  · rintro e W' ⟨he, ⟨ys, h1, h2⟩ | ⟨pre, h⟩⟩
    · exact ⟨he, .inl ⟨ys, h1, h2⟩⟩
    · exact ⟨he, .inr ⟨pre, trivial, h⟩⟩
end Go.Proofs.Ytkbcjhmcbfppkaa
