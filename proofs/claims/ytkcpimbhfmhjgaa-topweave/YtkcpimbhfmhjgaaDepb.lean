/- The contracts of slices.Backward at []int, and of its closure: from the end on, each with its place. Plain, of the model's walk: a region that draws its order, in a round of a range over a function, by the plain walk's law. The contract of depth.Tails. The contracts of depth.Span and depth.Longest. The contract of depth.Work. -/
import Derived.Test.YtkcpimbhfmhjgaaDepa
import Derived.RangeFuncNested
import Derived.RangeFuncBox
import Derived.RangeFuncBound
import Derived.RangeFuncCalls
import Derived.RangeFuncLeaves
import Derived.Shelf.Abstract
import Derived.Shelf.RegionOpen
import Derived.OwnWalkIn
import Derived.TacticsInMore
import Derived.LoopNIn
import Derived.LoopIn
import Derived.OrdersHeld

namespace Go.Proofs.Ytkcpimbhfmhjgaa
open Go.RowKit Go.Deep Go.Shelf

attribute [local go_sem] Oper.semAt_some

/-- What a round is handed: a place, and a number below n. -/
abbrev Come (n : Nat) : Type := { x : Nat × Nat // x.2 < n }
/-- What has come when k rounds are over. -/
def backs (f : Nat → Nat) (len : Nat) : Nat → List (Nat × Nat)
  | 0 => []
  | k + 1 => backs f len k ++ [(len - 1 - k, f (len - 1 - k))]
theorem backs_length (f : Nat → Nat) (len k : Nat) : (backs f len k).length = k := by
  induction k with
  | zero => rfl
  | succ k ih => simp [backs, ih]

/-- What a round keeps: all that lay below n₀, and the iterator's own box. -/
def KeepB (Bs n₀ : Nat) (W W' : World) : Prop := Below n₀ W W' ∧ W'.heap[Bs]? = W.heap[Bs]?
theorem keepB_t {Bs n₀ : Nat} {A B C : World} (h : KeepB Bs n₀ A B) (k : KeepB Bs n₀ B C) : KeepB Bs n₀ A C := ⟨h.1.trans k.1, k.2.trans h.2⟩
theorem keepB_b {Bs n₀ : Nat} {w : World} (hn : n₀ ≤ w.heap.size) (hB : Bs < w.heap.size) (W : World) (l : Nat) (o o' : Obj) (hl : w.heap.size ≤ l) (h : W.heap[l]? = some o) (h1 : o.isCells = false) (h2 : o.isWalk = false) : KeepB Bs n₀ W (W.putObj l o') :=
  ⟨belowK_b hn W l o o' hl h h1 h2, World.putObj_heap_other (by omega)⟩

set_option maxRecDepth 100000 in
set_option maxHeartbeats 2000000 in
theorem back1_in (F : Fence) (n : Nat) (h19 : F.fn 57) (hro : F.round = none) (hn : 1 ≤ n) (l Bs n₀ len cap bound : Nat) (a : Option Addr) (f : Nat → Nat) (hreach : len * 8 ≤ 140737488351232) (hf : ∀ q, q < len → f q < bound)
    (J Jx : List (Come bound) → World → Prop)
    (hY : ∀ pre x W, J pre W → pre.length < len → YieldAt F (n - 1) Try.prog l #[.int .i64 (x.1.1 : Nat), .int .i64 (x.1.2 : Nat)] W fun e W' =>
      (e = .returned (.bool true) ∧ J (pre ++ [x]) W' ∧ KeepB Bs n₀ W W') ∨ (e = .returned (.bool false) ∧ Jx (pre ++ [x]) W'))
    (W : World) (hBs : W.cell? ⟨Bs, 0, none⟩ = some (.slice a len cap)) (hc : ∀ q, q < len → ∃ b off, a = some ⟨b, off, none⟩ ∧ b < n₀ ∧ W.cell? ⟨b, off + q, none⟩ = some (.int .i64 (f q : Nat))) (h0 : J [] W) :
    CallsIn F n Try.prog 57 #[.func (.yield l) #[] #[], .pointer (some ⟨Bs, 0, none⟩)] W fun e W' => (∃ v, e = .returned v) ∧
      ((∃ ys : List (Come bound), ys.map Subtype.val = backs f len len ∧ J ys W') ∨ (∃ pre, Jx pre W')) := by
  have HY : Hid (∀ pre x W, J pre W → pre.length < len → YieldAt F (n - 1) Try.prog l #[.int .i64 (x.1.1 : Nat), .int .i64 (x.1.2 : Nat)] W fun e W' =>
      (e = .returned (.bool true) ∧ J (pre ++ [x]) W' ∧ KeepB Bs n₀ W W') ∨ (e = .returned (.bool false) ∧ Jx (pre ++ [x]) W')) := hY
  have HC : Hid (∀ q, q < len → ∃ b off, a = some ⟨b, off, none⟩ ∧ b < n₀ ∧ W.cell? ⟨b, off + q, none⟩ = some (.int .i64 (f q : Nat))) := hc
  clear hY hc
  refine callsIn_of_wp Try.func57 rfl h19 ?_ hro
  simp only [Try.ntmps57, List.size_toArray, List.length_cons, List.length_nil, Nat.reduceAdd, Nat.reduceSub, Array.replicate_succ, Array.replicate_zero, List.push_toArray, List.append_toArray, List.nil_append, List.cons_append]
  gi_wp2
  gi_loopw [3] (fun i wr => ∃ (k : Nat) (pre : List (Come bound)), k ≤ len ∧ i = .int .i64 ((len : Int) - 1 - (k : Int)) ∧ pre.map Subtype.val = backs f len k ∧ J pre wr ∧ KeepB Bs n₀ W wr)
    (fun i _ => (intOf i + 1).toNat)
  case atStart => exact ⟨0, [], Nat.zero_le _, by simp, rfl, h0, Below.refl _ _, rfl⟩
  case round =>
    obtain ⟨k, pre, hk, rfl, hpre, hJs, hnx⟩ := hrel
    have hbox : wr.cell? ⟨Bs, 0, none⟩ = some (.slice a len cap) := (World.cell?_of_block (w := W) (a := ⟨Bs, 0, none⟩) hnx.2).trans hBs
    by_cases hlt : k < len
    · obtain ⟨q, hq⟩ : ∃ q : Nat, q = len - 1 - k := ⟨_, rfl⟩
      have hqi : (len : Int) - 1 - (k : Int) = (q : Int) := by omega
      have hql : q < len := by omega
      obtain ⟨b, off, rfl, hb, hcell⟩ := HC.out q hql
      have hcq := (hnx.1.cell (p := ⟨b, off + q, none⟩) hb).trans hcell
      have hfq := hf q hql
      have hlen : pre.length < len := by
        have := congrArg List.length hpre
        rw [List.length_map, backs_length] at this
        omega
      obtain ⟨fn, tmps, assign, body, hy, hR⟩ := HY.out pre ⟨(q, f q), hfq⟩ wr hJs hlen
      dsimp only at hy
      have HQ : Hid (backs f len (k + 1) = backs f len k ++ [(q, f q)]) := by subst hq; rfl
      rw [hqi]
      generalize f q = fq at *
      clear hcell hq
      gi_wp2
      refine hR.mono ?_
      rintro e W3 (⟨rfl, hJ3, hk3⟩ | ⟨rfl, hJx3⟩)
      · gi_wp2
        go_roundw
        case rel => exact ⟨k + 1, _, by omega, by simp; omega, by rw [List.map_append, hpre, HQ.out]; rfl, hJ3, keepB_t hnx hk3⟩
        case measure => simp [intOf]
      · gi_wp2
        refine bodyPost_ret (results_none rfl _ _ _) rfl ?_
        exact ⟨⟨_, rfl⟩, .inr ⟨_, hJx3⟩⟩
    · obtain rfl : k = len := by omega
      have hneg : (k : Int) - 1 - (k : Int) = -1 := by omega
      rw [hneg]
      gi_wp2
      go_end0
      exact ⟨⟨_, rfl⟩, .inl ⟨_, hpre, hJs⟩⟩

set_option maxHeartbeats 1000000 in
theorem back_in (F : Fence) (n : Nat) (h15 : F.fn 39) (hro : F.round = none) (a : Option Addr) (len cap : Nat) (w : World) :
    CallsIn F n Try.prog 39 #[.slice a len cap] w fun e w' => e = .returned (.func (.func 57) #[] #[.pointer (some ⟨w.heap.size, 0, none⟩)]) ∧ w' = w.alloc (.cells #[.slice a len cap] 32) := by
  refine callsIn_of_wp Try.func39 rfl h15 ?_ hro
  simp only [Try.ntmps39, List.size_toArray, List.length_cons, List.length_nil, Nat.reduceAdd, Nat.reduceSub, Array.replicate_succ, Array.replicate_zero, List.push_toArray, List.append_toArray, List.nil_append, List.cons_append]
  gi_wp2
  go_ret
  exact ⟨rfl, rfl⟩

theorem back_stops (F : Fence) (n : Nat) (h19 : F.fn 57) (hro : F.round = none) (hn : 1 ≤ n) (Bs n₀ len cap bound : Nat) (a : Option Addr) (f : Nat → Nat) (hreach : len * 8 ≤ 140737488351232) (hf : ∀ q, q < len → f q < bound)
    (w : World) (hBs : Bs < w.heap.size) (hn₀ : n₀ ≤ w.heap.size) (hc : w.cell? ⟨Bs, 0, none⟩ = some (.slice a len cap))
    (hI : ∀ q, q < len → ∃ b off, a = some ⟨b, off, none⟩ ∧ b < n₀ ∧ w.cell? ⟨b, off + q, none⟩ = some (.int .i64 (f q : Nat))) :
    SeqStopsK F n Try.prog 57 #[.pointer (some ⟨Bs, 0, none⟩)] (fun x : Come bound => #[Value.int .i64 (x.1.1 : Nat), Value.int .i64 (x.1.2 : Nat)]) (KeepB Bs n₀) (fun ys => ys.map Subtype.val = backs f len len) (fun _ => True) len w := fun l J Jx W hW _ _ hY h0 => by
  have hc' := (hW.cell (p := ⟨Bs, 0, none⟩) hBs).trans hc
  refine (back1_in F n h19 hro hn l Bs n₀ len cap bound a f hreach hf J Jx hY W hc' (fun q hq => ?_) h0).mono ?_
  · obtain ⟨b, off, h1, h2, h3⟩ := hI q hq
    exact ⟨b, off, h1, h2, (hW.cell (p := ⟨b, off + q, none⟩) (Nat.lt_of_lt_of_le h2 hn₀)).trans h3⟩
  · rintro e W' ⟨he, ⟨ys, h1, h2⟩ | ⟨pre, h⟩⟩
    · exact ⟨he, .inl ⟨ys, h1, h2⟩⟩
    · exact ⟨he, .inr ⟨pre, trivial, h⟩⟩
end Go.Proofs.Ytkcpimbhfmhjgaa

namespace Go.Proofs.Ytkcpimbhfmhjgaa
open Go.RowKit Go.Deep Go.Shelf

/-- No operation of the region is a defer statement. -/
def noDefer (ops : Array Oper) : Bool := ops.all fun o => match o.op with
  | .defer _ => false
  | _ => true
theorem noDefer_at {ops : Array Oper} (h : noDefer ops = true) {i : Nat} {o : Oper} (ho : ops[i]? = some o) : ∀ c, o.op ≠ .defer c := by
  intro c hc
  unfold noDefer at h
  rw [Array.all_eq_true] at h
  obtain ⟨hi, he⟩ := Array.getElem?_eq_some_iff.1 ho
  have := h i hi
  rw [he, hc] at this
  cases this

theorem oper_round {l n : Nat} {P : Program} {o : Oper} {a : Act} {w : World} {K K' : Act → World → Prop} {Q : Exit → Act → World → Prop} (hd : ∀ c, o.op ≠ .defer c) (hK : ∀ a w, K a w → K' a w) (h : o.wp P a w K Q) : o.wpIn (Fence.wide.inRound l) n P a w K' Q := by
  refine ⟨fun _ _ => trivial, ?_⟩
  rw [Oper.semAt_eq _ _ _ hd]
  unfold Oper.wp at h
  generalize (execOp a.eval o).run P w = r at *
  match r, h with
  | .ok (.value v) w', h => exact hK _ _ h
  | .ok .skip w', h => exact hK _ _ h
  | .ok (.defer d) w', h => exact hK _ _ h
  | .ok (.enter f args) w', h =>
    refine ⟨fun hc => (by cases hc), CallsIn.inRound l (callsIn_wide.2 (Calls.mono h ?_))⟩
    intro e w2 h2
    cases e with
    | returned v => exact hK _ _ h2
    | panicked chain => exact h2
    | outgrown => exact h2
  | .ok (.row row args) w', h =>
    refine ⟨fun hc => (by cases hc), fun c cs _ => ?_⟩
    obtain ⟨v, w2, h1, h2⟩ := h c cs
    exact ⟨v, w2, hK _ _ h1, stepsIn_wide.2 h2⟩
  | .halt (.panic v) w', h => exact h

theorem wpAny_round {l n : Nat} {P : Program} {ops : Array Oper} {md : Region.Mode} {Q : Exit → Act → World → Prop} (hd : noDefer ops = true) (hL : LetsOut Q → False) :
    ∀ (fuel : Nat) (listed : Array Bool) (a : Act) (w : World), wpAny P md ops Q fuel listed a w → wpAnyIn (Fence.wide.inRound l) n P md ops Q fuel listed a w
  | 0, _, _, _, h => h
  | fuel + 1, listed, a, w, h => by
    refine ⟨h.1, fun i hi => ?_⟩
    have h1 := h.2 i hi
    unfold wpOp at h1
    unfold wpOpIn
    cases ho : ops[i]? with
    | none =>
      rw [ho] at h1
      exact wpAny_round hd hL fuel _ a w h1
    | some o =>
      rw [ho] at h1
      dsimp only at h1 ⊢
      cases hw : Region.wanted o (yielded ops a.tmps) with
      | true =>
        rw [hw] at h1
        simp only [if_true] at h1 ⊢
        rcases h1 with h1 | ⟨_, h1⟩
        · exact oper_round (noDefer_at hd ho) (fun a' w' => wpAny_round hd hL fuel _ a' w') h1
        · exact (hL h1).elim
      | false =>
        rw [hw] at h1
        simp only [Bool.false_eq_true, if_false] at h1 ⊢
        exact ⟨fun _ _ => trivial, wpAny_round hd hL fuel _ _ w h1⟩

theorem region_round {l n id : Nat} {P : Program} {ops : Array Oper} {Q : Exit → Act → World → Prop} {S : World → Prop} {a : Act} {w : World} (k : Nat) (hk : ops.size = k) (hm : P.follows .mixedOrders = true) (hd : noDefer ops = true) (hL : LetsOut Q → False)
    (h : wpAnyH P .any ops Q S k (Array.replicate k false) a w.drew) : (Code.region id ops true).wpIn (Fence.wide.inRound l) n P Q a w := by
  subst hk
  exact wpIn_region_any hm (wpAny_round hd hL _ _ _ _ (wpAny_of_held _ _ _ _ h))

/-- An operation that is carried out in the world at hand. -/
theorem wpOp_run {P : Program} {ops : Array Oper} {Q : Exit → Act → World → Prop} {i : Nat} {o : Oper} {K : Act → World → Prop} {a : Act} {w w' : World} {v : Value} (hi : ops[i]? = some o) (hw : Region.wanted o (yielded ops a.tmps) = true)
    (hr : (execOp a.eval o).run P w = .ok (.value v) w') (h : K (a.put o.dst v) w') : wpOp P ops Q i K a w := by
  unfold wpOp
  rw [hi]
  dsimp only
  rw [hw, if_pos rfl]
  refine Or.inl ?_
  unfold Oper.wp
  rw [hr]
  exact h
theorem wpOp_skip {P : Program} {ops : Array Oper} {Q : Exit → Act → World → Prop} {i : Nat} {o : Oper} {K : Act → World → Prop} {a : Act} {w w' : World} (hi : ops[i]? = some o) (hw : Region.wanted o (yielded ops a.tmps) = true)
    (hr : (execOp a.eval o).run P w = .ok .skip w') (h : K (a.put o.dst undef) w') : wpOp P ops Q i K a w := by
  unfold wpOp
  rw [hi]
  dsimp only
  rw [hw, if_pos rfl]
  refine Or.inl ?_
  unfold Oper.wp
  rw [hr]
  exact h

section
variable {P : Program} {ops : Array Oper} {md : Region.Mode} {Q : Exit → Act → World → Prop} {S : World → Prop} {fuel : Nat} {listed : Array Bool} {a : Act} {w w' : World} {v : Value} {o : Oper} {i j : Nat}
/-- One alone may come up: it is carried out in the world at hand. -/
theorem wpAnyH_run (hr : Region.ready md ops listed = [i]) (hi : ops[i]? = some o) (hw : Region.wanted o (yielded ops a.tmps) = true) (hx : (execOp a.eval o).run P w = .ok (.value v) w') (hS : S w')
    (h : wpAnyH P md ops Q S fuel (listed.setIfInBounds i true) (a.put o.dst v) w') : wpAnyH P md ops Q S (fuel + 1) listed a w :=
  wpAnyH_all hr (by simp) (fun k hk => by obtain rfl := List.mem_singleton.1 hk; exact wpOp_run hi hw hx ⟨hS, h⟩)
theorem wpAnyH_store (hr : Region.ready md ops listed = [i]) (hi : ops[i]? = some o) (hw : Region.wanted o (yielded ops a.tmps) = true) (hx : (execOp a.eval o).run P w = .ok .skip w') (hS : S w')
    (h : wpAnyH P md ops Q S fuel (listed.setIfInBounds i true) (a.put o.dst undef) w') : wpAnyH P md ops Q S (fuel + 1) listed a w :=
  wpAnyH_all hr (by simp) (fun k hk => by obtain rfl := List.mem_singleton.1 hk; exact wpOp_skip hi hw hx ⟨hS, h⟩)
/-- Two may come up, and both read alone: whichever is first, then the other. -/
theorem wpAnyH_both {v2 : Value} {o2 : Oper} {d d2 : Nat} (hr : Region.ready md ops listed = [i, j]) (hr1 : Region.ready md ops (listed.setIfInBounds i true) = [j]) (hr2 : Region.ready md ops (listed.setIfInBounds j true) = [i])
    (hi : ops[i]? = some o) (hj : ops[j]? = some o2) (hd : o.dst = some d) (hd2 : o2.dst = some d2) (hne : d ≠ d2) (hij : i ≠ j)
    (hw : Region.wanted o (yielded ops a.tmps) = true) (hw' : Region.wanted o (yielded ops (a.put o2.dst v2).tmps) = true) (hw2 : Region.wanted o2 (yielded ops a.tmps) = true) (hw2' : Region.wanted o2 (yielded ops (a.put o.dst v).tmps) = true)
    (hx : (execOp a.eval o).run P w = .ok (.value v) w) (hx' : (execOp (a.put o2.dst v2).eval o).run P w = .ok (.value v) w)
    (hx2 : (execOp a.eval o2).run P w = .ok (.value v2) w) (hx2' : (execOp (a.put o.dst v).eval o2).run P w = .ok (.value v2) w) (hS : S w)
    (h : wpAnyH P md ops Q S fuel ((listed.setIfInBounds i true).setIfInBounds j true) ((a.put o.dst v).put o2.dst v2) w) : wpAnyH P md ops Q S (fuel + 1 + 1) listed a w := by
  refine wpAnyH_all hr (by simp) (fun k hk => ?_)
  rcases List.mem_cons.1 hk with rfl | hk
  · exact wpOp_run hi hw hx ⟨hS, wpAnyH_run hr1 hj hw2' hx2' hS h⟩
  · obtain rfl := List.mem_singleton.1 hk
    refine wpOp_run hj hw2 hx2 ⟨hS, wpAnyH_run hr2 hi hw' hx' hS ?_⟩
    have e1 : (a.put o2.dst v2).put o.dst v = (a.put o.dst v).put o2.dst v2 := by
      rw [hd, hd2]
      simp only [Act.put]
      rw [Array.setIfInBounds_comm _ _ hne]
    rw [e1, Array.setIfInBounds_comm _ _ (Ne.symm hij)]
    exact h
end
end Go.Proofs.Ytkcpimbhfmhjgaa

namespace Go.Proofs.Ytkcpimbhfmhjgaa
open Go.RowKit Go.Deep Go.Shelf

attribute [local go_sem] Oper.semAt_some

/-- Tails along tasks, one behind the other. -/
def tailsAlong (ts : List (Int × List Int)) : List (Nat × Nat) → Nat → Int
  | l => l.foldl (fun T x => tailIn ts x.2 T (needsOf ts x.2).length) (fun _ => 0)
theorem tailsAlong_snoc (ts : List (Int × List Int)) (l : List (Nat × Nat)) (x : Nat × Nat) : tailsAlong ts (l ++ [x]) = tailIn ts x.2 (tailsAlong ts l) (needsOf ts x.2).length := by
  simp [tailsAlong]
theorem tailsAlong_backs (ts : List (Int × List Int)) (ord : List Nat) : ∀ k, tailsAlong ts (backs (fun q => ord.getD q 0) ord.length k) = tailAll ts ord k := by
  intro k
  induction k with
  | zero => rfl
  | succ k ih =>
    rw [show backs (fun q => ord.getD q 0) ord.length (k + 1) = backs (fun q => ord.getD q 0) ord.length k ++ [(ord.length - 1 - k, ord.getD (ord.length - 1 - k) 0)] from rfl, tailsAlong_snoc, ih]
    rfl
theorem tailIn_low {ts : List (Int × List Int)} (_ : InRange ts) (hw : ∀ x, x < ts.length → 1 ≤ wkOf ts x ∧ wkOf ts x ≤ 20) {x : Nat} (hx : x < ts.length) {T : Nat → Int} {b : Int} (hT : ∀ y, 0 ≤ T y ∧ T y ≤ b) :
    ∀ k, k ≤ (needsOf ts x).length → ∀ y, 0 ≤ tailIn ts x T k y ∧ tailIn ts x T k y ≤ b + 20 := by
  intro k
  induction k with
  | zero =>
    intro _ y
    have h1 := hw x hx
    have h2 := hT x
    by_cases e : y = x
    · subst e; rw [tailIn, upd_at]; omega
    · rw [tailIn, upd_ne _ _ e]; have := hT y; omega
  | succ k ih =>
    intro hk y
    have hi := ih (by omega)
    have h1 := hi (nd ts x k)
    have h2 := hi x
    by_cases e : y = nd ts x k
    · subst e; rw [tailIn, upd_at]; omega
    · rw [tailIn, upd_ne _ _ e]; exact hi y
theorem tailsAlong_low {ts : List (Int × List Int)} (hr : InRange ts) (hw : ∀ x, x < ts.length → 1 ≤ wkOf ts x ∧ wkOf ts x ≤ 20) : ∀ (l : List (Come ts.length)), ∀ y, 0 ≤ tailsAlong ts (l.map Subtype.val) y ∧ tailsAlong ts (l.map Subtype.val) y ≤ 20 * l.length := by
  have key : ∀ n (l : List (Come ts.length)), l.length = n → ∀ y, 0 ≤ tailsAlong ts (l.map Subtype.val) y ∧ tailsAlong ts (l.map Subtype.val) y ≤ 20 * l.length := by
    intro n
    induction n with
    | zero => intro l hl y; rw [List.eq_nil_of_length_eq_zero hl]; simp [tailsAlong]
    | succ n ih =>
      intro l hl
      rcases List.eq_nil_or_concat l with rfl | ⟨l', x, rfl⟩
      · simp at hl
      rw [List.concat_eq_append] at *
      have hl' : l'.length = n := by simpa using hl
      intro y
      have := tailIn_low hr hw x.2 (ih l' hl') (needsOf ts x.1.2).length (Nat.le_refl _) y
      rw [List.map_append, List.map_singleton, tailsAlong_snoc]
      simp only [List.length_append, List.length_singleton]
      omega
  exact fun l => key _ l rfl

theorem wrap_fits {n : Int} (h0 : 0 ≤ n) (h1 : n < 9223372036854775808) : IntKind.i64.wrap n = n := by rw [IntKind.wrap_i64]; omega

/-- What Tails' memory is in a round that began in W: the row in block N, its box, the iterator's box. -/
structure TailMem (N n : Nat) (w1 W wr : World) (f : Nat → Int) : Prop where
  row : wr.rowIs N 3 n (intRow f)
  box : Boxed wr (N + 1) 32 (.slice (some ⟨N, 0, none⟩) n n)
  below : Below N w1 wr
  keeps : KeepsOthers W wr
  kept : KeepB (N + 2) N W wr

theorem TailMem.set {N n x : Nat} {w1 W wr : World} {f : Nat → Int} {v : Int} (h : TailMem N n w1 W wr f) : TailMem N n w1 W (wr.setCell ⟨N, x, none⟩ (.int .i64 v)).drew (upd f x v) := {
  row := (row_upd h.row).drew
  box := (Below.heap_setCell wr ⟨N, x, none⟩ (.int .i64 v) (N + 1) (by show N + 1 ≠ N; omega)).trans h.box
  below := (h.below.setCell (p := ⟨N, x, none⟩) (Nat.le_refl _) _).drew
  keeps := (h.keeps.trans (KeepsOthers.setCell _ _ _)).trans (KeepsOthers.drew _)
  kept := ⟨(h.kept.1.setCell (p := ⟨N, x, none⟩) (Nat.le_refl _) _).drew, (Below.heap_setCell wr ⟨N, x, none⟩ (.int .i64 v) (N + 2) (by show N + 2 ≠ N; omega)).trans h.kept.2⟩
  }

theorem row_own {β : Type} (b t n : Nat) (f : β → Nat → Value) : Own (fun s W => W.rowIs b t n (f s)) := fun s X Y row hs hg hr => by
  refine hs.of_block (hg.block b hs.lt (fun e => ?_))
  obtain ⟨o, ho, hc⟩ := hr b e.symm
  obtain ⟨cc, hb, _⟩ := hs
  rw [hb] at ho
  cases ho; cases hc

set_option maxRecDepth 100000 in
set_option maxHeartbeats 8000000 in
theorem tails_in (v : Value) (ts : List (Int × List Int)) (w : World) (hp : PlanAt w v ts) :
    CallsIn Fence.wide 4 Try.prog 19 #[v] w fun e w' => ((∃ p q, q ≠ 0 ∧ CheckIs ts p q ∧ e = .returned (.tuple #[.slice none 0 0, errV q])) ∨
      (CheckIs ts 0 0 ∧ ∃ ord rv, OrdIs ts ord ∧ e = .returned (.tuple #[rv, .nilIface]) ∧ IntsAt w' rv (listOf (tailsOf ts ord) ts.length))) ∧ Below w.heap.size w w' := by
  have HP : Hid (PlanAt w v ts) := hp
  obtain ⟨hl, a, c, rfl, hp⟩ := hp
  clear hp
  have hbB : Below w.heap.size w (w.alloc (.cells #[.slice a ts.length c] 24)) := (Below.refl _ _).alloc (Nat.le_refl _) _
  have hck := order_back _ ts _ (HP.out.later hbB)
  have hmk := fun wx => run_make_row' (P := Try.prog) 32 3 (.int .i64 0) 8 Try.underlying32 Try.info3 rfl .i64 .i64 ts.length (by omega) (by omega) wx
  refine callsIn_of_wp_marks Try.func19 rfl trivial ?_ rfl
  simp only [Try.ntmps19, List.size_toArray, List.length_cons, List.length_nil, Nat.reduceAdd, Nat.reduceSub, Array.replicate_succ, Array.replicate_zero, List.push_toArray, List.append_toArray, List.nil_append, List.cons_append]
  gi_wp2_with fail
  refine ⟨trivial, (callsIn_wide.2 hck).mono ?_⟩
  rintro e w1 ⟨h, hb1⟩
  clear hck
  have hb2 : Below w.heap.size w w1 := hbB.trans (hb1.mono hbB.size)
  rcases h with ⟨p, q, hq, hc, rfl⟩ | ⟨hc, ord, ov, rfl, ho, hi⟩
  · have hev := errV_some hq
    rw [hev]
    have HV : Hid (errV q = .iface 47 (.int .i64 q)) := hev
    clear hev
    gi_wp2
    exact ⟨_, results_tmp2 rfl _ _ _, Or.inl ⟨p, q, hq, hc, by rw [HV.out]; rfl⟩, hb2⟩
  · have hd := Ready.of hc ho
    have HD : Hid (Ready ts ord) := hd
    have HO : Hid (OrdIs ts ord) := ho
    have HCK : Hid (CheckIs ts 0 0) := hc
    have h30 := hd.small
    have hlen := hd.len
    have hboxP : w1.cell? ⟨w.heap.size, 0, none⟩ = some (.slice a ts.length c) := (hb1.cell (p := ⟨w.heap.size, 0, none⟩) (by simp)).trans (by simp)
    have hbP : w.heap.size < w1.heap.size := by have := hb1.size; simp at this; omega
    have hpw := HP.out.later hb2
    obtain ⟨_, a', c', hva, hpc⟩ := hpw
    obtain ⟨rfl, -, rfl⟩ : a = a' ∧ True ∧ c = c' := by simp at hva; exact ⟨hva.1, trivial, hva.2⟩
    clear hva
    obtain ⟨_, oa, oc, rfl, hoc⟩ := hi
    rw [intsOf_length, hlen] at hoc ⊢
    have HOC : Hid (∀ m, m < ts.length → ∃ b o, oa = some ⟨b, o, none⟩ ∧ b < w1.heap.size ∧ w1.cell? ⟨b, o + m, none⟩ = some (.int .i64 (ord.getD m 0 : Nat))) := fun m hm => by
      rcases hoc with h | ⟨b, o, h1, h2, h3⟩
      · have := congrArg List.length h
        rw [intsOf_length, hlen, List.length_nil] at this
        omega
      · exact ⟨b, o, h1, h2, by have := h3 m hm; rwa [intsOf_getD] at this⟩
    have HPC : Hid (∀ k, k < ts.length → ∃ b o nv, a = some ⟨b, o, none⟩ ∧ b < w1.heap.size ∧ w1.cell? ⟨b, o + k * 2, none⟩ = some (.int .i64 (wkOf ts k)) ∧ w1.cell? ⟨b, o + k * 2 + 1, none⟩ = some nv ∧ IntsAt w1 nv (needsOf ts k)) := fun k hk => by
      rcases hpc with h | ⟨b, o, h1, h2, h3⟩
      · subst h; simp at hk
      · obtain ⟨g1, nv, g2, g3⟩ := h3 k hk
        exact ⟨b, o, nv, h1, h2, g1, g2, g3⟩
    clear hoc hpc hc ho hd
    gi_wp2_with fail
    refine ⟨trivial, (back_in Fence.wide 3 trivial rfl _ _ _ _).mono ?_⟩
    rintro e w' ⟨rfl, rfl⟩
    gi_wp2
    have bT := Boxed.new (w1.alloc (.cells (madeCells #[.int .i64 0] ts.length) 3)) 32 (.slice (some ⟨w1.heap.size, 0, none⟩) ts.length ts.length)
    have bS := Boxed.new ((w1.alloc (.cells (madeCells #[.int .i64 0] ts.length) 3)).alloc (.cells #[.slice (some ⟨w1.heap.size, 0, none⟩) ts.length ts.length] 32)) 32 (.slice oa ts.length oc)
    have hr0 := (World.rowIs_made w1 (.int .i64 0) ts.length 3)
    have hB0 : Below w1.heap.size w1 (((w1.alloc (.cells (madeCells #[.int .i64 0] ts.length) 3)).alloc (.cells #[.slice (some ⟨w1.heap.size, 0, none⟩) ts.length ts.length] 32)).alloc (.cells #[.slice oa ts.length oc] 32)) :=
      (((Below.refl _ _).alloc (Nat.le_refl _) _).alloc (by simp) _).alloc (by simp; omega) _
    simp only [World.size_alloc, Nat.add_assoc, Nat.reduceAdd] at bT bS
    refine wpIn_rangeFunc_ownG rfl (by decide) (gf := 57) (lb := #[.pointer (some ⟨w1.heap.size + 2, 0, none⟩)]) rfl trivial (enters_of Try.func57 (by kernel_rfl) rfl)
      (back_stops Fence.wide 3 trivial rfl (by decide) (w1.heap.size + 2) w1.heap.size ts.length oc ts.length oa (fun q => ord.getD q 0) (by omega) (fun q hq => HD.out.lt q (by omega)) _ (by simp) (by simp; omega) bS.cell
        (fun q hq => by obtain ⟨b, o, h1, h2, h3⟩ := HOC.out q hq; exact ⟨b, o, h1, h2, (hB0.cell (p := ⟨b, o + q, none⟩) h2).trans h3⟩))
      keepB_t (keepB_b (by simp; omega) (by simp)) (Below.refl _ _) (fun _ => rfl)
      (fun pre W => (W.rowIs w1.heap.size 3 ts.length (intRow (tailsAlong ts (pre.map Subtype.val))) ∧ Boxed W (w1.heap.size + 1) 32 (.slice (some ⟨w1.heap.size, 0, none⟩) ts.length ts.length)) ∧ Below w1.heap.size w1 W)
      (fun _ _ _ => False)
      (OwnFrom.and (OwnFrom.and (Own.from (row_own _ _ _ _) _) (Own.from (boxed_own _ _ _) _)) (ownFrom_below (Nat.le_refl _) (by simp; omega)))
      (fun _ _ _ _ _ hs _ _ => hs)
      ⟨⟨((hr0.alloc _).alloc _).congr (fun k _ => rfl), bT.alloc _⟩, hB0⟩
      (fun x => { tmps := #[.slice a ts.length c, .pointer (some ⟨w.heap.size, 0, none⟩), .slice none 0 0, .nilIface, .slice oa ts.length oc, .nilIface, .pointer (some ⟨w1.heap.size + 1, 0, none⟩), undef, .int .i64 (x.1.2 : Nat), undef, undef, .tuple #[.slice oa ts.length oc, .nilIface], .slice a ts.length c, .tuple #[.slice oa ts.length oc, .nilIface], .slice oa ts.length oc, .nilIface, .nilIface, .bool false, undef, .slice a ts.length c, .int .i64 (ts.length : Nat), .slice (some ⟨w1.heap.size, 0, none⟩) ts.length ts.length, .slice oa ts.length oc, .func (.func 57) #[] #[.pointer (some ⟨w1.heap.size + 2, 0, none⟩)], .int .i64 (x.1.1 : Nat), .int .i64 (x.1.2 : Nat), undef, undef, undef, undef, undef, undef, undef, undef, undef, undef, undef, undef, undef, undef, undef, undef, undef, undef, undef, undef, undef, undef, undef, undef, undef, undef, undef, undef, undef, undef, undef, undef, undef, undef, undef], defers := [] }) ?assign ?body ?done ?stop
    case assign =>
      intro l x W K hK
      gi_wp2
      exact hK
    case body =>
      rintro l pre x W ⟨⟨hrow, hbox⟩, hB⟩ hlp
      have hxl : x.1.2 < ts.length := x.2
      have hlow := tailsAlong_low HD.out.rng HD.out.wk pre
      have HN : Hid (tailsAlong ts ((pre ++ [x]).map Subtype.val) = tailIn ts x.1.2 (tailsAlong ts (pre.map Subtype.val)) (needsOf ts x.1.2).length) := by show tailsAlong ts ((pre ++ [x]).map Subtype.val) = _; rw [List.map_append, List.map_singleton, tailsAlong_snoc]
      have HL : Hid (∀ k, k ≤ (needsOf ts x.1.2).length → ∀ y, 0 ≤ tailIn ts x.1.2 (tailsAlong ts (pre.map Subtype.val)) k y ∧ tailIn ts x.1.2 (tailsAlong ts (pre.map Subtype.val)) k y ≤ 620) := fun k hk y => by
        have := tailIn_low HD.out.rng HD.out.wk hxl hlow k hk y
        omega
      have HX : Hid (∀ k, tailIn ts x.1.2 (tailsAlong ts (pre.map Subtype.val)) (k + 1) = upd (tailIn ts x.1.2 (tailsAlong ts (pre.map Subtype.val)) k) (nd ts x.1.2 k) (max (tailIn ts x.1.2 (tailsAlong ts (pre.map Subtype.val)) k (nd ts x.1.2 k)) (tailIn ts x.1.2 (tailsAlong ts (pre.map Subtype.val)) k x.1.2))) := fun k => rfl
      have HX0 : Hid (tailIn ts x.1.2 (tailsAlong ts (pre.map Subtype.val)) 0 = upd (tailsAlong ts (pre.map Subtype.val)) x.1.2 (tailsAlong ts (pre.map Subtype.val) x.1.2 + wkOf ts x.1.2)) := rfl
      have hrng : Hid (∀ k, k < (needsOf ts x.1.2).length → nd ts x.1.2 k < ts.length ∧ (needsOf ts x.1.2).getD k 0 = (nd ts x.1.2 k : Nat)) := fun k hk => by
        have := need_at HD.out.rng hxl hk
        exact ⟨this.1, (Int.toNat_of_nonneg this.2.2).symm⟩
      have hM0 : TailMem w1.heap.size ts.length w1 W W (tailsAlong ts (pre.map Subtype.val)) := ⟨hrow, hbox, hB, KeepsOthers.refl _, Below.refl _ _, rfl⟩
      obtain ⟨pb, po, nv, hpa, hpb, hp1, hp2, hin⟩ := HPC.out x.1.2 hxl
      have hl0 := hlow x.1.2
      have hwk := HD.out.wk x.1.2 hxl
      have hlp' : (pre.length : Int) < 30 := by omega
      have hcx := hrow.cell hxl
      have hfx := hrow.frozen x.1.2
      have hbc := hbox.cell
      have hbp := (hB.cell (p := ⟨w.heap.size, 0, none⟩) hbP).trans hboxP
      have hp1' := (hB.cell (p := ⟨pb, po + x.1.2 * 2, none⟩) hpb).trans hp1
      have hM1 : Hid (TailMem w1.heap.size ts.length w1 W (W.setCell ⟨w1.heap.size, x.1.2, none⟩ (.int .i64 (tailsAlong ts (pre.map Subtype.val) x.1.2 + wkOf ts x.1.2))).drew (tailIn ts x.1.2 (tailsAlong ts (pre.map Subtype.val)) 0)) := by
        show TailMem _ _ _ _ _ _
        rw [HX0.out]
        exact hM0.set
      subst hpa
      obtain ⟨hln, na, nc, rfl, hnc⟩ := hin
      unfold intRow at hcx
      clear hrow hbox hM0 HX0
      generalize tailIn ts x.1.2 (tailsAlong ts (pre.map Subtype.val)) = TK at *
      generalize tailsAlong ts (pre.map Subtype.val) = T0 at *
      generalize wkOf ts x.1.2 = wx at *
      generalize hT0x : T0 x.1.2 = tx at *
      clear hT0x hlow
      generalize hxy : x.1.2 = y at *
      obtain ⟨W2, hW2⟩ : ∃ W2, (W.setCell ⟨w1.heap.size, y, none⟩ (.int .i64 (tx + wx))).drew = W2 := ⟨_, rfl⟩
      have HW2 : Hid ((W.setCell ⟨w1.heap.size, y, none⟩ (.int .i64 (tx + wx))).drew = W2) := hW2
      rw [hW2] at hM1
      clear hW2
      have hp2' := (hM1.out.below.cell (p := ⟨pb, po + y * 2 + 1, none⟩) hpb).trans hp2
      have hbp2 := (hM1.out.below.cell (p := ⟨w.heap.size, 0, none⟩) hbP).trans hboxP
      have hp12 := (hM1.out.below.cell (p := ⟨pb, po + y * 2, none⟩) hpb).trans hp1
      have hbc2 := hM1.out.box.cell
      gi_wp2
      have HS : W.drew.cell? ⟨w1.heap.size + 1, 0, none⟩ = some (.slice (some ⟨w1.heap.size, 0, none⟩) ts.length ts.length) ∧ W.drew.cell? ⟨w.heap.size, 0, none⟩ = some (.slice (some ⟨pb, po, none⟩) ts.length c) ∧ W.drew.cell? ⟨pb, po + y * 2, none⟩ = some (.int .i64 wx) := ⟨hbc, hbp, hp1'⟩
      refine region_round (S := fun W' => W'.cell? ⟨w1.heap.size + 1, 0, none⟩ = some (.slice (some ⟨w1.heap.size, 0, none⟩) ts.length ts.length) ∧ W'.cell? ⟨w.heap.size, 0, none⟩ = some (.slice (some ⟨pb, po, none⟩) ts.length c) ∧ W'.cell? ⟨pb, po + y * 2, none⟩ = some (.int .i64 wx)) 12 rfl (by kernel_rfl) (by kernel_rfl) ?hL ?_
      case hL => rintro ⟨_, _, h⟩; exact h
      refine wpAnyH_take (i := 0) (v := ?v0_1) rfl (by kernel_rfl) (by kernel_rfl) (by kernel_rfl) (fun _ _ _ h => h) (Or.inl ⟨by rfl, ?hy0_1⟩) HS ?_
      case hy0_1 =>
        intro wz hSz
        obtain ⟨z0, z1, z2⟩ := hSz
        go_simp
        try rfl
      refine wpAnyH_take (i := 1) (v := ?v1_2) rfl (by kernel_rfl) (by kernel_rfl) (by kernel_rfl) (fun _ _ _ h => h) (Or.inl ⟨by rfl, ?hy1_2⟩) HS ?_
      case hy1_2 =>
        intro wz hSz
        obtain ⟨z0, z1, z2⟩ := hSz
        go_simp
        try rfl
      refine wpAnyH_take (i := 2) (v := ?v2_3) rfl (by kernel_rfl) (by kernel_rfl) (by kernel_rfl) (fun _ _ _ h => h) (Or.inl ⟨by rfl, ?hy2_3⟩) HS ?_
      case hy2_3 =>
        intro wz hSz
        obtain ⟨z0, z1, z2⟩ := hSz
        go_simp
        try rfl
      refine wpAnyH_take (i := 4) (v := ?v4_4) rfl (by kernel_rfl) (by kernel_rfl) (by kernel_rfl) (fun _ _ _ h => h) (Or.inl ⟨by rfl, ?hy4_4⟩) HS ?_
      case hy4_4 =>
        intro wz hSz
        obtain ⟨z0, z1, z2⟩ := hSz
        go_simp
        try rfl
      refine wpAnyH_take (i := 5) (v := ?v5_5) rfl (by kernel_rfl) (by kernel_rfl) (by kernel_rfl) (fun _ _ _ h => h) (Or.inl ⟨by rfl, ?hy5_5⟩) HS ?_
      case hy5_5 =>
        intro wz hSz
        obtain ⟨z0, z1, z2⟩ := hSz
        go_simp
        try rfl
      refine wpAnyH_take (i := 6) (v := ?v6_6) rfl (by kernel_rfl) (by kernel_rfl) (by kernel_rfl) (fun _ _ _ h => h) (Or.inl ⟨by rfl, ?hy6_6⟩) HS ?_
      case hy6_6 =>
        intro wz hSz
        obtain ⟨z0, z1, z2⟩ := hSz
        go_simp
        try rfl
      refine wpAnyH_take (i := 7) (v := ?v7_7) rfl (by kernel_rfl) (by kernel_rfl) (by kernel_rfl) (fun _ _ _ h => h) (Or.inl ⟨by rfl, ?hy7_7⟩) HS ?_
      case hy7_7 =>
        intro wz hSz
        obtain ⟨z0, z1, z2⟩ := hSz
        go_simp
        try rfl
      refine wpAnyH_take (i := 8) (v := ?v8_8) rfl (by kernel_rfl) (by kernel_rfl) (by kernel_rfl) (fun _ _ _ h => h) (Or.inl ⟨by rfl, ?hy8_8⟩) HS ?_
      case hy8_8 =>
        intro wz hSz
        obtain ⟨z0, z1, z2⟩ := hSz
        go_simp
        try rfl
      refine wpAnyH_run (i := 3) (v := .int .i64 tx) (w' := W.drew) (by kernel_rfl) rfl (by rfl) ?hy3_9 HS ?_
      case hy3_9 => go_simp
      refine wpAnyH_take (i := 9) (v := .int .i64 (tx + wx)) rfl (by kernel_rfl) (by kernel_rfl) (by kernel_rfl) (fun _ _ _ h => h) (Or.inl ⟨by rfl, ?hy9_10⟩) HS ?_
      case hy9_10 =>
        intro wz hSz
        obtain ⟨z0, z1, z2⟩ := hSz
        go_simp
        first | exact wrap_fits (by omega) (by omega) | (rw [wrap_fits (by omega) (by omega)])
      refine wpAnyH_take (i := 10) (v := ?v10_11) rfl (by kernel_rfl) (by kernel_rfl) (by kernel_rfl) (fun _ _ _ h => h) (Or.inl ⟨by rfl, ?hy10_11⟩) HS ?_
      case hy10_11 =>
        intro wz hSz
        obtain ⟨z0, z1, z2⟩ := hSz
        go_simp
        try rfl
      refine wpAnyH_store (i := 11) (w' := W2) (by kernel_rfl) rfl (by rfl) ?hy11_12 ⟨hbc2, hbp2, hp12⟩ ?_
      case hy11_12 =>
        go_simp
        first | exact HW2.out | rfl
      refine wpAnyH_done (by kernel_rfl) ?_ _
      clear HS hbc hbp hcx hfx hp1' hp12 HW2
      gi_wp2
      clear hp2' hbp2
      gi_loopw [43] (fun s43 wr => ∃ k : Nat, k ≤ (needsOf ts y).length ∧ s43 = .int .i64 k ∧ Hid (TailMem w1.heap.size ts.length w1 W wr (TK k))) (fun s43 _ => (needsOf ts y).length - (intOf s43).toNat)
      case atStart => exact ⟨0, Nat.zero_le _, rfl, hM1⟩
      case round =>
        clear hM1 hbc2
        obtain ⟨k, hk, rfl, hM⟩ := hrel
        by_cases hkl : k < (needsOf ts y).length
        · rcases hnc with hnc | ⟨nb, no, rfl, hnb, hnc⟩
          · rw [hnc] at hkl; simp at hkl
          obtain ⟨hzl, hzn⟩ := hrng.out k hkl
          have hnk := (hM.out.below.cell (p := ⟨nb, no + k, none⟩) hnb).trans (hnc k hkl)
          rw [hzn] at hnk
          have hst := HX.out k
          have hbz := HL.out k hk (nd ts y k)
          have hby := HL.out k hk y
          have hcz := hM.out.row.cell hzl
          have hcy := hM.out.row.cell hxl
          have hfz := hM.out.row.frozen (nd ts y k)
          have hbc := hM.out.box.cell
          have hM3 : Hid (TailMem w1.heap.size ts.length w1 W (wr.setCell ⟨w1.heap.size, nd ts y k, none⟩ (.int .i64 (if TK k (nd ts y k) < TK k y then TK k y else TK k (nd ts y k)))).drew (TK (k + 1))) := by
            show TailMem _ _ _ _ _ _
            rw [hst, ← max_if]
            exact hM.out.set
          unfold intRow at hcz hcy
          clear hzn hst hnc
          generalize TK k (nd ts y k) = tz at *
          generalize TK k y = ty at *
          generalize nd ts y k = z at *
          obtain ⟨W3, hW3⟩ : ∃ W3, (wr.setCell ⟨w1.heap.size, z, none⟩ (.int .i64 (if tz < ty then ty else tz))).drew = W3 := ⟨_, rfl⟩
          have HW3 : Hid ((wr.setCell ⟨w1.heap.size, z, none⟩ (.int .i64 (if tz < ty then ty else tz))).drew = W3) := hW3
          rw [hW3] at hM3
          clear hW3
          have hbc3 := hM3.out.box.cell
          gi_wp2
          have HS : wr.drew.cell? ⟨w1.heap.size + 1, 0, none⟩ = some (.slice (some ⟨w1.heap.size, 0, none⟩) ts.length ts.length) := hbc
          refine region_round (S := fun W' => W'.cell? ⟨w1.heap.size + 1, 0, none⟩ = some (.slice (some ⟨w1.heap.size, 0, none⟩) ts.length ts.length)) 13 rfl (by kernel_rfl) (by kernel_rfl) ?hL2 ?_
          case hL2 => rintro ⟨_, _, h⟩; exact h
          refine wpAnyH_take (i := 0) (v := ?v0_13) rfl (by kernel_rfl) (by kernel_rfl) (by kernel_rfl) (fun _ _ _ h => h) (Or.inl ⟨by rfl, ?hy0_13⟩) HS ?_
          case hy0_13 =>
            intro wz hSz
            go_simp
            try rfl
          refine wpAnyH_take (i := 1) (v := ?v1_14) rfl (by kernel_rfl) (by kernel_rfl) (by kernel_rfl) (fun _ _ _ h => h) (Or.inl ⟨by rfl, ?hy1_14⟩) HS ?_
          case hy1_14 =>
            intro wz hSz
            go_simp
            try rfl
          refine wpAnyH_take (i := 2) (v := ?v2_15) rfl (by kernel_rfl) (by kernel_rfl) (by kernel_rfl) (fun _ _ _ h => h) (Or.inl ⟨by rfl, ?hy2_15⟩) HS ?_
          case hy2_15 =>
            intro wz hSz
            go_simp
            try rfl
          refine wpAnyH_take (i := 3) (v := ?v3_16) rfl (by kernel_rfl) (by kernel_rfl) (by kernel_rfl) (fun _ _ _ h => h) (Or.inl ⟨by rfl, ?hy3_16⟩) HS ?_
          case hy3_16 =>
            intro wz hSz
            go_simp
            try rfl
          refine wpAnyH_take (i := 4) (v := ?v4_17) rfl (by kernel_rfl) (by kernel_rfl) (by kernel_rfl) (fun _ _ _ h => h) (Or.inl ⟨by rfl, ?hy4_17⟩) HS ?_
          case hy4_17 =>
            intro wz hSz
            go_simp
            try rfl
          refine wpAnyH_take (i := 6) (v := ?v6_18) rfl (by kernel_rfl) (by kernel_rfl) (by kernel_rfl) (fun _ _ _ h => h) (Or.inl ⟨by rfl, ?hy6_18⟩) HS ?_
          case hy6_18 =>
            intro wz hSz
            go_simp
            try rfl
          refine wpAnyH_take (i := 7) (v := ?v7_19) rfl (by kernel_rfl) (by kernel_rfl) (by kernel_rfl) (fun _ _ _ h => h) (Or.inl ⟨by rfl, ?hy7_19⟩) HS ?_
          case hy7_19 =>
            intro wz hSz
            go_simp
            try rfl
          refine wpAnyH_take (i := 8) (v := ?v8_20) rfl (by kernel_rfl) (by kernel_rfl) (by kernel_rfl) (fun _ _ _ h => h) (Or.inl ⟨by rfl, ?hy8_20⟩) HS ?_
          case hy8_20 =>
            intro wz hSz
            go_simp
            try rfl
          refine wpAnyH_both (i := 5) (j := 9) (v := .int .i64 tz) (v2 := .int .i64 ty) (d := 52) (d2 := 56) (by kernel_rfl) (by kernel_rfl) (by kernel_rfl) rfl rfl rfl rfl (by decide) (by decide) (by rfl) (by rfl) (by rfl) (by rfl) ?x1 ?x2 ?x3 ?x4 HS ?_
          case x1 => go_simp
          case x2 => go_simp
          case x3 => go_simp
          case x4 => go_simp
          refine wpAnyH_take (i := 10) (v := ?v10_21) rfl (by kernel_rfl) (by kernel_rfl) (by kernel_rfl) (fun _ _ _ h => h) (Or.inl ⟨by rfl, ?hy10_21⟩) HS ?_
          case hy10_21 =>
            intro wz hSz
            go_simp
            try rfl
          refine wpAnyH_take (i := 11) (v := ?v11_22) rfl (by kernel_rfl) (by kernel_rfl) (by kernel_rfl) (fun _ _ _ h => h) (Or.inl ⟨by rfl, ?hy11_22⟩) HS ?_
          case hy11_22 =>
            intro wz hSz
            go_simp
            try rfl
          refine wpAnyH_store (i := 12) (w' := W3) (by kernel_rfl) rfl (by rfl) ?hy12_23 hbc3 ?_
          case hy12_23 =>
            go_simp
            first | exact HW3.out | rfl
          refine wpAnyH_done (by kernel_rfl) ?_ _
          clear HS hbc hcz hcy hfz HW3 hnk
          gi_wp2
          go_roundw
          case rel => exact ⟨k + 1, by omega, by go_num, hM3⟩
          case measure => simp [intOf]; omega
        · have hke : k = (needsOf ts y).length := by omega
          have HK : Hid (k = (needsOf ts y).length) := hke
          clear hke
          gi_wp2
          have hR := hM.out.row
          rw [HK.out, ← HN.out] at hR
          exact ⟨hM.out.keeps.from _, hM.out.kept, ⟨hR, hM.out.box⟩, hM.out.below⟩
    case done =>
      rintro D ys W hD hys ⟨⟨hrow, hbox⟩, hB⟩ hK
      have hbc := hbox.cell
      gi_wp2
      refine ⟨by simp, .inl ⟨_, _, rfl, run_takeDeferred hK, ?_⟩⟩
      have hBW : Below w.heap.size W (W.putObj D (.deferred none)) := belowK_b (w := w) (Nat.le_refl _) W D _ _ (by simp at hD; omega) hK rfl rfl
      refine ⟨_, results_tmp2 rfl _ _ _, Or.inr ⟨HCK.out, ord, _, HO.out, rfl, row_ints (c := ts.length) ?_ (by omega)⟩, (hb2.trans (hB.mono (by omega))).trans hBW⟩
      have h1 := congrArg (tailsAlong ts) hys
      have h2 : tailsAlong ts (backs (fun q => ord.getD q 0) ts.length ts.length) = tailsOf ts ord := by
        have := tailsAlong_backs ts ord ord.length
        unfold tailsOf
        rw [← this, hlen]
      rw [h1, h2] at hrow
      exact hrow.of_block (World.putObj_heap_other (by simp at hD; omega))
    case stop =>
      rintro D c pre W _ _ h _
      exact h.elim

theorem tails_any (v : Value) (ts : List (Int × List Int)) (w : World) (hp : PlanAt w v ts) :
    Calls Try.prog 19 #[v] w fun e w' => ((∃ p q, q ≠ 0 ∧ CheckIs ts p q ∧ e = .returned (.tuple #[.slice none 0 0, errV q])) ∨
      (CheckIs ts 0 0 ∧ ∃ ord rv, OrdIs ts ord ∧ e = .returned (.tuple #[rv, .nilIface]) ∧ IntsAt w' rv (listOf (tailsOf ts ord) ts.length))) ∧ Below w.heap.size w w' := callsIn_wide.1 (tails_in v ts w hp)
end Go.Proofs.Ytkcpimbhfmhjgaa

namespace Go.Proofs.Ytkcpimbhfmhjgaa
open Go.RowKit Go.Deep

theorem firstOf_goes {ts : List (Int × List Int)} {T : Nat → Int} {r : Int} (h : firstOf (listOf T ts.length) (maxTo T ts.length) r) : LeastIs ts.length (goesOn ts T none) r := by
  unfold firstOf at h
  rw [listOf_length] at h
  rcases h with ⟨k, h1, h2, h3, rfl⟩ | ⟨h, rfl⟩
  · refine Or.inl ⟨k, h1, fun j hj => ?_, ?_, rfl⟩
    · have := h2 j hj
      dsimp only at this
      rw [listOf_getD T (by omega)] at this
      exact this
    · dsimp only at h3
      rw [listOf_getD T h1] at h3
      exact h3
  · refine Or.inr ⟨fun j hj => ?_, rfl⟩
    have := h j hj
    dsimp only at this
    rw [listOf_getD T hj] at this
    exact this

theorem getLast?_snoc {l : List Nat} {y : Nat} : (l ++ [y]).getLast? = some y := by simp

end Go.Proofs.Ytkcpimbhfmhjgaa

namespace Go.Proofs.Ytkcpimbhfmhjgaa
open Go.RowKit Go.Deep

end Go.Proofs.Ytkcpimbhfmhjgaa
