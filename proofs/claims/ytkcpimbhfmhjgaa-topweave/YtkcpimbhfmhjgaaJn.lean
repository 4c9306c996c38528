/- Parts of tasks in a map; the contracts of with, of checkParts and its closure. -/
import Derived.Test.YtkcpimbhfmhjgaaJpm
import Derived.Test.YtkcpimbhfmhjgaaDepa
import Derived.BigQuiet
namespace Go.Proofs.Ytkcpimbhfmhjgaa
open Go.RowKit Go.Deep Go.Maps

def prtV (a : Prt) : Value := .agg #[.int .i64 a.1, .int .i64 a.2.1, .int .i64 a.2.2]
def prtD (a : Prt) : DataW Unit := .agg [.lit (.int .i64 a.1), .lit (.int .i64 a.2.1), .lit (.int .i64 a.2.2)]
/-- How a part reads. -/
def prtElem : Value → Option (DataW Unit × List MemPlace)
  | .agg cs => match cs.toList with
    | [.int .i64 a, .int .i64 b, .int .i64 c] => some (prtD (a, b, c), [])
    | _ => none
  | _ => none
theorem prtElem_mk (a : Prt) : prtElem (prtV a) = some (prtD a, []) := rfl
theorem prtD_inj {a b : Prt} (h : prtD a = prtD b) : a = b := by
  simp only [prtD, DataW.agg.injEq, List.cons.injEq, DataW.lit.injEq, Lit.int.injEq, true_and, and_true] at h
  exact Prod.ext h.1 (Prod.ext h.2.1 h.2.2)
theorem prtElem_inv {v : Value} {z : DataW Unit × List MemPlace} (h : prtElem v = some z) : ∃ a, v = prtV a ∧ z = (prtD a, []) := by
  unfold prtElem at h
  split at h
  · rename_i cs
    split at h
    · rename_i a b c e
      refine ⟨(a, b, c), ?_, (Option.some.inj h).symm⟩
      have : cs = #[.int .i64 a, .int .i64 b, .int .i64 c] := by
        rw [← Array.toArray_toList (xs := cs), e]
      rw [this]; rfl
    · cases h
  · cases h

theorem field0 (a b c : Value) (w : World) : (Instr.field 72 (.agg #[a, b, c]) 0).run Try.prog w = .ok a w := by kernel_rfl
theorem field1 (a b c : Value) (w : World) : (Instr.field 72 (.agg #[a, b, c]) 1).run Try.prog w = .ok b w := by kernel_rfl
theorem field2 (a b c : Value) (w : World) : (Instr.field 72 (.agg #[a, b, c]) 2).run Try.prog w = .ok c w := by kernel_rfl

/-- Block B is a map of parts, of at most so many. -/
def PartsAt (w : World) (B n : Nat) (f : Int → Option Prt) : Prop :=
  ∃ D, w.ownsMap Try.prog 3 prtElem B n D ∧ ∀ x : Int, Maps.has D (.int .i64 x) = (f x).isSome ∧ D.atKey (.int .i64 x) (prtD (0, 0, 0)) = prtD ((f x).getD (0, 0, 0))
theorem PartsAt.start (w : World) : PartsAt (w.alloc (.map #[] 0)) w.heap.size 0 (fun _ => none) :=
  ⟨.map [], World.ownsMap_made _ _ _ _, fun x => ⟨by simp [Maps.has], Maps.atKey_of_not_has (by simp [Maps.has]) _⟩⟩
theorem PartsAt.lt {w : World} {B n : Nat} {f : Int → Option Prt} (h : PartsAt w B n f) : B < w.heap.size := by
  obtain ⟨D, h, _⟩ := h
  exact h.lt
theorem PartsAt.kept {w w' : World} {B n : Nat} {f : Int → Option Prt} {row : Option Nat} (h : PartsAt w B n f) (hg : w.grownBy w' row) (hne : some B ≠ row) : PartsAt w' B n f := by
  obtain ⟨D, h, h2⟩ := h
  exact ⟨D, h.kept hg hne, h2⟩
theorem PartsAt.of_block {w w' : World} {B n : Nat} {f : Int → Option Prt} (h : PartsAt w B n f) (hk : w'.heap[B]? = w.heap[B]?) : PartsAt w' B n f := by
  obtain ⟨D, ⟨es, clock, hb, r⟩, h2⟩ := h
  exact ⟨D, ⟨es, clock, hk.trans hb, r⟩, h2⟩
theorem PartsAt.congr {w : World} {B n : Nat} {f g : Int → Option Prt} (h : PartsAt w B n f) (e : ∀ x, f x = g x) : PartsAt w B n g := by
  have : f = g := funext e
  rw [← this]; exact h
theorem PartsAt.mono {w : World} {B n m : Nat} {f : Int → Option Prt} (h : PartsAt w B n f) (e : n ≤ m) : PartsAt w B m f := by
  obtain ⟨D, h, h2⟩ := h
  exact ⟨D, h.mono e, h2⟩
theorem PartsAt.ne {w : World} {B n : Nat} {f : Int → Option Prt} (h : PartsAt w B n f) {a : Addr} {u : Value} (hc : w.cell? a = some u) : some a.block ≠ some B := by
  intro e
  obtain ⟨D, ⟨es, clock, hb, _⟩, _⟩ := h
  rw [← Option.some.inj e] at hb
  simp [World.cell?, hb] at hc
/-- 'm[k]', without 'ok' and with it. -/
theorem PartsAt.look {w : World} {B n : Nat} {f : Int → Option Prt} (h : PartsAt w B n f) {x : Int} (hx : (Lit.int .i64 x).wf = true) :
    (Instr.lookup 66 (.map (some B)) (.int .i64 x) false).run Try.prog w = .ok (.agg #[.int .i64 ((f x).getD (0, 0, 0)).1, .int .i64 ((f x).getD (0, 0, 0)).2.1, .int .i64 ((f x).getD (0, 0, 0)).2.2]) w := by
  obtain ⟨D, h, h2⟩ := h
  obtain ⟨v, ps, hr, hv⟩ := h.lookup keyedJ Try.underlying66 (zero57 w) (prtElem_mk (0, 0, 0)) (keyOf_int_mk Try.underlying3 hx)
  rw [(h2 x).2] at hv
  obtain ⟨a, rfl, e⟩ := prtElem_inv hv
  have : (f x).getD (0, 0, 0) = a := prtD_inj (congrArg Prod.fst e)
  rw [hr, this]; rfl
theorem PartsAt.lookOk {w : World} {B n : Nat} {f : Int → Option Prt} (h : PartsAt w B n f) {x : Int} (hx : (Lit.int .i64 x).wf = true) :
    (Instr.lookup 66 (.map (some B)) (.int .i64 x) true).run Try.prog w = .ok (.tuple #[.agg #[.int .i64 ((f x).getD (0, 0, 0)).1, .int .i64 ((f x).getD (0, 0, 0)).2.1, .int .i64 ((f x).getD (0, 0, 0)).2.2], .bool (f x).isSome]) w := by
  obtain ⟨D, h, h2⟩ := h
  obtain ⟨v, ps, hr, hv⟩ := h.look_ok keyedJ Try.underlying66 (zero57 w) (prtElem_mk (0, 0, 0)) (keyOf_int_mk Try.underlying3 hx)
  rw [(h2 x).2] at hv
  obtain ⟨a, rfl, e⟩ := prtElem_inv hv
  have : (f x).getD (0, 0, 0) = a := prtD_inj (congrArg Prod.fst e)
  rw [hr, this, (h2 x).1]; rfl
theorem PartsAt.put {w w1 : World} {B n : Nat} {f : Int → Option Prt} {D : DataW Unit} (h : w.ownsMap Try.prog 3 prtElem B n D) (h2 : ∀ x : Int, Maps.has D (.int .i64 x) = (f x).isSome ∧ D.atKey (.int .i64 x) (prtD (0, 0, 0)) = prtD ((f x).getD (0, 0, 0))) {x : Int} {a : Prt}
    (h1 : w1.ownsMap Try.prog 3 prtElem B (n + 1) (D.put (.int .i64 x) (prtD a))) : PartsAt w1 B (n + 1) (fun y => if y = x then some a else f y) := by
  refine ⟨_, h1, fun y => ?_⟩
  by_cases e : y = x
  · subst e
    rw [Maps.has_put_same h.isMap (by trivial), Maps.atKey_put_same h.isMap (by trivial)]
    simp
  · have hne : Lit.int .i64 y ≠ .int .i64 x := by intro h; injection h with _ h; exact e h
    rw [Maps.has_put_other hne, Maps.atKey_put_other hne]
    dsimp only
    rw [if_neg e]
    exact h2 y
/-- 'm[k] = v' as one step. -/
theorem PartsAt.store {w : World} {B n : Nat} {f : Int → Option Prt} (h : PartsAt w B n f) (hn : n ≤ 1000000000000000) {x : Int} (hx : (Lit.int .i64 x).wf = true) (a : Prt) :
    ∃ w', (Instr.mapUpdate 66 (.map (some B)) (.int .i64 x) (prtV a)).run Try.prog w = .ok () w' ∧ PartsAt w' B (n + 1) (fun y => if y = x then some a else f y) ∧ w.grownBy w' (some B) := by
  obtain ⟨D, h, h2⟩ := h
  obtain ⟨w', hr, h3, h4⟩ := h.update keyedJ Try.underlying66 (show n < maxLen by unfold maxLen; omega) (keyOf_int_mk Try.underlying3 hx) (prtElem_mk a)
  exact ⟨w', hr, PartsAt.put h h2 h3, h4⟩

/-- A function that returns a part, which lies in a block of its own. -/
theorem prt_ret {fn : Func} {Q : Ending → World → Prop} {a : Act} {w : World} {b : Nat} {a1 a2 a3 : Value} (hr : fn.results = #[ResultVar.cell 4 72]) (h0 : w.cell? ⟨b, 0, none⟩ = some a1) (h1 : w.cell? ⟨b, 1, none⟩ = some a2) (h2 : w.cell? ⟨b, 2, none⟩ = some a3)
    (ht : a.tmps[4]? = some (.pointer (some ⟨b, 0, none⟩))) (hd : a.defers = []) (hq : Q (.returned (.agg #[a1, a2, a3])) w) :
    bodyPost Try.prog fn Q Exit.ret a w := by
  refine bodyPost_ret (v := .agg #[a1, a2, a3]) ?_ hd hq
  simp [results, hr, go_sem, ht, h0, h1, h2]

theorem three_cells {w : World} {b : Nat} {a1 a2 a3 : Value} {t : TypeId} (h : w.heap[b]? = some (.cells #[a1, a2, a3] t (0, 0))) : w.cell? ⟨b, 0, none⟩ = some a1 ∧ w.cell? ⟨b, 1, none⟩ = some a2 ∧ w.cell? ⟨b, 2, none⟩ = some a3 :=
  ⟨by simp [World.cell?, h], by simp [World.cell?, h], by simp [World.cell?, h]⟩
theorem with_end {fn : Func} {Q : Ending → World → Prop} {a : Act} {w : World} {c0 c1 c2 : Value} {u1 u2 u3 : Value} (hr : fn.results = #[ResultVar.cell 4 72]) (ht : a.tmps[4]? = some (.pointer (some ⟨w.heap.size + 1, 0, none⟩))) (hd : a.defers = [])
    (hq : ∀ w', Below w.heap.size w w' → Q (.returned (.agg #[u1, u2, u3])) w') :
    bodyPost Try.prog fn Q Exit.ret a ((w.alloc (.cells #[c0, c1, c2] 72)).alloc (.cells #[u1, u2, u3] 72)) := by
  have h1 : Below w.heap.size w ((w.alloc (.cells #[c0, c1, c2] 72)).alloc (.cells #[u1, u2, u3] 72)) := ((Below.refl _ _).alloc (Nat.le_refl _) _).alloc (by simp) _
  have h3 : ((w.alloc (.cells #[c0, c1, c2] 72)).alloc (.cells #[u1, u2, u3] 72)).heap[w.heap.size + 1]? = some (.cells #[u1, u2, u3] 72 (0, 0)) := by
    have := blk_alloc_new (w.alloc (.cells #[c0, c1, c2] 72)) (.cells #[u1, u2, u3] 72)
    simpa using this
  obtain ⟨q0, q1, q2⟩ := three_cells h3
  exact prt_ret hr q0 q1 q2 ht hd (hq _ h1)

set_option maxRecDepth 100000 in
set_option maxHeartbeats 2000000 in
theorem with_any (a : Prt) (s : Int) (w : World) (ha : 0 ≤ a.1 ∧ a.1 ≤ 1000) (hs : 0 ≤ s ∧ s ≤ 10000) :
    Calls Try.prog 48 #[.agg #[.int .i64 a.1, .int .i64 a.2.1, .int .i64 a.2.2], .int .i64 s] w fun e w' => e = .returned (prtV (withP a s)) ∧ Below w.heap.size w w' := by
  obtain ⟨a1, a2, a3⟩ := a
  dsimp only at ha ⊢
  by_cases h0 : a1 = 0
  · subst h0
    have HE : Hid (prtV (withP (0, a2, a3) s) = .agg #[.int .i64 1, .int .i64 s, .int .i64 (s + 1)]) := by show _ = _; unfold withP; rw [if_pos rfl]; rfl
    go_enter Try.func48, Try.ntmps48
    go_wp2
    exact with_end rfl rfl rfl (fun w' hb => ⟨by rw [HE.out], hb⟩)
  · have hz : (a1 == (0 : Int)) = false := by simp [h0]
    have HE : Hid (prtV (withP (a1, a2, a3) s) = .agg #[.int .i64 (a1 + 1), .int .i64 (min a2 s), .int .i64 (max a3 (s + 1))]) := by show _ = _; unfold withP; rw [if_neg h0]; rfl
    clear h0
    by_cases h2 : s < a2
    · have e2 : min a2 s = s := by omega
      rw [e2] at HE
      by_cases h3 : a3 < s + 1
      · have e3 : max a3 (s + 1) = s + 1 := by omega
        rw [e3] at HE
        go_enter Try.func48, Try.ntmps48
        go_wp2
        exact with_end rfl rfl rfl (fun w' hb => ⟨by rw [HE.out], hb⟩)
      · have e3 : max a3 (s + 1) = a3 := by omega
        rw [e3] at HE
        go_enter Try.func48, Try.ntmps48
        go_wp2
        exact with_end rfl rfl rfl (fun w' hb => ⟨by rw [HE.out], hb⟩)
    · have e2 : min a2 s = a2 := by omega
      rw [e2] at HE
      by_cases h3 : a3 < s + 1
      · have e3 : max a3 (s + 1) = s + 1 := by omega
        rw [e3] at HE
        go_enter Try.func48, Try.ntmps48
        go_wp2
        exact with_end rfl rfl rfl (fun w' hb => ⟨by rw [HE.out], hb⟩)
      · have e3 : max a3 (s + 1) = a3 := by omega
        rw [e3] at HE
        go_enter Try.func48, Try.ntmps48
        go_wp2
        exact with_end rfl rfl rfl (fun w' hb => ⟨by rw [HE.out], hb⟩)
end Go.Proofs.Ytkcpimbhfmhjgaa
