/- What judge keeps while it goes along bits. -/
import Derived.Test.YtkcpimbhfmhjgaaJh
namespace Go.Proofs.Ytkcpimbhfmhjgaa
open Go.RowKit Go.Deep Go.Maps

/-- Of a task, what was seen of it in bits; none, if nothing was. -/
def partO (l : List BitZ) (x : Int) : Option Prt := l.foldl (fun a b => if b.2.2 = x then some (withP (a.getD (0, 0, 0)) b.1) else a) none
theorem partO_snoc (l : List BitZ) (b : BitZ) (x : Int) : partO (l ++ [b]) x = if x = b.2.2 then some (withP ((partO l b.2.2).getD (0, 0, 0)) b.1) else partO l x := by
  unfold partO
  rw [List.foldl_append]
  show (if b.2.2 = x then _ else _) = _
  by_cases e : x = b.2.2
  · subst e; simp
  · rw [if_neg e, if_neg (fun h => e h.symm)]
theorem partO_getD (l : List BitZ) (x : Int) : (partO l x).getD (0, 0, 0) = partB l x := by
  have key : ∀ (l : List BitZ) (a : Option Prt), (l.foldl (fun a b => if b.2.2 = x then some (withP (a.getD (0, 0, 0)) b.1) else a) a).getD (0, 0, 0) = l.foldl (fun a b => if b.2.2 = x then withP a b.1 else a) (a.getD (0, 0, 0)) := by
    intro l
    induction l with
    | nil => intro a; rfl
    | cons b l ih =>
      intro a
      rw [List.foldl_cons, List.foldl_cons, ih]
      by_cases e : b.2.2 = x
      · rw [if_pos e, if_pos e]; rfl
      · rw [if_neg e, if_neg e]
  exact key l none
theorem partF_O (l : List BitZ) : partF (partO l) = partB l := funext (fun x => partO_getD l x)
/-- A hand, or a task, in a step. -/
def seenH (l : List BitZ) (a b : Int) : Bool := l.any (fun c => decide (c.2.1 = a) && decide (c.1 = b))
def seenT (l : List BitZ) (a b : Int) : Bool := l.any (fun c => decide (c.2.2 = a) && decide (c.1 = b))
theorem seenH_snoc (l : List BitZ) (c : BitZ) (a b : Int) : (seenH l a b || (decide (a = c.2.1) && decide (b = c.1))) = seenH (l ++ [c]) a b := by
  unfold seenH
  rw [List.any_append]
  simp [eq_comm]
theorem seenT_snoc (l : List BitZ) (c : BitZ) (a b : Int) : (seenT l a b || (decide (a = c.2.2) && decide (b = c.1))) = seenT (l ++ [c]) a b := by
  unfold seenT
  rw [List.any_append]
  simp [eq_comm]
theorem hit_seen (l : List BitZ) (b : BitZ) : l.any (fun a => hitB a b) = (seenH l b.2.1 b.1 || seenT l b.2.2 b.1) := by
  unfold seenH seenT
  induction l with
  | nil => rfl
  | cons a l ih =>
    simp only [List.any_cons, ih]
    unfold hitB
    by_cases h1 : a.1 = b.1 <;> by_cases h2 : a.2.1 = b.2.1 <;> by_cases h3 : a.2.2 = b.2.2 <;> simp [h1, h2, h3]
theorem out_in {n h : Nat} {hands : Int} (hh : hands = h) (b : BitZ) : outB n h b = !(inRange b.1 10001 && inRange b.2.1 hands && inRange b.2.2 (n : Int)) := by
  subst hh
  unfold outB inRange
  rw [Bool.eq_iff_iff]
  simp only [Bool.or_eq_true, Bool.not_eq_true', Bool.and_eq_false_iff, decide_eq_true_eq, decide_eq_false_iff_not]
  omega
/-- The fault of a bit by what is kept. -/
theorem bitErr_by {ts : List (Int × List Int)} {h : Nat} {hands : Int} (hh : hands = h) (L : List BitZ) (b : BitZ) (few : inRange b.2.2 (ts.length : Int) = true → (manyB L b.2.2 : Int) ≤ wkOf ts b.2.2.toNat) :
    bitErr ts h L b = if (inRange b.1 10001 && inRange b.2.1 hands && inRange b.2.2 (ts.length : Int)) = true then (if (seenH L b.2.1 b.1 || seenT L b.2.2 b.1) = true then 7 else if (partB L b.2.2).1 = wkOf ts b.2.2.toNat then 4 else 0) else 1 := by
  unfold bitErr
  rw [out_in hh, hit_seen, (part_is L b.2.2).work]
  cases hr : (inRange b.1 10001 && inRange b.2.1 hands && inRange b.2.2 (ts.length : Int))
  · rfl
  · have h3 : inRange b.2.2 (ts.length : Int) = true := by
      simp only [Bool.and_eq_true] at hr
      exact hr.2
    have := few h3
    simp only [Bool.not_true, Bool.false_eq_true, if_false, if_true]
    cases (seenH L b.2.1 b.1 || seenT L b.2.2 b.1)
    · simp only [Bool.false_eq_true, if_false]
      by_cases e : (manyB L b.2.2 : Int) = wkOf ts b.2.2.toNat
      · rw [if_pos (by omega), if_pos e]
      · rw [if_neg (by omega), if_neg e]
    · rfl

/-- What is kept while the bits L were gone along: parts of tasks in block N, whose hands in block N + 1, whose tasks in block N + 2. -/
structure JMem (ts : List (Int × List Int)) (h N : Nat) (w wr : World) (L : List BitZ) : Prop where
  parts : PartsAt wr N L.length (partO L)
  hand : SeenM wr (N + 1) L.length (seenH L)
  task : SeenM wr (N + 1 + 1) L.length (seenT L)
  below : Below N w wr
  none : firstErr (bitErr ts h) [] L = 0
  few : ∀ x : Nat, x < ts.length → (manyB L (x : Int) : Int) ≤ wkOf ts x
theorem JMem.start {ts : List (Int × List Int)} (hw : Works ts) (h : Nat) (w : World) : JMem ts h w.heap.size w (((w.alloc (.map #[] 0)).alloc (.map #[] 0)).alloc (.map #[] 0)) [] := by
  have e1 : (w.alloc (.map #[] 0)).heap.size = w.heap.size + 1 := by simp
  have e2 : ((w.alloc (.map #[] 0)).alloc (.map #[] 0)).heap.size = w.heap.size + 1 + 1 := by simp
  have h1 := PartsAt.start w
  have h2 := SeenM.start (w.alloc (.map #[] 0))
  have h3 := SeenM.start ((w.alloc (.map #[] 0)).alloc (.map #[] 0))
  rw [e1] at h2
  rw [e2] at h3
  refine ⟨(h1.of_block (Below.heap_alloc _ _ _ (by simp))).of_block (Below.heap_alloc _ _ _ (by simp; omega)), h2.of_block (Below.heap_alloc _ _ _ (by simp)), h3, ((Below.refl _ _).alloc (Nat.le_refl _) _ |>.alloc (by simp) _).alloc (by simp; omega) _, rfl, fun x hx => ?_⟩
  have := (hw.2 x hx).1
  rw [manyB_nil]; simp; omega
theorem JMem.later {ts : List (Int × List Int)} {h N : Nat} {w wr w' : World} {L : List BitZ} (m : JMem ts h N w wr L) (hb : Below wr.heap.size wr w') : JMem ts h N w w' L :=
  ⟨m.parts.of_block (hb.block _ m.parts.lt), m.hand.of_block (hb.block _ m.hand.lt), m.task.of_block (hb.block _ m.task.lt), m.below.trans (hb.mono (by have := m.parts.lt; omega)), m.none, m.few⟩
theorem JMem.size {ts : List (Int × List Int)} {h N : Nat} {w wr : World} {L : List BitZ} (m : JMem ts h N w wr L) : N + 1 + 1 < wr.heap.size := m.task.lt
theorem grown_below {N B : Nat} {w w' : World} (hg : w.grownBy w' (some B)) (hN : N ≤ B) (hs : N ≤ w.heap.size) : Below N w w' := (Below.refl N w).grown hg hs (fun j hj => by cases hj; exact hN)
end Go.Proofs.Ytkcpimbhfmhjgaa
