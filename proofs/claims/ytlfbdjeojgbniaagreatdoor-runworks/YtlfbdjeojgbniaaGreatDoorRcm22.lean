/- trace.Check: its maps in memory; the contracts of in, below, hasTask, checkDeed, checkDeeds. Plain: numbers of at most two digits as strconv.Atoi and Itoa tell them; a line's words one by one. No word of the program. Plain: a line's numbers, one behind the other; a line as a deed. No word of the program. -/
import Derived.Test.YtlfbdjeojgbniaaGreatDoorRcm21
import Derived.Test.YtlfbdjeojgbniaaGreatDoorRcm04
import Derived.Maps.OwnSet
import Derived.BigRegion
import Derived.OrdersHeld
import Derived.Deep.RegionLaw
import Derived.Test.YtlfbdjeojgbniaaGreatDoorRcm12
import Derived.Lib.AtoiAll

namespace Go.Proofs.YtlfbdjeojgbniaaGreatDoor
open Go.RowKit Go.Deep Go.Maps

theorem keyedI : Keyed Tryz.prog 3 := int_keyed Tryz.underlying3
theorem zeroUnit (w : World) : (zeroValue 196).run Tryz.prog w = .ok (.agg #[]) w := by kernel_rfl
theorem zeroIntT (w : World) : (zeroValue 3).run Tryz.prog w = .ok (.int .i64 0) w := by kernel_rfl
theorem wfN {y : Nat} (h : y < 1000) : (Lit.int .i64 (y : Int)).wf = true := WalkArith.wf_i64 (by omega)
theorem keyN {y : Nat} (h : y < 1000) : keyOf Tryz.prog 3 (.int .i64 (y : Int)) = some (.int .i64 (y : Int)) := keyOf_int_mk Tryz.underlying3 (wfN h)

/-- Block B is a set of numbers below n, put together in at most q steps. -/
def SetM (w : World) (B q n : Nat) (S : Nat → Bool) : Prop :=
  ∃ D, w.ownsMap Tryz.prog 3 (unitElem (H := Unit)) B q D ∧ ∀ x : Nat, x < n → Maps.has D (.int .i64 x) = S x
/-- Block B is a map of numbers below n (-1: none), put together in at most q steps. -/
def NumM (w : World) (B q n : Nat) (f : Nat → Int) : Prop :=
  ∃ D, w.ownsMap Tryz.prog 3 (plainElem (H := Unit) Tryz.prog 3) B q D ∧ ∀ x : Nat, x < n → Maps.has D (.int .i64 x) = decide (0 ≤ f x) ∧ (0 ≤ f x → ∀ z, D.atKey (.int .i64 x) z = .lit (.int .i64 (f x)))
section
variable {w w' : World} {B q n : Nat} {S : Nat → Bool} {f : Nat → Int}
theorem SetM.of_block (h : SetM w B q n S) (e : w'.heap[B]? = w.heap[B]?) : SetM w' B q n S := by
  obtain ⟨D, ⟨es, clock, hb, r⟩, h1⟩ := h
  exact ⟨D, ⟨es, clock, e.trans hb, r⟩, h1⟩
theorem NumM.of_block (h : NumM w B q n f) (e : w'.heap[B]? = w.heap[B]?) : NumM w' B q n f := by
  obtain ⟨D, ⟨es, clock, hb, r⟩, h1⟩ := h
  exact ⟨D, ⟨es, clock, e.trans hb, r⟩, h1⟩
theorem SetM.lt (h : SetM w B q n S) : B < w.heap.size := by
  obtain ⟨D, h, _⟩ := h
  exact h.lt
theorem NumM.lt (h : NumM w B q n f) : B < w.heap.size := by
  obtain ⟨D, h, _⟩ := h
  exact h.lt
theorem SetM.more (h : SetM w B q n S) : SetM w B (q + 1) n S := by
  obtain ⟨D, h, h1⟩ := h
  exact ⟨D, h.mono (by omega), h1⟩
theorem NumM.more (h : NumM w B q n f) : NumM w B (q + 1) n f := by
  obtain ⟨D, h, h1⟩ := h
  exact ⟨D, h.mono (by omega), h1⟩
theorem SetM.start (w : World) (n : Nat) : SetM (w.alloc (.map #[] 0)) w.heap.size 0 n (fun _ => false) := ⟨.map [], World.ownsMap_made _ _ _ _, fun _ _ => rfl⟩
theorem NumM.start (w : World) (n : Nat) : NumM (w.alloc (.map #[] 0)) w.heap.size 0 n (fun _ => -1) := ⟨.map [], World.ownsMap_made _ _ _ _, fun x _ => ⟨rfl, fun h => absurd (show (0 : Int) ≤ -1 from h) (by decide)⟩⟩
/-- One more. -/
theorem SetM.put (h : SetM w B q n S) (hq : q ≤ 100000) {x : Nat} (hx : x < 1000) : ∃ w', (Instr.mapUpdate 104 (.map (some B)) (.int .i64 (x : Int)) (.agg #[])).run Tryz.prog w = .ok () w' ∧ SetM w' B (q + 1) n (mark S x) ∧ w.grownBy w' (some B) := by
  obtain ⟨D, hown, hD⟩ := h
  obtain ⟨w', hr, ho, hg⟩ := hown.update keyedI Tryz.underlying104 (by unfold maxLen; omega) (keyN hx) unitElem_mk
  refine ⟨w', hr, ⟨_, ho, fun y hy => ?_⟩, hg⟩
  by_cases e : y = x
  · subst e; rw [Maps.has_put_same hown.isMap (by trivial)]; simp [mark]
  · rw [Maps.has_put_other (by intro h; injection h with _ h; omega), hD y hy]; simp [mark, e]
theorem SetM.del (h : SetM w B q n S) {x : Nat} (hx : x < 1000) (ty : TypeId) : ∃ w', (Builtin.delete_ #[104, 3] ty #[.map (some B), .int .i64 (x : Int)]).run Tryz.prog w = .ok (.tuple #[]) w' ∧ SetM w' B q n (updG S x false) ∧ w.grownBy w' (some B) := by
  obtain ⟨D, hown, hD⟩ := h
  obtain ⟨w', hr, ho, hg⟩ := hown.drop keyedI Tryz.underlying104 (keyN hx) ty
  refine ⟨w', hr, ⟨_, ho, fun y hy => ?_⟩, hg.grown⟩
  by_cases e : y = x
  · subst e; rw [Maps.has_del_same, updG_self]
  · rw [Maps.has_del_other (by intro h; injection h with _ h; omega), updG_ne S _ e, hD y hy]
theorem NumM.put (h : NumM w B q n f) (hq : q ≤ 100000) {x i : Nat} (hx : x < 1000) (hi : i < 1000) : ∃ w', (Instr.mapUpdate 118 (.map (some B)) (.int .i64 (x : Int)) (.int .i64 (i : Int))).run Tryz.prog w = .ok () w' ∧ NumM w' B (q + 1) n (updG f x (i : Int)) ∧ w.grownBy w' (some B) := by
  obtain ⟨D, hown, hD⟩ := h
  obtain ⟨w', hr, ho, hg⟩ := hown.update keyedI Tryz.underlying118 (by unfold maxLen; omega) (keyN hx) (plainElem_int Tryz.underlying3 (wfN hi))
  refine ⟨w', hr, ⟨_, ho, fun y hy => ?_⟩, hg⟩
  by_cases e : y = x
  · subst e
    rw [Maps.has_put_same hown.isMap (by trivial), updG_self]
    exact ⟨by simp, fun _ z => Maps.atKey_put_same hown.isMap (by trivial) _ z⟩
  · rw [Maps.has_put_other (by intro h; injection h with _ h; omega), updG_ne f _ e]
    refine ⟨(hD y hy).1, fun h0 z => ?_⟩
    rw [Maps.atKey_put_other (by intro h; injection h with _ h; omega)]
    exact (hD y hy).2 h0 z
theorem NumM.del (h : NumM w B q n f) {x : Nat} (hx : x < 1000) (ty : TypeId) : ∃ w', (Builtin.delete_ #[118, 3] ty #[.map (some B), .int .i64 (x : Int)]).run Tryz.prog w = .ok (.tuple #[]) w' ∧ NumM w' B q n (updG f x (-1)) ∧ w.grownBy w' (some B) := by
  obtain ⟨D, hown, hD⟩ := h
  obtain ⟨w', hr, ho, hg⟩ := hown.drop keyedI Tryz.underlying118 (keyN hx) ty
  refine ⟨w', hr, ⟨_, ho, fun y hy => ?_⟩, hg.grown⟩
  by_cases e : y = x
  · subst e
    rw [Maps.has_del_same, updG_self]
    exact ⟨by simp, fun h0 => by omega⟩
  · rw [Maps.has_del_other (by intro h; injection h with _ h; omega), updG_ne f _ e]
    refine ⟨(hD y hy).1, fun h0 z => ?_⟩
    rw [Maps.atKey_del_other (by intro h; injection h with _ h; omega)]
    exact (hD y hy).2 h0 z
/-- A look: what is there, and whether. -/
theorem NumM.look (h : NumM w B q n f) {x : Nat} (hx : x < 1000) (hn : x < n) : ∃ c : Int, (∀ w1 : World, w1.heap[B]? = w.heap[B]? → (Instr.lookup 118 (.map (some B)) (.int .i64 (x : Int)) true).run Tryz.prog w1 = .ok (.tuple #[.int .i64 c, .bool (decide (0 ≤ f x))]) w1) ∧ (0 ≤ f x → c = f x) := by
  obtain ⟨D, hown, hD⟩ := h
  have key : ∀ w1 : World, w1.heap[B]? = w.heap[B]? → ∃ c : Int, (Instr.lookup 118 (.map (some B)) (.int .i64 (x : Int)) true).run Tryz.prog w1 = .ok (.tuple #[.int .i64 c, .bool (decide (0 ≤ f x))]) w1 ∧ D.atKey (.int .i64 (x : Int)) (.lit (.int .i64 0)) = .lit (.int .i64 c) := fun w1 e1 => by
    have hown1 : w1.ownsMap Tryz.prog 3 (plainElem (H := Unit) Tryz.prog 3) B q D := by
      obtain ⟨es, clock, hb, r⟩ := hown
      exact ⟨es, clock, e1.trans hb, r⟩
    obtain ⟨v, ps, hr, hv⟩ := hown1.look_ok keyedI Tryz.underlying118 (zeroIntT w1) (plainElem_int Tryz.underlying3 (show (Lit.int .i64 0).wf = true from rfl)) (keyN hx)
    obtain ⟨c, rfl, hc, hwc⟩ := plainElem_int_inv Tryz.underlying3 hv
    simp only [Prod.mk.injEq] at hc
    rw [(hD x hn).1] at hr
    exact ⟨c, hr, hc.1⟩
  obtain ⟨c, hr, hc⟩ := key w rfl
  refine ⟨c, fun w1 e1 => ?_, fun h0 => ?_⟩
  · obtain ⟨c1, hr1, hc1⟩ := key w1 e1
    have h2 := hc1.symm.trans hc
    simp only [DataW.lit.injEq, Lit.int.injEq, true_and] at h2
    rw [← h2]
    exact hr1
  · rw [(hD x hn).2 h0] at hc
    simp only [DataW.lit.injEq, Lit.int.injEq, true_and] at hc
    exact hc.symm
end
theorem below_any (n b : Int) (w : World) : Calls Tryz.prog 189 #[.int .i64 n, .int .i64 b] w fun e w' => e = .returned (.bool (inRange n b)) ∧ w' = w := by
  by_cases h1 : 0 ≤ n
  · by_cases h2 : n < b
    · go_enter Tryz.func189, Tryz.ntmps189
      go_wp2
      go_ret
      exact ⟨by simp [inRange, h1, h2], rfl⟩
    · go_enter Tryz.func189, Tryz.ntmps189
      go_wp2
      go_ret
      exact ⟨by simp [inRange, h1, h2], rfl⟩
  · go_enter Tryz.func189, Tryz.ntmps189
    go_wp2
    go_ret
    exact ⟨by rw [show inRange n b = false by simp [inRange]; omega]; rfl, rfl⟩
/-- Has a deed a task? -/
def hasT (x : Int) : Bool := decide (x ≠ 5) && decide (x ≠ 6)
theorem hasTask_any (x1 x2 x3 x4 : Int) (w : World) : Calls Tryz.prog 190 #[.agg #[.int .i64 x1, .int .i64 x2, .int .i64 x3, .int .i64 x4]] w fun e w' => e = .returned (.bool (hasT x1)) ∧ Below w.heap.size w w' := by
  have HB : Hid (Below w.heap.size w (w.alloc (.cells #[.int .i64 x1, .int .i64 x2, .int .i64 x3, .int .i64 x4] 91))) := (Below.refl _ _).alloc (Nat.le_refl _) _
  by_cases h5 : x1 = 5
  · subst h5
    go_enter Tryz.func190, Tryz.ntmps190
    go_wp2
    go_ret
    exact ⟨rfl, HB.out⟩
  · have e5 : (x1 != 5) = true := by simp [h5]
    by_cases h6 : x1 = 6
    · subst h6
      go_enter Tryz.func190, Tryz.ntmps190
      go_wp2
      go_ret
      exact ⟨rfl, HB.out⟩
    · have e6 : (x1 != 6) = true := by simp [h6]
      have HT : Hid (hasT x1 = true) := (show hasT x1 = true by simp [hasT, h5, h6])
      clear h5 h6
      go_enter Tryz.func190, Tryz.ntmps190
      go_wp2
      go_ret
      exact ⟨by rw [HT.out]; simp, HB.out⟩
theorem inRange_true {n b : Int} (h : 0 ≤ n ∧ n < b) : inRange n b = true := by simp [inRange, h]
theorem inRange_false {n b : Int} (h : n < 0 ∨ b ≤ n) : inRange n b = false := by simp [inRange]; omega
set_option maxRecDepth 100000 in
set_option maxHeartbeats 4000000 in
theorem checkDeed_any (x1 x2 x3 x4 : Int) (w : World) : Calls Tryz.prog 162 #[.agg #[.int .i64 x1, .int .i64 x2, .int .i64 x3, .int .i64 x4]] w fun e w' => e = .returned (errV (deedE (x1, x2, x3, x4))) ∧ Below w.heap.size w w' := by
  obtain ⟨W, hW⟩ : ∃ W, W = w.alloc (.cells #[.int .i64 x1, .int .i64 x2, .int .i64 x3, .int .i64 x4] 91) := ⟨_, rfl⟩
  have HB : Hid (Below w.heap.size w (w.alloc (.cells #[.int .i64 x1, .int .i64 x2, .int .i64 x3, .int .i64 x4] 91))) := (Below.refl _ _).alloc (Nat.le_refl _) _
  have HB2 : Hid (∀ w2, Below (w.alloc (.cells #[.int .i64 x1, .int .i64 x2, .int .i64 x3, .int .i64 x4] 91)).heap.size (w.alloc (.cells #[.int .i64 x1, .int .i64 x2, .int .i64 x3, .int .i64 x4] 91)) w2 → Below w.heap.size w w2 ∧ w2.cell? ⟨w.heap.size, 2, none⟩ = some (.int .i64 x3)) := fun w2 h => ⟨HB.out.trans (h.mono (by simp)), (h.cell (p := ⟨w.heap.size, 2, none⟩) (by simp)).trans (new_deed w x1 x2 x3 x4).2.2.1⟩
  clear hW W
  by_cases p1 : x1 < 1 ∨ 6 < x1 ∨ x2 < 0 ∨ 5 < x2 ∨ x3 < 0 ∨ 29 < x3 ∨ (x1 = 2 ∧ (x4 < 0 ∨ 5 < x4))
  · have HR : Hid (deedE (x1, x2, x3, x4) = 1) := deedE_one p1
    by_cases q1 : x1 < 1
    · clear p1
      go_enter Tryz.func162, Tryz.ntmps162
      go_wp2; go_ret; exact ⟨by rw [HR.out]; rfl, HB.out⟩
    by_cases q2 : 6 < x1
    · clear p1
      go_enter Tryz.func162, Tryz.ntmps162
      go_wp2; go_ret; exact ⟨by rw [HR.out]; rfl, HB.out⟩
    by_cases q3 : x2 < 0 ∨ 6 ≤ x2
    · have b2 := inRange_false (b := 6) q3
      clear p1
      go_enter Tryz.func162, Tryz.ntmps162
      go_wp2_with (first | (go_at_call 189; refine (below_any _ _ _).mono ?_; rintro e w ⟨rfl, rfl⟩))
      all_goals
        go_ret
        exact ⟨by rw [HR.out]; rfl, HB.out⟩
    have b2 := inRange_true (n := x2) (b := 6) (by omega)
    by_cases e2 : x1 = 2
    · subst e2
      by_cases q4 : x4 < 0 ∨ 6 ≤ x4
      · have b4 := inRange_false (b := 6) q4
        clear p1
        go_enter Tryz.func162, Tryz.ntmps162
        go_wp2_with (first | (go_at_call 189; refine (below_any _ _ _).mono ?_; rintro e w ⟨rfl, rfl⟩))
        go_ret
        exact ⟨by rw [HR.out]; rfl, HB.out⟩
      have b4 := inRange_true (n := x4) (b := 6) (by omega)
      have b3 := inRange_false (n := x3) (b := 30) (by omega)
      clear p1
      go_enter Tryz.func162, Tryz.ntmps162
      go_wp2_with (first | (go_at_call 189; refine (below_any _ _ _).mono ?_; rintro e w ⟨rfl, rfl⟩))
      go_ret
      exact ⟨by rw [HR.out]; rfl, HB.out⟩
    · have e2b : (x1 == 2) = false := beq_eq_false_iff_ne.2 e2
      have b3 := inRange_false (n := x3) (b := 30) (by omega)
      clear p1
      go_enter Tryz.func162, Tryz.ntmps162
      go_wp2_with (first | (go_at_call 189; refine (below_any _ _ _).mono ?_; rintro e w ⟨rfl, rfl⟩))
      go_ret
      exact ⟨by rw [HR.out]; rfl, HB.out⟩
  · have q1 : ¬ x1 < 1 := by omega
    have q2 : ¬ 6 < x1 := by omega
    have b2 := inRange_true (n := x2) (b := 6) (by omega)
    have b3 := inRange_true (n := x3) (b := 30) (by omega)
    by_cases p2 : (x1 ≠ 2 ∧ x4 ≠ 0) ∨ (4 < x1 ∧ x3 ≠ 0)
    · have HR : Hid (deedE (x1, x2, x3, x4) = 3) := deedE_three p1 p2
      have e2 : x1 ≠ 2 := by omega
      have e2b : (x1 == 2) = false := beq_eq_false_iff_ne.2 e2
      by_cases q7 : x4 = 0
      · subst q7
        have ht : hasT x1 = false := by simp [hasT]; omega
        have q9 : (x3 != 0) = true := by simp; omega
        have hht := hasTask_any x1 x2 x3 0 (w.alloc (.cells #[.int .i64 x1, .int .i64 x2, .int .i64 x3, .int .i64 0] 91))
        rw [ht] at hht
        clear p1 p2 ht
        go_enter Tryz.func162, Tryz.ntmps162
        go_wp2_with (first | (go_at_call 189; refine (below_any _ _ _).mono ?_; rintro e w ⟨rfl, rfl⟩) | (go_at_call 190; refine hht.mono ?_; clear hht; rintro e w2 ⟨rfl, hb2⟩; obtain ⟨hb3, hc3⟩ := HB2.out w2 hb2; clear hb2))
        go_ret
        exact ⟨by rw [HR.out]; rfl, hb3⟩
      · have q9 : (x4 != 0) = true := by simp [q7]
        clear p1 p2 q7
        go_enter Tryz.func162, Tryz.ntmps162
        go_wp2_with (first | (go_at_call 189; refine (below_any _ _ _).mono ?_; rintro e w ⟨rfl, rfl⟩))
        go_ret
        exact ⟨by rw [HR.out]; rfl, HB.out⟩
    · have HR : Hid (deedE (x1, x2, x3, x4) = 0) := deedE_none p1 p2
      have hht := hasTask_any x1 x2 x3 x4 (w.alloc (.cells #[.int .i64 x1, .int .i64 x2, .int .i64 x3, .int .i64 x4] 91))
      by_cases e2 : x1 = 2
      · subst e2
        have b4 := inRange_true (n := x4) (b := 6) (by omega)
        rw [show hasT 2 = true from rfl] at hht
        clear p1 p2
        go_enter Tryz.func162, Tryz.ntmps162
        go_wp2_with (first | (go_at_call 189; refine (below_any _ _ _).mono ?_; rintro e w ⟨rfl, rfl⟩) | (go_at_call 190; refine hht.mono ?_; clear hht; rintro e w2 ⟨rfl, hb2⟩; obtain ⟨hb3, hc3⟩ := HB2.out w2 hb2; clear hb2))
        go_ret
        exact ⟨by rw [HR.out]; rfl, hb3⟩
      · have e4 : x4 = 0 := by omega
        subst e4
        have e2b : (x1 == 2) = false := beq_eq_false_iff_ne.2 e2
        by_cases q7 : 4 < x1
        · have e3 : x3 = 0 := by omega
          subst e3
          have ht : hasT x1 = false := by simp [hasT]; omega
          rw [ht] at hht
          clear p1 p2 e2 ht
          go_enter Tryz.func162, Tryz.ntmps162
          go_wp2_with (first | (go_at_call 189; refine (below_any _ _ _).mono ?_; rintro e w ⟨rfl, rfl⟩) | (go_at_call 190; refine hht.mono ?_; clear hht; rintro e w2 ⟨rfl, hb2⟩; obtain ⟨hb3, hc3⟩ := HB2.out w2 hb2; clear hb2))
          go_ret
          exact ⟨by rw [HR.out]; rfl, hb3⟩
        · have ht : hasT x1 = true := by simp [hasT]; omega
          rw [ht] at hht
          clear p1 p2 e2 ht
          go_enter Tryz.func162, Tryz.ntmps162
          go_wp2_with (first | (go_at_call 189; refine (below_any _ _ _).mono ?_; rintro e w ⟨rfl, rfl⟩) | (go_at_call 190; refine hht.mono ?_; clear hht; rintro e w2 ⟨rfl, hb2⟩; obtain ⟨hb3, hc3⟩ := HB2.out w2 hb2; clear hb2))
          go_ret
          exact ⟨by rw [HR.out]; rfl, hb3⟩
set_option maxRecDepth 100000 in
set_option maxHeartbeats 4000000 in
theorem checkDeeds_any (v : Value) (ds : List Deed) (w : World) (hv : DeedsAt w v ds) :
    Calls Tryz.prog 127 #[v] w fun e w' => e = .returned (errV (deedsErr ds)) ∧ Below w.heap.size w w' := by
  have HV : Hid (DeedsAt w v ds) := hv
  obtain ⟨_, a, c, rfl, _⟩ := hv
  by_cases hful : 1000 < ds.length
  · have hfi : (1000 : Int) < (ds.length : Int) := by omega
    have HE : Hid (deedsErr ds = 4) := if_pos hful
    go_enter Tryz.func127, Tryz.ntmps127
    go_wp2
    go_ret
    exact ⟨by rw [HE.out]; rfl, Below.refl _ _⟩
  have hfi : ¬ (1000 : Int) < (ds.length : Int) := by omega
  have HE : Hid (deedsErr ds = firstE ds) := if_neg hful
  go_enter Tryz.func127, Tryz.ntmps127
  go_wp2
  go_loopw [12] (fun s12 wr => ∃ k : Nat, k ≤ ds.length ∧ s12 = .int .i64 k ∧ Hid (∀ j, j < k → deedE (ds.getD j (0, 0, 0, 0)) = 0) ∧ Hid (Below w.heap.size w wr)) (fun s12 _ => ds.length - (intOf s12).toNat)
  case atStart => exact ⟨0, Nat.zero_le _, rfl, fun j hj => by omega, Below.refl _ _⟩
  case round =>
    obtain ⟨k, hk, rfl, hno, hb⟩ := hrel
    by_cases hkl : k < ds.length
    · obtain ⟨b, o, rfl, hbl, c0, c1, c2, c3⟩ := (HV.out.later hb.out).four hkl
      have HBAD : Hid (∀ q, deedE (ds.getD k (0, 0, 0, 0)) = q → q ≠ 0 → deedsErr ds = q) := fun q hq h0 => by rw [HE.out, firstE_at ds k hkl hno.out (by rw [hq]; exact h0), hq]
      have HGOOD : Hid (deedE (ds.getD k (0, 0, 0, 0)) = 0 → ∀ j, j < k + 1 → deedE (ds.getD j (0, 0, 0, 0)) = 0) := fun hq j hj => by
        by_cases e : j = k
        · rw [e]; exact hq
        · exact hno.out j (by omega)
      have HD : Hid (ds.getD k (0, 0, 0, 0) = ((ds.getD k (0, 0, 0, 0)).1, (ds.getD k (0, 0, 0, 0)).2.1, (ds.getD k (0, 0, 0, 0)).2.2.1, (ds.getD k (0, 0, 0, 0)).2.2.2)) := rfl
      have HB2 : Hid (Below w.heap.size w (wr.alloc (.cells #[.int .i64 (ds.getD k (0, 0, 0, 0)).1, .int .i64 (ds.getD k (0, 0, 0, 0)).2.1, .int .i64 (ds.getD k (0, 0, 0, 0)).2.2.1, .int .i64 (ds.getD k (0, 0, 0, 0)).2.2.2] 91))) := hb.out.alloc hb.out.size _
      have hcd := checkDeed_any (ds.getD k (0, 0, 0, 0)).1 (ds.getD k (0, 0, 0, 0)).2.1 (ds.getD k (0, 0, 0, 0)).2.2.1 (ds.getD k (0, 0, 0, 0)).2.2.2 (wr.alloc (.cells #[.int .i64 (ds.getD k (0, 0, 0, 0)).1, .int .i64 (ds.getD k (0, 0, 0, 0)).2.1, .int .i64 (ds.getD k (0, 0, 0, 0)).2.2.1, .int .i64 (ds.getD k (0, 0, 0, 0)).2.2.2] 91))
      rw [← HD.out] at hcd
      clear HD hno HV HE
      by_cases he : deedE (ds.getD k (0, 0, 0, 0)) = 0
      · rw [he, errV_zero] at hcd
        have HG : Hid (∀ j, j < k + 1 → deedE (ds.getD j (0, 0, 0, 0)) = 0) := HGOOD.out he
        clear HBAD HGOOD he
        generalize (ds.getD k (0, 0, 0, 0)).1 = x1 at *
        generalize (ds.getD k (0, 0, 0, 0)).2.1 = x2 at *
        generalize (ds.getD k (0, 0, 0, 0)).2.2.1 = x3 at *
        generalize (ds.getD k (0, 0, 0, 0)).2.2.2 = x4 at *
        go_wp2_with (first | (go_at_call 162; refine hcd.mono ?_; clear hcd; rintro e w2 ⟨rfl, hb2⟩; have HB3 : Hid (Below w.heap.size w w2) := HB2.out.trans (hb2.mono HB2.out.size); clear hb2))
        go_roundw
        case rel => exact ⟨k + 1, by omega, by go_num, HG, HB3⟩
        case measure => simp [intOf]; omega
      · have HR : Hid (deedsErr ds = deedE (ds.getD k (0, 0, 0, 0))) := HBAD.out _ rfl he
        rw [errV_some he] at hcd
        have HEV : Hid (errV (deedsErr ds) = .iface 97 (.int .i64 (deedE (ds.getD k (0, 0, 0, 0))))) := by rw [HR.out]; exact errV_some he
        clear HBAD HGOOD he HR
        generalize deedE (ds.getD k (0, 0, 0, 0)) = de at *
        generalize (ds.getD k (0, 0, 0, 0)).1 = x1 at *
        generalize (ds.getD k (0, 0, 0, 0)).2.1 = x2 at *
        generalize (ds.getD k (0, 0, 0, 0)).2.2.1 = x3 at *
        generalize (ds.getD k (0, 0, 0, 0)).2.2.2 = x4 at *
        go_wp2_with (first | (go_at_call 162; refine hcd.mono ?_; clear hcd; rintro e w2 ⟨rfl, hb2⟩; have HB3 : Hid (Below w.heap.size w w2) := HB2.out.trans (hb2.mono HB2.out.size); clear hb2))
        go_ret
        exact ⟨by rw [HEV.out]; rfl, HB3.out⟩
    · have HR : Hid (deedsErr ds = 0) := by rw [HE.out]; exact firstE_none ds (fun j hj => hno.out j (by omega))
      go_wp2
      go_ret
      exact ⟨by rw [HR.out]; rfl, hb.out⟩
end Go.Proofs.YtlfbdjeojgbniaaGreatDoor

namespace Go.Proofs.YtlfbdjeojgbniaaGreatDoor
open Go

theorem atoi_dec : ∀ m, m < 100 → Lib.atoiAll (Lib.decDigits m) = .ok (m : Int) := by decide +kernel
theorem puint_one (acc : Nat) (h : acc ≤ 1000) (c : UInt8) : Lib.parseUint10 acc [c] = if 48 ≤ c.toNat ∧ c.toNat ≤ 57 then .ok (acc * 10 + (c.toNat - 48)) else .syntax := by
  have := c.toNat_lt
  simp only [Lib.parseUint10]
  split
  · rw [if_neg (by omega), if_neg (by omega)]
  · rfl
theorem puint_two (c d : UInt8) : Lib.parseUint10 0 [c, d] = if 48 ≤ c.toNat ∧ c.toNat ≤ 57 then Lib.parseUint10 (c.toNat - 48) [d] else .syntax := by
  have := c.toNat_lt
  rw [Lib.parseUint10]
  split
  · rw [if_neg (by omega), if_neg (by omega)]
    congr 1
    omega
  · rfl
theorem pmag_small (l : List UInt8) (h : l.length ≤ 2) : Lib.parseMag l = .syntax ∨ ∃ u, Lib.parseMag l = .ok u ∧ u < 100 := by
  match l, h with
  | [], _ => exact Or.inl rfl
  | [c], _ =>
    have e : Lib.parseMag [c] = Lib.parseUint10 0 [c] := rfl
    rw [e, puint_one 0 (by omega)]
    by_cases h : 48 ≤ c.toNat ∧ c.toNat ≤ 57
    · rw [if_pos h]; exact Or.inr ⟨_, rfl, by omega⟩
    · rw [if_neg h]; exact Or.inl rfl
  | [c, d], _ =>
    have e : Lib.parseMag [c, d] = Lib.parseUint10 0 [c, d] := rfl
    rw [e, puint_two]
    by_cases h : 48 ≤ c.toNat ∧ c.toNat ≤ 57
    · rw [if_pos h, puint_one _ (by omega)]
      by_cases h2 : 48 ≤ d.toNat ∧ d.toNat ≤ 57
      · rw [if_pos h2]; exact Or.inr ⟨_, rfl, by omega⟩
      · rw [if_neg h2]; exact Or.inl rfl
    · rw [if_neg h]; exact Or.inl rfl
theorem atoi_two (l : List UInt8) (h : l.length ≤ 2) : Lib.atoiAll l = .syntax ∨ ∃ v : Int, Lib.atoiAll l = .ok v ∧ v < 100 := by
  cases l with
  | nil => exact Or.inl rfl
  | cons c r =>
    have hs : (if c.toNat = 43 ∨ c.toNat = 45 then r else c :: r).length ≤ 2 := by
      simp at h
      split
      · omega
      · simp; omega
    unfold Lib.atoiAll
    dsimp only
    rcases pmag_small _ hs with e | ⟨u, e, hu⟩
    · rw [e]; exact Or.inl rfl
    · rw [e]
      dsimp only
      right
      rw [if_neg (by omega), if_neg (by omega)]
      refine ⟨_, rfl, ?_⟩
      split <;> omega
theorem decFrom_two {l : List UInt8} (h : l.length ≤ 2) {m : Nat} (hm : Lib.decFrom 0 l = some m) : m < 100 := by
  have key : ∀ (c : UInt8) (d : Nat), Lib.digitVal c = some d → d ≤ 9 := fun c d hd => by
    unfold Lib.digitVal at hd
    split at hd
    · simp at hd; omega
    · cases hd
  match l, h with
  | [], _ => simp [Lib.decFrom] at hm; omega
  | [c], _ =>
    unfold Lib.decFrom at hm
    cases hc : Lib.digitVal c with
    | none => rw [hc] at hm; cases hm
    | some d =>
      rw [hc] at hm
      simp [Lib.decFrom] at hm
      have := key c d hc
      omega
  | [c, e], _ =>
    unfold Lib.decFrom at hm
    cases hc : Lib.digitVal c with
    | none => rw [hc] at hm; cases hm
    | some d =>
      rw [hc] at hm
      dsimp only at hm
      unfold Lib.decFrom at hm
      cases he : Lib.digitVal e with
      | none => rw [he] at hm; cases hm
      | some f =>
        rw [he] at hm
        simp [Lib.decFrom] at hm
        have := key c d hc
        have := key e f he
        omega
theorem num2_small {l : List UInt8} {m : Nat} (h : num2 l = some m) : m < 100 := by
  unfold num2 at h
  split at h
  · cases h
  · rename_i hl
    unfold numOf at h
    split at h
    · cases h
    · unfold Lib.decNat at h
      split at h
      · cases h
      · exact decFrom_two (by omega) h
theorem num2_atoi {l : List UInt8} {m : Nat} (h : num2 l = some m) : Lib.atoiAll l = .ok (m : Int) := by
  have h1 := num2_small h
  have h2 := num2_inv h
  unfold digs at h2
  rw [Int.toNat_natCast] at h2
  rw [h2]
  exact atoi_dec m h1
theorem num2_syntax {l : List UInt8} (h : Lib.atoiAll l = .syntax) : num2 l = none := by
  cases e : num2 l with
  | none => rfl
  | some m => rw [num2_atoi e] at h; cases h
theorem num2_no {l : List UInt8} {v : Int} (h : Lib.atoiAll l = .ok v) (hn : ¬ (0 ≤ v ∧ digs v = l)) : num2 l = none := by
  cases e : num2 l with
  | none => rfl
  | some m =>
    have h1 := num2_atoi e
    rw [h] at h1
    simp only [Lib.NumEnd.ok.injEq] at h1
    exact absurd ⟨by omega, by rw [h1]; exact (num2_inv e).symm⟩ hn
theorem num2_yes {v : Int} (h0 : 0 ≤ v) (h1 : v < 100) : num2 (digs v) = some v.toNat := num2_digs ⟨h0, h1⟩
/-- What is left of a line: its words, and whether there are more. -/
def RemW (rest : List UInt8) (more : Bool) (ws : List (List UInt8)) : Prop := (more = true ∧ ws = splitC 32 rest) ∨ (more = false ∧ rest = [] ∧ ws = [])
theorem cutB_no (c : UInt8) (l : List UInt8) (h : (cutB c l).2.2 = false) : (cutB c l).2.1 = [] := by
  induction l with
  | nil => rfl
  | cons b r ih =>
    rw [cutB_cons] at h ⊢
    by_cases hb : b = c
    · rw [if_pos hb] at h; cases h
    · rw [if_neg hb] at h ⊢; exact ih h
theorem RemW.cut (l : List UInt8) : ∃ ws, splitC 32 l = (cutB 32 l).1 :: ws ∧ RemW (cutB 32 l).2.1 (cutB 32 l).2.2 ws := by
  refine ⟨_, splitC_cut 32 l, ?_⟩
  cases h : (cutB 32 l).2.2 with
  | true => exact Or.inl ⟨rfl, by rw [if_pos rfl]⟩
  | false => exact Or.inr ⟨rfl, cutB_no 32 l h, by simp⟩
/-- The next word. -/
theorem RemW.next {rest : List UInt8} {more : Bool} {ws : List (List UInt8)} (h : RemW rest more ws) : (ws = [] ∧ (cutB 32 rest).1 = [] ∧ more = false) ∨ ∃ ws', ws = (cutB 32 rest).1 :: ws' ∧ RemW (cutB 32 rest).2.1 (cutB 32 rest).2.2 ws' ∧ more = true := by
  rcases h with ⟨h1, h2⟩ | ⟨h1, h2, h3⟩
  · obtain ⟨ws', e, hr⟩ := RemW.cut rest
    exact Or.inr ⟨ws', by rw [h2, e], hr, h1⟩
  · subst h2
    exact Or.inl ⟨h3, rfl, h1⟩
theorem RemW.none {rest : List UInt8} {more : Bool} (h : RemW rest more []) : more = false := by
  rcases h with ⟨_, h2⟩ | ⟨h1, _⟩
  · rw [splitC_cut] at h2; cases h2
  · exact h1
theorem RemW.some {rest : List UInt8} {more : Bool} {w : List UInt8} {ws : List (List UInt8)} (h : RemW rest more (w :: ws)) : more = true := by
  rcases h with ⟨h1, _⟩ | ⟨_, _, h⟩
  · exact h1
  · cases h
end Go.Proofs.YtlfbdjeojgbniaaGreatDoor

namespace Go.Proofs.YtlfbdjeojgbniaaGreatDoor
open Go

/-- So many numbers of words, and the words that are left. -/
def numsR : Nat → List (List UInt8) → Option (List Nat × List (List UInt8))
  | 0, ws => some ([], ws)
  | _ + 1, [] => none
  | n + 1, w :: ws => match num2 w with
    | none => none
    | some m => (numsR n ws).map (fun p => (m :: p.1, p.2))
theorem numsR_len : ∀ (n : Nat) (ws : List (List UInt8)) (ns : List Nat) (r : List (List UInt8)), numsR n ws = some (ns, r) → ns.length = n := by
  intro n
  induction n with
  | zero => intro ws ns r h; simp [numsR] at h; simp [h.1]
  | succ n ih =>
    intro ws ns r h
    cases ws with
    | nil => simp [numsR] at h
    | cons w ws =>
      simp only [numsR] at h
      cases hm : num2 w with
      | none => rw [hm] at h; cases h
      | some m =>
        rw [hm] at h
        obtain ⟨p, hp, e⟩ := Option.map_eq_some_iff.1 h
        simp only [Prod.mk.injEq] at e
        rw [← e.1, List.length_cons, ih ws p.1 p.2 hp]
/-- No word is left. -/
theorem numsR_stop : ∀ (i : Nat) (ws : List (List UInt8)) (ns : List Nat), numsR i ws = some (ns, []) → ∀ n, i < n → numsR n ws = none := by
  intro i
  induction i with
  | zero =>
    intro ws ns h n hn
    simp [numsR] at h
    rw [h.2]
    cases n with
    | zero => omega
    | succ n => rfl
  | succ i ih =>
    intro ws ns h n hn
    cases ws with
    | nil => simp [numsR] at h
    | cons w ws =>
      cases n with
      | zero => omega
      | succ n =>
        simp only [numsR] at h ⊢
        cases hm : num2 w with
        | none => rfl
        | some m =>
          rw [hm] at h
          obtain ⟨p, hp, e⟩ := Option.map_eq_some_iff.1 h
          simp only [Prod.mk.injEq] at e
          dsimp only
          rw [ih ws p.1 (by rw [hp, ← e.2]) n (by omega)]
          rfl
/-- The next word is no number. -/
theorem numsR_bad : ∀ (i : Nat) (ws : List (List UInt8)) (ns : List Nat) (x : List UInt8) (r : List (List UInt8)), numsR i ws = some (ns, x :: r) → num2 x = none → ∀ n, i < n → numsR n ws = none := by
  intro i
  induction i with
  | zero =>
    intro ws ns x r h hx n hn
    simp [numsR] at h
    rw [h.2]
    cases n with
    | zero => omega
    | succ n => simp only [numsR, hx]
  | succ i ih =>
    intro ws ns x r h hx n hn
    cases ws with
    | nil => simp [numsR] at h
    | cons w ws =>
      cases n with
      | zero => omega
      | succ n =>
        simp only [numsR] at h ⊢
        cases hm : num2 w with
        | none => rfl
        | some m =>
          rw [hm] at h
          obtain ⟨p, hp, e⟩ := Option.map_eq_some_iff.1 h
          simp only [Prod.mk.injEq] at e
          dsimp only
          rw [ih ws p.1 x r (by rw [hp, ← e.2]) hx n (by omega)]
          rfl
/-- The next word is one. -/
theorem numsR_step : ∀ (i : Nat) (ws : List (List UInt8)) (ns : List Nat) (x : List UInt8) (r : List (List UInt8)) (m : Nat), numsR i ws = some (ns, x :: r) → num2 x = some m → numsR (i + 1) ws = some (ns ++ [m], r) := by
  intro i
  induction i with
  | zero =>
    intro ws ns x r m h hx
    simp [numsR] at h
    rw [h.2, h.1]
    simp [numsR, hx]
  | succ i ih =>
    intro ws ns x r m h hx
    cases ws with
    | nil => simp [numsR] at h
    | cons w ws =>
      rw [numsR] at h ⊢
      cases hm : num2 w with
      | none => rw [hm] at h; cases h
      | some k =>
        rw [hm] at h
        obtain ⟨p, hp, e⟩ := Option.map_eq_some_iff.1 h
        simp only [Prod.mk.injEq] at e
        dsimp only
        rw [ih ws p.1 x r m (by rw [hp, ← e.2]) hx, ← e.1]
        rfl
def numsD (a : Int) : Nat := if a = 2 then 3 else if 4 < a then 1 else 2
/-- A line's deed by its words. -/
def deedW (w : List UInt8) (ws : List (List UInt8)) : Option Deed :=
  if whatD w = 0 then none else match numsR (numsD (whatD w)) ws with
  | some (ns, []) => some (whatD w, ((ns.getD 0 0 : Nat) : Int), ((ns.getD 1 0 : Nat) : Int), ((ns.getD 2 0 : Nat) : Int))
  | _ => none
theorem deedOf_words (l : List UInt8) {w : List UInt8} {ws : List (List UInt8)} (h : splitC 32 l = w :: ws) : deedOf l = deedW w ws := by
  unfold deedOf deedW
  rw [h]
  rcases whatD_cases w with h0 | ⟨h1, -⟩
  · rw [if_pos h0]
    match ws with
    | [] => rfl
    | [_] => simp [h0]
    | [_, _] => simp [h0]
    | [_, _, _] => simp [h0]
    | _ :: _ :: _ :: _ :: _ => rfl
  · rw [if_neg (by omega)]
    match ws with
    | [] => rcases six h1 with e | e | e | e | e | e <;> rw [e] <;> rfl
    | [a] =>
      cases ha : num2 a <;> rcases six h1 with e | e | e | e | e | e <;> simp [numsR, numsD, ha, e]
    | [a, b] =>
      cases ha : num2 a <;> cases hb : num2 b <;> rcases six h1 with e | e | e | e | e | e <;> simp [numsR, numsD, ha, hb, e]
    | [a, b, c] =>
      cases ha : num2 a <;> cases hb : num2 b <;> cases hc : num2 c <;> rcases six h1 with e | e | e | e | e | e <;> simp [numsR, numsD, ha, hb, hc, e]
    | a :: b :: c :: d :: r =>
      cases ha : num2 a <;> cases hb : num2 b <;> cases hc : num2 c <;> rcases six h1 with e | e | e | e | e | e <;> simp [numsR, numsD, ha, hb, hc, e]
/-- A line with its end. -/
def lineD (l : List UInt8) : Option Deed := if l.getLast? = some 10 then deedOf l.dropLast else none
theorem cutB_len (c : UInt8) (l : List UInt8) : (cutB c l).1.length ≤ l.length ∧ (cutB c l).2.1.length ≤ l.length := by
  induction l with
  | nil => exact ⟨Nat.le_refl _, Nat.le_refl _⟩
  | cons b r ih =>
    rw [cutB_cons]
    split
    · simp
    · simp; omega
end Go.Proofs.YtlfbdjeojgbniaaGreatDoor
