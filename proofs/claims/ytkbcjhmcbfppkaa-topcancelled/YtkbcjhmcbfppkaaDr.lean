/- Plain, of the model's walk: a region that draws its order, in a round of a range over a function, by the plain walk's law. -/
import Derived.Test.YtkbcjhmcbfppkaaDf
import Derived.OrdersHeld
namespace Go.Proofs.Ytkbcjhmcbfppkaa
open Go.RowKit Go.Deep Go.Shelf

/-- No operation of the region is a defer statement. -/
def noDefer (ops : Array Oper) : Bool := ops.all fun o => match o.op with
  | .defer _ => false
  | _ => true
theorem noDefer_at {ops : Array Oper} (h : noDefer ops = true) {i : Nat} {o : Oper} (ho : ops[i]? = some o) : ∀ c, o.op ≠ .defer c := by
  intro c hc
  unfold noDefer at h
  rw [Array.all_eq_true] at h
  obtain ⟨hi, he⟩ := Array.getElem?_eq_some_iff.1 ho
  have := h i hi
  rw [he, hc] at this
  cases this

theorem oper_round {l n : Nat} {P : Program} {o : Oper} {a : Act} {w : World} {K K' : Act → World → Prop} {Q : Exit → Act → World → Prop} (hd : ∀ c, o.op ≠ .defer c) (hK : ∀ a w, K a w → K' a w) (h : o.wp P a w K Q) : o.wpIn (Fence.wide.inRound l) n P a w K' Q := by
  refine ⟨fun _ _ => trivial, ?_⟩
  rw [Oper.semAt_eq _ _ _ hd]
  unfold Oper.wp at h
  generalize (execOp a.eval o).run P w = r at *
  match r, h with
  | .ok (.value v) w', h => exact hK _ _ h
  | .ok .skip w', h => exact hK _ _ h
  | .ok (.defer d) w', h => exact hK _ _ h
  | .ok (.enter f args) w', h =>
    refine ⟨fun hc => (by cases hc), CallsIn.inRound l (callsIn_wide.2 (Calls.mono h ?_))⟩
    intro e w2 h2
    cases e with
    | returned v => exact hK _ _ h2
    | panicked chain => exact h2
    | outgrown => exact h2
  | .ok (.row row args) w', h =>
    refine ⟨fun hc => (by cases hc), fun c cs _ => ?_⟩
    obtain ⟨v, w2, h1, h2⟩ := h c cs
    exact ⟨v, w2, hK _ _ h1, stepsIn_wide.2 h2⟩
  | .halt (.panic v) w', h => exact h

theorem wpAny_round {l n : Nat} {P : Program} {ops : Array Oper} {md : Region.Mode} {Q : Exit → Act → World → Prop} (hd : noDefer ops = true) (hL : LetsOut Q → False) :
    ∀ (fuel : Nat) (listed : Array Bool) (a : Act) (w : World), wpAny P md ops Q fuel listed a w → wpAnyIn (Fence.wide.inRound l) n P md ops Q fuel listed a w
  | 0, _, _, _, h => h
  | fuel + 1, listed, a, w, h => by
    refine ⟨h.1, fun i hi => ?_⟩
    have h1 := h.2 i hi
    unfold wpOp at h1
    unfold wpOpIn
    cases ho : ops[i]? with
    | none =>
      rw [ho] at h1
      exact wpAny_round hd hL fuel _ a w h1
    | some o =>
      rw [ho] at h1
      dsimp only at h1 ⊢
      cases hw : Region.wanted o (yielded ops a.tmps) with
      | true =>
        rw [hw] at h1
        simp only [if_true] at h1 ⊢
        rcases h1 with h1 | ⟨_, h1⟩
        · exact oper_round (noDefer_at hd ho) (fun a' w' => wpAny_round hd hL fuel _ a' w') h1
        · exact (hL h1).elim
      | false =>
        rw [hw] at h1
        simp only [Bool.false_eq_true, if_false] at h1 ⊢
        exact ⟨fun _ _ => trivial, wpAny_round hd hL fuel _ _ w h1⟩

theorem region_round {l n id : Nat} {P : Program} {ops : Array Oper} {Q : Exit → Act → World → Prop} {S : World → Prop} {a : Act} {w : World} (k : Nat) (hk : ops.size = k) (hm : P.follows .mixedOrders = true) (hd : noDefer ops = true) (hL : LetsOut Q → False)
    (h : wpAnyH P .any ops Q S k (Array.replicate k false) a w.drew) : (Code.region id ops true).wpIn (Fence.wide.inRound l) n P Q a w := by
  subst hk
  exact wpIn_region_any hm (wpAny_round hd hL _ _ _ _ (wpAny_of_held _ _ _ _ h))

/-- An operation that is carried out in the world at hand. -/
theorem wpOp_run {P : Program} {ops : Array Oper} {Q : Exit → Act → World → Prop} {i : Nat} {o : Oper} {K : Act → World → Prop} {a : Act} {w w' : World} {v : Value} (hi : ops[i]? = some o) (hw : Region.wanted o (yielded ops a.tmps) = true)
    (hr : (execOp a.eval o).run P w = .ok (.value v) w') (h : K (a.put o.dst v) w') : wpOp P ops Q i K a w := by
  unfold wpOp
  rw [hi]
  dsimp only
  rw [hw, if_pos rfl]
  refine Or.inl ?_
  unfold Oper.wp
  rw [hr]
  exact h
theorem wpOp_skip {P : Program} {ops : Array Oper} {Q : Exit → Act → World → Prop} {i : Nat} {o : Oper} {K : Act → World → Prop} {a : Act} {w w' : World} (hi : ops[i]? = some o) (hw : Region.wanted o (yielded ops a.tmps) = true)
    (hr : (execOp a.eval o).run P w = .ok .skip w') (h : K (a.put o.dst undef) w') : wpOp P ops Q i K a w := by
  unfold wpOp
  rw [hi]
  dsimp only
  rw [hw, if_pos rfl]
  refine Or.inl ?_
  unfold Oper.wp
  rw [hr]
  exact h

section
variable {P : Program} {ops : Array Oper} {md : Region.Mode} {Q : Exit → Act → World → Prop} {S : World → Prop} {fuel : Nat} {listed : Array Bool} {a : Act} {w w' : World} {v : Value} {o : Oper} {i j : Nat}
/-- One alone may come up: it is carried out in the world at hand. -/
theorem wpAnyH_run (hr : Region.ready md ops listed = [i]) (hi : ops[i]? = some o) (hw : Region.wanted o (yielded ops a.tmps) = true) (hx : (execOp a.eval o).run P w = .ok (.value v) w') (hS : S w')
    (h : wpAnyH P md ops Q S fuel (listed.setIfInBounds i true) (a.put o.dst v) w') : wpAnyH P md ops Q S (fuel + 1) listed a w :=
  wpAnyH_all hr (by simp) (fun k hk => by obtain rfl := List.mem_singleton.1 hk; exact wpOp_run hi hw hx ⟨hS, h⟩)
theorem wpAnyH_store (hr : Region.ready md ops listed = [i]) (hi : ops[i]? = some o) (hw : Region.wanted o (yielded ops a.tmps) = true) (hx : (execOp a.eval o).run P w = .ok .skip w') (hS : S w')
    (h : wpAnyH P md ops Q S fuel (listed.setIfInBounds i true) (a.put o.dst undef) w') : wpAnyH P md ops Q S (fuel + 1) listed a w :=
  wpAnyH_all hr (by simp) (fun k hk => by obtain rfl := List.mem_singleton.1 hk; exact wpOp_skip hi hw hx ⟨hS, h⟩)
/-- Two may come up, and both read alone: whichever is first, then the other. -/
theorem wpAnyH_both {v2 : Value} {o2 : Oper} {d d2 : Nat} (hr : Region.ready md ops listed = [i, j]) (hr1 : Region.ready md ops (listed.setIfInBounds i true) = [j]) (hr2 : Region.ready md ops (listed.setIfInBounds j true) = [i])
    (hi : ops[i]? = some o) (hj : ops[j]? = some o2) (hd : o.dst = some d) (hd2 : o2.dst = some d2) (hne : d ≠ d2) (hij : i ≠ j)
    (hw : Region.wanted o (yielded ops a.tmps) = true) (hw' : Region.wanted o (yielded ops (a.put o2.dst v2).tmps) = true) (hw2 : Region.wanted o2 (yielded ops a.tmps) = true) (hw2' : Region.wanted o2 (yielded ops (a.put o.dst v).tmps) = true)
    (hx : (execOp a.eval o).run P w = .ok (.value v) w) (hx' : (execOp (a.put o2.dst v2).eval o).run P w = .ok (.value v) w)
    (hx2 : (execOp a.eval o2).run P w = .ok (.value v2) w) (hx2' : (execOp (a.put o.dst v).eval o2).run P w = .ok (.value v2) w) (hS : S w)
    (h : wpAnyH P md ops Q S fuel ((listed.setIfInBounds i true).setIfInBounds j true) ((a.put o.dst v).put o2.dst v2) w) : wpAnyH P md ops Q S (fuel + 1 + 1) listed a w := by
  refine wpAnyH_all hr (by simp) (fun k hk => ?_)
  rcases List.mem_cons.1 hk with rfl | hk
  · exact wpOp_run hi hw hx ⟨hS, wpAnyH_run hr1 hj hw2' hx2' hS h⟩
  · obtain rfl := List.mem_singleton.1 hk
    refine wpOp_run hj hw2 hx2 ⟨hS, wpAnyH_run hr2 hi hw' hx' hS ?_⟩
    have e1 : (a.put o2.dst v2).put o.dst v = (a.put o.dst v).put o2.dst v2 := by
      rw [hd, hd2]
      simp only [Act.put]
      rw [Array.setIfInBounds_comm _ _ hne]
    rw [e1, Array.setIfInBounds_comm _ _ (Ne.symm hij)]
    exact h
end
end Go.Proofs.Ytkbcjhmcbfppkaa
