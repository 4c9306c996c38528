/- Operations of a region that draws, one by one; bits and stays in memory; the contract of judge.check. -/
import Derived.Test.YtkcpimbhfmhjgaaJo
import Derived.OrdersHeld
namespace Go.Proofs.Ytkcpimbhfmhjgaa
open Go.RowKit Go.Deep Go.Maps

section
variable {P : Program} {ops : Array Oper} {md : Region.Mode} {Q : Exit → Act → World → Prop} {S : World → Prop}
theorem wpAnyJ_take {i : Nat} {oi : Oper} {v : Value} {fuel : Nat} {listed : Array Bool} {a : Act} {w : World} (d : Option Nat) (hi : ops[i]? = some oi) (hd : oi.dst = d)
    (hs : Region.noSelect ops = true) (hf : Region.free md ops listed i = true) (hr : (Region.ready md ops listed).contains i = true)
    (hQ : ∀ c a w, Q (.panic c) (a.put d v) w → Q (.panic c) a w) (hy : YieldsIf P ops S oi v a) (hS : S w)
    (h : wpAnyH P md ops Q S fuel (listed.setIfInBounds i true) (a.put d v) w) : wpAnyH P md ops Q S (fuel + 1) listed a w := by
  subst hd
  exact wpAnyH_take hi hs hf hr hQ hy hS h
theorem wpOpJ_call {i : Nat} {o : Oper} {K : Act → World → Prop} {a : Act} {w : World} {f : FuncId} {args : Array Value} (d : Option Nat) (hi : ops[i]? = some o) (hd : o.dst = d) (hw : Region.wanted o (yielded ops a.tmps) = true)
    (hr : (execOp a.eval o).run P w = .ok (.enter f args) w) (h : Calls P f args w fun
      | .returned v, w'' => K (a.put d v) w''
      | .panicked chain, w'' => Q (.panic chain) a w''
      | .outgrown, _ => LetsOut Q) : wpOp P ops Q i K a w := by
  subst hd
  unfold wpOp
  rw [hi]
  dsimp only
  rw [hw, if_pos rfl]
  refine Or.inl ?_
  unfold Oper.wp
  rw [hr]
  exact h
theorem wpOpJ_skip {i : Nat} {o : Oper} {K : Act → World → Prop} {a : Act} {w w' : World} (hi : ops[i]? = some o) (hw : Region.wanted o (yielded ops a.tmps) = true)
    (hr : (execOp a.eval o).run P w = .ok .skip w') (h : K (a.put o.dst undef) w') : wpOp P ops Q i K a w := by
  unfold wpOp
  rw [hi]
  dsimp only
  rw [hw, if_pos rfl]
  refine Or.inl ?_
  unfold Oper.wp
  rw [hr]
  exact h
theorem wpAnyJ_run {fuel : Nat} {listed : Array Bool} {a : Act} {w w' : World} {v : Value} {o : Oper} {i : Nat} (d : Option Nat) (hr : Region.ready md ops listed = [i]) (hi : ops[i]? = some o) (hd : o.dst = d) (hw : Region.wanted o (yielded ops a.tmps) = true) (hx : (execOp a.eval o).run P w = .ok (.value v) w') (hS : S w')
    (h : wpAnyH P md ops Q S fuel (listed.setIfInBounds i true) (a.put d v) w') : wpAnyH P md ops Q S (fuel + 1) listed a w := by
  subst hd
  refine wpAnyH_all hr (by simp) (fun k hk => ?_)
  obtain rfl := List.mem_singleton.1 hk
  unfold wpOp
  rw [hi]
  dsimp only
  rw [hw, if_pos rfl]
  refine Or.inl ?_
  unfold Oper.wp
  rw [hx]
  exact ⟨hS, h⟩
theorem wpAnyJ_skip {fuel : Nat} {listed : Array Bool} {a : Act} {w w' : World} {o : Oper} {i : Nat} (d : Option Nat) (hr : Region.ready md ops listed = [i]) (hi : ops[i]? = some o) (hd : o.dst = d) (hw : Region.wanted o (yielded ops a.tmps) = true) (hx : (execOp a.eval o).run P w = .ok .skip w') (hS : S w')
    (h : wpAnyH P md ops Q S fuel (listed.setIfInBounds i true) (a.put d undef) w') : wpAnyH P md ops Q S (fuel + 1) listed a w := by
  subst hd
  refine wpAnyH_all hr (by simp) (fun k hk => ?_)
  obtain rfl := List.mem_singleton.1 hk
  exact wpOpJ_skip hi hw hx ⟨hS, h⟩
end

/-- Check's error, then that of the hands. -/
def jErr (q hands : Int) : Int := if q = 0 then (if hands < 1 ∨ 6 < hands then 1 else 0) else q
theorem jErr_zero {q hands : Int} (h : jErr q hands = 0) : q = 0 ∧ 1 ≤ hands ∧ hands ≤ 6 := by
  unfold jErr at h
  split at h
  · split at h
    · omega
    · omega
  · omega

set_option maxHeartbeats 1000000 in
theorem jcheck_any (v : Value) (ts : List (Int × List Int)) (hands : Int) (w : World) (hp : PlanAt w v ts) :
    Calls Try.prog 27 #[v, .int .i64 hands] w fun e w' => (∃ p q, CheckIs ts p q ∧ e = .returned (errV (jErr q hands))) ∧ Below w.heap.size w w' := by
  have hck := check_any v ts w hp
  obtain ⟨hl, a, c, rfl, hp⟩ := hp
  clear hp
  go_enter Try.func27, Try.ntmps27
  go_wp2_with fail
  refine hck.mono ?_
  rintro e w1 ⟨⟨p, q, rfl, hc⟩, hb1⟩
  clear hck
  by_cases hq : q = 0
  · subst hq
    rw [errV_zero]
    by_cases h1 : hands < 1
    · have HE : Hid (errV (jErr 0 hands) = .iface 47 (.int .i64 1)) := by show _ = _; unfold jErr; rw [if_pos rfl, if_pos (Or.inl h1)]; rfl
      go_wp2
      go_ret
      exact ⟨⟨p, 0, hc, by rw [HE.out]; rfl⟩, hb1⟩
    · by_cases h2 : 6 < hands
      · have HE : Hid (errV (jErr 0 hands) = .iface 47 (.int .i64 1)) := by show _ = _; unfold jErr; rw [if_pos rfl, if_pos (Or.inr h2)]; rfl
        go_wp2
        go_ret
        exact ⟨⟨p, 0, hc, by rw [HE.out]; rfl⟩, hb1⟩
      · have HE : Hid (errV (jErr 0 hands) = .nilIface) := by show _ = _; unfold jErr; rw [if_pos rfl, if_neg (by omega)]; rfl
        go_wp2
        go_ret
        exact ⟨⟨p, 0, hc, by rw [HE.out]; rfl⟩, hb1⟩
  · have hev := errV_some hq
    rw [hev]
    have HE : Hid (errV (jErr q hands) = .iface 47 (.int .i64 q)) := by show _ = _; unfold jErr; rw [if_neg hq]; exact hev
    clear hev
    go_wp2
    go_ret
    exact ⟨⟨p, q, hc, by rw [HE.out]; rfl⟩, hb1⟩

/-- Bits that a slice reads as. -/
def BitsAt (w : World) (v : Value) (l : List BitZ) : Prop :=
  l.length * 24 ≤ 140737488351232 ∧ ∃ a c, v = .slice a l.length c ∧ (l = [] ∨ ∃ b o, a = some ⟨b, o, none⟩ ∧ b < w.heap.size ∧ ∀ k, k < l.length → w.cell? ⟨b, o + k * 3, none⟩ = some (.int .i64 (l.getD k (0, 0, 0)).1) ∧ w.cell? ⟨b, o + k * 3 + 1, none⟩ = some (.int .i64 (l.getD k (0, 0, 0)).2.1) ∧ w.cell? ⟨b, o + k * 3 + 2, none⟩ = some (.int .i64 (l.getD k (0, 0, 0)).2.2))
theorem BitsAt.later {w w' : World} {v : Value} {l : List BitZ} (h : BitsAt w v l) (hb : Below w.heap.size w w') : BitsAt w' v l := by
  obtain ⟨hl, a, c, hv, h⟩ := h
  refine ⟨hl, a, c, hv, ?_⟩
  rcases h with h | ⟨b, o, ha, hlt, hc⟩
  · exact Or.inl h
  · exact Or.inr ⟨b, o, ha, Nat.lt_of_lt_of_le hlt hb.size, fun k hk => ⟨(hb.cell (p := ⟨b, o + k * 3, none⟩) hlt).trans (hc k hk).1, (hb.cell (p := ⟨b, o + k * 3 + 1, none⟩) hlt).trans (hc k hk).2.1, (hb.cell (p := ⟨b, o + k * 3 + 2, none⟩) hlt).trans (hc k hk).2.2⟩⟩
/-- Stays that a slice reads as. -/
def StaysAt (w : World) (v : Value) (l : List StyZ) : Prop :=
  l.length * 32 ≤ 140737488351232 ∧ ∃ a c, v = .slice a l.length c ∧ (l = [] ∨ ∃ b o, a = some ⟨b, o, none⟩ ∧ b < w.heap.size ∧ ∀ k, k < l.length → w.cell? ⟨b, o + k * 4, none⟩ = some (.int .i64 (l.getD k (0, 0, 0, 0)).1) ∧ w.cell? ⟨b, o + k * 4 + 1, none⟩ = some (.int .i64 (l.getD k (0, 0, 0, 0)).2.1) ∧ w.cell? ⟨b, o + k * 4 + 2, none⟩ = some (.int .i64 (l.getD k (0, 0, 0, 0)).2.2.1) ∧ w.cell? ⟨b, o + k * 4 + 3, none⟩ = some (.int .i64 (l.getD k (0, 0, 0, 0)).2.2.2))
theorem StaysAt.later {w w' : World} {v : Value} {l : List StyZ} (h : StaysAt w v l) (hb : Below w.heap.size w w') : StaysAt w' v l := by
  obtain ⟨hl, a, c, hv, h⟩ := h
  refine ⟨hl, a, c, hv, ?_⟩
  rcases h with h | ⟨b, o, ha, hlt, hc⟩
  · exact Or.inl h
  · exact Or.inr ⟨b, o, ha, Nat.lt_of_lt_of_le hlt hb.size, fun k hk => ⟨(hb.cell (p := ⟨b, o + k * 4, none⟩) hlt).trans (hc k hk).1, (hb.cell (p := ⟨b, o + k * 4 + 1, none⟩) hlt).trans (hc k hk).2.1, (hb.cell (p := ⟨b, o + k * 4 + 2, none⟩) hlt).trans (hc k hk).2.2.1, (hb.cell (p := ⟨b, o + k * 4 + 3, none⟩) hlt).trans (hc k hk).2.2.2⟩⟩

theorem CheckIs.worksJ {ts : List (Int × List Int)} (hc : CheckIs ts 0 0) : Works ts ∧ InRange ts ∧ ∀ j, j < ts.length → ¬ Reach ts j j := by
  obtain ⟨_, h30, herr, hno⟩ := hc.ok rfl
  refine ⟨⟨h30, fun x hx => ?_⟩, inRange_of herr, hno⟩
  have h := herr x hx
  unfold errOf taskErr at h
  unfold wkOf
  split at h
  · simp at h
  · omega
end Go.Proofs.Ytkcpimbhfmhjgaa
