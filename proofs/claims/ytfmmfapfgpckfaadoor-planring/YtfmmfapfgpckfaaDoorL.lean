/- The walk of PlanRing. -/
import Derived.Test.YtfmmfapfgpckfaaDoorI
import Derived.Test.YtfmmfapfgpckfaaDoorK
namespace Go.Proofs.YtfmmfapfgpckfaaDoor
open Go.RowKit Go.Deep

theorem chain_first {n : Nat} (hn : 1 ≤ n) {ord : List Nat} (h : OrdIs (chainTs 1 n) ord) (hl : ord.length = n) : ord.getD 0 0 = 0 := by
  have h0 := h.1 0 (by omega)
  generalize hk : ord.getD 0 0 = k at *
  obtain ⟨m, hm, hml, _⟩ := h0.pos (by omega)
  have hkm : k = m := by omega
  subst hkm
  cases hz : (k : Nat) with
  | zero => rfl
  | succ j =>
    have hf : freeB (chainTs 1 n) (has (ord.take 0)) 0 = true := by
      unfold freeB needsOf
      rw [chainTs_getD _ _ _ (by omega)]
      simp [has]
    generalize hr : ((k : Nat) : Int) = r at h0
    cases h0 using NextIs.elim with
    | some k' _ hfirst _ =>
      have := hfirst 0 (by omega)
      rw [this] at hf
      simp at hf
    | none => omega

theorem OwnPlan.shape {N : Nat} {w : World} {v : Value} {ts : List (Int × List Int)} (h : OwnPlan N w v ts) (hl : 0 < ts.length) :
    ∃ g cap, v = .slice (some ⟨g, 0, none⟩) ts.length cap ∧ N ≤ g ∧ g < w.heap.size ∧ (∃ u, w.cell? ⟨g, 1, none⟩ = some u) ∧ w.frozen? ⟨g, 1, none⟩ = false := by
  obtain ⟨xs, ho, hx⟩ := h
  rcases ho.2 with ⟨_, h0⟩ | ⟨g, cap, cur, hv, hg, hh, _⟩
  · omega
  · subst hv
    obtain ⟨_, nv, h2, _⟩ := hx 0 hl
    have e := ho.cellAt 1 (by omega)
    exact ⟨g, cap, rfl, hg, lt_of_block hh, ⟨nv, by rw [e]; simpa using h2⟩, ho.frozenAt 1⟩

theorem OwnPlan.setFirst {N : Nat} {w : World} {g cap : Nat} {ts : List (Int × List Int)} {zs : List Int} {nv : Value} (h : OwnPlan N w (.slice (some ⟨g, 0, none⟩) ts.length cap) ts) (hl : 0 < ts.length) (hn : NeedsBlk w nv zs) :
    OwnPlan N (w.setCell ⟨g, 1, none⟩ nv) (.slice (some ⟨g, 0, none⟩) ts.length cap) (ts.set 0 ((ts.getD 0 (0, [])).1, zs)) := by
  obtain ⟨xs, ho, hx⟩ := h
  obtain ⟨ho', hg⟩ := ho.stored 1 nv
  have hlx : xs.length = ts.length * 2 := ho.1
  refine ⟨xs.set 1 nv, by simpa using ho', fun j hj => ?_⟩
  simp at hj
  by_cases e : j = 0
  · subst e
    obtain ⟨h1, nv2, h2, h3⟩ := hx 0 hl
    refine ⟨?_, nv, ?_, ?_⟩
    · rw [List.getElem?_set_ne (by omega), h1]; simp [hl]
    · simp [List.getElem?_set]; omega
    · have : needsOf (ts.set 0 ((ts.getD 0 (0, [])).1, zs)) 0 = zs := by unfold needsOf; simp [hl]
      rw [this]
      exact hn.grown ho hg
  · obtain ⟨h1, nv2, h2, h3⟩ := hx j hj
    have hge : (ts.set 0 ((ts.getD 0 (0, [])).1, zs)).getD j (0, []) = ts.getD j (0, []) := by
      rw [List.getD_eq_getElem?_getD, List.getElem?_set_ne (by omega), ← List.getD_eq_getElem?_getD]
    unfold needsOf at h3 ⊢
    rw [hge]
    exact ⟨by rw [List.getElem?_set_ne (by omega)]; exact h1, nv2, by rw [List.getElem?_set_ne (by omega)]; exact h2, h3.grown ho hg⟩

set_option maxRecDepth 100000 in
set_option maxHeartbeats 4000000 in
theorem ring_open (n : Nat) (w : World) (h1 : 1 ≤ n) (hn : n ≤ 30) :
    Calls Tryd.prog 4 #[.int .i64 n, .bool true] w fun e w' => e = .returned (.bool true) ∧ Below w.heap.size w w' := by
  have i1 : ¬ (n : Int) < 1 := by omega
  have i2 : ¬ (30 : Int) < (n : Int) := by omega
  go_enter Tryd.func4, Tryd.ntmps4
  go_wp2_with fail
  refine (chain_any n 1 w (by omega)).mono ?_
  rintro e w1 ⟨v, rfl, hop, hb1⟩
  have hpa : PlanAt w1 v (chainTs 1 n) := hop.planAt (by rw [chainTs_length]; omega) (fun j hj => by
    rw [chainTs_length] at hj
    unfold needsOf; rw [chainTs_getD _ _ _ hj]; split <;> simp)
  have hcon := (check_any v _ w1 hpa).mono (R' := fun e w' => e = .returned (.tuple #[.int .i64 0, .nilIface]) ∧ Below w1.heap.size w1 w') (fun e w' ⟨⟨p, q, h, hc⟩, hb⟩ => by
    obtain ⟨rfl, rfl⟩ := chain_check hn hc
    exact ⟨h, hb⟩)
  obtain ⟨g, cap, hv, _⟩ := hop.shape (by rw [chainTs_length]; omega)
  have HP : Hid (PlanAt w1 v (chainTs 1 n)) := hpa
  clear hpa hop
  rw [chainTs_length] at hv
  subst hv
  go_wp2_with fail
  refine hcon.mono ?_
  rintro e w2 ⟨rfl, hb2⟩
  clear hcon
  have hord := (order_any _ _ w2 (HP.out.later hb2)).mono (R' := fun e w' => (∃ ord ov, e = .returned (.tuple #[ov, .nilIface]) ∧ OrdIs (chainTs 1 n) ord ∧ IntsAt w' ov (intsOf ord)) ∧ Below w2.heap.size w2 w') (fun e w' ⟨⟨p, q, hc, h⟩, hb⟩ => by
    obtain ⟨rfl, rfl⟩ := chain_check hn hc
    rcases h with ⟨h, _⟩ | ⟨_, h⟩
    · exact absurd rfl h
    · exact ⟨h, hb⟩)
  go_wp2_with fail
  refine hord.mono ?_
  rintro e w3 ⟨⟨ord, ov, rfl, ho, hints⟩, hb3⟩
  clear hord
  have hlen : ord.length = n := by
    have := ho.length (inRange_of (fun j hj => chain_err n j (by rwa [chainTs_length] at hj))) (fun j _ hr => by have := chain_reach hr; omega)
    rwa [chainTs_length] at this
  have hfst := chain_first h1 ho hlen
  obtain ⟨_, a, c, hov, hz⟩ := hints
  rw [intsOf_length, hlen] at hov
  rcases hz with hz | ⟨b, o, rfl, _, hcell⟩
  · have := congrArg List.length hz
    rw [intsOf_length, hlen] at this
    simp at this; omega
  have hc0 := hcell 0 (by rw [intsOf_length]; omega)
  rw [intsOf_getD, hfst] at hc0
  have hcz : w3.cell? ⟨b, o, none⟩ = some (.int .i64 0) := by simpa using hc0
  clear hc0
  have hB : Below w.heap.size w w3 := (hb1.trans (hb2.mono hb1.size)).trans (hb3.mono (Nat.le_trans hb1.size hb2.size))
  clear hcell HP hb1 hb2 hb3 ho hlen hfst
  subst hov
  have hnn : ((n : Int) == (n : Int)) = true := by simp
  have h0n : (0 : Int) < (n : Int) := by omega
  go_wp2
  go_ret
  exact ⟨rfl, hB⟩

set_option maxRecDepth 100000 in
set_option maxHeartbeats 4000000 in
theorem ring_shut (n : Nat) (w : World) (h1 : 1 ≤ n) (hn : n ≤ 30) (hg : Typed w) :
    Calls Tryd.prog 4 #[.int .i64 n, .bool false] w fun e w' => e = .returned (.bool true) ∧ Below w.heap.size w w' := by
  have i1 : ¬ (n : Int) < 1 := by omega
  have i2 : ¬ (30 : Int) < (n : Int) := by omega
  have HG : Hid (Typed w) := hg
  clear hg
  go_enter Tryd.func4, Tryd.ntmps4
  go_wp2_with fail
  refine (chain_any n 1 w (by omega)).mono ?_
  rintro e w1 ⟨v, rfl, hop, hb1⟩
  obtain ⟨g, cap, hv, hNg, hgl, ⟨u, hcu⟩, hfu⟩ := hop.shape (by rw [chainTs_length]; omega)
  subst hv
  have hbA : Below w1.heap.size w1 (w1.alloc (.cells #[.int .i64 ((n : Int) - 1)] 3)) := (Below.refl _ _).alloc (Nat.le_refl _) _
  have hop2 := (hop.later hbA).setFirst (zs := [(n : Int) - 1]) (nv := .slice (some ⟨w1.heap.size, 0, none⟩) 1 1) (by rw [chainTs_length]; omega) (Or.inr ⟨w1.heap.size, rfl, blk_alloc_new _ _⟩)
  have hring : (chainTs 1 n).set 0 (((chainTs 1 n).getD 0 (0, [])).1, [(n : Int) - 1]) = ringTs n := by rw [chainTs_getD _ _ _ (by omega)]; rfl
  rw [hring] at hop2
  have hbB : Below w.heap.size w ((w1.alloc (.cells #[.int .i64 ((n : Int) - 1)] 3)).setCell ⟨g, 1, none⟩ (.slice (some ⟨w1.heap.size, 0, none⟩) 1 1)) := (hb1.alloc hb1.size _).setCell hNg _
  rw [chainTs_length] at hop2 ⊢
  have hsw : (w1.alloc (.cells #[.int .i64 ((n : Int) - 1)] 3)).setCell ⟨g, 1, none⟩ (.slice (some ⟨w1.heap.size, 0, none⟩) 1 1) = (w1.setCell ⟨g, 1, none⟩ (.slice (some ⟨w1.heap.size, 0, none⟩) 1 1)).alloc (.cells #[.int .i64 ((n : Int) - 1)] 3) := World.setCell_alloc_past _ _ _ _ hgl
  rw [hsw] at hop2 hbB
  clear hsw
  have hpa : PlanAt _ _ (ringTs n) := hop2.planAt (by rw [ringTs_length]; omega) (fun j hj => by
    rw [ringTs_length] at hj
    unfold needsOf; rw [ringTs_getD _ _ hj]; simp)
  have hcon := (check_any _ _ _ hpa).mono (R' := fun e w' => e = .returned (.tuple #[.int .i64 0, errV 8]) ∧ Below _ _ w') (fun e w' ⟨⟨p, q, h, hc⟩, hb⟩ => by
    obtain ⟨rfl, rfl⟩ := ring_check h1 hn hc
    exact ⟨h, hb⟩)
  have HP : Hid (PlanAt _ _ (ringTs n)) := hpa
  clear hpa hop hop2 hring hbA
  go_wp2_with fail
  refine hcon.mono ?_
  rintro e w2 ⟨rfl, hb2⟩
  clear hcon
  have hord := (order_any _ _ w2 (HP.out.later hb2)).mono (R' := fun e w' => (∃ a b, e = .returned (.tuple #[a, b])) ∧ Below w2.heap.size w2 w') (fun e w' ⟨⟨p, q, hc, h⟩, hb⟩ => by
    rcases h with ⟨_, h⟩ | ⟨_, ord, ov, h, _⟩
    · exact ⟨⟨_, _, h⟩, hb⟩
    · exact ⟨⟨_, _, h⟩, hb⟩)
  have hB2 : Below w.heap.size w w2 := hbB.trans (hb2.mono hbB.size)
  clear HP hb2 hbB hcu hfu
  go_wp2_with fail
  refine hord.mono ?_
  rintro e w3 ⟨⟨a, b, rfl⟩, hb3⟩
  clear hord
  have hB3 : Below w.heap.size w w3 := hB2.trans (hb3.mono hB2.size)
  have herr := error_any 8 8 w3 (HG.out.later hB3)
  go_wp2_with (go_at_call 13; refine herr.mono ?_; rintro e w4 ⟨rfl, hb4⟩)
  go_ret
  exact ⟨rfl, hB3.trans (hb4.mono hB3.size)⟩

theorem ring_out (n : Int) (open_ : Bool) (w : World) (h : n < 1 ∨ 30 < n) :
    Calls Tryd.prog 4 #[.int .i64 n, .bool open_] w fun e w' => e = .returned (.bool true) ∧ Below w.heap.size w w' := by
  rcases h with h | h
  · go_enter Tryd.func4, Tryd.ntmps4
    go_wp2
    go_ret
    exact ⟨rfl, Below.refl _ _⟩
  · have h' : ¬ n < 1 := by omega
    go_enter Tryd.func4, Tryd.ntmps4
    go_wp2
    go_ret
    exact ⟨rfl, Below.refl _ _⟩

theorem ring_any (n : Int) (open_ : Bool) (w : World) (hg : Typed w) :
    Calls Tryd.prog 4 #[.int .i64 n, .bool open_] w fun e w' => e = .returned (.bool true) ∧ Below w.heap.size w w' := by
  by_cases h : n < 1 ∨ 30 < n
  · exact ring_out n open_ w h
  · obtain ⟨k, rfl⟩ := Int.eq_ofNat_of_zero_le (show 0 ≤ n by omega)
    cases open_
    · exact ring_shut k w (by omega) (by omega) hg
    · exact ring_open k w (by omega) (by omega)
end Go.Proofs.YtfmmfapfgpckfaaDoor
