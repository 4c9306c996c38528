/- The walk of ListAnomaly. -/
import Derived.Test.YtlfebnaghoeddaaNf
import Derived.Test.YtlfebnaghoeddaaDu
namespace Go.Proofs.Ytlfebnaghoeddaa
open Go.RowKit Go.Deep Classical

theorem chain_plan (n : Nat) (work : Int) (w : World) (hn : n ≤ 30) :
    Calls Try.prog 8 #[.int .i64 n, .int .i64 work] w fun e w' => ∃ v, e = .returned v ∧ PlanAt w' v (chainTs work n) ∧ Below w.heap.size w w' := by
  refine (chain_any n work w (by omega)).mono ?_
  rintro e w' ⟨v, rfl, ho, hb⟩
  refine ⟨v, rfl, ho.planAt (by rw [chainTs_length]; omega) (fun j hj => ?_), hb⟩
  rw [chainTs_length] at hj
  rw [chain_needs _ _ _ hj]
  split <;> simp
theorem beside_plan (n : Nat) (work : Int) (w : World) (hn : n ≤ 30) :
    Calls Try.prog 6 #[.int .i64 n, .int .i64 work] w fun e w' => ∃ v, e = .returned v ∧ PlanAt w' v (besideTs work n) ∧ Below w.heap.size w w' := by
  refine (beside_any n work w (by omega)).mono ?_
  rintro e w' ⟨v, rfl, ho, hb⟩
  exact ⟨v, rfl, ho.planAt (by rw [besideTs_length]; omega) (fun j _ => by rw [beside_needs]; simp), hb⟩

theorem four_ints (w : World) : IntsAt (w.alloc (.cells #[.int .i64 0, .int .i64 1, .int .i64 2, .int .i64 3] 3)) (.slice (some ⟨w.heap.size, 0, none⟩) 4 4) [0, 1, 2, 3] := by
  refine ⟨by simp, _, _, rfl, Or.inr ⟨w.heap.size, 0, rfl, by simp, fun k hk => ?_⟩⟩
  unfold World.cell?
  dsimp only
  rw [blk_alloc_new]
  have : k = 0 ∨ k = 1 ∨ k = 2 ∨ k = 3 := by simp at hk; omega
  rcases this with rfl | rfl | rfl | rfl <;> rfl

/-- It ends in time. -/
theorem ends_bound {ts : List (Int × List Int)} {h : Nat} {ord : List Nat} (hw : Works ts) (hr : InRange ts) (ho : EachO ts.length ord) : endsOf (listOut ts h ord) ≤ 700 := by
  have hL := (outAt_laid (h := h) ho.2.2 ho.all hr 601).1
  rcases (foldl_ends (listOut ts h ord) 0).2.2 with h3 | ⟨s, hs, h3⟩
  · unfold endsOf; omega
  · have h4 := hL.ok s hs
    have h5 := (hw.2 _ h4.2.1).2
    have h6 := (wkN_eq hw h4.2.1).1
    unfold endsOf
    omega
theorem deep_exists {v : Value} {w : World} {ts : List (Int × List Int)} (hp : PlanAt w v ts) (hc : CheckIs ts 0 0) : ∃ R T, Deep ts R T := by
  obtain ⟨e, w', fr, ⟨⟨p, q, hc', h⟩, _⟩, _⟩ := order_any v ts w hp []
  have hq := (CheckIs.det hc' hc).2
  rcases h with ⟨hq', _⟩ | ⟨_, ord, ov, _, ho, _⟩
  · exact absurd hq hq'
  · exact ⟨_, _, (Ready.of hc ho).deep⟩

theorem fact_four : endsOf (listOut (besideTs 3 4) 2 [0, 1, 2, 3]) = 6 := by decide +kernel
theorem llong_fact {n : Nat} {v : Value} {w : World} (hp : PlanAt w v (besideTs 3 4)) (ho : IntsAt w (.slice (some ⟨n, 0, none⟩) 4 4) [0, 1, 2, 3]) :
    Calls Try.prog 5 #[v, .int .i64 2, .slice (some ⟨n, 0, none⟩) 4 4] w fun e w' => e = .returned (.tuple #[.int .i64 6, .nilIface]) ∧ Below w.heap.size w w' := by
  refine (llong_any v _ _ _ 2 w hp ho (by intro x hx; simp at hx; rcases hx with rfl | rfl | rfl | rfl <;> decide)).mono ?_
  rintro e w' ⟨hl, hb⟩
  have hck := beside_check (work := 3) (by omega) (by omega) (n := 4) (by omega)
  have hez : EachZ (besideTs 3 4).length [0, 1, 2, 3] := ⟨rfl, by decide, by decide⟩
  rcases hl with ⟨p, q, hc', hq, _⟩ | ⟨_, _, _, _, rfl⟩
  · rw [(CheckIs.det hc' hck).2] at hq
    refine absurd ?_ hq
    unfold lErr
    rw [if_pos rfl, if_neg (by omega), if_pos (by simpa using hez)]
  · refine ⟨?_, hb⟩
    have : natsOf [0, 1, 2, 3] = [0, 1, 2, 3] := rfl
    rw [this, show (2 : Int).toNat = 2 from rfl, fact_four]
    rfl

set_option maxRecDepth 100000 in
set_option maxHeartbeats 2000000 in
theorem listAnomaly_any (v ov : Value) (ts : List (Int × List Int)) (zs : List Int) (hands : Int) (w : World) (hp : PlanAt w v ts) (ho : IntsAt w ov zs) (hwf : ∀ x, x ∈ zs → (Lit.int .i64 x).wf = true) :
    Calls Try.prog 3 #[v, .int .i64 hands, ov] w fun e w' => e = .returned (.bool true) ∧ Below w.heap.size w w' := by
  have HP : Hid (PlanAt w v ts) := hp
  have HO : Hid (IntsAt w ov zs) := ho
  obtain ⟨hl, a, c, rfl, hp⟩ := hp
  obtain ⟨hol1, oa, oc, rfl, hol2⟩ := ho
  clear hp hol1 hol2
  have hbs : Calls Try.prog 6 #[.int .i64 4, .int .i64 3] w fun e w' => ∃ v, e = .returned v ∧ PlanAt w' v (besideTs 3 4) ∧ Below w.heap.size w w' := beside_plan 4 3 w (by omega)
  go_enter Try.func3, Try.ntmps3
  go_wp2_with fail
  refine hbs.mono ?_
  clear hbs
  rintro e w1 ⟨v, rfl, hp1, hb1⟩
  have hba : Below w1.heap.size w1 (w1.alloc (.cells #[.int .i64 0, .int .i64 1, .int .i64 2, .int .i64 3] 3)) := (Below.refl _ _).alloc (Nat.le_refl _) _
  have hfa := llong_fact (hp1.later hba) (four_ints w1)
  have hB1 : Below w.heap.size w (w1.alloc (.cells #[.int .i64 0, .int .i64 1, .int .i64 2, .int .i64 3] 3)) := hb1.trans (hba.mono hb1.size)
  obtain ⟨_, va, vc, rfl, _⟩ := hp1
  rw [besideTs_length] at hfa ⊢
  clear hba
  go_wp2_with (go_at_call 5; refine hfa.mono ?_; clear hfa; rintro e w2 ⟨rfl, hb2⟩)
  have hB2 : Below w.heap.size w w2 := hB1.trans (hb2.mono hB1.size)
  have hl1 := llong_any _ _ ts zs hands w2 (HP.out.later hB2) (HO.out.later hB2) hwf
  clear hb1 hb2 hB1
  refine hl1.mono ?_
  clear hl1
  rintro e w3 ⟨h, hb3⟩
  have hB3 : Below w.heap.size w w3 := hB2.trans (hb3.mono hB2.size)
  have hl2 := llong_any _ _ ts zs (wrap64 (hands + 1)) w3 (HP.out.later hB3) (HO.out.later hB3) hwf
  clear hb3 hB2
  rcases h with ⟨p, q, hc, hq, rfl⟩ | ⟨hc, h1, h6, hez, rfl⟩
  · rw [errV_some hq]
    go_wp2_with fail
    refine hl2.mono ?_
    clear hl2
    rintro e w4 ⟨h, hb4⟩
    have hB4 : Below w.heap.size w w4 := hB3.trans (hb4.mono hB3.size)
    rcases h with ⟨p', q', hc', hq', rfl⟩ | ⟨hc', _, _, _, rfl⟩
    · rw [errV_some hq']
      clear hq hq' hc hc'
      go_wp2
      go_ret
      exact ⟨rfl, hB4⟩
    · clear hq hc hc'
      go_wp2
      go_ret
      exact ⟨rfl, hB4⟩
  · have hw1 : wrap64 (hands + 1) = hands + 1 := by unfold wrap64; omega
    rw [hw1] at hl2
    go_wp2_with fail
    refine hl2.mono ?_
    clear hl2
    rintro e w4 ⟨h, hb4⟩
    have hB4 : Below w.heap.size w w4 := hB3.trans (hb4.mono hB3.size)
    rcases h with ⟨p', q', hc', hq', rfl⟩ | ⟨hc', h1', h6', _, rfl⟩
    · rw [errV_some hq']
      clear hq' hc hc'
      go_wp2
      go_ret
      exact ⟨rfl, hB4⟩
    · obtain ⟨hw, hr, hno⟩ := hc.works
      obtain ⟨R, T, hd⟩ := deep_exists HP.out hc
      have hord := hez.nats.1
      obtain ⟨hn, rfl⟩ := Int.eq_ofNat_of_zero_le (show 0 ≤ hands by omega)
      have key := list_anomaly hw hr hno (h := hn) (by omega) (by omega) hd hord
      have hb1 := ends_bound (h := hn) hw hr hord
      have e1 : ((hn : Int) + 1).toNat = hn + 1 := by omega
      rw [e1, Int.toNat_natCast]
      clear hd hw hr hno hord hez hc hc'
      generalize endsOf (listOut ts (hn + 1) (natsOf zs)) = x at *
      generalize endsOf (listOut ts hn (natsOf zs)) = y at *
      go_wp2
      go_ret
      exact ⟨ret_bool (by simp; omega), hB4⟩
end Go.Proofs.Ytlfebnaghoeddaa
