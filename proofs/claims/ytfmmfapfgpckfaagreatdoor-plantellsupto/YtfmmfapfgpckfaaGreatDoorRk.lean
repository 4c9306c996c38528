/- The walk of PlanTells. -/
import Derived.Test.YtfmmfapfgpckfaaGreatDoorRj
namespace Go.Proofs.YtfmmfapfgpckfaaGreatDoor
open Go.RowKit Go.Deep

theorem order_wrong (v : Value) (ts : List (Int × List Int)) (w : World) (p q : Int) (hq : q ≠ 0) (hc : CheckIs ts p q) (hp : PlanAt w v ts) :
    Calls Tryz.prog 9 #[v] w fun e w' => e = .returned (.tuple #[.slice none 0 0, errV q]) ∧ Below w.heap.size w w' := by
  refine (order_any v ts w hp).mono ?_
  rintro e w' ⟨⟨p', q', hc', h⟩, hb⟩
  obtain ⟨rfl, rfl⟩ := hc.det hc'
  rcases h with ⟨_, rfl⟩ | ⟨h0, _⟩
  · exact ⟨rfl, hb⟩
  · exact absurd h0 hq
theorem print_wrong (v : Value) (ts : List (Int × List Int)) (w : World) (p q : Int) (hq : q ≠ 0) (hc : CheckIs ts p q) (hp : PlanAt w v ts) :
    Calls Tryz.prog 11 #[v] w fun e w' => e = .returned (.tuple #[.string ⟨#[]⟩, errV q]) ∧ Below w.heap.size w w' := by
  refine (print_any v ts w hp).mono ?_
  rintro e w' ⟨⟨p', q', hc', h⟩, hb⟩
  obtain ⟨rfl, rfl⟩ := hc.det hc'
  rcases h with ⟨_, rfl⟩ | ⟨h0, _⟩
  · exact ⟨rfl, hb⟩
  · exact absurd h0 hq
theorem after_wrong (v : Value) (ts : List (Int × List Int)) (i : Int) (w : World) (p q : Int) (hq : q ≠ 0) (hc : CheckIs ts p q) (hp : PlanAt w v ts) :
    Calls Tryz.prog 13 #[v, .int .i64 i] w fun e w' => e = .returned (.tuple #[.slice none 0 0, errV q]) ∧ Below w.heap.size w w' := by
  refine (after_any v ts i w hp).mono ?_
  rintro e w' ⟨⟨p', q', hc', h⟩, hb⟩
  obtain ⟨rfl, rfl⟩ := hc.det hc'
  rcases h with ⟨_, rfl⟩ | ⟨h0, _⟩ | ⟨h0, _⟩
  · exact ⟨rfl, hb⟩
  · exact absurd h0 hq
  · exact absurd h0 hq
theorem after_outside (v : Value) (ts : List (Int × List Int)) (i : Int) (w : World) (hc : CheckIs ts 0 0) (hi : inRange i ts.length = false) (hp : PlanAt w v ts) :
    Calls Tryz.prog 13 #[v, .int .i64 i] w fun e w' => e = .returned (.tuple #[.slice none 0 0, errV 1]) ∧ Below w.heap.size w w' := by
  refine (after_any v ts i w hp).mono ?_
  rintro e w' ⟨⟨p', q', hc', h⟩, hb⟩
  obtain ⟨rfl, rfl⟩ := hc.det hc'
  rcases h with ⟨h0, _⟩ | ⟨_, _, rfl⟩ | ⟨_, h1, _⟩
  · exact absurd rfl h0
  · exact ⟨rfl, hb⟩
  · rw [hi] at h1; cases h1
theorem after_inside (v : Value) (ts : List (Int × List Int)) (i : Int) (w : World) (hc : CheckIs ts 0 0) (hi : inRange i ts.length = true) (hp : PlanAt w v ts) :
    Calls Tryz.prog 13 #[v, .int .i64 i] w fun e w' => (∃ ov, e = .returned (.tuple #[ov, errV 0]) ∧ IntsAt w' ov (intsOf (afterOf ts i ts.length))) ∧ Below w.heap.size w w' := by
  refine (after_any v ts i w hp).mono ?_
  rintro e w' ⟨⟨p', q', hc', h⟩, hb⟩
  obtain ⟨rfl, rfl⟩ := hc.det hc'
  rcases h with ⟨h0, _⟩ | ⟨_, h1, _⟩ | ⟨_, _, ov, rfl, h⟩
  · exact absurd rfl h0
  · rw [hi] at h1; cases h1
  · exact ⟨⟨ov, rfl, h⟩, hb⟩
theorem order_fine (v : Value) (ts : List (Int × List Int)) (ord : List Nat) (w : World) (hc : CheckIs ts 0 0) (ho : OrdIs ts ord) (hp : PlanAt w v ts) :
    Calls Tryz.prog 9 #[v] w fun e w' => (∃ ov, e = .returned (.tuple #[ov, errV 0]) ∧ IntsAt w' ov (intsOf ord)) ∧ Below w.heap.size w w' := by
  refine (order_any v ts w hp).mono ?_
  rintro e w' ⟨⟨p', q', hc', h⟩, hb⟩
  obtain ⟨rfl, rfl⟩ := hc.det hc'
  rcases h with ⟨h0, _⟩ | ⟨_, ord', ov, rfl, ho', h⟩
  · exact absurd rfl h0
  · obtain ⟨_, _, herr, hno⟩ := hc.ok rfl
    rw [← ho.det ho' (inRange_of herr) hno] at h
    exact ⟨⟨ov, rfl, h⟩, hb⟩
theorem print_fine (v : Value) (ts : List (Int × List Int)) (w : World) (hc : CheckIs ts 0 0) (hp : PlanAt w v ts) :
    Calls Tryz.prog 11 #[v] w fun e w' => e = .returned (.tuple #[.string ⟨(planText ts).toArray⟩, errV 0]) ∧ Below w.heap.size w w' := print_right v ts w hp hc
theorem error_same (q : Int) (w : World) (hg : Typed w) : Calls Tryz.prog 6 #[errV q, .int .i64 q] w fun ev w' => ev = .returned (.bool true) ∧ Below w.heap.size w w' := by
  have := error_any q q w hg
  rwa [show (q == q) = true by simp] at this
theorem ints_same (v u : Value) (xs : List Int) (w : World) (hx : IntsAt w v xs) (hy : IntsAt w u xs) : Calls Tryz.prog 10 #[v, u] w fun e w' => e = .returned (.bool true) ∧ Below w.heap.size w w' := by
  refine (sameInts_any v u xs xs w hx hy).mono ?_
  rintro e w' ⟨rfl, n, rfl⟩
  exact ⟨by simp, below_draws (Below.refl _ _) n⟩
theorem plan_same (v u : Value) (xs : List (Int × List Int)) (w : World) (hx : PlanAt w v xs) (hy : PlanAt w u xs) : Calls Tryz.prog 16 #[v, u] w fun e w' => e = .returned (.bool true) ∧ Below w.heap.size w w' := by
  refine (samePlan_any v u xs xs w hx hy).mono ?_
  rintro e w' ⟨rfl, n, rfl⟩
  exact ⟨by simp, below_draws (Below.refl _ _) n⟩

set_option maxRecDepth 100000 in
set_option maxHeartbeats 20000000 in
theorem tells_any (v : Value) (ts : List (Int × List Int)) (i : Int) (l : List UInt8) (w : World) (hp : PlanAt w v ts) (hl : l.length ≤ 1048576) (hg : Typed w) (he : Synt w) (hm : Lens w) :
    Calls Tryz.prog 3 #[v, .int .i64 i, .string ⟨l.toArray⟩] w fun e w' => e = .returned (.bool true) ∧ Below w.heap.size w w' := by
  have HP : Hid (PlanAt w v ts) := hp
  have HG : Hid (Typed w) := hg
  have HE : Hid (Synt w) := he
  have HM : Hid (Lens w) := hm
  have hpl := planR_any v ts w hp
  obtain ⟨hpl0, pa, pc, rfl, _⟩ := hp
  clear hg he hm
  go_enter Tryz.func3, Tryz.ntmps3
  go_wp2_with fail
  refine hpl.mono ?_
  rintro e w1 ⟨⟨p, q, rfl, hc⟩, hB1⟩
  clear hpl
  have hck := check_again _ ts w1 p q hc (HP.out.later hB1)
  have HC : Hid (CheckIs ts p q) := hc
  clear hc
  go_wp2_with fail
  refine hck.mono ?_
  rintro e w2 ⟨rfl, hb2⟩
  clear hck
  have hB2 : Below w.heap.size w w2 := hB1.trans (hb2.mono hB1.size)
  clear hb2
  have her := error_same q w2 (HG.out.later hB2)
  go_wp2_with fail
  refine her.mono ?_
  rintro e w3 ⟨rfl, hb3⟩
  have hB3 : Below w.heap.size w w3 := hB2.trans (hb3.mono hB2.size)
  clear her hb3 hB1 hB2
  by_cases hq : q = 0
  case neg =>
    have hcl := order_wrong _ ts w3 p q hq HC.out (HP.out.later hB3)
    go_wp2_with fail
    refine hcl.mono ?_
    rintro e w4 ⟨rfl, hb4⟩
    have hB4 : Below w.heap.size w w4 := hB3.trans (hb4.mono hB3.size)
    clear hcl hb4 hB3
    have hcl := error_same q w4 (HG.out.later hB4)
    go_wp2_with fail
    refine hcl.mono ?_
    rintro e w5 ⟨rfl, hb5⟩
    have hB5 : Below w.heap.size w w5 := hB4.trans (hb5.mono hB4.size)
    clear hcl hb5 hB4
    have hcl := ints_same _ _ [] w5 (IntsAt.none _) (IntsAt.none _)
    go_wp2_with fail
    refine hcl.mono ?_
    rintro e w6 ⟨rfl, hb6⟩
    have hB6 : Below w.heap.size w w6 := hB5.trans (hb6.mono hB5.size)
    clear hcl hb6 hB5
    have hcl := print_wrong _ ts w6 p q hq HC.out (HP.out.later hB6)
    go_wp2_with fail
    refine hcl.mono ?_
    rintro e w7 ⟨rfl, hb7⟩
    have hB7 : Below w.heap.size w w7 := hB6.trans (hb7.mono hB6.size)
    clear hcl hb7 hB6
    have hcl := error_same q w7 (HG.out.later hB7)
    go_wp2_with fail
    refine hcl.mono ?_
    rintro e w8 ⟨rfl, hb8⟩
    have hB8 : Below w.heap.size w w8 := hB7.trans (hb8.mono hB7.size)
    clear hcl hb8 hB7
    have hcl := after_wrong _ ts i w8 p q hq HC.out (HP.out.later hB8)
    go_wp2_with fail
    refine hcl.mono ?_
    rintro e w9 ⟨rfl, hb9⟩
    have hB9 : Below w.heap.size w w9 := hB8.trans (hb9.mono hB8.size)
    clear hcl hb9 hB8
    have hcl := error_same q w9 (HG.out.later hB9)
    go_wp2_with fail
    refine hcl.mono ?_
    rintro e w10 ⟨rfl, hb10⟩
    have hB10 : Below w.heap.size w w10 := hB9.trans (hb10.mono hB9.size)
    clear hcl hb10 hB9
    have hcl := ints_same _ _ [] w10 (IntsAt.none _) (IntsAt.none _)
    go_wp2_with fail
    refine hcl.mono ?_
    rintro e w11 ⟨rfl, hb11⟩
    have hB11 : Below w.heap.size w w11 := hB10.trans (hb11.mono hB10.size)
    clear hcl hb11 hB10
    obtain ⟨Q, us, HQ⟩ := read_some l
    have HQH : Hid ((tasksOf l = none ∧ Q = 2 ∧ us = []) ∨ (∃ vs p, tasksOf l = some vs ∧ CheckIs vs p Q ∧ ((Q ≠ 0 ∧ us = []) ∨ (Q = 0 ∧ us = vs)))) := HQ
    clear HQ
    have hcl := read_same l w11 hl _ rfl Q us HQH.out
    go_wp2_with fail
    refine hcl.mono ?_
    rintro e w12 ⟨⟨rv, rfl, hrv⟩, hb12⟩
    have hB12 : Below w.heap.size w w12 := hB11.trans (hb12.mono hB11.size)
    have HRV : Hid (PlanAt w12 rv us) := hrv
    clear hrv
    obtain ⟨ra, rc, rfl⟩ : ∃ a c, rv = .slice a us.length c := by obtain ⟨_, a, c, h, _⟩ := HRV.out; exact ⟨a, c, h⟩
    clear hcl hb12 hB11
    have hcl := parse_same l w12 hl (HE.out.later hB12) (HM.out.later hB12) _ rfl Q us HQH.out
    go_wp2_with fail
    refine hcl.mono ?_
    rintro e w13 ⟨⟨gv, rfl, hgv⟩, hb13⟩
    have hB13 : Below w.heap.size w w13 := hB12.trans (hb13.mono hB12.size)
    have HGV : Hid (PlanAt w13 gv us) := hgv
    have HRV2 : Hid (PlanAt w13 _ us) := HRV.out.later hb13
    clear hgv HRV
    clear hcl hb13 hB12
    have hcl := error_same Q w13 (HG.out.later hB13)
    go_wp2_with fail
    refine hcl.mono ?_
    rintro e w14 ⟨rfl, hb14⟩
    have hB14 : Below w.heap.size w w14 := hB13.trans (hb14.mono hB13.size)
    have HGV3 : Hid (PlanAt w14 _ us) := HGV.out.later hb14
    have HRV3 : Hid (PlanAt w14 _ us) := HRV2.out.later hb14
    clear HGV HRV2
    clear hcl hb14 hB13
    have hcl := plan_same _ _ us w14 HGV3.out HRV3.out
    go_wp2_with fail
    refine hcl.mono ?_
    rintro e w15 ⟨rfl, hb15⟩
    have hB15 : Below w.heap.size w w15 := hB14.trans (hb15.mono hB14.size)
    clear hcl hb15 hB14
    go_wp2
    go_ret
    exact ⟨rfl, hB15⟩
  case pos =>
    subst hq
    obtain ⟨rfl, h30, _, _⟩ := HC.out.ok rfl
    have hcl := orderR_any _ ts w3 (HP.out.later hB3) HC.out
    go_wp2_with fail
    refine hcl.mono ?_
    rintro e w4 ⟨⟨ov, ord, rfl, ho, hoi⟩, hb4⟩
    have hB4 : Below w.heap.size w w4 := hB3.trans (hb4.mono hB3.size)
    have HO : Hid (OrdIs ts ord) := ho
    have HOI : Hid (IntsAt w4 ov (intsOf ord)) := hoi
    clear ho hoi
    clear hcl hb4 hB3
    have hcl := textR_any _ ts w4 (HP.out.later hB4) HC.out
    go_wp2_with fail
    refine hcl.mono ?_
    rintro e w5 ⟨rfl, hb5⟩
    have hB5 : Below w.heap.size w w5 := hB4.trans (hb5.mono hB4.size)
    have HOI5 : Hid (IntsAt w5 ov (intsOf ord)) := HOI.out.later hb5
    clear HOI
    clear hcl hb5 hB4
    have hcl := order_fine _ ts ord w5 HC.out HO.out (HP.out.later hB5)
    go_wp2_with fail
    refine hcl.mono ?_
    rintro e w6 ⟨⟨pv, rfl, hpv⟩, hb6⟩
    have hB6 : Below w.heap.size w w6 := hB5.trans (hb6.mono hB5.size)
    have HPV : Hid (IntsAt w6 pv (intsOf ord)) := hpv
    have HOI6 : Hid (IntsAt w6 ov (intsOf ord)) := HOI5.out.later hb6
    clear HOI5 hpv
    clear hcl hb6 hB5
    have hcl := error_same 0 w6 (HG.out.later hB6)
    go_wp2_with fail
    refine hcl.mono ?_
    rintro e w7 ⟨rfl, hb7⟩
    have hB7 : Below w.heap.size w w7 := hB6.trans (hb7.mono hB6.size)
    have HPV7 : Hid (IntsAt w7 pv (intsOf ord)) := HPV.out.later hb7
    have HOI7 : Hid (IntsAt w7 ov (intsOf ord)) := HOI6.out.later hb7
    clear HOI6 HPV
    clear hcl hb7 hB6
    have hcl := ints_same _ _ _ w7 HPV7.out HOI7.out
    go_wp2_with fail
    refine hcl.mono ?_
    rintro e w8 ⟨rfl, hb8⟩
    have hB8 : Below w.heap.size w w8 := hB7.trans (hb8.mono hB7.size)
    clear hcl hb8 hB7
    clear HPV7 HOI7
    have hcl := print_fine _ ts w8 HC.out (HP.out.later hB8)
    go_wp2_with fail
    refine hcl.mono ?_
    rintro e w9 ⟨rfl, hb9⟩
    have hB9 : Below w.heap.size w w9 := hB8.trans (hb9.mono hB8.size)
    clear hcl hb9 hB8
    have hcl := error_same 0 w9 (HG.out.later hB9)
    go_wp2_with fail
    refine hcl.mono ?_
    rintro e w10 ⟨rfl, hb10⟩
    have hB10 : Below w.heap.size w w10 := hB9.trans (hb10.mono hB9.size)
    clear hcl hb10 hB9
    cases hin : inRange i ts.length
    case false =>
      have hio : i < 0 ∨ (¬ i < 0 ∧ (ts.length : Int) ≤ i) := by unfold inRange at hin; simp at hin; omega
      rcases hio with hi0 | ⟨hi0, hi1⟩
      · have hcl := after_outside _ ts i w10 HC.out hin (HP.out.later hB10)
        go_wp2_with fail
        refine hcl.mono ?_
        rintro e w11 ⟨rfl, hb11⟩
        have hB11 : Below w.heap.size w w11 := hB10.trans (hb11.mono hB10.size)
        clear hcl hb11 hB10
        have hcl := error_same 1 w11 (HG.out.later hB11)
        go_wp2_with fail
        refine hcl.mono ?_
        rintro e w12 ⟨rfl, hb12⟩
        have hB12 : Below w.heap.size w w12 := hB11.trans (hb12.mono hB11.size)
        clear hcl hb12 hB11
        have hcl := ints_same _ _ [] w12 (IntsAt.none _) (IntsAt.none _)
        go_wp2_with fail
        refine hcl.mono ?_
        rintro e w13 ⟨rfl, hb13⟩
        have hB13 : Below w.heap.size w w13 := hB12.trans (hb13.mono hB12.size)
        clear hcl hb13 hB12
        obtain ⟨Q, us, HQ⟩ := read_some l
        have HQH : Hid ((tasksOf l = none ∧ Q = 2 ∧ us = []) ∨ (∃ vs p, tasksOf l = some vs ∧ CheckIs vs p Q ∧ ((Q ≠ 0 ∧ us = []) ∨ (Q = 0 ∧ us = vs)))) := HQ
        clear HQ
        have hcl := read_same l w13 hl _ rfl Q us HQH.out
        go_wp2_with fail
        refine hcl.mono ?_
        rintro e w14 ⟨⟨rv, rfl, hrv⟩, hb14⟩
        have hB14 : Below w.heap.size w w14 := hB13.trans (hb14.mono hB13.size)
        have HRV : Hid (PlanAt w14 rv us) := hrv
        clear hrv
        obtain ⟨ra, rc, rfl⟩ : ∃ a c, rv = .slice a us.length c := by obtain ⟨_, a, c, h, _⟩ := HRV.out; exact ⟨a, c, h⟩
        clear hcl hb14 hB13
        have hcl := parse_same l w14 hl (HE.out.later hB14) (HM.out.later hB14) _ rfl Q us HQH.out
        go_wp2_with fail
        refine hcl.mono ?_
        rintro e w15 ⟨⟨gv, rfl, hgv⟩, hb15⟩
        have hB15 : Below w.heap.size w w15 := hB14.trans (hb15.mono hB14.size)
        have HGV : Hid (PlanAt w15 gv us) := hgv
        have HRV2 : Hid (PlanAt w15 _ us) := HRV.out.later hb15
        clear hgv HRV
        clear hcl hb15 hB14
        have hcl := error_same Q w15 (HG.out.later hB15)
        go_wp2_with fail
        refine hcl.mono ?_
        rintro e w16 ⟨rfl, hb16⟩
        have hB16 : Below w.heap.size w w16 := hB15.trans (hb16.mono hB15.size)
        have HGV3 : Hid (PlanAt w16 _ us) := HGV.out.later hb16
        have HRV3 : Hid (PlanAt w16 _ us) := HRV2.out.later hb16
        clear HGV HRV2
        clear hcl hb16 hB15
        have hcl := plan_same _ _ us w16 HGV3.out HRV3.out
        go_wp2_with fail
        refine hcl.mono ?_
        rintro e w17 ⟨rfl, hb17⟩
        have hB17 : Below w.heap.size w w17 := hB16.trans (hb17.mono hB16.size)
        clear hcl hb17 hB16
        go_wp2
        go_ret
        exact ⟨rfl, hB17⟩
      · have hcl := after_outside _ ts i w10 HC.out hin (HP.out.later hB10)
        go_wp2_with fail
        refine hcl.mono ?_
        rintro e w11 ⟨rfl, hb11⟩
        have hB11 : Below w.heap.size w w11 := hB10.trans (hb11.mono hB10.size)
        clear hcl hb11 hB10
        have hcl := error_same 1 w11 (HG.out.later hB11)
        go_wp2_with fail
        refine hcl.mono ?_
        rintro e w12 ⟨rfl, hb12⟩
        have hB12 : Below w.heap.size w w12 := hB11.trans (hb12.mono hB11.size)
        clear hcl hb12 hB11
        have hcl := ints_same _ _ [] w12 (IntsAt.none _) (IntsAt.none _)
        go_wp2_with fail
        refine hcl.mono ?_
        rintro e w13 ⟨rfl, hb13⟩
        have hB13 : Below w.heap.size w w13 := hB12.trans (hb13.mono hB12.size)
        clear hcl hb13 hB12
        obtain ⟨Q, us, HQ⟩ := read_some l
        have HQH : Hid ((tasksOf l = none ∧ Q = 2 ∧ us = []) ∨ (∃ vs p, tasksOf l = some vs ∧ CheckIs vs p Q ∧ ((Q ≠ 0 ∧ us = []) ∨ (Q = 0 ∧ us = vs)))) := HQ
        clear HQ
        have hcl := read_same l w13 hl _ rfl Q us HQH.out
        go_wp2_with fail
        refine hcl.mono ?_
        rintro e w14 ⟨⟨rv, rfl, hrv⟩, hb14⟩
        have hB14 : Below w.heap.size w w14 := hB13.trans (hb14.mono hB13.size)
        have HRV : Hid (PlanAt w14 rv us) := hrv
        clear hrv
        obtain ⟨ra, rc, rfl⟩ : ∃ a c, rv = .slice a us.length c := by obtain ⟨_, a, c, h, _⟩ := HRV.out; exact ⟨a, c, h⟩
        clear hcl hb14 hB13
        have hcl := parse_same l w14 hl (HE.out.later hB14) (HM.out.later hB14) _ rfl Q us HQH.out
        go_wp2_with fail
        refine hcl.mono ?_
        rintro e w15 ⟨⟨gv, rfl, hgv⟩, hb15⟩
        have hB15 : Below w.heap.size w w15 := hB14.trans (hb15.mono hB14.size)
        have HGV : Hid (PlanAt w15 gv us) := hgv
        have HRV2 : Hid (PlanAt w15 _ us) := HRV.out.later hb15
        clear hgv HRV
        clear hcl hb15 hB14
        have hcl := error_same Q w15 (HG.out.later hB15)
        go_wp2_with fail
        refine hcl.mono ?_
        rintro e w16 ⟨rfl, hb16⟩
        have hB16 : Below w.heap.size w w16 := hB15.trans (hb16.mono hB15.size)
        have HGV3 : Hid (PlanAt w16 _ us) := HGV.out.later hb16
        have HRV3 : Hid (PlanAt w16 _ us) := HRV2.out.later hb16
        clear HGV HRV2
        clear hcl hb16 hB15
        have hcl := plan_same _ _ us w16 HGV3.out HRV3.out
        go_wp2_with fail
        refine hcl.mono ?_
        rintro e w17 ⟨rfl, hb17⟩
        have hB17 : Below w.heap.size w w17 := hB16.trans (hb17.mono hB16.size)
        clear hcl hb17 hB16
        go_wp2
        go_ret
        exact ⟨rfl, hB17⟩
    case true =>
      have hi0 : ¬ i < 0 := by unfold inRange at hin; simp at hin; omega
      have hi1 : ¬ (ts.length : Int) ≤ i := by unfold inRange at hin; simp at hin; omega
      have hcl := afterR_any _ ts i w10 (HP.out.later hB10) h30
      go_wp2_with fail
      refine hcl.mono ?_
      rintro e w11 ⟨⟨av, rfl, hav⟩, hb11⟩
      have hB11 : Below w.heap.size w w11 := hB10.trans (hb11.mono hB10.size)
      have HAV : Hid (IntsAt w11 av (intsOf (afterOf ts i ts.length))) := hav
      clear hav
      clear hcl hb11 hB10
      have hcl := after_inside _ ts i w11 HC.out hin (HP.out.later hB11)
      go_wp2_with fail
      refine hcl.mono ?_
      rintro e w12 ⟨⟨bv, rfl, hbv⟩, hb12⟩
      have hB12 : Below w.heap.size w w12 := hB11.trans (hb12.mono hB11.size)
      have HBV : Hid (IntsAt w12 bv (intsOf (afterOf ts i ts.length))) := hbv
      have HAV2 : Hid (IntsAt w12 av (intsOf (afterOf ts i ts.length))) := HAV.out.later hb12
      clear hbv HAV
      clear hcl hb12 hB11
      have hcl := error_same 0 w12 (HG.out.later hB12)
      go_wp2_with fail
      refine hcl.mono ?_
      rintro e w13 ⟨rfl, hb13⟩
      have hB13 : Below w.heap.size w w13 := hB12.trans (hb13.mono hB12.size)
      have HBV3 : Hid (IntsAt w13 bv (intsOf (afterOf ts i ts.length))) := HBV.out.later hb13
      have HAV3 : Hid (IntsAt w13 av (intsOf (afterOf ts i ts.length))) := HAV2.out.later hb13
      clear HBV HAV2
      clear hcl hb13 hB12
      have hcl := ints_same _ _ _ w13 HBV3.out HAV3.out
      go_wp2_with fail
      refine hcl.mono ?_
      rintro e w14 ⟨rfl, hb14⟩
      have hB14 : Below w.heap.size w w14 := hB13.trans (hb14.mono hB13.size)
      clear hcl hb14 hB13
      clear HBV3 HAV3
      obtain ⟨Q, us, HQ⟩ := read_some l
      have HQH : Hid ((tasksOf l = none ∧ Q = 2 ∧ us = []) ∨ (∃ vs p, tasksOf l = some vs ∧ CheckIs vs p Q ∧ ((Q ≠ 0 ∧ us = []) ∨ (Q = 0 ∧ us = vs)))) := HQ
      clear HQ
      have hcl := read_same l w14 hl _ rfl Q us HQH.out
      go_wp2_with fail
      refine hcl.mono ?_
      rintro e w15 ⟨⟨rv, rfl, hrv⟩, hb15⟩
      have hB15 : Below w.heap.size w w15 := hB14.trans (hb15.mono hB14.size)
      have HRV : Hid (PlanAt w15 rv us) := hrv
      clear hrv
      obtain ⟨ra, rc, rfl⟩ : ∃ a c, rv = .slice a us.length c := by obtain ⟨_, a, c, h, _⟩ := HRV.out; exact ⟨a, c, h⟩
      clear hcl hb15 hB14
      have hcl := parse_same l w15 hl (HE.out.later hB15) (HM.out.later hB15) _ rfl Q us HQH.out
      go_wp2_with fail
      refine hcl.mono ?_
      rintro e w16 ⟨⟨gv, rfl, hgv⟩, hb16⟩
      have hB16 : Below w.heap.size w w16 := hB15.trans (hb16.mono hB15.size)
      have HGV : Hid (PlanAt w16 gv us) := hgv
      have HRV2 : Hid (PlanAt w16 _ us) := HRV.out.later hb16
      clear hgv HRV
      clear hcl hb16 hB15
      have hcl := error_same Q w16 (HG.out.later hB16)
      go_wp2_with fail
      refine hcl.mono ?_
      rintro e w17 ⟨rfl, hb17⟩
      have hB17 : Below w.heap.size w w17 := hB16.trans (hb17.mono hB16.size)
      have HGV3 : Hid (PlanAt w17 _ us) := HGV.out.later hb17
      have HRV3 : Hid (PlanAt w17 _ us) := HRV2.out.later hb17
      clear HGV HRV2
      clear hcl hb17 hB16
      have hcl := plan_same _ _ us w17 HGV3.out HRV3.out
      go_wp2_with fail
      refine hcl.mono ?_
      rintro e w18 ⟨rfl, hb18⟩
      have hB18 : Below w.heap.size w w18 := hB17.trans (hb18.mono hB17.size)
      clear hcl hb18 hB17
      go_wp2
      go_ret
      exact ⟨rfl, hB18⟩
end Go.Proofs.YtfmmfapfgpckfaaGreatDoor
