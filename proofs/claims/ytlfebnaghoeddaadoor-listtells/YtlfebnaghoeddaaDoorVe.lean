/- ListTells answers true. -/
import Derived.Test.YtlfebnaghoeddaaDoorVc
import Derived.Test.YtlfebnaghoeddaaDoorVd
import Derived.Test.YtlfebnaghoeddaaDoorUc
import Derived.Test.YtlfebnaghoeddaaDoorDj
import Derived.Test.YtlfebnaghoeddaaDoorI
import Derived.Test.YtlfebnaghoeddaaDoorRh
namespace Go.Proofs.YtlfebnaghoeddaaDoor
open Go.RowKit Go.Deep Classical

theorem RowI.ints {b : Nat} {w : World} {v : Value} {zs : List Int} (h : RowI b w v zs) (hl : zs.length ≤ 1000) : IntsAt w v zs := by
  by_cases h0 : 0 < zs.length
  · obtain ⟨g, c, rfl, _, hg, _⟩ := h.full h0
    exact ⟨by omega, _, _, rfl, Or.inr ⟨g, 0, rfl, hg, fun k hk => by rw [Nat.zero_add]; exact RowI.cell h hk⟩⟩
  · obtain ⟨a, c, rfl⟩ := h.shape
    have : zs = [] := List.eq_nil_of_length_eq_zero (by omega)
    subst this
    exact ⟨by simp, _, _, rfl, Or.inl rfl⟩
theorem list_ints {l : List Nat} {n : Nat} (h : l.length = n) : listOf (fun k => ((l.getD k 0 : Nat) : Int)) n = intsOf l := by
  apply List.ext_getElem
  · rw [listOf_length, intsOf_length, h]
  · intro i h1 h2
    rw [listOf_length] at h1
    have e1 := listOf_getD (fun k => ((l.getD k 0 : Nat) : Int)) h1
    have e2 := intsOf_getD l i
    rw [List.getD_eq_getElem?_getD, List.getElem?_eq_getElem (by rw [listOf_length]; exact h1)] at e1
    rw [List.getD_eq_getElem?_getD, List.getElem?_eq_getElem h2] at e2
    simp only [Option.getD_some] at e1 e2
    rw [e1, e2]

/-- What stays known between the calls: the plan, the order, the variable; rows that read as these stays, and as these numbers. -/
structure KnL (w : World) (v ov : Value) (ts : List (Int × List Int)) (zs : List Int) (L : List Sty) (us : List Value) (U : List Int) (xs : List Value) (W : World) : Prop where
  below : Below w.heap.size w W
  typed : Typed W
  plan : PlanAt W v ts
  order : IntsAt W ov zs
  stays : ∀ u, u ∈ us → RowS w.heap.size W u L
  ints : ∀ u, u ∈ xs → IntsAt W u U
section
variable {w : World} {v ov : Value} {ts : List (Int × List Int)} {zs : List Int} {L : List Sty} {us : List Value} {U : List Int} {xs : List Value} {W : World}
theorem KnL.later {W' : World} (h : KnL w v ov ts zs L us U xs W) (hb : Below W.heap.size W W') : KnL w v ov ts zs L us U xs W' :=
  ⟨h.below.trans (hb.mono h.below.size), h.typed.later hb, h.plan.later hb, h.order.later hb, fun u hu => (h.stays u hu).later hb, fun u hu => (h.ints u hu).later hb⟩
theorem KnL.put {u : Value} (h : KnL w v ov ts zs L us U xs W) (hu : RowS w.heap.size W u L) : KnL w v ov ts zs L (u :: us) U xs W :=
  ⟨h.below, h.typed, h.plan, h.order, fun x hx => by
    rcases List.mem_cons.1 hx with rfl | hx
    · exact hu
    · exact h.stays x hx, h.ints⟩
theorem KnL.putI {u : Value} (h : KnL w v ov ts zs L us U xs W) (hu : IntsAt W u U) : KnL w v ov ts zs L us U (u :: xs) W :=
  ⟨h.below, h.typed, h.plan, h.order, h.stays, fun x hx => by
    rcases List.mem_cons.1 hx with rfl | hx
    · exact hu
    · exact h.ints x hx⟩

theorem l_error (q : Int) (h : KnL w v ov ts zs L us U xs W) : Calls Tryd.prog 8 #[errV q, .int .i64 q] W fun e W' => e = .returned (.bool true) ∧ KnL w v ov ts zs L us U xs W' :=
  (error_any q q W h.typed).mono fun e W' ⟨he, hb⟩ => ⟨by rw [he]; simp, h.later hb⟩
theorem l_same {a b : Value} (h : KnL w v ov ts zs L us U xs W) (ha : RowS w.heap.size W a L) (hb : RowS w.heap.size W b L) (hl : L.length ≤ 30) : Calls Tryd.prog 9 #[a, b] W fun e W' => e = .returned (.bool true) ∧ KnL w v ov ts zs L us U xs W' :=
  (sameStays_any a b L _ _ W ha hb hl).mono fun e W' ⟨he, n, hn⟩ => ⟨he, h.later (by rw [hn]; exact ⟨rfl, rfl, rfl, Nat.le_refl _, fun _ _ => rfl⟩)⟩
theorem l_ends {a : Value} (h : KnL w v ov ts zs L us U xs W) (ha : RowS w.heap.size W a L) (hl : L.length ≤ 30) : Calls Tryd.prog 11 #[a] W fun e W' => e = .returned (.int .i64 (endsOf L : Nat)) ∧ KnL w v ov ts zs L us U xs W' :=
  (endsR_any a L _ W ha hl).mono fun e W' ⟨he, hn⟩ => ⟨he, by rw [hn]; exact h⟩
theorem l_ints {a b : Value} (h : KnL w v ov ts zs L us U xs W) (ha : IntsAt W a U) (hb : IntsAt W b U) : Calls Tryd.prog 14 #[a, b] W fun e W' => e = .returned (.bool true) ∧ KnL w v ov ts zs L us U xs W' :=
  (sameInts_any a b U U W ha hb).mono fun e W' ⟨he, n, hn⟩ => ⟨by rw [he]; simp, h.later (by rw [hn]; exact ⟨rfl, rfl, rfl, Nat.le_refl _, fun _ _ => rfl⟩)⟩
theorem l_none (h : KnL w v ov ts zs L us U xs W) : Calls Tryd.prog 14 #[.slice none 0 0, .slice none 0 0] W fun e W' => e = .returned (.bool true) ∧ KnL w v ov ts zs L us U xs W' :=
  (sameInts_any _ _ [] [] W ⟨by simp, _, _, rfl, Or.inl rfl⟩ ⟨by simp, _, _, rfl, Or.inl rfl⟩).mono fun e W' ⟨he, n, hn⟩ => ⟨by rw [he]; simp, h.later (by rw [hn]; exact ⟨rfl, rfl, rfl, Nat.le_refl _, fun _ _ => rfl⟩)⟩
theorem l_each {n : Nat} (h : KnL w v ov ts zs L us U xs W) (hcap : ∀ a m c, ov = .slice a m c → m ≤ c) (hn : n ≤ 30) : Calls Tryd.prog 5 #[.int .i64 n, ov] W fun e W' => e = .returned (.bool (decide (EachZ n zs))) ∧ KnL w v ov ts zs L us U xs W' :=
  (eachR_any ov zs n W h.order hcap hn).mono fun _ _ ⟨he, hb⟩ => ⟨he, h.later hb⟩
theorem l_runE {p q hands : Int} (hwf : ∀ x, x ∈ zs → (Lit.int .i64 x).wf = true) (hc : CheckIs ts p q) (hq : lErr q hands (decide (EachZ ts.length zs)) ≠ 0) (h : KnL w v ov ts zs L us U xs W) :
    Calls Tryd.prog 7 #[v, .int .i64 hands, ov] W fun e W' => e = .returned (.tuple #[.slice none 0 0, errV (lErr q hands (decide (EachZ ts.length zs)))]) ∧ KnL w v ov ts zs L us U xs W' :=
  (lrun_any v ov ts zs hands W h.plan h.order hwf).mono fun e W' ⟨he, hb⟩ => ⟨by
    rcases he with ⟨p', q', hc', _, rfl⟩ | ⟨hc', h1, h6, hez, _⟩
    · rw [(hc.det hc').2]
    · rw [(hc.det hc').2] at hq
      exact absurd (by unfold lErr; rw [if_pos rfl, if_neg (by omega), if_pos (decide_eq_true hez)]) hq, h.later hb⟩
theorem l_longE {p q hands : Int} (hwf : ∀ x, x ∈ zs → (Lit.int .i64 x).wf = true) (hc : CheckIs ts p q) (hq : lErr q hands (decide (EachZ ts.length zs)) ≠ 0) (h : KnL w v ov ts zs L us U xs W) :
    Calls Tryd.prog 10 #[v, .int .i64 hands, ov] W fun e W' => e = .returned (.tuple #[.int .i64 0, errV (lErr q hands (decide (EachZ ts.length zs)))]) ∧ KnL w v ov ts zs L us U xs W' :=
  (llong_any v ov ts zs hands W h.plan h.order hwf).mono fun e W' ⟨he, hb⟩ => ⟨by
    rcases he with ⟨p', q', hc', _, rfl⟩ | ⟨hc', h1, h6, hez, _⟩
    · rw [(hc.det hc').2]
    · rw [(hc.det hc').2] at hq
      exact absurd (by unfold lErr; rw [if_pos rfl, if_neg (by omega), if_pos (decide_eq_true hez)]) hq, h.later hb⟩
theorem lErr_none {hd : Nat} (h1 : 1 ≤ hd) (h6 : hd ≤ 6) {n : Nat} (hez : EachZ n zs) : lErr 0 (hd : Int) (decide (EachZ n zs)) = 0 := by
  unfold lErr
  rw [if_pos rfl, if_neg (by omega), if_pos (decide_eq_true hez)]
theorem l_run {hd : Nat} (hwf : ∀ x, x ∈ zs → (Lit.int .i64 x).wf = true) (hc : CheckIs ts 0 0) (h1 : 1 ≤ hd) (h6 : hd ≤ 6) (hez : EachZ ts.length zs) (h : KnL w v ov ts zs (listOut ts hd (natsOf zs)) us U xs W) :
    Calls Tryd.prog 7 #[v, .int .i64 hd, ov] W fun e W' => ∃ u, e = .returned (.tuple #[u, .nilIface]) ∧ KnL w v ov ts zs (listOut ts hd (natsOf zs)) (u :: us) U xs W' :=
  (lrun_any v ov ts zs hd W h.plan h.order hwf).mono fun e W' ⟨he, hb⟩ => by
    rcases he with ⟨p', q', hc', hq, _⟩ | ⟨_, _, _, _, u, rfl, hu⟩
    · rw [(hc'.det hc).2, lErr_none h1 h6 hez] at hq
      exact absurd rfl hq
    · rw [Int.toNat_natCast] at hu
      exact ⟨u, rfl, (h.later hb).put (hu.mono h.below.size)⟩
theorem l_long {hd : Nat} (hwf : ∀ x, x ∈ zs → (Lit.int .i64 x).wf = true) (hc : CheckIs ts 0 0) (h1 : 1 ≤ hd) (h6 : hd ≤ 6) (hez : EachZ ts.length zs) (h : KnL w v ov ts zs L us U xs W) :
    Calls Tryd.prog 10 #[v, .int .i64 hd, ov] W fun e W' => e = .returned (.tuple #[.int .i64 (endsOf (listOut ts hd (natsOf zs)) : Nat), .nilIface]) ∧ KnL w v ov ts zs L us U xs W' :=
  (llong_any v ov ts zs hd W h.plan h.order hwf).mono fun e W' ⟨he, hb⟩ => by
    rcases he with ⟨p', q', hc', hq, _⟩ | ⟨_, _, _, _, rfl⟩
    · rw [(hc'.det hc).2, lErr_none h1 h6 hez] at hq
      exact absurd rfl hq
    · rw [Int.toNat_natCast]
      exact ⟨rfl, h.later hb⟩
theorem l_listR {hd : Nat} (hc : CheckIs ts 0 0) (h1 : 1 ≤ hd) (h6 : hd ≤ 6) (hez : EachZ ts.length zs) (h : KnL w v ov ts zs (listOut ts hd (natsOf zs)) us U xs W) :
    Calls Tryd.prog 6 #[v, .int .i64 hd, ov] W fun e W' => ∃ u, e = .returned u ∧ KnL w v ov ts zs (listOut ts hd (natsOf zs)) (u :: us) U xs W' :=
  (listR_any v ov ts (natsOf zs) hd W h.plan (by rw [hez.nats.2]; exact h.order) hc hez.nats.1 h1 h6).mono fun e W' ⟨⟨u, he, hu⟩, hb⟩ => ⟨u, he, (h.later hb).put (hu.mono h.below.size)⟩
theorem l_urgE {p q : Int} (hc : CheckIs ts p q) (hq : q ≠ 0) (h : KnL w v ov ts zs L us U xs W) : Calls Tryd.prog 13 #[v] W fun e W' => e = .returned (.tuple #[.slice none 0 0, errV q]) ∧ KnL w v ov ts zs L us U xs W' :=
  (urgent_any v ts W h.plan).mono fun e W' ⟨he, hb⟩ => ⟨by
    rcases he with ⟨p', q', _, hc', rfl⟩ | ⟨hc', _⟩
    · rw [(hc.det hc').2]
    · exact absurd (hc.det hc').2 hq, h.later hb⟩
theorem l_urg {ord : List Nat} (hc : CheckIs ts 0 0) (ho : OrdIs ts ord) (h : KnL w v ov ts zs L us (intsOf (urgTo (tailsOf ts ord) ts.length)) xs W) :
    Calls Tryd.prog 13 #[v] W fun e W' => ∃ u, e = .returned (.tuple #[u, .nilIface]) ∧ KnL w v ov ts zs L us (intsOf (urgTo (tailsOf ts ord) ts.length)) (u :: xs) W' :=
  (urgent_any v ts W h.plan).mono fun e W' ⟨he, hb⟩ => by
    rcases he with ⟨p', q', hq, hc', _⟩ | ⟨_, ord', l, B, ho', hu, rfl, _, hrow⟩
    · exact absurd (hc'.det hc).2 hq
    · rw [← OrdIs.det ho ho' hc] at hu
      have hl := hu.det (urgTo_is _ _)
      have hin := row_ints (c := ts.length) hrow (by have := hc.works.1.1; omega)
      rw [list_ints hu.length, hl] at hin
      exact ⟨_, rfl, (h.later hb).putI hin⟩
theorem l_urgR {ord : List Nat} (hc : CheckIs ts 0 0) (ho : OrdIs ts ord) (h : KnL w v ov ts zs L us (intsOf (urgTo (tailsOf ts ord) ts.length)) xs W) :
    Calls Tryd.prog 12 #[v] W fun e W' => ∃ u, e = .returned u ∧ KnL w v ov ts zs L us (intsOf (urgTo (tailsOf ts ord) ts.length)) (u :: xs) W' :=
  (urgentR_any v ts W h.plan hc).mono fun e W' ⟨⟨ord', u, ho', he, hu⟩, hb⟩ => ⟨u, he, (h.later hb).putI (by
    rw [← OrdIs.det ho ho' hc] at hu
    exact hu.ints (by rw [intsOf_length, (urgTo_is _ _).length]; have := hc.works.1.1; omega))⟩
theorem ord_exists (hp : PlanAt W v ts) (hc : CheckIs ts 0 0) : ∃ ord, OrdIs ts ord := by
  obtain ⟨e, w', fr, ⟨⟨ord, ov, ho, _⟩, _⟩, _⟩ := urgentR_any v ts W hp hc []
  exact ⟨ord, ho⟩
end
theorem IntsAt.shape {w : World} {v : Value} {zs : List Int} (h : IntsAt w v zs) : ∃ a c, v = .slice a zs.length c := by
  obtain ⟨_, a, c, hv, _⟩ := h
  exact ⟨a, c, hv⟩

set_option maxRecDepth 100000 in
set_option maxHeartbeats 8000000 in
theorem listTells_any (v ov : Value) (ts : List (Int × List Int)) (zs : List Int) (hands : Int) (w : World) (hp : PlanAt w v ts) (ho : IntsAt w ov zs) (hwf : ∀ x, x ∈ zs → (Lit.int .i64 x).wf = true) (hcap : ∀ a m c, ov = .slice a m c → m ≤ c) (hg : Typed w) :
    Calls Tryd.prog 3 #[v, .int .i64 hands, ov] w fun e w' => e = .returned (.bool true) ∧ Below w.heap.size w w' := by
  have hr := rightR_any v ts w hp
  have HP : Hid (PlanAt w v ts) := hp
  have HO : Hid (IntsAt w ov zs) := ho
  have HG : Hid (Typed w) := hg
  obtain ⟨hl, a, c, rfl, -⟩ := hp
  obtain ⟨hol, oa, oc, rfl, -⟩ := ho
  clear hg
  go_enter Tryd.func3, Tryd.ntmps3
  go_wp2_with fail
  refine hr.mono ?_
  rintro e w1 ⟨⟨p, q, rfl, hc⟩, hb1⟩
  clear hr
  have hK0 : ∀ L U, KnL w (.slice a ts.length c) (.slice oa zs.length oc) ts zs L [] U [] w1 := fun L U => ⟨hb1, HG.out.later hb1, HP.out.later hb1, HO.out.later hb1, fun u hu => (nomatch hu), fun u hu => (nomatch hu)⟩
  by_cases e0 : q = 0
  · subst e0
    obtain ⟨rfl, -⟩ := hc.ok rfl
    obtain ⟨ord, hord⟩ := ord_exists HP.out hc
    have h30 := hc.works.1.1
    by_cases hbad : hands < 1 ∨ 6 < hands
    · have hE : lErr 0 hands (decide (EachZ ts.length zs)) = 1 := by unfold lErr; rw [if_pos rfl, if_pos hbad]
      have hne : lErr 0 hands (decide (EachZ ts.length zs)) ≠ 0 := by rw [hE]; decide
      have hK := hK0 [] (intsOf (urgTo (tailsOf ts ord) ts.length))
      have c7 := fun W (h : KnL w (.slice a ts.length c) (.slice oa zs.length oc) ts zs [] [] (intsOf (urgTo (tailsOf ts ord) ts.length)) [] W) => l_runE (hands := hands) hwf hc hne h
      have c8a := fun W (h : KnL w (.slice a ts.length c) (.slice oa zs.length oc) ts zs [] [] (intsOf (urgTo (tailsOf ts ord) ts.length)) [] W) => l_error 1 h
      have c8b := c8a
      have c8c := fun W xs (h : KnL w (.slice a ts.length c) (.slice oa zs.length oc) ts zs [] [] (intsOf (urgTo (tailsOf ts ord) ts.length)) xs W) => l_error 0 h
      have c9 := fun W (h : KnL w (.slice a ts.length c) (.slice oa zs.length oc) ts zs [] [] (intsOf (urgTo (tailsOf ts ord) ts.length)) [] W) => l_same h (RowS.nil _ W) (RowS.nil _ W) (by simp)
      have c10 := fun W (h : KnL w (.slice a ts.length c) (.slice oa zs.length oc) ts zs [] [] (intsOf (urgTo (tailsOf ts ord) ts.length)) [] W) => l_longE (hands := hands) hwf hc hne h
      have c11 := fun W (h : KnL w (.slice a ts.length c) (.slice oa zs.length oc) ts zs [] [] (intsOf (urgTo (tailsOf ts ord) ts.length)) [] W) => l_ends h (RowS.nil _ W) (by simp)
      have c12 := fun W (h : KnL w (.slice a ts.length c) (.slice oa zs.length oc) ts zs [] [] (intsOf (urgTo (tailsOf ts ord) ts.length)) [] W) => l_urgR hc hord h
      have c13 := fun W xs (h : KnL w (.slice a ts.length c) (.slice oa zs.length oc) ts zs [] [] (intsOf (urgTo (tailsOf ts ord) ts.length)) xs W) => l_urg hc hord h
      have c14 := fun W x y (h : KnL w (.slice a ts.length c) (.slice oa zs.length oc) ts zs [] [] (intsOf (urgTo (tailsOf ts ord) ts.length)) [x, y] W) => l_ints h (h.ints x (.head _)) (h.ints y (.tail _ (.head _)))
      clear hcap
      rw [hE] at c7 c10
      rw [errV_zero] at c8c
      have h00 : ((endsOf ([] : List Sty) : Nat) : Int) = 0 := rfl
      rw [h00] at c11
      clear hE hne hc hb1 hK0 hwf h00 hord
      generalize errV 1 = ev at *
      generalize intsOf (urgTo (tailsOf ts ord) ts.length) = U at *
      rcases hbad with e1 | e2
      all_goals
        go_wp2_with (first
          | (go_at_call 7; refine (c7 _ hK).mono ?_; clear hK; rintro e w' ⟨rfl, hK⟩)
          | (go_at_call 8; refine (c8a _ hK).mono ?_; clear hK c8a; rintro e w' ⟨rfl, hK⟩)
          | (go_at_call 8; refine (c8b _ hK).mono ?_; clear hK c8b; rintro e w' ⟨rfl, hK⟩)
          | (go_at_call 8; refine (c8c _ _ hK).mono ?_; clear hK; rintro e w' ⟨rfl, hK⟩)
          | (go_at_call 9; refine (c9 _ hK).mono ?_; clear hK; rintro e w' ⟨rfl, hK⟩)
          | (go_at_call 10; refine (c10 _ hK).mono ?_; clear hK; rintro e w' ⟨rfl, hK⟩)
          | (go_at_call 11; refine (c11 _ hK).mono ?_; clear hK; rintro e w' ⟨rfl, hK⟩)
          | (go_at_call 12; refine (c12 _ hK).mono ?_; clear hK; rintro e w' ⟨y, rfl, hK⟩; obtain ⟨ya, yc, rfl⟩ := (hK.ints y (.head _)).shape)
          | (go_at_call 13; refine (c13 _ _ hK).mono ?_; clear hK; rintro e w' ⟨x, rfl, hK⟩; obtain ⟨xa, xc, rfl⟩ := (hK.ints x (.head _)).shape)
          | (go_at_call 14; refine (c14 _ _ _ hK).mono ?_; clear hK; rintro e w' ⟨rfl, hK⟩))
        go_ret
        exact ⟨rfl, hK.below⟩
    · obtain ⟨hd, rfl⟩ := Int.eq_ofNat_of_zero_le (show 0 ≤ hands by omega)
      have n1 : 1 ≤ hd := by omega
      have n6 : hd ≤ 6 := by omega
      have e1 : ¬ (hd : Int) < 1 := by omega
      have e2 : ¬ (6 : Int) < (hd : Int) := by omega
      clear hbad
      by_cases hez : EachZ ts.length zs
      · have hK := hK0 (listOut ts hd (natsOf zs)) (intsOf (urgTo (tailsOf ts ord) ts.length))
        have hll : (listOut ts hd (natsOf zs)).length ≤ 30 := by
          have := (outAt_laid (h := hd) hez.nats.1.2.2 hez.nats.1.all hc.works.2.1 601).1.len
          unfold listOut
          omega
        have c5 := fun W (h : KnL w (.slice a ts.length c) (.slice oa zs.length oc) ts zs (listOut ts hd (natsOf zs)) [] (intsOf (urgTo (tailsOf ts ord) ts.length)) [] W) => l_each (n := ts.length) h hcap h30
        have c6 := fun W (h : KnL w (.slice a ts.length c) (.slice oa zs.length oc) ts zs (listOut ts hd (natsOf zs)) [] (intsOf (urgTo (tailsOf ts ord) ts.length)) [] W) => l_listR hc n1 n6 hez h
        have c7 := fun W us (h : KnL w (.slice a ts.length c) (.slice oa zs.length oc) ts zs (listOut ts hd (natsOf zs)) us (intsOf (urgTo (tailsOf ts ord) ts.length)) [] W) => l_run hwf hc n1 n6 hez h
        have c8 := fun W us xs (h : KnL w (.slice a ts.length c) (.slice oa zs.length oc) ts zs (listOut ts hd (natsOf zs)) us (intsOf (urgTo (tailsOf ts ord) ts.length)) xs W) => l_error 0 h
        have c9 := fun W u x (h : KnL w (.slice a ts.length c) (.slice oa zs.length oc) ts zs (listOut ts hd (natsOf zs)) [u, x] (intsOf (urgTo (tailsOf ts ord) ts.length)) [] W) => l_same h (h.stays u (.head _)) (h.stays x (.tail _ (.head _))) hll
        have c10 := fun W us (h : KnL w (.slice a ts.length c) (.slice oa zs.length oc) ts zs (listOut ts hd (natsOf zs)) us (intsOf (urgTo (tailsOf ts ord) ts.length)) [] W) => l_long hwf hc n1 n6 hez h
        have c11 := fun W u x (h : KnL w (.slice a ts.length c) (.slice oa zs.length oc) ts zs (listOut ts hd (natsOf zs)) [u, x] (intsOf (urgTo (tailsOf ts ord) ts.length)) [] W) => l_ends h (h.stays x (.tail _ (.head _))) hll
        have c12 := fun W us (h : KnL w (.slice a ts.length c) (.slice oa zs.length oc) ts zs (listOut ts hd (natsOf zs)) us (intsOf (urgTo (tailsOf ts ord) ts.length)) [] W) => l_urgR hc hord h
        have c13 := fun W us xs (h : KnL w (.slice a ts.length c) (.slice oa zs.length oc) ts zs (listOut ts hd (natsOf zs)) us (intsOf (urgTo (tailsOf ts ord) ts.length)) xs W) => l_urg hc hord h
        have c14 := fun W us x y (h : KnL w (.slice a ts.length c) (.slice oa zs.length oc) ts zs (listOut ts hd (natsOf zs)) us (intsOf (urgTo (tailsOf ts ord) ts.length)) [x, y] W) => l_ints h (h.ints x (.head _)) (h.ints y (.tail _ (.head _)))
        rw [decide_eq_true hez] at c5
        rw [errV_zero] at c8
        have HEZ : Hid (EachZ ts.length zs) := hez
        clear hez hc hb1 hK0 hwf hord hcap hll
        generalize intsOf (urgTo (tailsOf ts ord) ts.length) = U at *
        generalize listOut ts hd (natsOf zs) = L at *
        go_wp2_with (first
          | (go_at_call 5; refine (c5 _ hK).mono ?_; clear hK; rintro e w' ⟨rfl, hK⟩)
          | (go_at_call 6; refine (c6 _ hK).mono ?_; clear hK; rintro e w' ⟨x, rfl, hK⟩; obtain ⟨xa, xc, rfl⟩ := (hK.stays x (.head _)).shape)
          | (go_at_call 7; refine (c7 _ _ hK).mono ?_; clear hK; rintro e w' ⟨u, rfl, hK⟩; obtain ⟨ua, uc, rfl⟩ := (hK.stays u (.head _)).shape)
          | (go_at_call 8; refine (c8 _ _ _ hK).mono ?_; clear hK; rintro e w' ⟨rfl, hK⟩)
          | (go_at_call 9; refine (c9 _ _ _ hK).mono ?_; clear hK; rintro e w' ⟨rfl, hK⟩)
          | (go_at_call 10; refine (c10 _ _ hK).mono ?_; clear hK; rintro e w' ⟨rfl, hK⟩)
          | (go_at_call 11; refine (c11 _ _ _ hK).mono ?_; clear hK; rintro e w' ⟨rfl, hK⟩)
          | (go_at_call 12; refine (c12 _ _ hK).mono ?_; clear hK; rintro e w' ⟨y, rfl, hK⟩; obtain ⟨ya, yc, rfl⟩ := (hK.ints y (.head _)).shape)
          | (go_at_call 13; refine (c13 _ _ _ hK).mono ?_; clear hK; rintro e w' ⟨z, rfl, hK⟩; obtain ⟨za, zc, rfl⟩ := (hK.ints z (.head _)).shape)
          | (go_at_call 14; refine (c14 _ _ _ _ hK).mono ?_; clear hK; rintro e w' ⟨rfl, hK⟩))
        go_ret
        exact ⟨rfl, hK.below⟩
      · have hE : lErr 0 (hd : Int) (decide (EachZ ts.length zs)) = 3 := by unfold lErr; rw [if_pos rfl, if_neg (by omega), if_neg (by simp [hez])]
        have hne : lErr 0 (hd : Int) (decide (EachZ ts.length zs)) ≠ 0 := by rw [hE]; decide
        have hK := hK0 [] (intsOf (urgTo (tailsOf ts ord) ts.length))
        have c7 := fun W (h : KnL w (.slice a ts.length c) (.slice oa zs.length oc) ts zs [] [] (intsOf (urgTo (tailsOf ts ord) ts.length)) [] W) => l_runE (hands := (hd : Int)) hwf hc hne h
        have c8a := fun W (h : KnL w (.slice a ts.length c) (.slice oa zs.length oc) ts zs [] [] (intsOf (urgTo (tailsOf ts ord) ts.length)) [] W) => l_error 3 h
        have c8b := c8a
        have c8c := fun W xs (h : KnL w (.slice a ts.length c) (.slice oa zs.length oc) ts zs [] [] (intsOf (urgTo (tailsOf ts ord) ts.length)) xs W) => l_error 0 h
        have c9 := fun W (h : KnL w (.slice a ts.length c) (.slice oa zs.length oc) ts zs [] [] (intsOf (urgTo (tailsOf ts ord) ts.length)) [] W) => l_same h (RowS.nil _ W) (RowS.nil _ W) (by simp)
        have c10 := fun W (h : KnL w (.slice a ts.length c) (.slice oa zs.length oc) ts zs [] [] (intsOf (urgTo (tailsOf ts ord) ts.length)) [] W) => l_longE (hands := (hd : Int)) hwf hc hne h
        have c11 := fun W (h : KnL w (.slice a ts.length c) (.slice oa zs.length oc) ts zs [] [] (intsOf (urgTo (tailsOf ts ord) ts.length)) [] W) => l_ends h (RowS.nil _ W) (by simp)
        have c12 := fun W (h : KnL w (.slice a ts.length c) (.slice oa zs.length oc) ts zs [] [] (intsOf (urgTo (tailsOf ts ord) ts.length)) [] W) => l_urgR hc hord h
        have c13 := fun W xs (h : KnL w (.slice a ts.length c) (.slice oa zs.length oc) ts zs [] [] (intsOf (urgTo (tailsOf ts ord) ts.length)) xs W) => l_urg hc hord h
        have c14 := fun W x y (h : KnL w (.slice a ts.length c) (.slice oa zs.length oc) ts zs [] [] (intsOf (urgTo (tailsOf ts ord) ts.length)) [x, y] W) => l_ints h (h.ints x (.head _)) (h.ints y (.tail _ (.head _)))
        have c5 := fun W (h : KnL w (.slice a ts.length c) (.slice oa zs.length oc) ts zs [] [] (intsOf (urgTo (tailsOf ts ord) ts.length)) [] W) => l_each (n := ts.length) h hcap h30
        rw [decide_eq_false hez] at c5
        have HEZ : Hid (¬ EachZ ts.length zs) := hez
        clear hez hcap
        rw [hE] at c7 c10
        rw [errV_zero] at c8c
        have h00 : ((endsOf ([] : List Sty) : Nat) : Int) = 0 := rfl
        rw [h00] at c11
        clear hE hne hc hb1 hK0 hwf h00 hord
        generalize errV 3 = ev at *
        generalize intsOf (urgTo (tailsOf ts ord) ts.length) = U at *
        go_wp2_with (first
            | (go_at_call 5; refine (c5 _ hK).mono ?_; clear hK; rintro e w' ⟨rfl, hK⟩)
            | (go_at_call 7; refine (c7 _ hK).mono ?_; clear hK; rintro e w' ⟨rfl, hK⟩)
            | (go_at_call 8; refine (c8a _ hK).mono ?_; clear hK c8a; rintro e w' ⟨rfl, hK⟩)
            | (go_at_call 8; refine (c8b _ hK).mono ?_; clear hK c8b; rintro e w' ⟨rfl, hK⟩)
            | (go_at_call 8; refine (c8c _ _ hK).mono ?_; clear hK; rintro e w' ⟨rfl, hK⟩)
            | (go_at_call 9; refine (c9 _ hK).mono ?_; clear hK; rintro e w' ⟨rfl, hK⟩)
            | (go_at_call 10; refine (c10 _ hK).mono ?_; clear hK; rintro e w' ⟨rfl, hK⟩)
            | (go_at_call 11; refine (c11 _ hK).mono ?_; clear hK; rintro e w' ⟨rfl, hK⟩)
            | (go_at_call 12; refine (c12 _ hK).mono ?_; clear hK; rintro e w' ⟨y, rfl, hK⟩; obtain ⟨ya, yc, rfl⟩ := (hK.ints y (.head _)).shape)
            | (go_at_call 13; refine (c13 _ _ hK).mono ?_; clear hK; rintro e w' ⟨x, rfl, hK⟩; obtain ⟨xa, xc, rfl⟩ := (hK.ints x (.head _)).shape)
            | (go_at_call 14; refine (c14 _ _ _ hK).mono ?_; clear hK; rintro e w' ⟨rfl, hK⟩))
        go_ret
        exact ⟨rfl, hK.below⟩
  · have hE : lErr q hands (decide (EachZ ts.length zs)) = q := by unfold lErr; rw [if_neg e0]
    have hne : lErr q hands (decide (EachZ ts.length zs)) ≠ 0 := by rw [hE]; exact e0
    have hK := hK0 [] []
    have c7 := fun W (h : KnL w (.slice a ts.length c) (.slice oa zs.length oc) ts zs [] [] [] [] W) => l_runE (hands := hands) hwf hc hne h
    have c8 := fun W (h : KnL w (.slice a ts.length c) (.slice oa zs.length oc) ts zs [] [] [] [] W) => l_error q h
    have c9 := fun W (h : KnL w (.slice a ts.length c) (.slice oa zs.length oc) ts zs [] [] [] [] W) => l_same h (RowS.nil _ W) (RowS.nil _ W) (by simp)
    have c10 := fun W (h : KnL w (.slice a ts.length c) (.slice oa zs.length oc) ts zs [] [] [] [] W) => l_longE (hands := hands) hwf hc hne h
    have c11 := fun W (h : KnL w (.slice a ts.length c) (.slice oa zs.length oc) ts zs [] [] [] [] W) => l_ends h (RowS.nil _ W) (by simp)
    have c13 := fun W (h : KnL w (.slice a ts.length c) (.slice oa zs.length oc) ts zs [] [] [] [] W) => l_urgE hc e0 h
    have c14 := fun W (h : KnL w (.slice a ts.length c) (.slice oa zs.length oc) ts zs [] [] [] [] W) => l_none h
    rw [hE] at c7 c10
    have hqf : (q == 0) = false := by simp [e0]
    have h00 : ((endsOf ([] : List Sty) : Nat) : Int) = 0 := rfl
    rw [h00] at c11
    clear hE hne hc hb1 hK0 hwf hcap h00
    generalize errV q = ev at *
    go_wp2_with (first
      | (go_at_call 7; refine (c7 _ hK).mono ?_; clear hK; rintro e w' ⟨rfl, hK⟩)
      | (go_at_call 8; refine (c8 _ hK).mono ?_; clear hK; rintro e w' ⟨rfl, hK⟩)
      | (go_at_call 9; refine (c9 _ hK).mono ?_; clear hK; rintro e w' ⟨rfl, hK⟩)
      | (go_at_call 10; refine (c10 _ hK).mono ?_; clear hK; rintro e w' ⟨rfl, hK⟩)
      | (go_at_call 11; refine (c11 _ hK).mono ?_; clear hK; rintro e w' ⟨rfl, hK⟩)
      | (go_at_call 13; refine (c13 _ hK).mono ?_; clear hK; rintro e w' ⟨rfl, hK⟩)
      | (go_at_call 14; refine (c14 _ hK).mono ?_; clear hK; rintro e w' ⟨rfl, hK⟩))
    go_ret
    exact ⟨rfl, hK.below⟩
end Go.Proofs.YtlfebnaghoeddaaDoor
