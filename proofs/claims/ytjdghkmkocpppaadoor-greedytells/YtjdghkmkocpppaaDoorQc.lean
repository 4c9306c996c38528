/- GreedyTells answers true. -/
import Derived.Test.YtjdghkmkocpppaaDoorQb
import Derived.Test.YtjdghkmkocpppaaDoorI
import Derived.Test.YtjdghkmkocpppaaDoorRh
namespace Go.Proofs.YtjdghkmkocpppaaDoor
open Go.RowKit Go.Deep

/-- What stays known between the calls: the plan, the variable, and rows that read as these bits. -/
structure KnG (w : World) (v : Value) (ts : List (Int × List Int)) (B : List (Nat × Nat × Nat)) (us : List Value) (W : World) : Prop where
  below : Below w.heap.size w W
  typed : Typed W
  plan : PlanAt W v ts
  bits : ∀ u, u ∈ us → RowB w.heap.size W u B
theorem KnG.later {w : World} {v : Value} {ts : List (Int × List Int)} {B : List (Nat × Nat × Nat)} {us : List Value} {W W' : World} (h : KnG w v ts B us W) (hb : Below W.heap.size W W') : KnG w v ts B us W' :=
  ⟨h.below.trans (hb.mono h.below.size), h.typed.later hb, h.plan.later hb, fun u hu => (h.bits u hu).later hb⟩
theorem KnG.put {w : World} {v : Value} {ts : List (Int × List Int)} {B : List (Nat × Nat × Nat)} {us : List Value} {W : World} {u : Value} (h : KnG w v ts B us W) (hu : RowB w.heap.size W u B) : KnG w v ts B (u :: us) W :=
  ⟨h.below, h.typed, h.plan, fun x hx => by
    rcases List.mem_cons.1 hx with rfl | hx
    · exact hu
    · exact h.bits x hx⟩

section
variable {w : World} {v : Value} {ts : List (Int × List Int)} {B : List (Nat × Nat × Nat)} {us : List Value} {W : World}

theorem g_error (q : Int) (h : KnG w v ts B us W) : Calls Tryd.prog 10 #[errV q, .int .i64 q] W fun e W' => e = .returned (.bool true) ∧ KnG w v ts B us W' :=
  (error_any q q W h.typed).mono fun e W' ⟨he, hb⟩ => ⟨by rw [he]; simp, h.later hb⟩
theorem g_same {a b : Value} (h : KnG w v ts B us W) (ha : RowB w.heap.size W a B) (hb : RowB w.heap.size W b B) (hl : B.length ≤ 600) : Calls Tryd.prog 11 #[a, b] W fun e W' => e = .returned (.bool true) ∧ KnG w v ts B us W' :=
  (sameBits_any a b B _ _ W ha hb hl).mono fun e W' ⟨he, n, hn⟩ => ⟨he, h.later (by rw [hn]; exact ⟨rfl, rfl, rfl, Nat.le_refl _, fun _ _ => rfl⟩)⟩

theorem g_runE {p q hands : Int} (hc : CheckIs ts p q) (hq : gErr q hands ≠ 0) (h : KnG w v ts B us W) : Calls Tryd.prog 9 #[v, .int .i64 hands] W fun e W' => e = .returned (.tuple #[.slice none 0 0, errV (gErr q hands)]) ∧ KnG w v ts B us W' :=
  (run_any v ts hands W h.plan).mono fun e W' ⟨he, hb⟩ => ⟨by
    rcases he with ⟨p', q', hc', _, rfl⟩ | ⟨hc', h1, h6, _⟩
    · rw [(hc.det hc').2]
    · rw [(hc.det hc').2] at hq
      exact absurd (by unfold gErr; rw [if_pos rfl, if_neg (by omega)]) hq, h.later hb⟩
theorem g_longE {p q hands : Int} (hc : CheckIs ts p q) (hq : gErr q hands ≠ 0) (h : KnG w v ts B us W) : Calls Tryd.prog 12 #[v, .int .i64 hands] W fun e W' => e = .returned (.tuple #[.int .i64 0, errV (gErr q hands)]) ∧ KnG w v ts B us W' :=
  (long_any v ts hands W h.plan).mono fun e W' ⟨he, hb⟩ => ⟨by
    rcases he with ⟨p', q', hc', _, rfl⟩ | ⟨hc', h1, h6, _⟩
    · rw [(hc.det hc').2]
    · rw [(hc.det hc').2] at hq
      exact absurd (by unfold gErr; rw [if_pos rfl, if_neg (by omega)]) hq, h.later hb⟩
theorem g_boundE {p q hands : Int} (hc : CheckIs ts p q) (hq : gErr q hands ≠ 0) (h : KnG w v ts B us W) : Calls Tryd.prog 13 #[v, .int .i64 hands] W fun e W' => e = .returned (.tuple #[.int .i64 0, errV (gErr q hands)]) ∧ KnG w v ts B us W' :=
  (bound_any v ts hands W h.plan).mono fun e W' ⟨he, hb⟩ => ⟨by
    rcases he with ⟨p', q', hc', _, rfl⟩ | ⟨hc', h1, h6, _⟩
    · rw [(hc.det hc').2]
    · rw [(hc.det hc').2] at hq
      exact absurd (by unfold gErr; rw [if_pos rfl, if_neg (by omega)]) hq, h.later hb⟩

theorem gErr_none {hd : Nat} (h1 : 1 ≤ hd) (h6 : hd ≤ 6) : gErr 0 (hd : Int) = 0 := by
  unfold gErr
  rw [if_pos rfl, if_neg (by omega)]

theorem g_greedyR {hd s : Nat} (hc : CheckIs ts 0 0) (h1 : 1 ≤ hd) (h6 : hd ≤ 6) (hs : Stops ts hd s) (h : KnG w v ts (bitsTo ts hd s) us W) : Calls Tryd.prog 5 #[v, .int .i64 hd] W fun e W' => ∃ u, e = .returned u ∧ KnG w v ts (bitsTo ts hd s) (u :: us) W' :=
  (greedyR_any v ts hd W h.plan hc h1 h6).mono fun e W' ⟨⟨u, he, hu⟩, hb⟩ => ⟨u, he, (h.later hb).put (by
    rw [hs.at_end (k := 601) (by have := hs.le hc.works.1 h1; omega)] at hu
    exact hu.mono h.below.size)⟩
theorem g_stepsR {hd s : Nat} {u : Value} (hc : CheckIs ts 0 0) (h1 : 1 ≤ hd) (hs : Stops ts hd s) (h : KnG w v ts (bitsTo ts hd s) (u :: us) W) : Calls Tryd.prog 6 #[u] W fun e W' => e = .returned (.int .i64 s) ∧ KnG w v ts (bitsTo ts hd s) (u :: us) W' :=
  (stepsR_any u _ _ W (h.bits u (.head _)) (fun b hb => by
    have key : ∀ k, k ≤ s → ∀ b, b ∈ bitsTo ts hd k → b.1 ≤ 600 := by
      intro k
      induction k with
      | zero => intro _ b hb; cases hb
      | succ k ih =>
        intro hk b hb
        have hb : b ∈ bitsTo ts hd k ++ bitsOf k (nowL ts hd (leftAt ts hd k)) := hb
        rcases List.mem_append.1 hb with hb | hb
        · exact ih (by omega) b hb
        · have := bitsOf_step hb
          have := hs.le hc.works.1 h1
          omega
    exact key s (Nat.le_refl _) b hb) (bits_len hc.works.1 hd s)).mono fun e W' ⟨he, hW⟩ => ⟨by rw [he, hs.1.steps h1], by rw [hW]; exact h⟩
theorem g_workR (hc : CheckIs ts 0 0) (h : KnG w v ts B us W) : Calls Tryd.prog 7 #[v] W fun e W' => e = .returned (.int .i64 (workTo ts ts.length)) ∧ KnG w v ts B us W' :=
  (workR_any v ts W h.plan hc).mono fun _ _ ⟨he, hb⟩ => ⟨he, h.later hb⟩
theorem g_spanR {ord : List Nat} (hc : CheckIs ts 0 0) (ho : OrdIs ts ord) (h : KnG w v ts B us W) : Calls Tryd.prog 8 #[v] W fun e W' => e = .returned (.int .i64 (maxTo (tailsOf ts ord) ts.length)) ∧ KnG w v ts B us W' :=
  (spanR_any v ts W h.plan hc).mono fun e W' ⟨⟨ord', ho', he⟩, hb⟩ => ⟨by rw [he, OrdIs.det ho ho' hc], h.later hb⟩
theorem ord_exists (hp : PlanAt W v ts) (hc : CheckIs ts 0 0) : ∃ ord, OrdIs ts ord := by
  obtain ⟨e, w', fr, ⟨⟨ord, ho, _⟩, _⟩, _⟩ := spanR_any v ts W hp hc []
  exact ⟨ord, ho⟩
theorem g_run {hd s : Nat} (hc : CheckIs ts 0 0) (h1 : 1 ≤ hd) (h6 : hd ≤ 6) (hs : Stops ts hd s) (h : KnG w v ts (bitsTo ts hd s) us W) : Calls Tryd.prog 9 #[v, .int .i64 hd] W fun e W' => ∃ u, e = .returned (.tuple #[u, .nilIface]) ∧ KnG w v ts (bitsTo ts hd s) (u :: us) W' :=
  (run_any v ts hd W h.plan).mono fun e W' ⟨he, hb⟩ => by
    rcases he with ⟨p', q', hc', hq, _⟩ | ⟨_, _, _, s', u, hs', rfl, hu⟩
    · rw [(hc'.det hc).2, gErr_none h1 h6] at hq
      exact absurd rfl hq
    · rw [Int.toNat_natCast] at hs' hu
      rw [hs'.det hs] at hu
      exact ⟨u, rfl, (h.later hb).put (hu.mono h.below.size)⟩
theorem g_long {hd s : Nat} (hc : CheckIs ts 0 0) (h1 : 1 ≤ hd) (h6 : hd ≤ 6) (hs : Stops ts hd s) (h : KnG w v ts B us W) : Calls Tryd.prog 12 #[v, .int .i64 hd] W fun e W' => e = .returned (.tuple #[.int .i64 s, .nilIface]) ∧ KnG w v ts B us W' :=
  (long_any v ts hd W h.plan).mono fun e W' ⟨he, hb⟩ => ⟨by
    rcases he with ⟨p', q', hc', hq, _⟩ | ⟨_, _, _, s', hs', rfl⟩
    · rw [(hc'.det hc).2, gErr_none h1 h6] at hq
      exact absurd rfl hq
    · rw [Int.toNat_natCast] at hs'
      rw [hs'.det hs], h.later hb⟩
theorem g_bound {hd : Nat} {ord : List Nat} (hc : CheckIs ts 0 0) (h1 : 1 ≤ hd) (h6 : hd ≤ 6) (ho : OrdIs ts ord) (h : KnG w v ts B us W) : Calls Tryd.prog 13 #[v, .int .i64 hd] W fun e W' => e = .returned (.tuple #[.int .i64 ((workTo ts ts.length + ((hd : Int) - 1) * maxTo (tailsOf ts ord) ts.length) / (hd : Int)), .nilIface]) ∧ KnG w v ts B us W' :=
  (bound_any v ts hd W h.plan).mono fun e W' ⟨he, hb⟩ => ⟨by
    rcases he with ⟨p', q', hc', hq, _⟩ | ⟨_, _, _, ord', ho', rfl⟩
    · rw [(hc'.det hc).2, gErr_none h1 h6] at hq
      exact absurd rfl hq
    · rw [OrdIs.det ho ho' hc], h.later hb⟩
end

set_option maxRecDepth 100000 in
set_option maxHeartbeats 8000000 in
theorem greedyTells_any (v : Value) (ts : List (Int × List Int)) (hands : Int) (w : World) (hp : PlanAt w v ts) (hg : Typed w) :
    Calls Tryd.prog 3 #[v, .int .i64 hands] w fun e w' => e = .returned (.bool true) ∧ Below w.heap.size w w' := by
  have hr := rightR_any v ts w hp
  have HP : Hid (PlanAt w v ts) := hp
  have HG : Hid (Typed w) := hg
  obtain ⟨hl, a, c, rfl, -⟩ := hp
  clear hg
  go_enter Tryd.func3, Tryd.ntmps3
  go_wp2_with fail
  refine hr.mono ?_
  rintro e w1 ⟨⟨p, q, rfl, hc⟩, hb1⟩
  clear hr
  by_cases hE : gErr q hands = 0
  · obtain ⟨rfl, h1, h6⟩ := gErr_zero hE
    obtain ⟨rfl, -⟩ := hc.ok rfl
    obtain ⟨hd, rfl⟩ := Int.eq_ofNat_of_zero_le (show 0 ≤ hands by omega)
    have n1 : 1 ≤ hd := by omega
    have n6 : hd ≤ 6 := by omega
    obtain ⟨s, hs⟩ := stops_exists hc.works.1 n1
    obtain ⟨ord, ho⟩ := ord_exists HP.out hc
    have hK : KnG w (.slice a ts.length c) ts (bitsTo ts hd s) [] w1 := ⟨hb1, HG.out.later hb1, HP.out.later hb1, fun u hu => by cases hu⟩
    have hwb := hc.works.1.all
    obtain ⟨hs0, hs1⟩ := span_bound hc ho
    obtain ⟨hm0, hm1⟩ := hands_mul h1 h6 hs0 hs1
    have hs6 := hs.le hc.works.1 n1
    have hbl := bits_len hc.works.1 hd s
    have c5 := fun W (h : KnG w (.slice a ts.length c) ts (bitsTo ts hd s) [] W) => g_greedyR hc n1 n6 hs h
    have c6 := fun W u (h : KnG w (.slice a ts.length c) ts (bitsTo ts hd s) [u] W) => g_stepsR hc n1 hs h
    have c7 := fun W us (h : KnG w (.slice a ts.length c) ts (bitsTo ts hd s) us W) => g_workR hc h
    have c8 := fun W us (h : KnG w (.slice a ts.length c) ts (bitsTo ts hd s) us W) => g_spanR hc ho h
    have c9 := fun W us (h : KnG w (.slice a ts.length c) ts (bitsTo ts hd s) us W) => g_run hc n1 n6 hs h
    have c10 := fun W us (h : KnG w (.slice a ts.length c) ts (bitsTo ts hd s) us W) => g_error 0 h
    have c11 := fun W u x (h : KnG w (.slice a ts.length c) ts (bitsTo ts hd s) [u, x] W) => g_same h (h.bits u (.head _)) (h.bits x (.tail _ (.head _))) hbl
    have c12 := fun W us (h : KnG w (.slice a ts.length c) ts (bitsTo ts hd s) us W) => g_long hc n1 n6 hs h
    have c13 := fun W us (h : KnG w (.slice a ts.length c) ts (bitsTo ts hd s) us W) => g_bound hc n1 n6 ho h
    rw [errV_zero] at c10
    clear hs ho hc hE hb1 hbl
    generalize bitsTo ts hd s = B at *
    generalize maxTo (tailsOf ts ord) ts.length = sp at *
    generalize workTo ts ts.length = wk at *
    generalize hmul : ((hd : Int) - 1) * sp = pr at *
    have e1 : ¬ (hd : Int) < 1 := by omega
    have e2 : ¬ (6 : Int) < (hd : Int) := by omega
    go_wp2_with (first
      | (go_at_call 5; refine (c5 _ hK).mono ?_; clear hK; rintro e w' ⟨u, rfl, hK⟩; obtain ⟨ua, uc, rfl⟩ := (hK.bits u (.head _)).shape)
      | (go_at_call 6; refine (c6 _ _ hK).mono ?_; clear hK; rintro e w' ⟨rfl, hK⟩)
      | (go_at_call 7; refine (c7 _ _ hK).mono ?_; clear hK; rintro e w' ⟨rfl, hK⟩)
      | (go_at_call 8; refine (c8 _ _ hK).mono ?_; clear hK; rintro e w' ⟨rfl, hK⟩)
      | (go_at_call 9; refine (c9 _ _ hK).mono ?_; clear hK; rintro e w' ⟨x, rfl, hK⟩; obtain ⟨xa, xc, rfl⟩ := (hK.bits x (.head _)).shape)
      | (go_at_call 10; refine (c10 _ _ hK).mono ?_; clear hK; rintro e w' ⟨rfl, hK⟩)
      | (go_at_call 11; refine (c11 _ _ _ hK).mono ?_; clear hK; rintro e w' ⟨rfl, hK⟩)
      | (go_at_call 12; refine (c12 _ _ hK).mono ?_; clear hK; rintro e w' ⟨rfl, hK⟩)
      | (go_at_call 13; refine (c13 _ _ hK).mono ?_; clear hK; rintro e w' ⟨rfl, hK⟩))
    go_ret
    exact ⟨rfl, hK.below⟩
  · have hK : KnG w (.slice a ts.length c) ts [] [] w1 := ⟨hb1, HG.out.later hb1, HP.out.later hb1, fun u hu => by cases hu⟩
    have c9 := fun W (h : KnG w (.slice a ts.length c) ts [] [] W) => g_runE hc hE h
    have c10 := fun W (h : KnG w (.slice a ts.length c) ts [] [] W) => g_error (gErr q hands) h
    have c11 := fun W (h : KnG w (.slice a ts.length c) ts [] [] W) => g_same h (RowB.nil _ W) (RowB.nil _ W) (by simp)
    have c12 := fun W (h : KnG w (.slice a ts.length c) ts [] [] W) => g_longE hc hE h
    have c13 := fun W (h : KnG w (.slice a ts.length c) ts [] [] W) => g_boundE hc hE h
    have hcase : (q = 0 ∧ hands < 1) ∨ (q = 0 ∧ ¬ hands < 1 ∧ 6 < hands) ∨ q ≠ 0 := by
      by_cases e0 : q = 0
      · subst e0
        unfold gErr at hE
        rw [if_pos rfl] at hE
        by_cases e1 : hands < 1
        · exact Or.inl ⟨rfl, e1⟩
        · by_cases e2 : 6 < hands
          · exact Or.inr (Or.inl ⟨rfl, e1, e2⟩)
          · rw [if_neg (by omega)] at hE
            exact absurd rfl hE
      · exact Or.inr (Or.inr e0)
    clear hc hb1
    rcases hcase with ⟨rfl, e1⟩ | ⟨rfl, e1, e2⟩ | e0
    · have hev : gErr 0 hands = 1 := by unfold gErr; rw [if_pos rfl, if_pos (Or.inl e1)]
      rw [hev] at c9 c10 c12 c13
      clear hev hE
      generalize errV 1 = ev at *
      go_wp2_with (first
        | (go_at_call 9; refine (c9 _ hK).mono ?_; clear hK; rintro e w' ⟨rfl, hK⟩)
        | (go_at_call 10; refine (c10 _ hK).mono ?_; clear hK; rintro e w' ⟨rfl, hK⟩)
        | (go_at_call 11; refine (c11 _ hK).mono ?_; clear hK; rintro e w' ⟨rfl, hK⟩)
        | (go_at_call 12; refine (c12 _ hK).mono ?_; clear hK; rintro e w' ⟨rfl, hK⟩)
        | (go_at_call 13; refine (c13 _ hK).mono ?_; clear hK; rintro e w' ⟨rfl, hK⟩))
      go_ret
      exact ⟨rfl, hK.below⟩
    · have hev : gErr 0 hands = 1 := by unfold gErr; rw [if_pos rfl, if_pos (Or.inr e2)]
      rw [hev] at c9 c10 c12 c13
      clear hev hE
      generalize errV 1 = ev at *
      go_wp2_with (first
        | (go_at_call 9; refine (c9 _ hK).mono ?_; clear hK; rintro e w' ⟨rfl, hK⟩)
        | (go_at_call 10; refine (c10 _ hK).mono ?_; clear hK; rintro e w' ⟨rfl, hK⟩)
        | (go_at_call 11; refine (c11 _ hK).mono ?_; clear hK; rintro e w' ⟨rfl, hK⟩)
        | (go_at_call 12; refine (c12 _ hK).mono ?_; clear hK; rintro e w' ⟨rfl, hK⟩)
        | (go_at_call 13; refine (c13 _ hK).mono ?_; clear hK; rintro e w' ⟨rfl, hK⟩))
      go_ret
      exact ⟨rfl, hK.below⟩
    · have hev : gErr q hands = q := by unfold gErr; rw [if_neg e0]
      rw [hev] at c9 c10 c12 c13
      have hqf : (q == 0) = false := by simp [e0]
      clear hev hE
      generalize errV q = ev at *
      go_wp2_with (first
        | (go_at_call 9; refine (c9 _ hK).mono ?_; clear hK; rintro e w' ⟨rfl, hK⟩)
        | (go_at_call 10; refine (c10 _ hK).mono ?_; clear hK; rintro e w' ⟨rfl, hK⟩)
        | (go_at_call 11; refine (c11 _ hK).mono ?_; clear hK; rintro e w' ⟨rfl, hK⟩)
        | (go_at_call 12; refine (c12 _ hK).mono ?_; clear hK; rintro e w' ⟨rfl, hK⟩)
        | (go_at_call 13; refine (c13 _ hK).mono ?_; clear hK; rintro e w' ⟨rfl, hK⟩))
      go_ret
      exact ⟨rfl, hK.below⟩
end Go.Proofs.YtjdghkmkocpppaaDoor
