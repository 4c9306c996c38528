/- DepthTells answers true. -/
import Derived.Test.YtefkglgccllbeaaDoorTe
namespace Go.Proofs.YtefkglgccllbeaaDoor
open Go.RowKit Go.Deep

theorem nil_ints (W : World) : IntsAt W (.slice none 0 0) [] := ⟨by simp, none, 0, rfl, Or.inl rfl⟩

theorem s_six {w : World} {v : Value} {ts : List (Int × List Int)} {ld td rd lr tr rr : Value} {xw xt xr : List Int} :
    (∀ W, Knows w v ts [(ld, xw), (td, xt), (rd, xr), (lr, xw), (tr, xt), (rr, xr)] W → Calls Tryd.prog 26 #[rd, rr] W fun e W' => e = .returned (.bool true) ∧ Knows w v ts [(ld, xw), (td, xt), (rd, xr), (lr, xw), (tr, xt), (rr, xr)] W') ∧
    (∀ W, Knows w v ts [(ld, xw), (td, xt), (rd, xr), (lr, xw), (tr, xt), (rr, xr)] W → Calls Tryd.prog 26 #[td, tr] W fun e W' => e = .returned (.bool true) ∧ Knows w v ts [(ld, xw), (td, xt), (rd, xr), (lr, xw), (tr, xt), (rr, xr)] W') ∧
    (∀ W, Knows w v ts [(ld, xw), (td, xt), (rd, xr), (lr, xw), (tr, xt), (rr, xr)] W → Calls Tryd.prog 26 #[ld, lr] W fun e W' => e = .returned (.bool true) ∧ Knows w v ts [(ld, xw), (td, xt), (rd, xr), (lr, xw), (tr, xt), (rr, xr)] W') := by
  refine ⟨fun W h => ?_, fun W h => ?_, fun W h => ?_⟩
  · have h1 : IntsAt W rd xr := h.ints (rd, xr) (.tail _ (.tail _ (.head _)))
    have h2 : IntsAt W rr xr := h.ints (rr, xr) (.tail _ (.tail _ (.tail _ (.tail _ (.tail _ (.head _))))))
    exact s_same h h1 h2
  · have h1 : IntsAt W td xt := h.ints (td, xt) (.tail _ (.head _))
    have h2 : IntsAt W tr xt := h.ints (tr, xt) (.tail _ (.tail _ (.tail _ (.tail _ (.head _)))))
    exact s_same h h1 h2
  · have h1 : IntsAt W ld xw := h.ints (ld, xw) (.head _)
    have h2 : IntsAt W lr xw := h.ints (lr, xw) (.tail _ (.tail _ (.tail _ (.head _))))
    exact s_same h h1 h2

set_option maxRecDepth 100000 in
set_option maxHeartbeats 8000000 in
theorem depthTells_any (v : Value) (ts : List (Int × List Int)) (i k : Int) (w : World) (hp : PlanAt w v ts) (hg : Typed w) :
    Calls Tryd.prog 5 #[v, .int .i64 i, .int .i64 k] w fun e w' => e = .returned (.bool true) ∧ Below w.heap.size w w' := by
  have hK0 : Knows w v ts [] w := ⟨Below.refl _ _, hg, hp, fun p hp => by cases hp⟩
  have hr := rightR_any v ts w hp
  obtain ⟨hl, a, c, rfl, -⟩ := hp
  clear hg
  go_enter Tryd.func5, Tryd.ntmps5
  go_wp2_with fail
  refine hr.mono ?_
  rintro e w1 ⟨⟨p, q, rfl, hc⟩, hb1⟩
  clear hr
  have hK : Knows w (.slice a ts.length c) ts [] w1 := hK0.later hb1
  clear hK0 hb1
  by_cases hq : q = 0
  · subst hq
    obtain ⟨rfl, -⟩ := hc.ok rfl
    have HC : Hid (CheckIs ts 0 0) := hc
    have c14 := fun W L (h : Knows w (.slice a ts.length c) ts L W) => s_error 0 h
    rw [errV_zero] at c14
    clear hc
    go_wp2_with (first
      | (go_at_call 16; refine (r_workR HC.out hK).mono ?_; clear hK; rintro e w' ⟨rfl, hK⟩)
      | (go_at_call 17; refine (r_spanR HC.out hK).mono ?_; clear hK; rintro e w' ⟨ord, ho, rfl, hK⟩)
      | (go_at_call 18; refine (r_ranksR HC.out ho hK).mono ?_; clear hK; rintro e w' ⟨rr, rfl, hK⟩)
      | (go_at_call 19; refine (r_tailsR HC.out ho hK).mono ?_; clear hK; rintro e w' ⟨tr, rfl, hK⟩)
      | (go_at_call 20; refine (r_longestR HC.out ho hK).mono ?_; clear hK; rintro e w' ⟨lr, way, hw, rfl, hK⟩)
      | (go_at_call 21; refine (r_work HC.out hK).mono ?_; clear hK; rintro e w' ⟨rfl, hK⟩)
      | (go_at_call 22; refine (r_span HC.out ho hK).mono ?_; clear hK; rintro e w' ⟨rfl, hK⟩)
      | (go_at_call 23; refine (r_ranks HC.out ho hK).mono ?_; clear hK; rintro e w' ⟨rd, rfl, hK⟩)
      | (go_at_call 24; refine (r_tails HC.out ho hK).mono ?_; clear hK; rintro e w' ⟨td, rfl, hK⟩)
      | (go_at_call 25; refine (r_longest HC.out ho hw hK).mono ?_; clear hK; rintro e w' ⟨ld, rfl, hK⟩)
      | (go_at_call 14; refine (c14 _ _ hK).mono ?_; clear hK; rintro e w' ⟨rfl, hK⟩))
    obtain ⟨c26a, c26b, c26c⟩ := s_six (w := w) (v := .slice a ts.length c) (ts := ts) (ld := ld) (td := td) (rd := rd) (lr := lr) (tr := tr) (rr := rr) (xw := intsOf way) (xt := listOf (tailsOf ts ord) ts.length) (xr := listOf (ranksOf ts ord) ts.length)
    generalize [(ld, intsOf way), (td, listOf (tailsOf ts ord) ts.length), (rd, listOf (ranksOf ts ord) ts.length), (lr, intsOf way), (tr, listOf (tailsOf ts ord) ts.length), (rr, listOf (ranksOf ts ord) ts.length)] = L at *
    refine (c26a _ hK).mono ?_
    clear hK
    rintro e w' ⟨rfl, hK⟩
    go_wp2_with fail
    refine (c26b _ hK).mono ?_
    clear hK
    rintro e w' ⟨rfl, hK⟩
    go_wp2_with fail
    clear c26a c26b
    by_cases h1 : i < 0
    · have c28 := fun W L (h : Knows w (.slice a ts.length c) ts L W) => r_far (i := i) (k := k) HC.out (by omega) h
      clear c14
      have c14 := fun W L (h : Knows w (.slice a ts.length c) ts L W) => s_error 1 h
      generalize errV 1 = ev1 at *
      go_wp2_with (first
        | (go_at_call 26; refine (c26c _ hK).mono ?_; clear hK; rintro e w' ⟨rfl, hK⟩)
        | (go_at_call 28; refine (c28 _ _ hK).mono ?_; clear hK; rintro e w' ⟨rfl, hK⟩)
        | (go_at_call 14; refine (c14 _ _ hK).mono ?_; clear hK; rintro e w' ⟨rfl, hK⟩))
      go_ret
      exact ⟨rfl, hK.below⟩
    have d1 : decide (i < 0) = false := decide_eq_false h1
    by_cases h2 : (ts.length : Int) ≤ i
    · have c28 := fun W L (h : Knows w (.slice a ts.length c) ts L W) => r_far (i := i) (k := k) HC.out (by omega) h
      clear c14
      have c14 := fun W L (h : Knows w (.slice a ts.length c) ts L W) => s_error 1 h
      generalize errV 1 = ev1 at *
      go_wp2_with (first
        | (go_at_call 26; refine (c26c _ hK).mono ?_; clear hK; rintro e w' ⟨rfl, hK⟩)
        | (go_at_call 28; refine (c28 _ _ hK).mono ?_; clear hK; rintro e w' ⟨rfl, hK⟩)
        | (go_at_call 14; refine (c14 _ _ hK).mono ?_; clear hK; rintro e w' ⟨rfl, hK⟩))
      go_ret
      exact ⟨rfl, hK.below⟩
    have d2 : decide ((ts.length : Int) ≤ i) = false := decide_eq_false h2
    by_cases h3 : k < 0
    · have c28 := fun W L (h : Knows w (.slice a ts.length c) ts L W) => r_far (i := i) (k := k) HC.out (by omega) h
      clear c14
      have c14 := fun W L (h : Knows w (.slice a ts.length c) ts L W) => s_error 1 h
      generalize errV 1 = ev1 at *
      go_wp2_with (first
        | (go_at_call 26; refine (c26c _ hK).mono ?_; clear hK; rintro e w' ⟨rfl, hK⟩)
        | (go_at_call 28; refine (c28 _ _ hK).mono ?_; clear hK; rintro e w' ⟨rfl, hK⟩)
        | (go_at_call 14; refine (c14 _ _ hK).mono ?_; clear hK; rintro e w' ⟨rfl, hK⟩))
      go_ret
      exact ⟨rfl, hK.below⟩
    have d3 : decide (k < 0) = false := decide_eq_false h3
    by_cases h4 : (ts.length : Int) ≤ k
    · have c28 := fun W L (h : Knows w (.slice a ts.length c) ts L W) => r_far (i := i) (k := k) HC.out (by omega) h
      clear c14
      have c14 := fun W L (h : Knows w (.slice a ts.length c) ts L W) => s_error 1 h
      generalize errV 1 = ev1 at *
      go_wp2_with (first
        | (go_at_call 26; refine (c26c _ hK).mono ?_; clear hK; rintro e w' ⟨rfl, hK⟩)
        | (go_at_call 28; refine (c28 _ _ hK).mono ?_; clear hK; rintro e w' ⟨rfl, hK⟩)
        | (go_at_call 14; refine (c14 _ _ hK).mono ?_; clear hK; rintro e w' ⟨rfl, hK⟩))
      go_ret
      exact ⟨rfl, hK.below⟩
    have d4 : decide ((ts.length : Int) ≤ k) = false := decide_eq_false h4
    obtain ⟨x, rfl⟩ := Int.eq_ofNat_of_zero_le (show 0 ≤ i by omega)
    obtain ⟨y, rfl⟩ := Int.eq_ofNat_of_zero_le (show 0 ≤ k by omega)
    have hx : x < ts.length := by omega
    have hy : y < ts.length := by omega
    go_wp2_with (first
      | (go_at_call 26; refine (c26c _ hK).mono ?_; clear hK; rintro e w' ⟨rfl, hK⟩)
      | (go_at_call 27; refine (r_above HC.out hx hy hK).mono ?_; clear hK; rintro e w' ⟨g, gc, bl, b, rfl, hg1, hg2, hb, hK⟩)
      | (go_at_call 28; refine (r_near HC.out hx hy hb hK).mono ?_; clear hK; rintro e w' ⟨rfl, hK⟩)
      | (go_at_call 14; refine (c14 _ _ hK).mono ?_; clear hK; rintro e w' ⟨rfl, hK⟩))
    go_ret
    exact ⟨rfl, hK.below⟩
  · have hqf : (q == 0) = false := by simp [hq]
    have c21 := fun W (h : Knows w (.slice a ts.length c) ts [] W) => e_work hc hq h
    have c22 := fun W (h : Knows w (.slice a ts.length c) ts [] W) => e_span hc hq h
    have c23 := fun W (h : Knows w (.slice a ts.length c) ts [] W) => e_ranks hc hq h
    have c24 := fun W (h : Knows w (.slice a ts.length c) ts [] W) => e_tails hc hq h
    have c25 := fun W (h : Knows w (.slice a ts.length c) ts [] W) => e_longest hc hq h
    have c28 := fun W (h : Knows w (.slice a ts.length c) ts [] W) => e_reaches hc hq i k h
    have c14 := fun W (h : Knows w (.slice a ts.length c) ts [] W) => s_error q h
    have c26 := fun W (h : Knows w (.slice a ts.length c) ts [] W) => s_same h (nil_ints W) (nil_ints W)
    clear hc hq
    generalize errV q = ev at *
    go_wp2_with (first
      | (go_at_call 21; refine (c21 _ hK).mono ?_; clear hK; rintro e w' ⟨rfl, hK⟩)
      | (go_at_call 22; refine (c22 _ hK).mono ?_; clear hK; rintro e w' ⟨rfl, hK⟩)
      | (go_at_call 23; refine (c23 _ hK).mono ?_; clear hK; rintro e w' ⟨rfl, hK⟩)
      | (go_at_call 24; refine (c24 _ hK).mono ?_; clear hK; rintro e w' ⟨rfl, hK⟩)
      | (go_at_call 25; refine (c25 _ hK).mono ?_; clear hK; rintro e w' ⟨rfl, hK⟩)
      | (go_at_call 28; refine (c28 _ hK).mono ?_; clear hK; rintro e w' ⟨rfl, hK⟩)
      | (go_at_call 14; refine (c14 _ hK).mono ?_; clear hK; rintro e w' ⟨rfl, hK⟩)
      | (go_at_call 26; refine (c26 _ hK).mono ?_; clear hK; rintro e w' ⟨rfl, hK⟩))
    go_ret
    exact ⟨rfl, hK.below⟩
end Go.Proofs.YtefkglgccllbeaaDoor
