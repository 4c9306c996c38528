/- Each call of YardTells by one contract, whatever it is called with. -/
import Derived.Test.YtajmnnjafhanaaaDoorYm
import Derived.Test.YtajmnnjafhanaaaDoorI
namespace Go.Proofs.YtajmnnjafhanaaaDoor
open Go.RowKit Go.Deep

def srvErr (gs : List Jb) (n : Int) : Int := if jobErr gs = 0 then (if manyB n = true then 0 else 1) else jobErr gs
def srvOut (gs : List Jb) (n : Int) : List Int := if srvErr gs n = 0 then intsOf (endY gs n.toNat).out else []
def srvLeft (gs : List Jb) (n : Int) : List Jb := if srvErr gs n = 0 then jobsL gs.length (wgtJ gs) (fun k => ((endY gs n.toNat).left k : Int)) else []
theorem srv_right {gs : List Jb} {n : Int} (h : srvErr gs n = 0) : jobErr gs = 0 ∧ ∃ N : Nat, n = N ∧ N ≤ 1000 := by
  unfold srvErr at h
  by_cases h1 : jobErr gs = 0
  · refine ⟨h1, ?_⟩
    rw [if_pos h1] at h
    by_cases h2 : manyB n = true
    · unfold manyB at h2
      simp only [Bool.and_eq_true, decide_eq_true_eq] at h2
      exact ⟨n.toNat, by omega, by omega⟩
    · rw [if_neg h2] at h; omega
  · rw [if_neg h1] at h; exact absurd h h1
theorem end_len {gs : List Jb} (N : Nat) : (endY gs N).out.length ≤ N := (OkY.rounds N gs.length (wtN gs) (wsN gs) N).le
theorem nil_ints (w : World) : IntsAt w (.slice none 0 0) [] := ⟨by simp, none, 0, rfl, Or.inl rfl⟩
theorem nil_jobs (w : World) : JobsAt w (.slice none 0 0) [] := ⟨by simp, none, 0, rfl, Or.inl rfl⟩
theorem serve_one (v : Value) (gs : List Jb) (n : Int) (w : World) (hg : JobsAt w v gs) :
    Calls Tryd.prog 8 #[v, .int .i64 n] w fun e w' => ∃ ov lv, e = .returned (.tuple #[ov, lv, errV (srvErr gs n)]) ∧ IntsAt w' ov (srvOut gs n) ∧ JobsAt w' lv (srvLeft gs n) ∧ Below w.heap.size w w' := by
  by_cases h : srvErr gs n = 0
  · obtain ⟨he, N, rfl, hN⟩ := srv_right h
    refine (serve_ok v gs N w hg he hN).mono ?_
    rintro e w' ⟨ov, L, rfl, hS⟩
    have h6 := (jobErr_right he).1
    have hl := end_len (gs := gs) N
    refine ⟨ov, _, by rw [h, errV_zero], ?_, ?_, hS.below⟩
    · unfold srvOut
      rw [if_pos h, Int.toNat_natCast]
      exact hS.out.ints (by rw [intsOf_length]; omega)
    · unfold srvLeft
      rw [if_pos h, Int.toNat_natCast]
      exact row_jobs hS.row (by omega)
  · have e1 : srvOut gs n = [] := by unfold srvOut; rw [if_neg h]
    have e2 : srvLeft gs n = [] := by unfold srvLeft; rw [if_neg h]
    rw [e1, e2]
    by_cases he : jobErr gs = 0
    · have hn : manyB n = false := by
        cases e : manyB n with
        | false => rfl
        | true => exact absurd (by unfold srvErr; rw [if_pos he, if_pos e]) h
      have e3 : srvErr gs n = 1 := by unfold srvErr; rw [if_pos he, if_neg (by rw [hn]; simp)]
      rw [e3]
      refine (serve_most v gs n w hg he hn).mono ?_
      rintro e w' ⟨rfl, hb⟩
      exact ⟨_, _, rfl, nil_ints _, nil_jobs _, hb⟩
    · have e3 : srvErr gs n = jobErr gs := by unfold srvErr; rw [if_neg he]
      rw [e3]
      refine (serve_bad v gs n w hg he).mono ?_
      rintro e w' ⟨rfl, hb⟩
      exact ⟨_, _, rfl, nil_ints _, nil_jobs _, hb⟩
theorem dServe_one (v : Value) (gs : List Jb) (n : Int) (w : World) (hg : JobsAt w v gs) (h : srvErr gs n = 0) :
    Calls Tryd.prog 7 #[v, .int .i64 n] w fun e w' => ∃ ov av, e = .returned (.tuple #[ov, av]) ∧ IntsAt w' ov (srvOut gs n) ∧ JobsAt w' av (srvLeft gs n) ∧ Below w.heap.size w w' := by
  obtain ⟨he, N, rfl, hN⟩ := srv_right h
  refine (dServe_any v gs N w hg he hN).mono ?_
  rintro e w' ⟨ov, av, rfl, hD⟩
  have h6 := (jobErr_right he).1
  have hl := end_len (gs := gs) N
  refine ⟨ov, av, rfl, ?_, ?_, hD.below⟩
  · unfold srvOut
    rw [if_pos h, Int.toNat_natCast]
    exact hD.out.ints (by rw [intsOf_length]; omega)
  · unfold srvLeft
    rw [if_pos h, Int.toNat_natCast]
    exact hD.row.at (by rw [jobsL_length]; omega)
/-- Shares, as a list. -/
def shrL (gs : List Jb) (N : Nat) : List Int := (List.range gs.length).map (fun k => (shareY N gs.length (wtN gs) k : Int))
theorem shrL_length (gs : List Jb) (N : Nat) : (shrL gs N).length = gs.length := by simp [shrL]
theorem shrL_at (gs : List Jb) (N : Nat) {k : Nat} (hk : k < gs.length) : (shrL gs N).getD k 0 = (shareY N gs.length (wtN gs) k : Int) := by simp [shrL, hk]
theorem row_ints {w : World} {M n : Nat} {A : Nat → Int} {zs : List Int} (h : w.rowIs M 3 n (numRow A)) (hl : zs.length = n) (hz : ∀ k, k < n → zs.getD k 0 = A k) (hn : n * 8 ≤ 140737488351232) : IntsAt w (.slice (some ⟨M, 0, none⟩) n n) zs := by
  subst hl
  refine ⟨hn, _, _, rfl, Or.inr ⟨M, 0, rfl, h.lt, fun k hk => ?_⟩⟩
  rw [Nat.zero_add, h.cell hk, hz k hk]
  rfl
theorem error_same (q : Int) (w : World) (hg : Typed w) : Calls Tryd.prog 5 #[errV q, .int .i64 q] w fun ev w' => ev = .returned (.bool true) ∧ Below w.heap.size w w' := by
  refine (error_any q q w hg).mono ?_
  rintro e w' ⟨rfl, hb⟩
  exact ⟨by simp, hb⟩
/-- Shares where there is an error. -/
theorem shares_no (v : Value) (gs : List Jb) (n q : Int) (w : World) (hg : JobsAt w v gs) (h : (jobErr gs ≠ 0 ∧ q = jobErr gs) ∨ (jobErr gs = 0 ∧ gs.length = 0 ∧ q = 5) ∨ (jobErr gs = 0 ∧ 1 ≤ gs.length ∧ manyB n = false ∧ q = 1)) :
    Calls Tryd.prog 11 #[v, .int .i64 n] w fun e w' => e = .returned (.tuple #[.slice none 0 0, errV q]) ∧ Below w.heap.size w w' := by
  rcases h with ⟨h1, rfl⟩ | ⟨h1, h2, rfl⟩ | ⟨h1, h2, h3, rfl⟩
  · exact sharesF_bad v gs n w hg h1
  · exact sharesF_none v gs n w hg h1 h2
  · exact sharesF_most v gs n w hg h1 h2 h3
theorem shares_yes (v : Value) (gs : List Jb) (N : Nat) (w : World) (hg : JobsAt w v gs) (he : jobErr gs = 0) (h1 : 1 ≤ gs.length) (hN : N ≤ 1000) :
    Calls Tryd.prog 11 #[v, .int .i64 (N : Int)] w fun e w' => ∃ sv, e = .returned (.tuple #[sv, errV 0]) ∧ IntsAt w' sv (shrL gs N) ∧ Below w.heap.size w w' := by
  refine (sharesF_ok v gs N w hg he h1 hN).mono ?_
  rintro e w' ⟨M, rfl, _, hr, hb⟩
  have h6 := (jobErr_right he).1
  exact ⟨_, rfl, row_ints hr (shrL_length gs N) (fun k hk => shrL_at gs N hk) (by omega), hb⟩
theorem Typed.low {w w' : World} (h : Typed w) (hb : Below w.heap.size w w') : Typed w' := h.later hb
end Go.Proofs.YtajmnnjafhanaaaDoor
