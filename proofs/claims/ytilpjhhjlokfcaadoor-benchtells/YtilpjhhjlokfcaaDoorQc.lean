/- GreedyTells answers true. -/
import Derived.Test.YtilpjhhjlokfcaaDoorQb
import Derived.Test.YtilpjhhjlokfcaaDoorI
import Derived.Test.YtilpjhhjlokfcaaDoorRh
namespace Go.Proofs.YtilpjhhjlokfcaaDoor
open Go.RowKit Go.Deep

/-- What stays known between the calls: the plan, the variable, and rows that read as these bits. -/
structure KnG (w : World) (v : Value) (ts : List (Int × List Int)) (B : List (Nat × Nat × Nat)) (us : List Value) (W : World) : Prop where
  below : Below w.heap.size w W
  typed : Typed W
  plan : PlanAt W v ts
  bits : ∀ u, u ∈ us → RowB w.heap.size W u B
theorem KnG.later {w : World} {v : Value} {ts : List (Int × List Int)} {B : List (Nat × Nat × Nat)} {us : List Value} {W W' : World} (h : KnG w v ts B us W) (hb : Below W.heap.size W W') : KnG w v ts B us W' :=
  ⟨h.below.trans (hb.mono h.below.size), h.typed.later hb, h.plan.later hb, fun u hu => (h.bits u hu).later hb⟩
theorem KnG.put {w : World} {v : Value} {ts : List (Int × List Int)} {B : List (Nat × Nat × Nat)} {us : List Value} {W : World} {u : Value} (h : KnG w v ts B us W) (hu : RowB w.heap.size W u B) : KnG w v ts B (u :: us) W :=
  ⟨h.below, h.typed, h.plan, fun x hx => by
    rcases List.mem_cons.1 hx with rfl | hx
    · exact hu
    · exact h.bits x hx⟩

section
variable {w : World} {v : Value} {ts : List (Int × List Int)} {B : List (Nat × Nat × Nat)} {us : List Value} {W : World}

theorem g_error (q : Int) (h : KnG w v ts B us W) : Calls Tryd.prog 6 #[errV q, .int .i64 q] W fun e W' => e = .returned (.bool true) ∧ KnG w v ts B us W' :=
  (error_any q q W h.typed).mono fun e W' ⟨he, hb⟩ => ⟨by rw [he]; simp, h.later hb⟩
theorem g_runE {p q hands : Int} (hc : CheckIs ts p q) (hq : gErr q hands ≠ 0) (h : KnG w v ts B us W) : Calls Tryd.prog 30 #[v, .int .i64 hands] W fun e W' => e = .returned (.tuple #[.slice none 0 0, errV (gErr q hands)]) ∧ KnG w v ts B us W' :=
  (run_any v ts hands W h.plan).mono fun e W' ⟨he, hb⟩ => ⟨by
    rcases he with ⟨p', q', hc', _, rfl⟩ | ⟨hc', h1, h6, _⟩
    · rw [(hc.det hc').2]
    · rw [(hc.det hc').2] at hq
      exact absurd (by unfold gErr; rw [if_pos rfl, if_neg (by omega)]) hq, h.later hb⟩
theorem g_longE {p q hands : Int} (hc : CheckIs ts p q) (hq : gErr q hands ≠ 0) (h : KnG w v ts B us W) : Calls Tryd.prog 23 #[v, .int .i64 hands] W fun e W' => e = .returned (.tuple #[.int .i64 0, errV (gErr q hands)]) ∧ KnG w v ts B us W' :=
  (long_any v ts hands W h.plan).mono fun e W' ⟨he, hb⟩ => ⟨by
    rcases he with ⟨p', q', hc', _, rfl⟩ | ⟨hc', h1, h6, _⟩
    · rw [(hc.det hc').2]
    · rw [(hc.det hc').2] at hq
      exact absurd (by unfold gErr; rw [if_pos rfl, if_neg (by omega)]) hq, h.later hb⟩
theorem gErr_none {hd : Nat} (h1 : 1 ≤ hd) (h6 : hd ≤ 6) : gErr 0 (hd : Int) = 0 := by
  unfold gErr
  rw [if_pos rfl, if_neg (by omega)]

theorem g_greedyR {hd s : Nat} (hc : CheckIs ts 0 0) (h1 : 1 ≤ hd) (h6 : hd ≤ 6) (hs : Stops ts hd s) (h : KnG w v ts (bitsTo ts hd s) us W) : Calls Tryd.prog 13 #[v, .int .i64 hd] W fun e W' => ∃ u, e = .returned u ∧ KnG w v ts (bitsTo ts hd s) (u :: us) W' :=
  (greedyR_any v ts hd W h.plan hc h1 h6).mono fun e W' ⟨⟨u, he, hu⟩, hb⟩ => ⟨u, he, (h.later hb).put (by
    rw [hs.at_end (k := 601) (by have := hs.le hc.works.1 h1; omega)] at hu
    exact hu.mono h.below.size)⟩
theorem g_stepsR {hd s : Nat} {u : Value} (hc : CheckIs ts 0 0) (h1 : 1 ≤ hd) (hs : Stops ts hd s) (h : KnG w v ts (bitsTo ts hd s) (u :: us) W) : Calls Tryd.prog 8 #[u] W fun e W' => e = .returned (.int .i64 s) ∧ KnG w v ts (bitsTo ts hd s) (u :: us) W' :=
  (stepsR_any u _ _ W (h.bits u (.head _)) (fun b hb => by
    have key : ∀ k, k ≤ s → ∀ b, b ∈ bitsTo ts hd k → b.1 ≤ 600 := by
      intro k
      induction k with
      | zero => intro _ b hb; cases hb
      | succ k ih =>
        intro hk b hb
        have hb : b ∈ bitsTo ts hd k ++ bitsOf k (nowL ts hd (leftAt ts hd k)) := hb
        rcases List.mem_append.1 hb with hb | hb
        · exact ih (by omega) b hb
        · have := bitsOf_step hb
          have := hs.le hc.works.1 h1
          omega
    exact key s (Nat.le_refl _) b hb) (bits_len hc.works.1 hd s)).mono fun e W' ⟨he, hW⟩ => ⟨by rw [he, hs.1.steps h1], by rw [hW]; exact h⟩
theorem g_workR (hc : CheckIs ts 0 0) (h : KnG w v ts B us W) : Calls Tryd.prog 12 #[v] W fun e W' => e = .returned (.int .i64 (workTo ts ts.length)) ∧ KnG w v ts B us W' :=
  (workR_any v ts W h.plan hc).mono fun _ _ ⟨he, hb⟩ => ⟨he, h.later hb⟩
theorem g_run {hd s : Nat} (hc : CheckIs ts 0 0) (h1 : 1 ≤ hd) (h6 : hd ≤ 6) (hs : Stops ts hd s) (h : KnG w v ts (bitsTo ts hd s) us W) : Calls Tryd.prog 30 #[v, .int .i64 hd] W fun e W' => ∃ u, e = .returned (.tuple #[u, .nilIface]) ∧ KnG w v ts (bitsTo ts hd s) (u :: us) W' :=
  (run_any v ts hd W h.plan).mono fun e W' ⟨he, hb⟩ => by
    rcases he with ⟨p', q', hc', hq, _⟩ | ⟨_, _, _, s', u, hs', rfl, hu⟩
    · rw [(hc'.det hc).2, gErr_none h1 h6] at hq
      exact absurd rfl hq
    · rw [Int.toNat_natCast] at hs' hu
      rw [hs'.det hs] at hu
      exact ⟨u, rfl, (h.later hb).put (hu.mono h.below.size)⟩
theorem g_long {hd s : Nat} (hc : CheckIs ts 0 0) (h1 : 1 ≤ hd) (h6 : hd ≤ 6) (hs : Stops ts hd s) (h : KnG w v ts B us W) : Calls Tryd.prog 23 #[v, .int .i64 hd] W fun e W' => e = .returned (.tuple #[.int .i64 s, .nilIface]) ∧ KnG w v ts B us W' :=
  (long_any v ts hd W h.plan).mono fun e W' ⟨he, hb⟩ => ⟨by
    rcases he with ⟨p', q', hc', hq, _⟩ | ⟨_, _, _, s', hs', rfl⟩
    · rw [(hc'.det hc).2, gErr_none h1 h6] at hq
      exact absurd rfl hq
    · rw [Int.toNat_natCast] at hs'
      rw [hs'.det hs], h.later hb⟩
end
end Go.Proofs.YtilpjhhjlokfcaaDoor
