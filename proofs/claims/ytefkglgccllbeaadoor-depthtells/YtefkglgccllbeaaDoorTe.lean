/- The calls of DepthTells, one by one, and what stays known between them. -/
import Derived.Test.YtefkglgccllbeaaDoorTd
import Derived.Test.YtefkglgccllbeaaDoorDl
import Derived.Test.YtefkglgccllbeaaDoorDo
import Derived.Test.YtefkglgccllbeaaDoorDs
import Derived.Test.YtefkglgccllbeaaDoorI
import Derived.Test.YtefkglgccllbeaaDoorRh
namespace Go.Proofs.YtefkglgccllbeaaDoor
open Go.RowKit Go.Deep

/-- What is known in a world W that came of w: the plan, the variable, and lists of numbers that lie there. -/
structure Knows (w : World) (v : Value) (ts : List (Int × List Int)) (L : List (Value × List Int)) (W : World) : Prop where
  below : Below w.heap.size w W
  typed : Typed W
  plan : PlanAt W v ts
  ints : ∀ p, p ∈ L → IntsAt W p.1 p.2
theorem Knows.later {w : World} {v : Value} {ts : List (Int × List Int)} {L : List (Value × List Int)} {W W' : World} (h : Knows w v ts L W) (hb : Below W.heap.size W W') : Knows w v ts L W' :=
  ⟨h.below.trans (hb.mono h.below.size), h.typed.later hb, h.plan.later hb, fun p hp => (h.ints p hp).later hb⟩
theorem Knows.put {w : World} {v : Value} {ts : List (Int × List Int)} {L : List (Value × List Int)} {W : World} {u : Value} {xs : List Int} (h : Knows w v ts L W) (hi : IntsAt W u xs) : Knows w v ts ((u, xs) :: L) W :=
  ⟨h.below, h.typed, h.plan, fun p hp => by
    rcases List.mem_cons.1 hp with rfl | hp
    · exact hi
    · exact h.ints p hp⟩

section
variable {w : World} {v : Value} {ts : List (Int × List Int)} {L : List (Value × List Int)} {W : World} {ord : List Nat}

theorem s_error (q : Int) (h : Knows w v ts L W) : Calls Tryd.prog 14 #[errV q, .int .i64 q] W fun e W' => e = .returned (.bool true) ∧ Knows w v ts L W' :=
  (error_any q q W h.typed).mono fun e W' ⟨he, hb⟩ => ⟨by rw [he]; simp, h.later hb⟩
theorem s_same {a b : Value} {xs : List Int} (h : Knows w v ts L W) (ha : IntsAt W a xs) (hb : IntsAt W b xs) : Calls Tryd.prog 26 #[a, b] W fun e W' => e = .returned (.bool true) ∧ Knows w v ts L W' :=
  (sameInts_any a b xs xs W ha hb).mono fun e W' ⟨he, n, hn⟩ => ⟨by rw [he]; simp, h.later (by rw [hn]; exact below_drewN (Below.refl _ _) n)⟩

theorem e_work {p q : Int} (hc : CheckIs ts p q) (hq : q ≠ 0) (h : Knows w v ts L W) : Calls Tryd.prog 21 #[v] W fun e W' => e = .returned (.tuple #[.int .i64 0, errV q]) ∧ Knows w v ts L W' :=
  (work_any v ts W h.plan).mono fun e W' ⟨he, hb⟩ => ⟨by
    rcases he with ⟨p', q', _, hc', rfl⟩ | ⟨hc', _⟩
    · rw [(hc.det hc').2]
    · exact absurd (hc.det hc').2 hq, h.later hb⟩
theorem e_span {p q : Int} (hc : CheckIs ts p q) (hq : q ≠ 0) (h : Knows w v ts L W) : Calls Tryd.prog 22 #[v] W fun e W' => e = .returned (.tuple #[.int .i64 0, errV q]) ∧ Knows w v ts L W' :=
  (span_any v ts W h.plan).mono fun e W' ⟨he, hb⟩ => ⟨by
    rcases he with ⟨p', q', _, hc', rfl⟩ | ⟨hc', _⟩
    · rw [(hc.det hc').2]
    · exact absurd (hc.det hc').2 hq, h.later hb⟩
theorem e_ranks {p q : Int} (hc : CheckIs ts p q) (hq : q ≠ 0) (h : Knows w v ts L W) : Calls Tryd.prog 23 #[v] W fun e W' => e = .returned (.tuple #[.slice none 0 0, errV q]) ∧ Knows w v ts L W' :=
  (ranks_any v ts W h.plan).mono fun e W' ⟨he, hb⟩ => ⟨by
    rcases he with ⟨p', q', _, hc', rfl⟩ | ⟨hc', _⟩
    · rw [(hc.det hc').2]
    · exact absurd (hc.det hc').2 hq, h.later hb⟩
theorem e_tails {p q : Int} (hc : CheckIs ts p q) (hq : q ≠ 0) (h : Knows w v ts L W) : Calls Tryd.prog 24 #[v] W fun e W' => e = .returned (.tuple #[.slice none 0 0, errV q]) ∧ Knows w v ts L W' :=
  (tails_any v ts W h.plan).mono fun e W' ⟨he, hb⟩ => ⟨by
    rcases he with ⟨p', q', _, hc', rfl⟩ | ⟨hc', _⟩
    · rw [(hc.det hc').2]
    · exact absurd (hc.det hc').2 hq, h.later hb⟩
theorem e_longest {p q : Int} (hc : CheckIs ts p q) (hq : q ≠ 0) (h : Knows w v ts L W) : Calls Tryd.prog 25 #[v] W fun e W' => e = .returned (.tuple #[.slice none 0 0, errV q]) ∧ Knows w v ts L W' :=
  (longest_any v ts W h.plan).mono fun e W' ⟨he, hb⟩ => ⟨by
    rcases he with ⟨p', q', _, hc', rfl⟩ | ⟨hc', _⟩
    · rw [(hc.det hc').2]
    · exact absurd (hc.det hc').2 hq, h.later hb⟩
theorem e_reaches {p q : Int} (hc : CheckIs ts p q) (hq : q ≠ 0) (i k : Int) (h : Knows w v ts L W) : Calls Tryd.prog 28 #[v, .int .i64 i, .int .i64 k] W fun e W' => e = .returned (.tuple #[.bool false, errV q]) ∧ Knows w v ts L W' :=
  (reaches_any v ts i k W h.plan).mono fun e W' ⟨he, hb⟩ => ⟨by
    rcases he with ⟨p', q', _, hc', rfl⟩ | ⟨hc', _⟩ | ⟨hc', _⟩
    · rw [(hc.det hc').2]
    · exact absurd (hc.det hc').2 hq
    · exact absurd (hc.det hc').2 hq, h.later hb⟩

theorem r_workR (hc : CheckIs ts 0 0) (h : Knows w v ts L W) : Calls Tryd.prog 16 #[v] W fun e W' => e = .returned (.int .i64 (workTo ts ts.length)) ∧ Knows w v ts L W' :=
  (workR_any v ts W h.plan hc).mono fun _ _ ⟨he, hb⟩ => ⟨he, h.later hb⟩
theorem r_spanR (hc : CheckIs ts 0 0) (h : Knows w v ts L W) : Calls Tryd.prog 17 #[v] W fun e W' => ∃ ord, OrdIs ts ord ∧ e = .returned (.int .i64 (maxTo (tailsOf ts ord) ts.length)) ∧ Knows w v ts L W' :=
  (spanR_any v ts W h.plan hc).mono fun _ _ ⟨⟨ord, ho, he⟩, hb⟩ => ⟨ord, ho, he, h.later hb⟩
theorem r_ranksR (hc : CheckIs ts 0 0) (ho : OrdIs ts ord) (h : Knows w v ts L W) : Calls Tryd.prog 18 #[v] W fun e W' => ∃ rv, e = .returned rv ∧ Knows w v ts ((rv, listOf (ranksOf ts ord) ts.length) :: L) W' :=
  (ranksR_any v ts W h.plan hc).mono fun _ _ ⟨⟨ord', rv, ho', he, hi⟩, hb⟩ => ⟨rv, he, (h.later hb).put (by rw [ho.det ho' hc]; exact hi)⟩
theorem r_tailsR (hc : CheckIs ts 0 0) (ho : OrdIs ts ord) (h : Knows w v ts L W) : Calls Tryd.prog 19 #[v] W fun e W' => ∃ rv, e = .returned rv ∧ Knows w v ts ((rv, listOf (tailsOf ts ord) ts.length) :: L) W' :=
  (tailsR_any v ts W h.plan hc).mono fun _ _ ⟨⟨ord', rv, ho', he, hi⟩, hb⟩ => ⟨rv, he, (h.later hb).put (by rw [ho.det ho' hc]; exact hi)⟩
theorem r_longestR (hc : CheckIs ts 0 0) (ho : OrdIs ts ord) (h : Knows w v ts L W) : Calls Tryd.prog 20 #[v] W fun e W' => ∃ rv way, WayIs ts (tailsOf ts ord) way ∧ e = .returned rv ∧ Knows w v ts ((rv, intsOf way) :: L) W' :=
  (longestR_any v ts W h.plan hc).mono fun _ _ ⟨⟨ord', way, rv, ho', hw, he, hi⟩, hb⟩ => ⟨rv, way, by rw [ho.det ho' hc]; exact hw, he, (h.later hb).put hi⟩

theorem r_work (hc : CheckIs ts 0 0) (h : Knows w v ts L W) : Calls Tryd.prog 21 #[v] W fun e W' => e = .returned (.tuple #[.int .i64 (workTo ts ts.length), .nilIface]) ∧ Knows w v ts L W' :=
  (work_any v ts W h.plan).mono fun e W' ⟨he, hb⟩ => ⟨by
    rcases he with ⟨p', q', hq, hc', rfl⟩ | ⟨_, rfl⟩
    · exact absurd (hc.det hc').2.symm hq
    · rfl, h.later hb⟩
theorem r_span (hc : CheckIs ts 0 0) (ho : OrdIs ts ord) (h : Knows w v ts L W) : Calls Tryd.prog 22 #[v] W fun e W' => e = .returned (.tuple #[.int .i64 (maxTo (tailsOf ts ord) ts.length), .nilIface]) ∧ Knows w v ts L W' :=
  (span_right v ts ord W h.plan hc ho).mono fun _ _ ⟨he, hb⟩ => ⟨he, h.later hb⟩
theorem r_ranks (hc : CheckIs ts 0 0) (ho : OrdIs ts ord) (h : Knows w v ts L W) : Calls Tryd.prog 23 #[v] W fun e W' => ∃ rv, e = .returned (.tuple #[rv, .nilIface]) ∧ Knows w v ts ((rv, listOf (ranksOf ts ord) ts.length) :: L) W' :=
  (ranks_right v ts ord W h.plan hc ho).mono fun _ _ ⟨⟨_, _, he, hi⟩, hb⟩ => ⟨_, he, (h.later hb).put hi⟩
theorem r_tails (hc : CheckIs ts 0 0) (ho : OrdIs ts ord) (h : Knows w v ts L W) : Calls Tryd.prog 24 #[v] W fun e W' => ∃ rv, e = .returned (.tuple #[rv, .nilIface]) ∧ Knows w v ts ((rv, listOf (tailsOf ts ord) ts.length) :: L) W' :=
  (tails_right v ts ord W h.plan hc ho).mono fun _ _ ⟨⟨_, _, he, hi⟩, hb⟩ => ⟨_, he, (h.later hb).put hi⟩
theorem r_longest {way : List Nat} (hc : CheckIs ts 0 0) (ho : OrdIs ts ord) (hw : WayIs ts (tailsOf ts ord) way) (h : Knows w v ts L W) : Calls Tryd.prog 25 #[v] W fun e W' => ∃ rv, e = .returned (.tuple #[rv, .nilIface]) ∧ Knows w v ts ((rv, intsOf way) :: L) W' :=
  (longest_any v ts W h.plan).mono fun e W' ⟨he, hb⟩ => by
    rcases he with ⟨p', q', hq, hc', rfl⟩ | ⟨_, ord', way', wv, ho', hw', rfl, _, hi⟩
    · exact absurd (hc.det hc').2.symm hq
    · obtain rfl := ho.det ho' hc
      obtain rfl := hw.det hw'
      exact ⟨wv, rfl, (h.later hb).put hi⟩
theorem r_far {i k : Int} (hc : CheckIs ts 0 0) (hf : i < 0 ∨ k < 0 ∨ (ts.length : Int) ≤ i ∨ (ts.length : Int) ≤ k) (h : Knows w v ts L W) : Calls Tryd.prog 28 #[v, .int .i64 i, .int .i64 k] W fun e W' => e = .returned (.tuple #[.bool false, errV 1]) ∧ Knows w v ts L W' :=
  (reaches_any v ts i k W h.plan).mono fun e W' ⟨he, hb⟩ => ⟨by
    rcases he with ⟨p', q', hq, hc', rfl⟩ | ⟨_, _, rfl⟩ | ⟨_, x, y, hx, hy, hxl, hyl, _⟩
    · exact absurd (hc.det hc').2.symm hq
    · rfl
    · omega, h.later hb⟩
theorem r_above {x y : Nat} (hc : CheckIs ts 0 0) (hx : x < ts.length) (hy : y < ts.length) (h : Knows w v ts L W) : Calls Tryd.prog 27 #[v] W fun e W' => ∃ (g c bl : Nat) (b : Bool), e = .returned (.slice (some ⟨g, 0, none⟩) ts.length c) ∧ W'.cell? ⟨g, y, none⟩ = some (.slice (some ⟨bl, 0, none⟩) ts.length ts.length) ∧ W'.cell? ⟨bl, x, none⟩ = some (.bool b) ∧ (b = true ↔ Reach ts y x) ∧ Knows w v ts L W' := by
  obtain ⟨_, h30, herr, _⟩ := hc.ok rfl
  have hr := inRange_of herr
  refine (aboveR_any v ts W h.plan h30 hr).mono ?_
  rintro e W' ⟨⟨ov, bl, S, rfl, hm, hs, hf⟩, hb⟩
  obtain ⟨g, c, rfl, _, hrow⟩ := hm.row hy
  exact ⟨g, c, bl y, S y x, rfl, hrow y hy, (hm.2.1 y hy).2.cell hx, full_reach hr hs hf hy hx, h.later hb⟩
theorem r_near {x y : Nat} {b : Bool} (hc : CheckIs ts 0 0) (hx : x < ts.length) (hy : y < ts.length) (hb : b = true ↔ Reach ts y x) (h : Knows w v ts L W) : Calls Tryd.prog 28 #[v, .int .i64 x, .int .i64 y] W fun e W' => e = .returned (.tuple #[.bool b, .nilIface]) ∧ Knows w v ts L W' :=
  (reaches_any v ts x y W h.plan).mono fun e W' ⟨he, hB⟩ => ⟨by
    rcases he with ⟨p', q', hq, hc', rfl⟩ | ⟨_, hf, rfl⟩ | ⟨_, x', y', hx', hy', _, _, b', rfl, hb'⟩
    · exact absurd (hc.det hc').2.symm hq
    · omega
    · obtain rfl : x = x' := by omega
      obtain rfl : y = y' := by omega
      have : b' = b := Bool.eq_iff_iff.2 (hb'.trans hb.symm)
      rw [this], h.later hB⟩
end
end Go.Proofs.YtefkglgccllbeaaDoor
