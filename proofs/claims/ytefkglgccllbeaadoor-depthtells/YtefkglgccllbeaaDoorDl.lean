/- The calls of DepthWay, one by one. -/
import Derived.Test.YtefkglgccllbeaaDoorDj
namespace Go.Proofs.YtefkglgccllbeaaDoor
open Go.RowKit Go.Deep

/-- The memory in which DepthWay's own plan lies. -/
def factWorld (w : World) : World := ((w.alloc (.cells #[.int .i64 0] 3)).alloc (.cells #[.int .i64 0] 3)).alloc (.cells #[.int .i64 3, .slice none 0 0, .int .i64 2, .slice (some ⟨w.heap.size, 0, none⟩) 1 1, .int .i64 4, .slice (some ⟨w.heap.size + 1, 0, none⟩) 1 1] 30)
theorem fact_ints (w : World) (b : Nat) (hb : w.heap[b]? = some (.cells #[.int .i64 0] 3 (0, 0))) : IntsAt w (.slice (some ⟨b, 0, none⟩) 1 1) [0] := by
  refine ⟨by simp, _, _, rfl, Or.inr ⟨b, 0, rfl, lt_of_block hb, fun k hk => ?_⟩⟩
  have : k = 0 := by simp at hk; omega
  subst this
  simp [World.cell?, hb]
theorem fact_plan (w : World) : PlanAt (factWorld w) (.slice (some ⟨w.heap.size + 1 + 1, 0, none⟩) 3 3) factTs := by
  have h0 : (factWorld w).heap[w.heap.size]? = some (.cells #[.int .i64 0] 3 (0, 0)) := by
    unfold factWorld
    rw [blk_alloc_lt _ _ _ (by simp; omega), blk_alloc_lt _ _ _ (by simp)]
    exact blk_alloc_new _ _
  have h1 : (factWorld w).heap[w.heap.size + 1]? = some (.cells #[.int .i64 0] 3 (0, 0)) := by
    unfold factWorld
    rw [blk_alloc_lt _ _ _ (by simp)]
    have := blk_alloc_new (w.alloc (.cells #[.int .i64 0] 3)) (.cells #[.int .i64 0] 3)
    rwa [nblk_alloc] at this
  have h2 : (factWorld w).heap[w.heap.size + 1 + 1]? = some (.cells #[.int .i64 3, .slice none 0 0, .int .i64 2, .slice (some ⟨w.heap.size, 0, none⟩) 1 1, .int .i64 4, .slice (some ⟨w.heap.size + 1, 0, none⟩) 1 1] 30 (0, 0)) := by
    have := blk_alloc_new ((w.alloc (.cells #[.int .i64 0] 3)).alloc (.cells #[.int .i64 0] 3)) (.cells #[.int .i64 3, .slice none 0 0, .int .i64 2, .slice (some ⟨w.heap.size, 0, none⟩) 1 1, .int .i64 4, .slice (some ⟨w.heap.size + 1, 0, none⟩) 1 1] 30)
    rw [nblk_alloc, nblk_alloc] at this
    exact this
  refine ⟨by decide, _, _, rfl, Or.inr ⟨_, 0, rfl, lt_of_block h2, fun k hk => ?_⟩⟩
  have hk3 : k < 3 := hk
  match k, hk3 with
  | 0, _ => exact ⟨by simp [World.cell?, h2, factTs], _, by simp [World.cell?, h2]; rfl, by simp [needsOf, factTs], none, 0, rfl, Or.inl rfl⟩
  | 1, _ => exact ⟨by simp [World.cell?, h2, factTs], _, by simp [World.cell?, h2], fact_ints _ _ h0⟩
  | 2, _ => exact ⟨by simp [World.cell?, h2, factTs], _, by simp [World.cell?, h2], fact_ints _ _ h1⟩

theorem fact_longest (w : World) : Calls Tryd.prog 25 #[.slice (some ⟨w.heap.size + 1 + 1, 0, none⟩) 3 3] (factWorld w) fun e w' => (∃ b o c, e = .returned (.tuple #[.slice (some ⟨b, o, none⟩) 2 c, .nilIface]) ∧ w'.cell? ⟨b, o, none⟩ = some (.int .i64 0) ∧ w'.cell? ⟨b, o + 1, none⟩ = some (.int .i64 2)) ∧ Below w.heap.size w w' := by
  have hB : Below w.heap.size w (factWorld w) := (((Below.refl _ _).alloc (Nat.le_refl _) _).alloc (by simp) _).alloc (by simp; omega) _
  refine (longest_any _ factTs _ (fact_plan w)).mono ?_
  rintro e w' ⟨h, hb⟩
  refine ⟨?_, hB.trans (hb.mono hB.size)⟩
  rcases h with ⟨p, q, hq, hc, _⟩ | ⟨hc, ord, way, wv, ho, hw, rfl, _, hi⟩
  · exact absurd (fact_check.det hc).2.symm hq
  · obtain rfl := fact_way (Ready.of hc ho).deep hw
    obtain ⟨_, a, c, rfl, hz⟩ := hi
    rcases hz with hz | ⟨b, o, rfl, _, hcell⟩
    · simp [intsOf] at hz
    · exact ⟨b, o, c, rfl, by have := hcell 0 (by decide); simpa [intsOf] using this, by have := hcell 1 (by decide); simpa [intsOf] using this⟩

/-- A way in memory. -/
theorem longest_back (v : Value) (ts : List (Int × List Int)) (w : World) (hp : PlanAt w v ts) :
    Calls Tryd.prog 25 #[v] w fun e w' => ((∃ q, q ≠ 0 ∧ e = .returned (.tuple #[.slice none 0 0, errV q])) ∨
      (∃ ord way wa wc, CheckIs ts 0 0 ∧ OrdIs ts ord ∧ WayIs ts (tailsOf ts ord) way ∧ e = .returned (.tuple #[.slice wa way.length wc, .nilIface]) ∧ way.length ≤ 601 ∧ IntsAt w' (.slice wa way.length wc) (intsOf way))) ∧ Below w.heap.size w w' := by
  refine (longest_any v ts w hp).mono ?_
  rintro e w' ⟨h, hb⟩
  refine ⟨?_, hb⟩
  rcases h with ⟨p, q, hq, hc, rfl⟩ | ⟨hc, ord, way, wv, ho, hw, rfl, hle, hi⟩
  · exact Or.inl ⟨q, hq, rfl⟩
  · have hi2 := hi
    obtain ⟨_, a, c, rfl, _⟩ := hi
    rw [intsOf_length] at *
    exact Or.inr ⟨ord, way, a, c, hc, ho, hw, rfl, hle, hi2⟩

theorem span_right (v : Value) (ts : List (Int × List Int)) (ord : List Nat) (w : World) (hp : PlanAt w v ts) (hc : CheckIs ts 0 0) (ho : OrdIs ts ord) :
    Calls Tryd.prog 22 #[v] w fun e w' => e = .returned (.tuple #[.int .i64 (maxTo (tailsOf ts ord) ts.length), .nilIface]) ∧ Below w.heap.size w w' := by
  refine (span_any v ts w hp).mono ?_
  rintro e w' ⟨h, hb⟩
  refine ⟨?_, hb⟩
  rcases h with ⟨p, q, hq, hc', _⟩ | ⟨_, ord', ho', rfl⟩
  · exact absurd (hc.det hc').2.symm hq
  · rw [ho.det ho' hc]

theorem ranks_right (v : Value) (ts : List (Int × List Int)) (ord : List Nat) (w : World) (hp : PlanAt w v ts) (hc : CheckIs ts 0 0) (ho : OrdIs ts ord) :
    Calls Tryd.prog 23 #[v] w fun e w' => (∃ a c, e = .returned (.tuple #[.slice a ts.length c, .nilIface]) ∧ IntsAt w' (.slice a ts.length c) (listOf (ranksOf ts ord) ts.length)) ∧ Below w.heap.size w w' := by
  refine (ranks_any v ts w hp).mono ?_
  rintro e w' ⟨h, hb⟩
  refine ⟨?_, hb⟩
  rcases h with ⟨p, q, hq, hc', _⟩ | ⟨_, ord', rv, ho', rfl, hi⟩
  · exact absurd (hc.det hc').2.symm hq
  · obtain rfl := ho.det ho' hc
    have hi2 := hi
    obtain ⟨_, a, c, rfl, _⟩ := hi
    rw [listOf_length] at *
    exact ⟨a, c, rfl, hi2⟩

theorem tails_right (v : Value) (ts : List (Int × List Int)) (ord : List Nat) (w : World) (hp : PlanAt w v ts) (hc : CheckIs ts 0 0) (ho : OrdIs ts ord) :
    Calls Tryd.prog 24 #[v] w fun e w' => (∃ a c, e = .returned (.tuple #[.slice a ts.length c, .nilIface]) ∧ IntsAt w' (.slice a ts.length c) (listOf (tailsOf ts ord) ts.length)) ∧ Below w.heap.size w w' := by
  refine (tails_any v ts w hp).mono ?_
  rintro e w' ⟨h, hb⟩
  refine ⟨?_, hb⟩
  rcases h with ⟨p, q, hq, hc', _⟩ | ⟨_, ord', rv, ho', rfl, hi⟩
  · exact absurd (hc.det hc').2.symm hq
  · obtain rfl := ho.det ho' hc
    have hi2 := hi
    obtain ⟨_, a, c, rfl, _⟩ := hi
    rw [listOf_length] at *
    exact ⟨a, c, rfl, hi2⟩
end Go.Proofs.YtefkglgccllbeaaDoor
