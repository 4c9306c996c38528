/- The walk of GreedyBound. -/
import Derived.Test.YtkcpimbhfmhjgaaPe
import Derived.Test.YtkcpimbhfmhjgaaJab
import Derived.Test.YtkcpimbhfmhjgaaJs
namespace Go.Proofs.Ytkcpimbhfmhjgaa
open Go.RowKit Go.Deep

/-- The law's own plan: three tasks beside each other. -/
def oneTs : List (Int × List Int) := [(3, []), (2, []), (4, [])]
theorem one_needs (x : Nat) : needsOf oneTs x = [] := by
  unfold needsOf oneTs
  match x with
  | 0 => rfl
  | 1 => rfl
  | 2 => rfl
  | _ + 3 => rfl
theorem one_check : CheckIs oneTs 0 0 := by
  refine CheckIs.none (by decide) (fun j hj => ?_) (fun j _ h => ?_)
  · have : j < 3 := hj
    rcases (by omega : j = 0 ∨ j = 1 ∨ j = 2) with rfl | rfl | rfl <;> decide
  · have hno : ∀ x y, ¬ Need oneTs x y := fun x y h => by unfold Need at h; rw [one_needs] at h; cases h
    obtain ⟨n, h⟩ := h
    cases n with
    | zero => exact hno _ _ h
    | succ n => obtain ⟨y, _, h⟩ := h; exact hno _ _ h
theorem one_stops : Stops oneTs 2 6 := ⟨by unfold Busy; decide, by decide⟩
theorem one_plan (w : World) : PlanAt (w.alloc (.cells #[.int .i64 3, .slice none 0 0, .int .i64 2, .slice none 0 0, .int .i64 4, .slice none 0 0] 45)) (.slice (some ⟨w.heap.size, 0, none⟩) 3 3) oneTs := by
  have hb := blk_alloc_new w (.cells #[.int .i64 3, .slice none 0 0, .int .i64 2, .slice none 0 0, .int .i64 4, .slice none 0 0] 45)
  generalize w.alloc (.cells #[.int .i64 3, .slice none 0 0, .int .i64 2, .slice none 0 0, .int .i64 4, .slice none 0 0] 45) = W at hb ⊢
  have hl := (Array.getElem?_eq_some_iff.1 hb).1
  refine ⟨by decide, _, _, rfl, Or.inr ⟨w.heap.size, 0, rfl, hl, fun k hk => ?_⟩⟩
  have hk2 : k < 3 := hk
  rcases (by omega : k = 0 ∨ k = 1 ∨ k = 2) with rfl | rfl | rfl
  all_goals
    refine ⟨by simp [World.cell?, hb, oneTs], _, by simp [World.cell?, hb]; rfl, ?_⟩
    exact ⟨by rw [one_needs]; decide, none, 0, by rw [one_needs]; rfl, Or.inl (one_needs _)⟩
theorem gErr_good {q hands : Int} {ts : List (Int × List Int)} {p : Int} (hc : CheckIs ts 0 0) (hc' : CheckIs ts p q) (h1 : 1 ≤ hands) (h6 : hands ≤ 6) : gErr q hands = 0 := by
  obtain ⟨_, rfl⟩ := hc.det hc'
  unfold gErr
  rw [if_pos rfl, if_neg (by omega)]
theorem long_is {v : Value} {ts : List (Int × List Int)} {hands : Int} {s : Nat} {w : World} (hp : PlanAt w v ts) (hc : CheckIs ts 0 0) (h1 : 1 ≤ hands) (h6 : hands ≤ 6) (hs : Stops ts hands.toNat s) :
    Calls Try.prog 13 #[v, .int .i64 hands] w fun e w' => e = .returned (.tuple #[.int .i64 (s : Int), .nilIface]) ∧ Below w.heap.size w w' := by
  refine (long_any v ts hands w hp).mono ?_
  rintro e w' ⟨hl, hb⟩
  rcases hl with ⟨p, q, hc', hq, _⟩ | ⟨_, _, _, s', hs', rfl⟩
  · exact absurd (gErr_good hc hc' h1 h6) hq
  · rw [hs'.det hs]; exact ⟨rfl, hb⟩
/-- Graham's and Brent's bounds, of a run that stops. -/
theorem bounds_are {ts : List (Int × List Int)} {ord : List Nat} {hands : Int} {s : Nat} (hc : CheckIs ts 0 0) (ho : OrdIs ts ord) (h1 : 1 ≤ hands) (h6 : hands ≤ 6) (hs : Stops ts hands.toNat s) :
    maxTo (tailsOf ts ord) ts.length ≤ s ∧ workTo ts ts.length ≤ hands * s ∧ hands * s ≤ workTo ts ts.length + (hands - 1) * maxTo (tailsOf ts ord) ts.length ∧ ((bitsTo ts hands.toNat s).length : Int) = workTo ts ts.length ∧ (s : Int) ≤ 600 := by
  have hd := (Ready.of hc ho).deep
  obtain ⟨hw, hr, hno⟩ := hc.worksJ
  have hl := (leftAt_sched ts hands.toNat).long hw hr hno (by omega) hd (hs.over hw hr hno)
  rw [Int.toNat_of_nonneg (by omega)] at hl
  rw [Int.mul_comm hands]
  have := hs.le hw (by omega)
  exact ⟨hl.2.2.1, hl.2.1, hl.2.2.2, by rw [bits_units]; exact hl.1, by omega⟩
theorem ord_exists {v : Value} {ts : List (Int × List Int)} (hc : CheckIs ts 0 0) (W : World) (hp : PlanAt W v ts) : ∃ ord, OrdIs ts ord := by
  obtain ⟨e, w', fr, ⟨h, _⟩, _⟩ := tails_any v ts W hp []
  rcases h with ⟨p, q, hq, hc', _⟩ | ⟨_, ord, rv, ho, _⟩
  · exact absurd (CheckIs.det hc' hc).2 hq
  · exact ⟨ord, ho⟩
/-- Bits in a row of their own are bits that may be read. -/
theorem RowB.bitsAt {b : Nat} {w : World} {v : Value} {bs : List (Nat × Nat × Nat)} (h : RowB b w v bs) (hl : bs.length * 24 ≤ 140737488351232) : BitsAt w v (bs.map bitZ) := by
  have hgd : ∀ k, k < bs.length → (bs.map bitZ).getD k (0, 0, 0) = bitZ (bs.getD k (0, 0, 0)) := fun k hk => by
    simp [List.getD_eq_getElem?_getD, hk]
  by_cases hz : 0 < bs.length
  · obtain ⟨g, c, rfl, _, hlt, hcells⟩ := h.full hz
    refine ⟨by rw [List.length_map]; exact hl, _, _, by rw [List.length_map], Or.inr ⟨g, 0, rfl, hlt, fun k hk => ?_⟩⟩
    rw [List.length_map] at hk
    rw [hgd k hk, Nat.zero_add]
    exact hcells.2 k hk
  · obtain ⟨a, c, rfl⟩ := h.shape
    exact ⟨by rw [List.length_map]; exact hl, a, c, by rw [List.length_map], Or.inl (by rw [List.eq_nil_of_length_eq_zero (show bs.length = 0 by omega)]; rfl)⟩
theorem jErr_good {q hands : Int} {ts : List (Int × List Int)} {p : Int} (hc : CheckIs ts 0 0) (hc' : CheckIs ts p q) (h1 : 1 ≤ hands) (h6 : hands ≤ 6) : jErr q hands = 0 := by
  obtain ⟨_, rfl⟩ := hc.det hc'
  unfold jErr
  rw [if_pos rfl, if_neg (by omega)]
theorem judge_is {v bv : Value} {ts : List (Int × List Int)} {hands : Int} {s b : Nat} {w : World} (hp : PlanAt w v ts) (hc : CheckIs ts 0 0) (h1 : 1 ≤ hands) (h6 : hands ≤ 6) (hs : Stops ts hands.toNat s) (hb : RowB b w bv (bitsTo ts hands.toNat s)) (hl : (bitsTo ts hands.toNat s).length ≤ 3600) :
    Calls Try.prog 11 #[v, .int .i64 hands, bv] w fun e w' => e = .returned .nilIface ∧ Below w.heap.size w w' := by
  refine (bits_any v bv ts _ hands w hp (hb.bitsAt (by omega))).mono ?_
  rintro e w' ⟨hl, hb⟩
  refine ⟨?_, hb⟩
  obtain ⟨hw, hr, hno⟩ := hc.worksJ
  rcases hl with ⟨p, q, hc', hq, _⟩ | ⟨_, _, _, rfl⟩
  · exact absurd (jErr_good hc hc' h1 h6) hq
  · rw [(bits_ok hw hr).2 (greedy_bits hw hr hno (by omega) hs), errV_zero]

end Go.Proofs.Ytkcpimbhfmhjgaa
