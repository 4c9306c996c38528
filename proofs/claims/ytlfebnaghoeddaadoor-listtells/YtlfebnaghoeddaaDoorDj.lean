/- Plain: the plan that DepthWay lays itself, its longest way; orders are one. -/
import Derived.Test.YtlfebnaghoeddaaDoorDh
namespace Go.Proofs.YtlfebnaghoeddaaDoor
open Go.RowKit Go.Deep

theorem NextIs.det {ts : List (Int × List Int)} {T : Nat → Bool} {r r' : Int} (h : NextIs ts T r) (h' : NextIs ts T r') : r = r' := by
  rcases h with ⟨k, h1, h2, h3, rfl⟩ | ⟨h, rfl⟩
  · rcases h' with ⟨k', g1, g2, g3, rfl⟩ | ⟨g, rfl⟩
    · rcases Nat.lt_trichotomy k k' with e | e | e
      · rw [g2 k e] at h3; cases h3
      · rw [e]
      · rw [h2 k' e] at g3; cases g3
    · rw [g k h1] at h3; cases h3
  · rcases h' with ⟨k', g1, g2, g3, rfl⟩ | ⟨g, rfl⟩
    · rw [h k' g1] at g3; cases g3
    · rfl
theorem OrdIs.det {ts : List (Int × List Int)} {a b : List Nat} (h : OrdIs ts a) (h' : OrdIs ts b) (hc : CheckIs ts 0 0) : a = b := by
  have la := (Ready.of hc h).len
  have lb := (Ready.of hc h').len
  have key : ∀ m, m ≤ ts.length → a.take m = b.take m := by
    intro m
    induction m with
    | zero => intro _; rfl
    | succ m ih =>
      intro hm
      have e := ih (by omega)
      have h1 := h.1 m (by omega)
      have h2 := h'.1 m (by omega)
      rw [e] at h1
      have e2 := h1.det h2
      have e3 : a.getD m 0 = b.getD m 0 := by omega
      rw [getD_eq (by omega), getD_eq (by omega)] at e3
      rw [List.take_succ_eq_append_getElem (by omega), List.take_succ_eq_append_getElem (by omega), e, e3]
  have := key ts.length (Nat.le_refl _)
  rw [List.take_of_length_le (by omega), List.take_of_length_le (by omega)] at this
  exact this

def factTs : List (Int × List Int) := [(3, []), (2, [0]), (4, [0])]
theorem fact_need {x y : Nat} (h : Need factTs x y) : y = 0 ∧ (x = 1 ∨ x = 2) := by
  unfold Need needsOf factTs at h
  match x, h with
  | 0, h => simp at h
  | 1, h => simp at h; omega
  | 2, h => simp at h; omega
  | x + 3, h => simp at h
theorem fact_reach {x y : Nat} (h : Reach factTs x y) : y < x := by
  induction h using Reach.ind with
  | one hn => have := fact_need hn; omega
  | more _ hn ih => have := fact_need hn; omega
theorem fact_err (j : Nat) (hj : j < 3) : errOf factTs j = 0 := by
  match j, hj with
  | 0, _ => decide
  | 1, _ => decide
  | 2, _ => decide
theorem fact_check : CheckIs factTs 0 0 := CheckIs.none (by decide) (fun j hj => fact_err j hj) (fun j _ h => by have := fact_reach h; omega)

theorem fact_tails {R T : Nat → Int} (h : Deep factTs R T) : T 0 = 7 ∧ T 1 = 2 ∧ T 2 = 4 := by
  have w0 : wkOf factTs 0 = 3 := rfl
  have w1 : wkOf factTs 1 = 2 := rfl
  have w2 : wkOf factTs 2 = 4 := rfl
  have h1 : T 1 = 2 := by
    rcases h.teq 1 (by decide) with e | ⟨k, _, hn, _⟩
    · omega
    · have := fact_need hn; omega
  have h2 : T 2 = 4 := by
    rcases h.teq 2 (by decide) with e | ⟨k, _, hn, _⟩
    · omega
    · have := fact_need hn; omega
  have u2 := h.tup 2 (by decide) 0 (by show ((0 : Nat) : Int) ∈ needsOf factTs 2; decide)
  refine ⟨?_, h1, h2⟩
  rcases h.teq 0 (by decide) with e | ⟨k, _, hn, e⟩
  · omega
  · rcases (fact_need hn).2 with rfl | rfl <;> omega

theorem fact_way {R T : Nat → Int} (h : Deep factTs R T) {way : List Nat} (hw : WayIs factTs T way) : way = [0, 2] := by
  obtain ⟨h0, h1, h2⟩ := fact_tails h
  have hm : maxTo T factTs.length = 7 := by
    show max (max (max 0 (T 0)) (T 1)) (T 2) = 7
    omega
  have w0 : wkOf factTs 0 = 3 := rfl
  have w2 : wkOf factTs 2 = 4 := rfl
  refine hw.det ⟨fun m hm' => ?_, ?_⟩
  · match m, hm' with
    | 0, _ => exact Or.inl ⟨0, by decide, fun j hj => by omega, by simp [goesOn, hm, h0], rfl⟩
    | 1, _ =>
      refine Or.inl ⟨2, by decide, fun j hj => ?_, ?_, rfl⟩
      · match j, hj with
        | 0, _ => simp [goesOn, h0, w0]
        | 1, _ => simp [goesOn, h0, h1, w0]
      · simp only [List.take, List.getLast?_singleton, goesOn, h0, h2, w0]; decide
  · refine Or.inr ⟨fun j hj => ?_, rfl⟩
    have hj3 : j < 3 := hj
    match j, hj3 with
    | 0, _ => simp [goesOn, h0, h2, w2]
    | 1, _ => simp [goesOn, h1, h2, w2]
    | 2, _ => simp [goesOn, h2, w2]
end Go.Proofs.YtlfebnaghoeddaaDoor
