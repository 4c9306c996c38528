/- Plain: jobs that are served round by round; each its share. No word of the program. -/
import Derived.Test.YtajmnnjafhanaaaDoorY0
namespace Go.Proofs.YtajmnnjafhanaaaDoor

/-- What was done, bit by bit, and how much of each job still waits. -/
structure Ys where
  out : List Nat
  left : Nat → Nat
/-- So many bits has a job in its turn. -/
def takeY (most wt : Nat) (s : Ys) (i : Nat) : Nat := min wt (min (s.left i) (most - s.out.length))
def turnY (most wt : Nat) (s : Ys) (i : Nat) : Ys := ⟨s.out ++ List.replicate (takeY most wt s i) i, fun k => if k = i then s.left i - takeY most wt s i else s.left k⟩
/-- A round, up to the k-th job. -/
def roundY (most : Nat) (wt : Nat → Nat) (s : Ys) : Nat → Ys
  | 0 => s
  | k + 1 => turnY most (wt k) (roundY most wt s k) k
/-- So many rounds. -/
def roundsY (most n : Nat) (wt w : Nat → Nat) : Nat → Ys
  | 0 => ⟨[], w⟩
  | r + 1 => roundY most wt (roundsY most n wt w r) n
def DoneY (most n : Nat) (s : Ys) : Prop := s.out.length = most ∨ ∀ i, i < n → s.left i = 0
/-- What is known of every state. -/
structure OkY (most n : Nat) (w : Nat → Nat) (s : Ys) : Prop where
  le : s.out.length ≤ most
  own : ∀ x, x ∈ s.out → x < n
  cnt : ∀ i, s.out.count i + s.left i = w i
theorem takeY_le (most wt : Nat) (s : Ys) (i : Nat) : takeY most wt s i ≤ wt ∧ takeY most wt s i ≤ s.left i ∧ takeY most wt s i ≤ most - s.out.length := by
  unfold takeY
  exact ⟨Nat.min_le_left _ _, Nat.le_trans (Nat.min_le_right _ _) (Nat.min_le_left _ _), Nat.le_trans (Nat.min_le_right _ _) (Nat.min_le_right _ _)⟩
theorem takeY_or (most wt : Nat) (s : Ys) (i : Nat) : takeY most wt s i = wt ∨ takeY most wt s i = s.left i ∨ takeY most wt s i = most - s.out.length := by
  unfold takeY
  omega
theorem turnY_len (most wt : Nat) (s : Ys) (i : Nat) : (turnY most wt s i).out.length = s.out.length + takeY most wt s i := by simp [turnY]
theorem turnY_count (most wt : Nat) (s : Ys) (i k : Nat) : (turnY most wt s i).out.count k = s.out.count k + if k = i then takeY most wt s i else 0 := by
  unfold turnY
  dsimp only
  rw [List.count_append, List.count_replicate]
  by_cases e : k = i
  · subst e; simp
  · have : ¬ i = k := fun h => e h.symm
    simp [e, this]
theorem turnY_left (most wt : Nat) (s : Ys) (i k : Nat) : (turnY most wt s i).left k = if k = i then s.left i - takeY most wt s i else s.left k := rfl
theorem OkY.turn {most n : Nat} {w : Nat → Nat} {s : Ys} (h : OkY most n w s) {i : Nat} (hi : i < n) (wt : Nat) : OkY most n w (turnY most wt s i) := by
  obtain ⟨h1, h2, h3⟩ := takeY_le most wt s i
  refine ⟨?_, fun x hx => ?_, fun k => ?_⟩
  · rw [turnY_len]; have := h.le; omega
  · unfold turnY at hx
    dsimp only at hx
    rcases List.mem_append.1 hx with hx | hx
    · exact h.own x hx
    · rw [List.eq_of_mem_replicate hx]; exact hi
  · rw [turnY_count, turnY_left]
    have := h.cnt k
    by_cases e : k = i
    · subst e; rw [if_pos rfl, if_pos rfl]; omega
    · rw [if_neg e, if_neg e]; omega
theorem OkY.round {most n : Nat} {w wt : Nat → Nat} {s : Ys} (h : OkY most n w s) : ∀ k, k ≤ n → OkY most n w (roundY most wt s k) := by
  intro k
  induction k with
  | zero => intro _; exact h
  | succ k ih => intro hk; exact (ih (by omega)).turn (by omega) _
theorem OkY.start (most n : Nat) (w : Nat → Nat) : OkY most n w ⟨[], w⟩ := ⟨by simp, fun x hx => by simp at hx, fun i => by simp⟩
theorem OkY.rounds (most n : Nat) (wt w : Nat → Nat) (r : Nat) : OkY most n w (roundsY most n wt w r) := by
  induction r with
  | zero => exact OkY.start _ _ _
  | succ r ih => exact ih.round n (Nat.le_refl _)
theorem turnY_done {most n wt : Nat} {s : Ys} (h : DoneY most n s) {i : Nat} (hi : i < n) : turnY most wt s i = s := by
  have h0 : takeY most wt s i = 0 := by
    obtain ⟨_, h2, h3⟩ := takeY_le most wt s i
    rcases h with h | h
    · omega
    · have := h i hi; omega
  unfold turnY
  rw [h0]
  cases s with
  | mk o l =>
    simp only [List.replicate_zero, List.append_nil, Nat.sub_zero, Ys.mk.injEq, true_and]
    funext k
    split
    · rename_i e; rw [e]
    · rfl
theorem roundY_done {most n : Nat} {wt : Nat → Nat} {s : Ys} (h : DoneY most n s) : ∀ k, k ≤ n → roundY most wt s k = s := by
  intro k
  induction k with
  | zero => intro _; rfl
  | succ k ih =>
    intro hk
    show turnY most (wt k) (roundY most wt s k) k = s
    rw [ih (by omega)]
    exact turnY_done h (by omega)
theorem roundsY_done {most n : Nat} {wt w : Nat → Nat} {r : Nat} (h : DoneY most n (roundsY most n wt w r)) : ∀ q, r ≤ q → roundsY most n wt w q = roundsY most n wt w r := by
  intro q hq
  induction q with
  | zero => rw [show r = 0 by omega]
  | succ q ih =>
    by_cases e : r = q + 1
    · rw [e]
    · show roundY most wt (roundsY most n wt w q) n = _
      rw [ih (by omega)]
      exact roundY_done h n (Nat.le_refl _)
theorem turnY_mono (most wt : Nat) (s : Ys) (i k : Nat) : (turnY most wt s i).left k ≤ s.left k ∧ s.out.length ≤ (turnY most wt s i).out.length := by
  rw [turnY_left, turnY_len]
  split
  · rename_i e; rw [e]; omega
  · omega
theorem roundY_mono (most : Nat) (wt : Nat → Nat) (s : Ys) (k : Nat) : (∀ i, (roundY most wt s k).left i ≤ s.left i) ∧ s.out.length ≤ (roundY most wt s k).out.length := by
  induction k with
  | zero => exact ⟨fun _ => Nat.le_refl _, Nat.le_refl _⟩
  | succ k ih => exact ⟨fun i => Nat.le_trans (turnY_mono most (wt k) _ k i).1 (ih.1 i), Nat.le_trans ih.2 (turnY_mono most (wt k) _ k k).2⟩
/-- A round in which something waits does something. -/
theorem roundY_more {most n : Nat} {wt : Nat → Nat} {s : Ys} (hw : ∀ i, i < n → 1 ≤ wt i) (hle : s.out.length ≤ most) (hd : ¬ DoneY most n s) : s.out.length < (roundY most wt s n).out.length := by
  obtain ⟨i, hi, hp⟩ : ∃ i, i < n ∧ 0 < s.left i := by
    apply Classical.byContradiction
    intro hc
    exact hd (Or.inr (fun i hi => by
      apply Classical.byContradiction
      intro h0
      exact hc ⟨i, hi, by omega⟩))
  have hlt : s.out.length < most := by
    rcases Nat.lt_or_ge s.out.length most with h | h
    · exact h
    · exact absurd (Or.inl (by omega)) hd
  have key : ∀ k, k ≤ n → i < k → s.out.length < (roundY most wt s k).out.length := by
    intro k
    induction k with
    | zero => intro _ h; omega
    | succ k ih =>
      intro hk hik
      by_cases e : i = k
      · subst e
        show _ < (turnY most (wt i) (roundY most wt s i) i).out.length
        rw [turnY_len]
        have hm := roundY_mono most wt s i
        by_cases h0 : s.out.length < (roundY most wt s i).out.length
        · omega
        · have hk2 : ∀ k, k ≤ i → (roundY most wt s k).left i = s.left i := by
            intro k
            induction k with
            | zero => intro _; rfl
            | succ k ih2 =>
              intro hk2
              show (turnY most (wt k) (roundY most wt s k) k).left i = _
              rw [turnY_left, if_neg (by omega)]
              exact ih2 (by omega)
          have hl := hk2 i (Nat.le_refl _)
          have h1 := hw i hi
          have : 1 ≤ takeY most (wt i) (roundY most wt s i) i := by
            unfold takeY
            rw [hl]
            omega
          omega
      · exact Nat.lt_of_lt_of_le (ih (by omega) (by omega)) (turnY_mono most (wt k) _ k k).2
  exact key n (Nat.le_refl _) hi
/-- Behind so many rounds all is done, or as much as may be. -/
theorem roundsY_ends {most n : Nat} {wt w : Nat → Nat} (hw : ∀ i, i < n → 1 ≤ wt i) : DoneY most n (roundsY most n wt w most) := by
  have key : ∀ r, r ≤ (roundsY most n wt w r).out.length ∨ DoneY most n (roundsY most n wt w r) := by
    intro r
    induction r with
    | zero => exact Or.inl (Nat.zero_le _)
    | succ r ih =>
      by_cases hd : DoneY most n (roundsY most n wt w r)
      · right
        show DoneY most n (roundY most wt (roundsY most n wt w r) n)
        rw [roundY_done hd n (Nat.le_refl _)]
        exact hd
      · left
        have h1 := roundY_more hw (OkY.rounds most n wt w r).le hd
        have h2 := ih.resolve_right hd
        show r + 1 ≤ (roundY most wt (roundsY most n wt w r) n).out.length
        omega
  rcases key most with h | h
  · exact Or.inl (Nat.le_antisymm (OkY.rounds most n wt w most).le h)
  · exact h
/-- While all wait each has its weight in each round. -/
def EvenY (most n : Nat) (wt : Nat → Nat) (s : Ys) (r k : Nat) : Prop := s.out.length < most ∧ ∀ i, i < n → 0 < s.left i → s.out.count i = wt i * (r + if i < k then 1 else 0)
def NearY (n : Nat) (wt : Nat → Nat) (s : Ys) : Prop := ∃ R, ∀ i, i < n → 0 < s.left i → wt i * R ≤ s.out.count i ∧ s.out.count i ≤ wt i * (R + 1)
theorem EvenY.near {most n : Nat} {wt : Nat → Nat} {s : Ys} {r k : Nat} (h : EvenY most n wt s r k) : NearY n wt s := ⟨r, fun i hi hl => by
  rw [h.2 i hi hl]
  refine ⟨Nat.mul_le_mul_left _ (by omega), Nat.mul_le_mul_left _ ?_⟩
  split <;> omega⟩
theorem EvenY.turn {most n : Nat} {wt : Nat → Nat} {s : Ys} {r k : Nat} (h : EvenY most n wt s r k) (hk : k < n) : EvenY most n wt (turnY most (wt k) s k) r (k + 1) ∨ ((turnY most (wt k) s k).out.length = most ∧ NearY n wt (turnY most (wt k) s k)) := by
  obtain ⟨h1, h2, h3⟩ := takeY_le most (wt k) s k
  have hlen := turnY_len most (wt k) s k
  by_cases hf : (turnY most (wt k) s k).out.length < most
  · left
    refine ⟨hf, fun i hi hl => ?_⟩
    rw [turnY_count]
    rw [turnY_left] at hl
    by_cases e : i = k
    · subst e
      rw [if_pos rfl] at hl ⊢
      have ht : takeY most (wt i) s i = wt i := by
        rcases takeY_or most (wt i) s i with h | h | h
        · exact h
        · omega
        · omega
      rw [h.2 i hi (by omega), ht, if_neg (by omega), if_pos (by omega), Nat.add_zero, Nat.mul_add, Nat.mul_one]
    · rw [if_neg e] at hl ⊢
      rw [h.2 i hi hl, Nat.add_zero]
      congr 2
      by_cases e2 : i < k
      · rw [if_pos e2, if_pos (by omega)]
      · rw [if_neg e2, if_neg (by omega)]
  · right
    refine ⟨by have := h.1; omega, r, fun i hi hl => ?_⟩
    rw [turnY_count]
    rw [turnY_left] at hl
    by_cases e : i = k
    · subst e
      rw [if_pos rfl] at hl ⊢
      rw [h.2 i hi (by omega), if_neg (by omega), Nat.add_zero, Nat.mul_add, Nat.mul_one]
      omega
    · rw [if_neg e] at hl ⊢
      rw [h.2 i hi hl, Nat.add_zero]
      refine ⟨Nat.mul_le_mul_left _ (by omega), Nat.mul_le_mul_left _ ?_⟩
      split <;> omega
theorem nearY_round {most n : Nat} {wt : Nat → Nat} {s : Ys} {r : Nat} (h : EvenY most n wt s r 0 ∨ (s.out.length = most ∧ NearY n wt s)) : ∀ k, k ≤ n → EvenY most n wt (roundY most wt s k) r k ∨ ((roundY most wt s k).out.length = most ∧ NearY n wt (roundY most wt s k)) := by
  intro k
  induction k with
  | zero => intro _; exact h
  | succ k ih =>
    intro hk
    rcases ih (by omega) with h1 | ⟨h1, h2⟩
    · exact h1.turn (by omega)
    · right
      show (turnY most (wt k) (roundY most wt s k) k).out.length = most ∧ NearY n wt (turnY most (wt k) (roundY most wt s k) k)
      rw [turnY_done (n := n) (Or.inl h1) (by omega)]
      exact ⟨h1, h2⟩
theorem nearY_rounds (most n : Nat) (wt w : Nat → Nat) (r : Nat) : EvenY most n wt (roundsY most n wt w r) r 0 ∨ ((roundsY most n wt w r).out.length = most ∧ NearY n wt (roundsY most n wt w r)) := by
  induction r with
  | zero =>
    rcases Nat.eq_zero_or_pos most with h | h
    · exact Or.inr ⟨h.symm, 0, fun i _ _ => by simp [roundsY]⟩
    · exact Or.inl ⟨h, fun i _ _ => by simp [roundsY]⟩
  | succ r ih =>
    rcases nearY_round ih n (Nat.le_refl _) with h | h
    · left
      refine ⟨h.1, fun i hi hl => ?_⟩
      rw [show roundsY most n wt w (r + 1) = roundY most wt (roundsY most n wt w r) n from rfl] at hl ⊢
      rw [h.2 i hi hl, if_pos hi, if_neg (by omega)]
    · exact Or.inr h
/-- While all wait no two are apart, by weight, by more than a round. -/
theorem nearY_all (most n : Nat) (wt w : Nat → Nat) (r : Nat) : NearY n wt (roundsY most n wt w r) := by
  rcases nearY_rounds most n wt w r with h | h
  · exact h.near
  · exact h.2
theorem fairY {most n : Nat} {wt w : Nat → Nat} {r : Nat} (hw : ∀ i, i < n → 1 ≤ wt i) {i k : Nat} (hi : i < n) (hk : k < n) (hli : 0 < (roundsY most n wt w r).left i) (hlk : 0 < (roundsY most n wt w r).left k) :
    (roundsY most n wt w r).out.count i / wt i ≤ (roundsY most n wt w r).out.count k / wt k + 1 := by
  obtain ⟨R, hR⟩ := nearY_all most n wt w r
  have h1 := (hR i hi hli).2
  have h2 := (hR k hk hlk).1
  have a1 : (roundsY most n wt w r).out.count i / wt i ≤ R + 1 := by
    refine Nat.div_le_of_le_mul ?_
    exact h1
  have a2 : R ≤ (roundsY most n wt w r).out.count k / wt k := (Nat.le_div_iff_mul_le (by have := hw k hk; omega)).2 (by rw [Nat.mul_comm]; exact h2)
  omega
end Go.Proofs.YtajmnnjafhanaaaDoor
