/- Plain: a turn bit by bit, as the document does it; a round in which nothing was done. No word of the program. -/
import Derived.Test.YtajmnnjafhanaaaDoorYb
namespace Go.Proofs.YtajmnnjafhanaaaDoor

theorem turnY_zero (most : Nat) (s : Ys) (i : Nat) : turnY most 0 s i = s := by
  have h0 : takeY most 0 s i = 0 := by unfold takeY; omega
  unfold turnY
  rw [h0]
  cases s with
  | mk o l =>
    simp only [List.replicate_zero, List.append_nil, Nat.sub_zero, Ys.mk.injEq, true_and]
    funext k
    split
    · rename_i e; rw [e]
    · rfl
/-- One bit more of a job. -/
def bitY (s : Ys) (i : Nat) : Ys := ⟨s.out ++ [i], fun k => if k = i then s.left i - 1 else s.left k⟩
theorem turnY_take {most k : Nat} {s : Ys} {i : Nat} (h1 : 0 < (turnY most k s i).left i) (h2 : (turnY most k s i).out.length < most) : turnY most (k + 1) s i = bitY (turnY most k s i) i := by
  have hk : takeY most k s i = k := by
    rw [turnY_left, if_pos rfl] at h1
    rw [turnY_len] at h2
    rcases takeY_or most k s i with h | h | h
    · exact h
    · omega
    · omega
  have hk1 : takeY most (k + 1) s i = k + 1 := by
    rw [turnY_left, if_pos rfl, hk] at h1
    rw [turnY_len, hk] at h2
    unfold takeY
    omega
  unfold bitY
  unfold turnY
  rw [hk, hk1]
  dsimp only
  rw [List.replicate_succ', ← List.append_assoc]
  congr 1
  funext j
  by_cases e : j = i
  · subst e; simp; omega
  · simp [e]
theorem turnY_stay {most k : Nat} {s : Ys} {i : Nat} (h : ¬ (0 < (turnY most k s i).left i ∧ (turnY most k s i).out.length < most)) (hle : s.out.length ≤ most) : turnY most (k + 1) s i = turnY most k s i := by
  have hk : takeY most (k + 1) s i = takeY most k s i := by
    rw [turnY_left, if_pos rfl, turnY_len] at h
    obtain ⟨a1, a2, a3⟩ := takeY_le most k s i
    unfold takeY at *
    omega
  unfold turnY
  rw [hk]
/-- A round in which nothing was done: all is done, or as much as may be. -/
theorem roundY_still {most n : Nat} {wt : Nat → Nat} {s : Ys} (hw : ∀ i, i < n → 1 ≤ wt i) (hle : s.out.length ≤ most) (h : (roundY most wt s n).out.length = s.out.length) : DoneY most n s := by
  apply Classical.byContradiction
  intro hd
  have := roundY_more hw hle hd
  omega
/-- However many rounds are done, if nothing is left to do, it is the same. -/
theorem roundsY_same {most n : Nat} {wt w : Nat → Nat} {r q : Nat} (hr : DoneY most n (roundsY most n wt w r)) (hq : DoneY most n (roundsY most n wt w q)) : roundsY most n wt w r = roundsY most n wt w q := by
  rcases Nat.le_total r q with h | h
  · exact (roundsY_done hr q h).symm
  · exact roundsY_done hq r h
/-- What the document's Serve comes to: so many rounds and one. -/
theorem roundsY_most {most n : Nat} {wt w : Nat → Nat} (hw : ∀ i, i < n → 1 ≤ wt i) : DoneY most n (roundsY most n wt w (most + 1)) := by
  rw [roundsY_done (roundsY_ends hw) (most + 1) (by omega)]
  exact roundsY_ends hw
/-- Where fewer bits were done than may be none waits. -/
theorem doneY_rest {most n : Nat} {s : Ys} (h : DoneY most n s) (hl : s.out.length < most) : ∀ i, i < n → s.left i = 0 := by
  rcases h with h | h
  · omega
  · exact h
end Go.Proofs.YtajmnnjafhanaaaDoor
