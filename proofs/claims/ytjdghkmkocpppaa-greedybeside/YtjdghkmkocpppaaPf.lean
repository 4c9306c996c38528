/- Plain: a chain, and tasks beside each other, done step by step. No word of the program. -/
import Derived.Test.YtjdghkmkocpppaaPa
import Derived.Test.YtjdghkmkocpppaaDu
namespace Go.Proofs.Ytjdghkmkocpppaa

/-- Of n the first a are done, the others have one unit left. -/
def cL (a n : Nat) : Nat → Int := fun x => if x < a then 0 else if x < n then 1 else 0
theorem cL_pos (a n x : Nat) : 0 < cL a n x ↔ a ≤ x ∧ x < n := by
  unfold cL
  split
  · constructor <;> intro h <;> omega
  · split
    · constructor <;> intro h <;> omega
    · constructor <;> intro h <;> omega

theorem chain_rdyB {n s k : Nat} (hk : k < n) : rdyB (chainTs 1 n) (cL s n) k = decide (k = s) := by
  unfold rdyB
  rw [chain_needs _ _ _ hk]
  by_cases h0 : k = 0
  · subst h0
    have : (0 < cL s n 0) ↔ (0 = s) := by rw [cL_pos]; omega
    simp [this]
  · have h1 : (0 < cL s n k) ↔ s ≤ k := by rw [cL_pos]; omega
    have h2 : undB (cL s n) ((k : Int) - 1) = decide (s ≤ k - 1) := by
      unfold undB
      rw [show ((k : Int) - 1).toNat = k - 1 by omega]
      have : (0 < cL s n (k - 1)) ↔ s ≤ k - 1 := by rw [cL_pos]; omega
      simp [this]
    rw [if_neg h0]
    simp only [List.any_cons, List.any_nil, Bool.or_false, h2, h1]
    by_cases e : k = s
    · subst e; simp; omega
    · by_cases e2 : s ≤ k
      · have : s ≤ k - 1 := by omega
        simp [e, this]
      · simp [e, e2]
theorem chain_rdy {n s : Nat} : ∀ m, m ≤ n → rdyTo (chainTs 1 n) (cL s n) m = if s < m then [s] else [] := by
  intro m
  induction m with
  | zero => intro _; simp [rdyTo]
  | succ m ih =>
    intro hm
    rw [rdyTo_succ, ih (by omega), chain_rdyB (by omega)]
    by_cases e : m = s
    · subst e; simp
    · by_cases e2 : s < m
      · simp [e, e2]; omega
      · have : ¬ s < m + 1 := by omega
        simp [e, e2, this]
theorem chain_left {n h : Nat} (hh : 1 ≤ h) : ∀ s, s ≤ n → leftAt (chainTs 1 n) h s = cL s n := by
  intro s
  induction s with
  | zero =>
    intro _
    funext x
    show wkOf (chainTs 1 n) x = _
    unfold cL
    rw [if_neg (by omega)]
    by_cases hx : x < n
    · rw [if_pos hx, chain_wk _ _ _ hx]
    · rw [if_neg hx, wkOf_past (by rw [chainTs_length]; omega)]
  | succ s ih =>
    intro hs
    show decs (leftAt (chainTs 1 n) h s) (nowL (chainTs 1 n) h (leftAt (chainTs 1 n) h s)) = _
    rw [ih (by omega)]
    unfold nowL
    rw [chainTs_length, chain_rdy n (Nat.le_refl _), if_pos (by omega), List.take_of_length_le (by simp; omega)]
    funext x
    show upd (cL s n) s (cL s n s - 1) x = _
    unfold upd cL
    by_cases e : x = s
    · subst e; simp; omega
    · by_cases e2 : x < s
      · have : x < s + 1 := by omega
        simp [e, e2, this]
      · have : ¬ x < s + 1 := by omega
        simp [e, e2, this]
theorem chain_stops {n h : Nat} (hh : 1 ≤ h) : Stops (chainTs 1 n) h n := by
  constructor
  · intro k hk
    rw [chain_left hh k (by omega), chainTs_length, chain_rdy n (Nat.le_refl _), if_pos hk]
    simp
  · rw [chain_left hh n (Nat.le_refl _), chainTs_length, chain_rdy n (Nat.le_refl _), if_neg (by omega)]

theorem beside_rdyB {n a k : Nat} (hk : k < n) : rdyB (besideTs 1 n) (cL a n) k = decide (a ≤ k) := by
  unfold rdyB
  rw [beside_needs]
  have h1 : (0 < cL a n k) ↔ a ≤ k := by rw [cL_pos]; omega
  simp [h1]
theorem beside_rdy {n a : Nat} : ∀ m, m ≤ n → rdyTo (besideTs 1 n) (cL a n) m = List.range' a (m - a) := by
  intro m
  induction m with
  | zero => intro _; simp [rdyTo]
  | succ m ih =>
    intro hm
    rw [rdyTo_succ, ih (by omega), beside_rdyB (by omega)]
    by_cases e : a ≤ m
    · rw [show m + 1 - a = (m - a) + 1 by omega, List.range'_1_concat, show a + (m - a) = m by omega]
      simp [e]
    · rw [show m + 1 - a = 0 by omega, show m - a = 0 by omega]
      simp [e]
theorem beside_left {n h : Nat} : ∀ s, leftAt (besideTs 1 n) h s = cL (s * h) n := by
  intro s
  induction s with
  | zero =>
    funext x
    show wkOf (besideTs 1 n) x = _
    unfold cL
    rw [if_neg (by omega)]
    by_cases hx : x < n
    · rw [if_pos hx]
      unfold wkOf
      rw [besideTs_getD _ _ _ hx]
    · rw [if_neg hx, wkOf_past (by rw [besideTs_length]; omega)]
  | succ s ih =>
    show decs (leftAt (besideTs 1 n) h s) (nowL (besideTs 1 n) h (leftAt (besideTs 1 n) h s)) = _
    funext x
    rw [decs_at (nowL_nodup _ _ _), ih, show (s + 1) * h = s * h + h by rw [Nat.add_mul, Nat.one_mul]]
    generalize s * h = a
    have hm : x ∈ nowL (besideTs 1 n) h (cL a n) ↔ a ≤ x ∧ x < a + min h (n - a) := by
      unfold nowL
      rw [besideTs_length, beside_rdy n (Nat.le_refl _)]
      by_cases e : n - a ≤ h
      · rw [List.take_range'_of_length_le e, List.mem_range'_1, Nat.min_eq_right e]
      · rw [List.take_range'_of_length_ge (by omega), List.mem_range'_1, Nat.min_eq_left (by omega)]
    by_cases e : x ∈ nowL (besideTs 1 n) h (cL a n)
    · rw [if_pos e]
      have := hm.1 e
      unfold cL
      rw [if_neg (by omega), if_pos (by omega), if_pos (by omega)]; rfl
    · rw [if_neg e]
      have : ¬ (a ≤ x ∧ x < a + min h (n - a)) := fun h => e (hm.2 h)
      unfold cL
      by_cases e1 : x < a
      · rw [if_pos e1, if_pos (by omega)]
      · rw [if_neg e1]
        by_cases e2 : x < n
        · omega
        · rw [if_neg e2]; simp
theorem beside_stops {n h s : Nat} (h1 : n ≤ s * h) (h2 : ∀ k, k < s → k * h < n) : Stops (besideTs 1 n) h s := by
  constructor
  · intro k hk
    have := h2 k hk
    rw [beside_left k, besideTs_length, beside_rdy n (Nat.le_refl _)]
    intro e
    have := congrArg List.length e
    simp at this
    omega
  · rw [beside_left s, besideTs_length, beside_rdy n (Nat.le_refl _), show n - s * h = 0 by omega]
    rfl
theorem ceil_stops {n h : Nat} (h1 : 1 ≤ h) (h6 : h ≤ 6) : Stops (besideTs 1 n) h ((n + h - 1) / h) := by
  have : h = 1 ∨ h = 2 ∨ h = 3 ∨ h = 4 ∨ h = 5 ∨ h = 6 := by omega
  rcases this with rfl | rfl | rfl | rfl | rfl | rfl <;> exact beside_stops (by omega) (fun k hk => by omega)
end Go.Proofs.Ytjdghkmkocpppaa
