/- Plain: what a chain, and tasks beside each other, measure. No word of the program. -/
import Derived.Test.YtlfebnaghoeddaaDt
import Derived.Test.YtlfebnaghoeddaaDk
namespace Go.Proofs.Ytlfebnaghoeddaa

theorem needsOf_past {ts : List (Int × List Int)} {x : Nat} (h : ts.length ≤ x) : needsOf ts x = [] := by
  unfold needsOf
  rw [List.getD_eq_getElem?_getD, List.getElem?_eq_none h]
  rfl
theorem chain_needs (work : Int) (n x : Nat) (hx : x < n) : needsOf (chainTs work n) x = if x = 0 then [] else [(x : Int) - 1] := by
  unfold needsOf
  rw [chainTs_getD _ _ _ hx]
theorem chain_wk (work : Int) (n x : Nat) (hx : x < n) : wkOf (chainTs work n) x = work := by
  unfold wkOf
  rw [chainTs_getD _ _ _ hx]
theorem chainW_need {work : Int} {n x y : Nat} (h : Need (chainTs work n) x y) : x = y + 1 ∧ x < n := by
  unfold Need at h
  by_cases hx : x < n
  · rw [chain_needs _ _ _ hx] at h
    by_cases e : x = 0
    · simp [e] at h
    · simp [e] at h; omega
  · rw [needsOf_past (by rw [chainTs_length]; omega)] at h
    simp at h
theorem chainW_reach {work : Int} {n x y : Nat} (h : Reach (chainTs work n) x y) : y < x := by
  induction h using Reach.ind with
  | one hn => have := chainW_need hn; omega
  | more _ hn ih => have := chainW_need hn; omega
theorem chainW_err {work : Int} (h1 : 1 ≤ work) (h2 : work ≤ 20) (n j : Nat) (hj : j < n) : errOf (chainTs work n) j = 0 := by
  unfold errOf
  rw [chain_needs _ _ _ hj, chainTs_getD _ _ _ hj, chainTs_length]
  have hw : ¬ (work < 1 ∨ 20 < work) := by omega
  by_cases e : j = 0
  · simp [e, taskErr, rising, hw]
  · have : inRange ((j : Int) - 1) n = true := by simp [inRange]; omega
    simp [e, taskErr, rising, this, hw]
theorem chainW_check {work : Int} (h1 : 1 ≤ work) (h2 : work ≤ 20) {n : Nat} (hn : n ≤ 30) : CheckIs (chainTs work n) 0 0 :=
  CheckIs.none (by rw [chainTs_length]; exact hn) (fun j hj => chainW_err h1 h2 n j (by rwa [chainTs_length] at hj)) (fun j _ h => by have := chainW_reach h; omega)

theorem chainW_tail {work : Int} {n : Nat} {R T : Nat → Int} (h1 : 1 ≤ work) (hd : Deep (chainTs work n) R T) : ∀ d x, x < n → x + d + 1 = n → T x = (d + 1 : Nat) * work := by
  intro d
  induction d with
  | zero =>
    intro x hx he
    rcases hd.teq x (by rw [chainTs_length]; exact hx) with h | ⟨k, hk, hn, _⟩
    · rw [h, chain_wk _ _ _ hx]; simp
    · have := chainW_need hn
      rw [chainTs_length] at hk; omega
  | succ d ih =>
    intro x hx he
    have h2 := ih (x + 1) (by omega) (by omega)
    have hneed : Need (chainTs work n) (x + 1) x := by
      unfold Need
      rw [chain_needs _ _ _ (by omega)]
      simp
    have hup := hd.tup (x + 1) (by rw [chainTs_length]; omega) x hneed
    have hwk := hd.twk (x + 1) (by rw [chainTs_length]; omega)
    rw [chain_wk _ _ _ (by omega)] at hup hwk
    have e : ((d + 1 + 1 : Nat) : Int) * work = work + ((d + 1 : Nat) : Int) * work := by
      rw [show ((d + 1 + 1 : Nat) : Int) = 1 + ((d + 1 : Nat) : Int) by omega, Int.add_mul, Int.one_mul]
    rw [e, ← h2]
    rcases hd.teq x (by rw [chainTs_length]; exact hx) with h | ⟨k, hk, hn, h⟩
    · rw [chain_wk _ _ _ hx] at h; omega
    · obtain ⟨rfl, _⟩ := chainW_need hn
      rw [chain_wk _ _ _ hx] at h; exact h

theorem chainW_span {work : Int} {n : Nat} {R T : Nat → Int} (h1 : 1 ≤ work) (hn : 1 ≤ n) (hd : Deep (chainTs work n) R T) : maxTo T n = n * work := by
  have h0 := chainW_tail h1 hd (n - 1) 0 (by omega) (by omega)
  rw [show n - 1 + 1 = n by omega] at h0
  have hle := le_maxTo T (n := n) (x := 0) (by omega)
  have hnn : 0 ≤ (n : Int) * work := Int.mul_nonneg (by omega) (by omega)
  have hge := maxTo_le T n (n * work) hnn (fun x hx => by
    have := chainW_tail h1 hd (n - 1 - x) x hx (by omega)
    rw [this]
    exact Int.mul_le_mul_of_nonneg_right (by omega) (by omega))
  omega

theorem chainW_work {work : Int} {n : Nat} : ∀ k, k ≤ n → workTo (chainTs work n) k = k * work := by
  intro k
  induction k with
  | zero => intro _; simp [workTo]
  | succ k ih =>
    intro hk
    unfold workTo
    rw [ih (by omega), chain_wk _ _ _ (by omega), show ((k + 1 : Nat) : Int) = (k : Int) + 1 by omega, Int.add_mul, Int.one_mul]

theorem chainW_way {work : Int} {n : Nat} {R T : Nat → Int} {l : List Nat} (h1 : 1 ≤ work) (hn : 1 ≤ n) (hd : Deep (chainTs work n) R T) (hw : WayIs (chainTs work n) T l) : l.length = n := by
  have hs := hw.sum hd
  rw [chainTs_length, chainW_span h1 hn hd] at hs
  have key : ∀ m, m ≤ l.length → wayTo (chainTs work n) l m = m * work := by
    intro m
    induction m with
    | zero => intro _; simp [wayTo]
    | succ m ih =>
      intro hm
      have hl := (hw.1.at_ (m := m) (by omega)).1
      rw [chainTs_length] at hl
      unfold wayTo
      rw [ih (by omega), chain_wk _ _ _ hl, show ((m + 1 : Nat) : Int) = (m : Int) + 1 by omega, Int.add_mul, Int.one_mul]
  rw [key _ (Nat.le_refl _)] at hs
  have := Int.eq_of_mul_eq_mul_right (by omega) hs
  omega

theorem chainW_reaches {work : Int} {n : Nat} : ∀ x, x < n → 0 < x → Reach (chainTs work n) x 0 := by
  intro x
  induction x with
  | zero => intro _ h; omega
  | succ x ih =>
    intro hx _
    have hneed : Need (chainTs work n) (x + 1) x := by
      unfold Need
      rw [chain_needs _ _ _ hx]
      simp
    by_cases e : x = 0
    · subst e; exact Reach.one hneed
    · exact (Reach.one hneed).trans (ih (by omega) (by omega))

theorem besideTs_getD (work : Int) (n j : Nat) (hj : j < n) : (besideTs work n).getD j (0, []) = (work, []) := by
  induction n with
  | zero => omega
  | succ n ih =>
    unfold besideTs
    by_cases e : j = n
    · subst e
      have := getD_snoc_at (besideTs work j) (work, []) (0, [])
      rwa [besideTs_length] at this
    · rw [getD_snoc _ _ _ _ (by rw [besideTs_length]; omega)]
      exact ih (by omega)
theorem beside_needs (work : Int) (n x : Nat) : needsOf (besideTs work n) x = [] := by
  by_cases hx : x < n
  · unfold needsOf
    rw [besideTs_getD _ _ _ hx]
  · exact needsOf_past (by rw [besideTs_length]; omega)
theorem beside_reach {work : Int} {n x y : Nat} (h : Reach (besideTs work n) x y) : False := by
  induction h using Reach.ind with
  | one hn => unfold Need at hn; rw [beside_needs] at hn; simp at hn
  | more _ _ ih => exact ih
theorem beside_check {work : Int} (h1 : 1 ≤ work) (h2 : work ≤ 20) {n : Nat} (hn : n ≤ 30) : CheckIs (besideTs work n) 0 0 :=
  CheckIs.none (by rw [besideTs_length]; exact hn) (fun j hj => by
    rw [besideTs_length] at hj
    have hw : ¬ (work < 1 ∨ 20 < work) := by omega
    unfold errOf
    rw [beside_needs, besideTs_getD _ _ _ hj]
    simp [taskErr, rising, hw]) (fun j _ h => (beside_reach h).elim)
theorem beside_span {work : Int} {n : Nat} {R T : Nat → Int} (h1 : 1 ≤ work) (hn : 1 ≤ n) (hd : Deep (besideTs work n) R T) : maxTo T n = work := by
  have ht : ∀ x, x < n → T x = work := fun x hx => by
    rcases hd.teq x (by rw [besideTs_length]; exact hx) with h | ⟨k, hk, hn, _⟩
    · rw [h]; unfold wkOf; rw [besideTs_getD _ _ _ hx]
    · unfold Need at hn; rw [beside_needs] at hn; simp at hn
  have hle := le_maxTo T (n := n) (x := 0) (by omega)
  rw [ht 0 (by omega)] at hle
  have hge := maxTo_le T n work (by omega) (fun x hx => by rw [ht x hx]; exact Int.le_refl _)
  omega
end Go.Proofs.Ytlfebnaghoeddaa
