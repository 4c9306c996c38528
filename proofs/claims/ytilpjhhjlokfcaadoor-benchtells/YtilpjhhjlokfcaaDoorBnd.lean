/- Plain: sums of counts; how fast a plan is at most, and at least. -/
import Derived.Test.YtilpjhhjlokfcaaDoorBnc
namespace Go.Proofs.YtilpjhhjlokfcaaDoor
open Go.RowKit Go.Deep

theorem sumTo_ind (q n : Nat) : sumTo (fun j => if (q : Int) = (j : Int) then 1 else 0) n = if q < n then 1 else 0 := by
  induction n with
  | zero => rfl
  | succ n ih =>
    show sumTo _ n + (if (q : Int) = (n : Int) then 1 else 0) = _
    rw [ih]
    repeat' split
    all_goals omega
theorem sumTo_plus (F G : Nat → Int) (n : Nat) : sumTo (fun j => F j + G j) n = sumTo F n + sumTo G n := by
  induction n with
  | zero => rfl
  | succ n ih =>
    show sumTo _ n + (F n + G n) = (sumTo F n + F n) + (sumTo G n + G n)
    rw [ih]; omega
theorem sumTo_same {F G : Nat → Int} (h : ∀ j, F j = G j) (n : Nat) : sumTo F n = sumTo G n := by
  rw [show F = G from funext h]
theorem cnt_sum (f : BitZ → Int) (l : List BitZ) (many n : Nat) (h : ∀ k, k < n → 0 ≤ f (bitA l k) ∧ f (bitA l k) < many) : ∀ k, k ≤ n → sumTo (fun j => cntZ f l k j) many = k := by
  intro k
  induction k with
  | zero => intro _; exact sumTo_zero _ _ (fun _ _ => rfl)
  | succ k ih =>
    intro hk
    obtain ⟨h0, h1⟩ := h k (by omega)
    obtain ⟨q, hq⟩ : ∃ q : Nat, f (bitA l k) = q := ⟨(f (bitA l k)).toNat, by omega⟩
    have e : ∀ j, cntZ f l (k + 1) j = cntZ f l k j + (if (q : Int) = (j : Int) then 1 else 0) := fun j => by rw [← hq]; rfl
    rw [sumTo_same e, sumTo_plus, ih (by omega), sumTo_ind, if_pos (by omega)]
    omega
theorem sumTo_up {F : Nat → Int} (h0 : ∀ j, 0 ≤ F j) {k n : Nat} (hk : k ≤ n) : 0 ≤ sumTo F k ∧ sumTo F k ≤ sumTo F n := by
  refine ⟨sumTo_nonneg F h0 k, ?_⟩
  induction n with
  | zero => obtain rfl : k = 0 := by omega
            exact Int.le_refl _
  | succ n ih =>
    by_cases e : k = n + 1
    · subst e; exact Int.le_refl _
    · have := ih (by omega)
      have := h0 n
      show _ ≤ sumTo F n + F n
      omega

theorem stops_len {ts : List (Int × List Int)} {h s : Nat} (hw : Works ts) (hr : InRange ts) (hno : ∀ j, j < ts.length → ¬ Reach ts j j) (hs : Stops ts h s) : ((bitsTo ts h s).length : Int) = workTo ts ts.length := by
  have h1 := sum_bits ts h s
  have h2 := rdy_none hr hno (fun x => (leftAt_bound hw h s x).1) hs.2
  rw [sumTo_zero _ _ h2] at h1
  omega
theorem bits_many (ts : List (Int × List Int)) (h s : Nat) : (bitsTo ts h s).length ≤ h * s := by
  induction s with
  | zero => exact Nat.zero_le _
  | succ s ih =>
    show (bitsTo ts h s ++ bitsOf s (nowL ts h (leftAt ts h s))).length ≤ _
    have : (nowL ts h (leftAt ts h s)).length ≤ h := by rw [nowL_len]; exact Nat.min_le_left _ _
    rw [List.length_append, bitsOf_length, Nat.mul_succ]
    omega
theorem speed_bound {ts : List (Int × List Int)} {hands : Int} {s s1 : Nat} (hw : Works ts) (hr : InRange ts) (hno : ∀ j, j < ts.length → ¬ Reach ts j j) (h1 : 1 ≤ hands) (hs : Stops ts hands.toNat s) (hs1 : Stops ts 1 s1) :
    100 ≤ speedZ s1 s ∧ speedZ s1 s ≤ 100 * hands := by
  have e1 := hs1.alone hw hr hno
  have e2 := stops_len hw hr hno hs
  have e3 := hs.1.len (by omega)
  have e4 := bits_many ts hands.toNat s
  unfold speedZ
  by_cases hz : s = 0
  · rw [if_pos hz]; omega
  · rw [if_neg hz]
    have hs0 : (0 : Int) < s := by omega
    have e5 : ((bitsTo ts hands.toNat s).length : Int) ≤ hands * s := by
      have : ((hands.toNat * s : Nat) : Int) = hands * s := by rw [Int.natCast_mul, Int.toNat_of_nonneg (by omega)]
      omega
    refine ⟨?_, ?_⟩
    · rw [Int.le_ediv_iff_mul_le hs0]; omega
    · refine Int.ediv_le_of_le_mul hs0 ?_
      rw [Int.mul_assoc]
      omega
end Go.Proofs.YtilpjhhjlokfcaaDoor
