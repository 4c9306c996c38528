/- Plain: what is left over where there is no ring; a chain is right. -/
import Derived.Test.YtiekhigjllbalaaGreatDoorD
import Derived.Test.YtiekhigjllbalaaGreatDoorJ
namespace Go.Proofs.YtiekhigjllbalaaGreatDoor

theorem CheckIs.ok {ts : List (Int × List Int)} {p q : Int} (h : CheckIs ts p q) (hq : q = 0) : p = 0 ∧ ts.length ≤ 30 ∧ (∀ j, j < ts.length → errOf ts j = 0) ∧ ∀ j, j < ts.length → ¬ Reach ts j j := by
  cases h using CheckIs.elim with
  | full => omega
  | task k _ _ _ h => exact absurd hq h
  | ring => omega
  | none h1 h2 h3 => exact ⟨rfl, h1, h2, h3⟩

theorem CheckIs.det {ts : List (Int × List Int)} {p q p' q' : Int} (h : CheckIs ts p q) (h' : CheckIs ts p' q') : p = p' ∧ q = q' := by
  cases h using CheckIs.elim with
  | full hf =>
    cases h' using CheckIs.elim with
    | full => exact ⟨rfl, rfl⟩
    | task k hk => omega
    | ring k hk => omega
    | none hk => omega
  | task k h30 hk hz hne =>
    cases h' using CheckIs.elim with
    | full => omega
    | task k2 _ hk2 hz2 hne2 =>
      have : k = k2 := by
        rcases Nat.lt_trichotomy k k2 with h | h | h
        · exact absurd (hz2 k h) hne
        · exact h
        · exact absurd (hz k2 h) hne2
      subst this; exact ⟨rfl, rfl⟩
    | ring k2 _ hall => exact absurd (hall k hk) hne
    | none _ hall => exact absurd (hall k hk) hne
  | ring k h30 hall hk hf hr =>
    cases h' using CheckIs.elim with
    | full => omega
    | task k2 _ hk2 _ hne2 => exact absurd (hall k2 hk2) hne2
    | ring k2 _ _ hk2 hf2 hr2 =>
      have : k = k2 := by
        rcases Nat.lt_trichotomy k k2 with h | h | h
        · exact absurd hr (hf2 k h)
        · exact h
        · exact absurd hr2 (hf k2 h)
      subst this; exact ⟨rfl, rfl⟩
    | none _ _ hno => exact absurd hr (hno k hk)
  | none h30 hall hno =>
    cases h' using CheckIs.elim with
    | full => omega
    | task k2 _ hk2 _ hne2 => exact absurd (hall k2 hk2) hne2
    | ring k2 _ _ hk2 _ hr2 => exact absurd hr2 (hno k2 hk2)
    | none => exact ⟨rfl, rfl⟩

theorem Reach.trans {ts : List (Int × List Int)} {x y z : Nat} (h : Reach ts x y) (k : Reach ts y z) : Reach ts x z := by
  induction k using Reach.ind with
  | one hn => exact Reach.more h hn
  | more _ hn ih => exact Reach.more ih hn

theorem unseen_sub (S T : Nat → Bool) (n : Nat) (h : ∀ x, T x = true → S x = true) : unseen S n ≤ unseen T n := by
  induction n with
  | zero => exact Nat.le_refl _
  | succ n ih =>
    unfold unseen
    cases hT : T n with
    | true => simp [h n hT]; exact ih
    | false => cases S n <;> simp <;> omega

theorem unseen_lt (S T : Nat → Bool) (n y : Nat) (h : ∀ x, T x = true → S x = true) (hy : y < n) (hS : S y = true) (hT : T y = false) : unseen S n < unseen T n := by
  induction n with
  | zero => omega
  | succ n ih =>
    unfold unseen
    by_cases e : n = y
    · subst e
      have := unseen_sub S T n h
      rw [hS, hT]; simp; omega
    · have := ih (by omega)
      cases hT : T n with
      | true => simp [h n hT]; exact this
      | false => cases S n <;> simp <;> omega

/-- Where none reaches itself, nothing is left behind: whatever set of tasks in which each needs one of the set is empty. -/
theorem no_ring_empty (ts : List (Int × List Int)) (hno : ∀ j, j < ts.length → ¬ Reach ts j j) (U : Nat → Prop) (hU : ∀ x, U x → x < ts.length ∧ ∃ y, Need ts x y ∧ U y) : ∀ x, ¬ U x := by
  classical
  have key : ∀ c x, U x → ts.length - unseen (fun y => decide (Reach ts x y)) ts.length = c → False := by
    intro c
    induction c using Nat.strongRecOn with
    | _ c ih =>
      intro x hx hc
      obtain ⟨hxl, y, hn, hy⟩ := hU x hx
      have hyl := (hU y hy).1
      have hlt : unseen (fun z => decide (Reach ts x z)) ts.length < unseen (fun z => decide (Reach ts y z)) ts.length := by
        refine unseen_lt _ _ ts.length y (fun z hz => ?_) hyl (by simpa using Reach.one hn) (by simpa using hno y hyl)
        simp at hz ⊢
        exact (Reach.one hn).trans hz
      have h1 := unseen_le (fun z => decide (Reach ts x z)) ts.length
      have h2 := unseen_le (fun z => decide (Reach ts y z)) ts.length
      exact ih (ts.length - unseen (fun z => decide (Reach ts y z)) ts.length) (by omega) y hy rfl
  exact fun x hx => key _ x hx rfl

theorem unseen_zero (S : Nat → Bool) (n : Nat) (h : ∀ k, k < n → S k = true) : unseen S n = 0 := by
  induction n with
  | zero => rfl
  | succ n ih => unfold unseen; rw [ih (fun k hk => h k (by omega)), h n (by omega)]; rfl

theorem chainTs_getD (work : Int) (n j : Nat) (hj : j < n) : (chainTs work n).getD j (0, []) = (work, if j = 0 then [] else [(j : Int) - 1]) := by
  induction n with
  | zero => omega
  | succ n ih =>
    unfold chainTs
    by_cases e : j = n
    · subst e
      have := getD_snoc_at (chainTs work j) (work, if j = 0 then [] else [(j : Int) - 1]) (0, [])
      rwa [chainTs_length] at this
    · rw [getD_snoc _ _ _ _ (by rw [chainTs_length]; omega)]
      exact ih (by omega)

theorem chain_need {n x y : Nat} (h : Need (chainTs 1 n) x y) : y < x := by
  unfold Need needsOf at h
  by_cases hx : x < n
  · rw [chainTs_getD _ _ _ hx] at h
    by_cases e : x = 0
    · simp [e] at h
    · simp [e] at h; omega
  · rw [List.getD_eq_getElem?_getD, List.getElem?_eq_none (by rw [chainTs_length]; omega)] at h
    simp at h

theorem chain_reach {n x y : Nat} (h : Reach (chainTs 1 n) x y) : y < x := by
  induction h using Reach.ind with
  | one hn => exact chain_need hn
  | more _ hn ih => have := chain_need hn; omega

theorem chain_err (n j : Nat) (hj : j < n) : errOf (chainTs 1 n) j = 0 := by
  unfold errOf needsOf
  rw [chainTs_getD _ _ _ hj, chainTs_length]
  by_cases e : j = 0
  · simp [e, taskErr, rising]
  · have : inRange ((j : Int) - 1) n = true := by simp [inRange]; omega
    simp [e, taskErr, rising, this]

theorem chain_check {n : Nat} (hn : n ≤ 30) {p q : Int} (h : CheckIs (chainTs 1 n) p q) : p = 0 ∧ q = 0 := by
  cases h using CheckIs.elim with
  | full hf => rw [chainTs_length] at hf; omega
  | task k _ hk _ he => rw [chainTs_length] at hk; exact absurd (chain_err n k hk) he
  | ring k _ _ _ _ hr => have := chain_reach hr; omega
  | none => exact ⟨rfl, rfl⟩

end Go.Proofs.YtiekhigjllbalaaGreatDoor
