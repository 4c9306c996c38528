/- Plain: an order of a plan without a ring has all its tasks; a chain has no ring, a closed one has. -/
import Derived.Test.YtilpjhhjlokfcaaDoorF
import Derived.Test.YtilpjhhjlokfcaaDoorJ
namespace Go.Proofs.YtilpjhhjlokfcaaDoor

theorem Reach.trans {ts : List (Int × List Int)} {x y z : Nat} (h : Reach ts x y) (k : Reach ts y z) : Reach ts x z := by
  induction k using Reach.ind with
  | one hn => exact Reach.more h hn
  | more _ hn ih => exact Reach.more ih hn

theorem unseen_sub (S T : Nat → Bool) (n : Nat) (h : ∀ x, T x = true → S x = true) : unseen S n ≤ unseen T n := by
  induction n with
  | zero => exact Nat.le_refl _
  | succ n ih =>
    unfold unseen
    cases hT : T n with
    | true => simp [h n hT]; exact ih
    | false => cases S n <;> simp <;> omega

theorem unseen_lt (S T : Nat → Bool) (n y : Nat) (h : ∀ x, T x = true → S x = true) (hy : y < n) (hS : S y = true) (hT : T y = false) : unseen S n < unseen T n := by
  induction n with
  | zero => omega
  | succ n ih =>
    unfold unseen
    by_cases e : n = y
    · subst e
      have := unseen_sub S T n h
      rw [hS, hT]; simp; omega
    · have := ih (by omega)
      cases hT : T n with
      | true => simp [h n hT]; exact this
      | false => cases S n <;> simp <;> omega

/-- Where none reaches itself, nothing is left behind: whatever set of tasks in which each needs one of the set is empty. -/
theorem no_ring_empty (ts : List (Int × List Int)) (hno : ∀ j, j < ts.length → ¬ Reach ts j j) (U : Nat → Prop) (hU : ∀ x, U x → x < ts.length ∧ ∃ y, Need ts x y ∧ U y) : ∀ x, ¬ U x := by
  classical
  have key : ∀ c x, U x → ts.length - unseen (fun y => decide (Reach ts x y)) ts.length = c → False := by
    intro c
    induction c using Nat.strongRecOn with
    | _ c ih =>
      intro x hx hc
      obtain ⟨hxl, y, hn, hy⟩ := hU x hx
      have hyl := (hU y hy).1
      have hlt : unseen (fun z => decide (Reach ts x z)) ts.length < unseen (fun z => decide (Reach ts y z)) ts.length := by
        refine unseen_lt _ _ ts.length y (fun z hz => ?_) hyl (by simpa using Reach.one hn) (by simpa using hno y hyl)
        simp at hz ⊢
        exact (Reach.one hn).trans hz
      have h1 := unseen_le (fun z => decide (Reach ts x z)) ts.length
      have h2 := unseen_le (fun z => decide (Reach ts y z)) ts.length
      exact ih (ts.length - unseen (fun z => decide (Reach ts y z)) ts.length) (by omega) y hy rfl
  exact fun x hx => key _ x hx rfl

theorem Ords.init {ts : List (Int × List Int)} {ord : List Nat} {y : Nat} (h : Ords ts (ord ++ [y])) : Ords ts ord ∧ NextIs ts (has ord) (y : Nat) := by
  constructor
  · intro m hm
    have := h m (by simp; omega)
    rw [List.take_append_of_le_length (by omega), getD_snoc _ _ _ _ hm] at this
    exact this
  · have := h ord.length (by simp)
    simpa using this

theorem Ords.count {ts : List (Int × List Int)} : ∀ {ord : List Nat}, Ords ts ord → ord.length + unseen (has ord) ts.length = ts.length := by
  have key : ∀ n (ord : List Nat), ord.length = n → Ords ts ord → ord.length + unseen (has ord) ts.length = ts.length := by
    intro n
    induction n with
    | zero =>
      intro ord hl _
      have := List.eq_nil_of_length_eq_zero hl
      subst this
      have : ∀ m, unseen (has []) m = m := fun m => by
        induction m with
        | zero => rfl
        | succ m ih => unfold unseen; rw [ih]; simp [has]
      simp [this]
    | succ n ih =>
      intro ord hl ho
      rcases List.eq_nil_or_concat ord with rfl | ⟨o, y, rfl⟩
      · simp at hl
      rw [List.concat_eq_append] at *
      obtain ⟨h1, h2⟩ := ho.init
      obtain ⟨k, hk, hkl, hT⟩ := h2.pos (by omega)
      have hky : y = k := by omega
      subst hky
      have hu := unseen_mark (has o) ts.length y hkl hT
      rw [mark_has] at hu
      have := ih o (by simpa using hl) h1
      simp
      omega
  exact fun {ord} h => key _ ord rfl h

theorem unseen_zero (S : Nat → Bool) (n : Nat) (h : ∀ k, k < n → S k = true) : unseen S n = 0 := by
  induction n with
  | zero => rfl
  | succ n ih => unfold unseen; rw [ih (fun k hk => h k (by omega)), h n (by omega)]; rfl

/-- In the order of a plan that Check passes stands each task. -/
theorem OrdIs.all {ts : List (Int × List Int)} {ord : List Nat} (h : OrdIs ts ord) (hr : InRange ts) (hno : ∀ j, j < ts.length → ¬ Reach ts j j) : ∀ k, k < ts.length → has ord k = true := by
  intro k hk
  have hnone : ∀ j, j < ts.length → freeB ts (has ord) j = false := by
    generalize hm : (-1 : Int) = m at *
    have h2 := h.2
    rw [hm] at h2
    cases h2 using NextIs.elim with
    | some k => omega
    | none hn => exact hn
  have := no_ring_empty ts hno (fun x => x < ts.length ∧ has ord x = false) (fun x ⟨hx, hh⟩ => by
    refine ⟨hx, ?_⟩
    have hf := hnone x hx
    unfold freeB at hf
    rw [hh] at hf
    simp only [Bool.not_false, Bool.true_and, Bool.not_eq_false'] at hf
    obtain ⟨y, hy, hT⟩ := List.any_eq_true.1 hf
    have hb := hr x hx y hy
    refine ⟨y.toNat, by unfold Need; rw [Int.toNat_of_nonneg hb.1]; exact hy, by omega, by simpa using hT⟩) k
  cases hh : has ord k with
  | true => rfl
  | false => exact absurd ⟨hk, hh⟩ this

theorem OrdIs.length {ts : List (Int × List Int)} {ord : List Nat} (h : OrdIs ts ord) (hr : InRange ts) (hno : ∀ j, j < ts.length → ¬ Reach ts j j) : ord.length = ts.length := by
  have := h.1.count
  rw [unseen_zero _ _ (h.all hr hno)] at this
  omega

theorem chainTs_getD (work : Int) (n j : Nat) (hj : j < n) : (chainTs work n).getD j (0, []) = (work, if j = 0 then [] else [(j : Int) - 1]) := by
  induction n with
  | zero => omega
  | succ n ih =>
    unfold chainTs
    by_cases e : j = n
    · subst e
      have := getD_snoc_at (chainTs work j) (work, if j = 0 then [] else [(j : Int) - 1]) (0, [])
      rwa [chainTs_length] at this
    · rw [getD_snoc _ _ _ _ (by rw [chainTs_length]; omega)]
      exact ih (by omega)

theorem chain_need {n x y : Nat} (h : Need (chainTs 1 n) x y) : y < x := by
  unfold Need needsOf at h
  by_cases hx : x < n
  · rw [chainTs_getD _ _ _ hx] at h
    by_cases e : x = 0
    · simp [e] at h
    · simp [e] at h; omega
  · rw [List.getD_eq_getElem?_getD, List.getElem?_eq_none (by rw [chainTs_length]; omega)] at h
    simp at h

theorem chain_reach {n x y : Nat} (h : Reach (chainTs 1 n) x y) : y < x := by
  induction h using Reach.ind with
  | one hn => exact chain_need hn
  | more _ hn ih => have := chain_need hn; omega

theorem chain_err (n j : Nat) (hj : j < n) : errOf (chainTs 1 n) j = 0 := by
  unfold errOf needsOf
  rw [chainTs_getD _ _ _ hj, chainTs_length]
  by_cases e : j = 0
  · simp [e, taskErr, rising]
  · have : inRange ((j : Int) - 1) n = true := by simp [inRange]; omega
    simp [e, taskErr, rising, this]

theorem chain_check {n : Nat} (hn : n ≤ 30) {p q : Int} (h : CheckIs (chainTs 1 n) p q) : p = 0 ∧ q = 0 := by
  cases h using CheckIs.elim with
  | full hf => rw [chainTs_length] at hf; omega
  | task k _ hk _ he => rw [chainTs_length] at hk; exact absurd (chain_err n k hk) he
  | ring k _ _ _ _ hr => have := chain_reach hr; omega
  | none => exact ⟨rfl, rfl⟩

/-- A chain, closed: the first needs the last. -/
def ringTs (n : Nat) : List (Int × List Int) := (chainTs 1 n).set 0 (1, [(n : Int) - 1])
theorem ringTs_length (n : Nat) : (ringTs n).length = n := by simp [ringTs, chainTs_length]
theorem ringTs_getD (n j : Nat) (hj : j < n) : (ringTs n).getD j (0, []) = (1, [if j = 0 then (n : Int) - 1 else (j : Int) - 1]) := by
  unfold ringTs
  by_cases e : j = 0
  · subst e; simp [chainTs_length, hj]
  · have := chainTs_getD 1 n j hj
    rw [if_neg e] at this
    rw [if_neg e, List.getD_eq_getElem?_getD, List.getElem?_set_ne (by omega), ← List.getD_eq_getElem?_getD, this]

theorem ring_err (n j : Nat) (hj : j < n) : errOf (ringTs n) j = 0 := by
  unfold errOf needsOf
  rw [ringTs_getD _ _ hj, ringTs_length]
  have : inRange (if j = 0 then (n : Int) - 1 else (j : Int) - 1) n = true := by
    by_cases e : j = 0
    · simp [e, inRange]; omega
    · simp [e, inRange]; omega
  simp [taskErr, rising, this]

theorem ring_down (n : Nat) (hn : 1 ≤ n) : ∀ d, d < n → Reach (ringTs n) 0 (n - 1 - d) := by
  intro d
  induction d with
  | zero =>
    intro _
    refine Reach.one ?_
    unfold Need needsOf
    rw [ringTs_getD _ _ (by omega)]
    simp; omega
  | succ d ih =>
    intro hd
    refine Reach.more (ih (by omega)) ?_
    unfold Need needsOf
    rw [ringTs_getD _ _ (by omega)]
    have : n - 1 - d ≠ 0 := by omega
    simp [this]; omega

theorem ring_check {n : Nat} (h1 : 1 ≤ n) (hn : n ≤ 30) {p q : Int} (h : CheckIs (ringTs n) p q) : p = 0 ∧ q = 8 := by
  have h0 : Reach (ringTs n) 0 0 := by
    have := ring_down n h1 (n - 1) (by omega)
    rwa [show n - 1 - (n - 1) = 0 by omega] at this
  cases h using CheckIs.elim with
  | full hf => rw [ringTs_length] at hf; omega
  | task k _ hk _ he => rw [ringTs_length] at hk; exact absurd (ring_err n k hk) he
  | ring k _ _ hk hf hr =>
    by_cases e : k = 0
    · subst e; exact ⟨rfl, rfl⟩
    · exact absurd h0 (hf 0 (by omega))
  | none _ _ hno => exact absurd h0 (hno 0 (by rw [ringTs_length]; omega))
end Go.Proofs.YtilpjhhjlokfcaaDoor
