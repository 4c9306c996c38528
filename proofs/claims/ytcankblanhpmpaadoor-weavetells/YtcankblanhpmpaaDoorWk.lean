/- Plain: a weave with something behind it; a weave in signs is the weave. -/
import Derived.Test.YtcankblanhpmpaaDoorWj
namespace Go.Proofs.YtcankblanhpmpaaDoor

theorem dropWhile_len (s : List UInt8) : (s.dropWhile isDig).length ≤ s.length := by
  induction s with
  | nil => simp
  | cons a r ih =>
    simp only [List.dropWhile_cons]
    split
    · simp; omega
    · simp
theorem numR_shape {s s2 : List UInt8} {t : Tree} (h : numR s = some (t, s2)) : ∃ d ds, s.takeWhile isDig = d :: ds ∧ d ≠ 48 ∧ t = .num (d :: ds) ∧ s2 = s.dropWhile isDig := by
  unfold numR at h
  split at h
  · simp at h
  · rename_i d ds he
    split at h
    · simp at h
    · rename_i hd
      simp at h
      exact ⟨d, ds, he, hd, h.1.symm, h.2.symm⟩
/-- What is left is no longer than what was there. -/
theorem Gr.len {k : Kind} {s : List UInt8} {r : Option (Tree × List UInt8)} (h : Gr k s r) : ∀ t s2, r = some (t, s2) → s2.length ≤ s.length := by
  induction h with
  | num _ => intro t s2 h; obtain ⟨_, _, _, _, _, rfl⟩ := numR_shape h; exact dropWhile_len _
  | opened _ _ => intro t s2 h; cases h
  | unshut _ _ _ => intro t s2 h; cases h
  | signs _ ih => intro t s2 h; have := ih _ _ rfl; simp at h this ⊢; obtain ⟨_, rfl⟩ := h; omega
  | chainNo _ _ => intro t s2 h; cases h
  | chainOf _ _ ih1 ih2 => intro t s2 h; have := ih1 _ _ rfl; have := ih2 _ _ h; omega
  | chainEnd _ => intro t s2 h; simp at h; rw [h.2]; omega
  | chainBad _ _ => intro t s2 h; cases h
  | chainMore _ _ ih1 ih2 => intro t s2 h; have := ih1 _ _ rfl; have := ih2 _ _ h; simp; omega
  | weaveNo _ _ => intro t s2 h; cases h
  | weaveOf _ _ ih1 ih2 => intro t s2 h; have := ih1 _ _ rfl; have := ih2 _ _ h; omega
  | weaveEnd _ => intro t s2 h; simp at h; rw [h.2]; omega
  | weaveBad _ _ => intro t s2 h; cases h
  | weaveMore _ _ ih1 ih2 => intro t s2 h; have := ih1 _ _ rfl; have := ih2 _ _ h; simp; omega

/-- What may stand behind a weave of a kind, and is not read with it. -/
def Good : Kind → UInt8 → Prop
  | .link, c => isDig c = false
  | .chain, c => isDig c = false ∧ c ≠ 59
  | .chainL _, c => isDig c = false ∧ c ≠ 59
  | .weave, c => isDig c = false ∧ c ≠ 59 ∧ c ≠ 124
  | .weaveL _, c => isDig c = false ∧ c ≠ 59 ∧ c ≠ 124

theorem head_app {s x : List UInt8} (h : s ≠ []) : (s ++ x).head? = s.head? := by cases s with
  | nil => exact absurd rfl h
  | cons a r => rfl
theorem takeWhile_parts (s : List UInt8) : s = s.takeWhile isDig ++ s.dropWhile isDig ∧ (∀ x, x ∈ s.takeWhile isDig → isDig x = true) ∧ ∀ x, (s.dropWhile isDig).head? = some x → isDig x = false := by
  induction s with
  | nil => exact ⟨rfl, fun x hx => by simp at hx, fun x hx => by simp at hx⟩
  | cons a r ih =>
    cases ha : isDig a with
    | true =>
      simp only [List.takeWhile_cons, List.dropWhile_cons, ha, if_true]
      refine ⟨by rw [List.cons_append, ← ih.1], fun x hx => ?_, ih.2.2⟩
      rcases List.mem_cons.1 hx with rfl | hx
      · exact ha
      · exact ih.2.1 x hx
    | false =>
      simp only [List.takeWhile_cons, List.dropWhile_cons, ha]
      exact ⟨rfl, fun x hx => by simp at hx, fun x hx => by simp at hx; rw [← hx]; exact ha⟩

theorem Gr.ext {k : Kind} {s : List UInt8} {r : Option (Tree × List UInt8)} (h : Gr k s r) (c : UInt8) (y : List UInt8) : ∀ t s2, r = some (t, s2) → (s2 ≠ [] ∨ Good k c) → Gr k (s ++ c :: y) (some (t, s2 ++ c :: y)) := by
  induction h with
  | num hn =>
    rename_i s
    intro t s2 h hg
    obtain ⟨d, ds, h1, h2, rfl, rfl⟩ := numR_shape h
    obtain ⟨e1, e2, e3⟩ := takeWhile_parts s
    have hs : s ≠ [] := fun e => by rw [e] at h1; simp at h1
    have hw := takeWhile_whole (p := s.takeWhile isDig) (q := s.dropWhile isDig ++ c :: y) e2 (fun x hx => by
      by_cases hz : s.dropWhile isDig = []
      · rw [hz] at hx
        simp at hx
        rcases hg with hg | hg
        · exact absurd hz hg
        · rw [← hx]; exact hg
      · rw [head_app hz] at hx
        exact e3 x hx)
    rw [← List.append_assoc, ← e1, h1] at hw
    have := Gr.num (s := s ++ c :: y) (by rw [head_app hs]; exact hn)
    rw [numR_some hw.1 h2, hw.2] at this
    exact this
  | opened _ _ => intro t s2 h; cases h
  | unshut _ _ _ => intro t s2 h; cases h
  | signs _ ih =>
    intro t s2 h hg
    simp at h
    obtain ⟨rfl, rfl⟩ := h
    exact Gr.signs (ih _ _ rfl (Or.inl (by simp)))
  | chainNo _ _ => intro t s2 h; cases h
  | chainOf h1 h2 ih1 ih2 =>
    intro t s2 h hg
    refine Gr.chainOf (ih1 _ _ rfl ?_) (ih2 _ _ h hg)
    rename_i s' s2' t' r'
    by_cases hz : s2' = []
    · right
      have hl := h2.len _ _ h
      rw [hz] at hl
      rcases hg with hg | hg
      · exact absurd (List.eq_nil_of_length_eq_zero (by simpa using hl)) hg
      · exact hg.1
    · exact Or.inl hz
  | chainEnd hn =>
    rename_i s' t'
    intro t s2 h hg
    simp at h
    obtain ⟨rfl, rfl⟩ := h
    refine Gr.chainEnd ?_
    by_cases hz : s' = []
    · rcases hg with hg | hg
      · exact absurd hz hg
      · subst hz; simp; exact hg.2
    · rw [head_app hz]; exact hn
  | chainBad _ _ => intro t s2 h; cases h
  | chainMore h1 h2 ih1 ih2 =>
    intro t s2 h hg
    refine Gr.chainMore (ih1 _ _ rfl ?_) (ih2 _ _ h hg)
    rename_i s' s2' t' t2' r'
    by_cases hz : s2' = []
    · right
      have hl := h2.len _ _ h
      rw [hz] at hl
      rcases hg with hg | hg
      · exact absurd (List.eq_nil_of_length_eq_zero (by simpa using hl)) hg
      · exact hg.1
    · exact Or.inl hz
  | weaveNo _ _ => intro t s2 h; cases h
  | weaveOf h1 h2 ih1 ih2 =>
    intro t s2 h hg
    refine Gr.weaveOf (ih1 _ _ rfl ?_) (ih2 _ _ h hg)
    rename_i s' s2' t' r'
    by_cases hz : s2' = []
    · right
      have hl := h2.len _ _ h
      rw [hz] at hl
      rcases hg with hg | hg
      · exact absurd (List.eq_nil_of_length_eq_zero (by simpa using hl)) hg
      · exact ⟨hg.1, hg.2.1⟩
    · exact Or.inl hz
  | weaveEnd hn =>
    rename_i s' t'
    intro t s2 h hg
    simp at h
    obtain ⟨rfl, rfl⟩ := h
    refine Gr.weaveEnd ?_
    by_cases hz : s' = []
    · rcases hg with hg | hg
      · exact absurd hz hg
      · subst hz; simp; exact hg.2.2
    · rw [head_app hz]; exact hn
  | weaveBad _ _ => intro t s2 h; cases h
  | weaveMore h1 h2 ih1 ih2 =>
    intro t s2 h hg
    refine Gr.weaveMore (ih1 _ _ rfl ?_) (ih2 _ _ h hg)
    rename_i s' s2' t' t2' r'
    by_cases hz : s2' = []
    · right
      have hl := h2.len _ _ h
      rw [hz] at hl
      rcases hg with hg | hg
      · exact absurd (List.eq_nil_of_length_eq_zero (by simpa using hl)) hg
      · exact ⟨hg.1, hg.2.1⟩
    · exact Or.inl hz

/-- A weave in signs, ahead of something. -/
theorem Whole.signs {l : List UInt8} {t : Tree} (h : Whole l t) (y : List UInt8) : Gr .link (40 :: (l ++ 41 :: y)) (some (t, y)) :=
  Gr.signs (Gr.ext h 41 y t [] rfl (Or.inr ⟨by decide, by decide, by decide⟩))
theorem Gr.whole {l : List UInt8} {t : Tree} (h : Gr .link l (some (t, []))) : Whole l t := Gr.weaveOf (Gr.chainOf h (Gr.chainEnd (by simp))) (Gr.weaveEnd (by simp))
/-- So many signs about a text. -/
def wrapN : Nat → List UInt8 → List UInt8
  | 0, l => l
  | n + 1, l => 40 :: (wrapN n l ++ [41])
theorem wrapN_length (n : Nat) (l : List UInt8) : (wrapN n l).length = l.length + 2 * n := by
  induction n with
  | zero => simp [wrapN]
  | succ n ih => simp [wrapN, ih]; omega
theorem Whole.wrap {l : List UInt8} {t : Tree} (h : Whole l t) (n : Nat) : Whole (wrapN n l) t := by
  induction n with
  | zero => exact h
  | succ n ih => exact Gr.whole (ih.signs [])

theorem WeaveErr.not_ok {l : List UInt8} {q : Int} {t : Tree} (h : WeaveErr l q) (_ : q ≠ 0) (hk : WeaveOk l t) : False := by
  rcases h with ⟨h, _⟩ | ⟨_, h, _⟩ | ⟨t', _, h, h1, _⟩
  · have := hk.1; omega
  · exact h.not t hk.2.1
  · rw [h.det hk.2.1] at h1
    exact h1 hk.2.2
theorem WeaveOk.det {l : List UInt8} {t t' : Tree} (h : WeaveOk l t) (h' : WeaveOk l t') : t = t' := h.2.1.det h'.2.1

/-- The weave "2". -/
theorem two_ok : WeaveOk [40, 40, 50, 41, 41] (.num [50]) := by
  refine ⟨by decide, ?_, by decide⟩
  have h2 : Whole [50] (.num [50]) := Gr.whole (Gr.num (by decide))
  exact h2.wrap 2
end Go.Proofs.YtcankblanhpmpaaDoor
