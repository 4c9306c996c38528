/- Plain: numbers of a weave are right; weaves one behind the other, and beside each other. -/
import Derived.Test.YtefkglgccllbeabDoorWk
import Derived.Test.YtefkglgccllbeabDoorWm
namespace Go.Proofs.YtefkglgccllbeabDoor

def Digits (ds : List UInt8) : Prop := ∃ d r, ds = d :: r ∧ isDig d = true ∧ d ≠ 48
theorem Digits.pos {ds : List UInt8} (h : Digits ds) : 1 ≤ V1 ds := by
  obtain ⟨d, r, rfl, h1, h2⟩ := h
  have key : ∀ (r : List UInt8) (n : Nat), 1 ≤ n → 1 ≤ r.foldl cap1 n := by
    intro r
    induction r with
    | nil => intro n hn; exact hn
    | cons x r ih => intro n hn; exact ih _ (by unfold cap1; omega)
  have hd : 49 ≤ d.toNat := by
    simp [isDig] at h1
    have : d.toNat ≠ 48 := fun e => h2 (UInt8.toNat_inj.1 e)
    omega
  have := key r (cap1 0 d) (by unfold cap1; omega)
  unfold V1
  show 1 ≤ ((r.foldl cap1 (cap1 0 d) : Nat) : Int)
  omega

/-- What was read so far is right. -/
def accOk : Kind → Prop
  | .chainL t => ∀ ds, ds ∈ t.leaves → Digits ds
  | .weaveL t => ∀ ds, ds ∈ t.leaves → Digits ds
  | _ => True
theorem Gr.leaves {k : Kind} {s : List UInt8} {r : Option (Tree × List UInt8)} (h : Gr k s r) : accOk k → ∀ t s2, r = some (t, s2) → ∀ ds, ds ∈ t.leaves → Digits ds := by
  induction h with
  | num _ =>
    rename_i s _
    intro _ t s2 h ds hd
    obtain ⟨d, r, e1, e2, rfl, _⟩ := numR_shape h
    simp [Tree.leaves] at hd
    subst hd
    have := (takeWhile_parts s).2.1 d (by rw [e1]; simp)
    exact ⟨d, r, rfl, this, e2⟩
  | opened _ _ => intro _ t s2 h; cases h
  | unshut _ _ _ => intro _ t s2 h; cases h
  | signs _ ih => intro _ t s2 h; simp at h; obtain ⟨rfl, _⟩ := h; exact ih trivial _ _ rfl
  | chainNo _ _ => intro _ t s2 h; cases h
  | chainOf _ _ ih1 ih2 => intro _ t s2 h; exact ih2 (ih1 trivial _ _ rfl) t s2 h
  | chainEnd _ => intro ha t s2 h; simp at h; rw [← h.1]; exact ha
  | chainBad _ _ => intro _ t s2 h; cases h
  | chainMore _ _ ih1 ih2 =>
    intro ha t s2 h
    refine ih2 (fun ds hd => ?_) t s2 h
    simp only [Tree.leaves, List.mem_append] at hd
    exact hd.elim (ha ds) (ih1 trivial _ _ rfl ds)
  | weaveNo _ _ => intro _ t s2 h; cases h
  | weaveOf _ _ ih1 ih2 => intro _ t s2 h; exact ih2 (ih1 trivial _ _ rfl) t s2 h
  | weaveEnd _ => intro ha t s2 h; simp at h; rw [← h.1]; exact ha
  | weaveBad _ _ => intro _ t s2 h; cases h
  | weaveMore _ _ ih1 ih2 =>
    intro ha t s2 h
    refine ih2 (fun ds hd => ?_) t s2 h
    simp only [Tree.leaves, List.mem_append] at hd
    exact hd.elim (ha ds) (ih1 trivial _ _ rfl ds)
theorem Whole.pos {l : List UInt8} {t : Tree} (h : Whole l t) {ds : List UInt8} (hd : ds ∈ t.leaves) : 1 ≤ V1 ds := (h.leaves trivial t [] rfl ds hd).pos

theorem big_leaves (t : Tree) : big (t.lay V1 []) = t.leaves.any fun ds => decide (20 < V1 ds) := by
  have h1 : big (t.lay V1 []) = (worksOf (t.lay V1 [])).any fun n => decide (20 < n) := by
    unfold big worksOf
    rw [List.any_map]
    rfl
  rw [h1, t.lay_works]
  simp only [worksOf, List.map_nil, List.nil_append, List.any_map]
  rfl
theorem boundErr_zero {t : Tree} : boundErr (t.lay V1 []) = 0 ↔ t.count ≤ 30 ∧ ∀ ds, ds ∈ t.leaves → V1 ds ≤ 20 := by
  have hlen : (t.lay V1 []).length = t.count := by rw [t.lay_length]; simp
  unfold boundErr
  rw [big_leaves, hlen]
  cases hb : t.leaves.any fun ds => decide (20 < V1 ds) with
  | true =>
    simp only [if_true]
    rw [List.any_eq_true] at hb
    obtain ⟨ds, h1, h2⟩ := hb
    constructor
    · intro h; omega
    · intro ⟨_, h⟩
      have := h ds h1
      simp at h2; omega
  | false =>
    simp only [Bool.false_eq_true, if_false]
    rw [List.any_eq_false] at hb
    constructor
    · intro h
      split at h
      · omega
      · exact ⟨by omega, fun ds hd => by have := hb ds hd; simp at this; omega⟩
    · intro ⟨h, _⟩
      rw [if_neg (by omega)]
theorem boundErr_four {t : Tree} (h : boundErr (t.lay V1 []) ≠ 0) (hv : ∀ ds, ds ∈ t.leaves → V1 ds ≤ 20) : boundErr (t.lay V1 []) = 4 := by
  have hb : big (t.lay V1 []) = false := by
    rw [big_leaves, List.any_eq_false]
    intro ds hd
    have := hv ds hd
    simp; omega
  unfold boundErr at h ⊢
  rw [hb] at h ⊢
  simp only [Bool.false_eq_true, if_false] at h ⊢
  split
  · rfl
  · rename_i hc
    rw [if_neg hc] at h
    exact absurd rfl h
theorem WeaveOk.facts {l : List UInt8} {t : Tree} (h : WeaveOk l t) : t.count ≤ 30 ∧ ∀ ds, ds ∈ t.leaves → 1 ≤ V1 ds ∧ V1 ds ≤ 20 := by
  obtain ⟨h1, h2⟩ := boundErr_zero.1 h.2.2
  exact ⟨h1, fun ds hd => ⟨h.2.1.pos hd, h2 ds hd⟩⟩
theorem WeaveOk.check {l : List UInt8} {t : Tree} (h : WeaveOk l t) : CheckIs (t.lay V1 []) 0 0 := t.check V1 h.facts.1 h.facts.2

/-- One behind the other, in signs. -/
def behindText (a b : List UInt8) : List UInt8 := 40 :: (a ++ 41 :: 59 :: 40 :: (b ++ [41]))
theorem whole_behind {a b : List UInt8} {ta tb : Tree} (ha : Whole a ta) (hb : Whole b tb) : Whole (behindText a b) (.seq ta tb) :=
  Gr.weaveOf (Gr.chainOf (ha.signs (59 :: 40 :: (b ++ [41]))) (Gr.chainMore (hb.signs []) (Gr.chainEnd (by simp)))) (Gr.weaveEnd (by simp))

/-- A weave goes on. -/
theorem Gr.goesOn {k : Kind} {s : List UInt8} {r : Option (Tree × List UInt8)} (h : Gr k s r) (y : List UInt8) (q : Option (Tree × List UInt8)) : ∀ t0, k = .weaveL t0 → ∀ t, r = some (t, []) → Gr (.weaveL t) (124 :: y) q → Gr (.weaveL t0) (s ++ 124 :: y) q := by
  induction h with
  | weaveEnd _ =>
    intro t0 hk t hr hq
    cases hk
    simp at hr
    obtain ⟨rfl, rfl⟩ := hr
    exact hq
  | weaveMore h1 _ _ ih2 =>
    intro t0 hk t hr hq
    cases hk
    have := Gr.ext h1 124 y _ _ rfl (Or.inr ⟨by decide, by decide⟩)
    exact Gr.weaveMore this (ih2 _ rfl t hr hq)
  | weaveBad _ _ => intro _ _ _ hr; cases hr
  | num _ => intro _ hk; cases hk
  | opened _ _ => intro _ hk; cases hk
  | unshut _ _ _ => intro _ hk; cases hk
  | signs _ _ => intro _ hk; cases hk
  | chainNo _ _ => intro _ hk; cases hk
  | chainOf _ _ _ _ => intro _ hk; cases hk
  | chainEnd _ => intro _ hk; cases hk
  | chainBad _ _ => intro _ hk; cases hk
  | chainMore _ _ _ _ => intro _ hk; cases hk
  | weaveNo _ _ => intro _ hk; cases hk
  | weaveOf _ _ _ _ => intro _ hk; cases hk

/-- What a weave comes to, beside another one. -/
structure Sum (ta tb T : Tree) : Prop where
  work : T.work V1 = ta.work V1 + tb.work V1
  span : T.span V1 = max (ta.span V1) (tb.span V1)
  leaves : T.leaves = ta.leaves ++ tb.leaves
theorem Gr.beside {k : Kind} {s : List UInt8} {r : Option (Tree × List UInt8)} (h : Gr k s r) (ta : Tree) : ∀ t1 t1', k = .weaveL t1 → Sum ta t1 t1' → ∀ tb s2, r = some (tb, s2) → ∃ T, Gr (.weaveL t1') s (some (T, s2)) ∧ Sum ta tb T := by
  induction h with
  | weaveEnd hn =>
    intro t1 t1' hk hs tb s2 hr
    cases hk
    simp at hr
    obtain ⟨rfl, rfl⟩ := hr
    exact ⟨t1', Gr.weaveEnd hn, hs⟩
  | weaveMore h1 _ _ ih2 =>
    rename_i s' s2' t' t2' r' _ _
    intro t1 t1' hk hs tb s2 hr
    cases hk
    obtain ⟨T, g1, g2⟩ := ih2 (.par t' t2') (.par t1' t2') rfl ⟨by simp only [Tree.work, hs.work]; omega, by simp only [Tree.span, hs.span]; omega, by simp only [Tree.leaves, hs.leaves, List.append_assoc]⟩ tb s2 hr
    exact ⟨T, Gr.weaveMore h1 g1, g2⟩
  | weaveBad _ _ => intro _ _ _ _ _ _ hr; cases hr
  | num _ => intro _ _ hk; cases hk
  | opened _ _ => intro _ _ hk; cases hk
  | unshut _ _ _ => intro _ _ hk; cases hk
  | signs _ _ => intro _ _ hk; cases hk
  | chainNo _ _ => intro _ _ hk; cases hk
  | chainOf _ _ _ _ => intro _ _ hk; cases hk
  | chainEnd _ => intro _ _ hk; cases hk
  | chainBad _ _ => intro _ _ hk; cases hk
  | chainMore _ _ _ _ => intro _ _ hk; cases hk
  | weaveNo _ _ => intro _ _ hk; cases hk
  | weaveOf _ _ _ _ => intro _ _ hk; cases hk
theorem whole_beside {a b : List UInt8} {ta tb : Tree} (ha : Whole a ta) (hb : Whole b tb) : ∃ T, Whole (a ++ 124 :: b) T ∧ Sum ta tb T := by
  cases ha with
  | weaveOf a1 a2 =>
    cases hb with
    | weaveOf b1 b2 =>
      obtain ⟨T, g1, g2⟩ := Gr.beside b2 ta _ (.par ta _) rfl ⟨rfl, rfl, rfl⟩ tb [] rfl
      refine ⟨T, ?_, g2⟩
      exact Gr.weaveOf (Gr.ext a1 124 b _ _ rfl (Or.inr ⟨by decide, by decide⟩)) (Gr.goesOn a2 b _ _ rfl _ rfl (Gr.weaveMore b1 g1))

/-- The weave "2;(3|4);1". -/
def factT : Tree := .seq (.seq (.num [50]) (.par (.num [51]) (.num [52]))) (.num [49])
theorem fact_ok : WeaveOk [50, 59, 40, 51, 124, 52, 41, 59, 49] factT := by
  refine ⟨by decide, ?_, by decide⟩
  have h3 : Whole [51, 124, 52] (.par (.num [51]) (.num [52])) :=
    Gr.weaveOf (Gr.chainOf (Gr.num (s := [51, 124, 52]) (by decide)) (Gr.chainEnd (by decide))) (Gr.weaveMore (Gr.chainOf (Gr.num (s := [52]) (by decide)) (Gr.chainEnd (by decide))) (Gr.weaveEnd (by decide)))
  exact Gr.weaveOf (Gr.chainOf (Gr.num (s := [50, 59, 40, 51, 124, 52, 41, 59, 49]) (by decide)) (Gr.chainMore (h3.signs [59, 49]) (Gr.chainMore (Gr.num (s := [49]) (by decide)) (Gr.chainEnd (by decide))))) (Gr.weaveEnd (by decide))
theorem fact_lay : factT.lay V1 [] = [(2, []), (3, [0]), (4, [0]), (1, [1, 2])] := by rfl
end Go.Proofs.YtefkglgccllbeabDoor
