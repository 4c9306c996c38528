/- Plain: numbers as the document's reader reckons them; where no number is above 20 both readings are one. -/
import Derived.Test.YtcankblanhpmpaaDoorWm
import Derived.Test.YtcankblanhpmpaaDoorWj
namespace Go.Proofs.YtcankblanhpmpaaDoor
open Go.RowKit Go.Deep

/-- A number, as the document's reader reckons it: from 1000 on it stays. -/
def cap2 (n : Nat) (d : UInt8) : Nat := if n < 1000 then n * 10 + (d.toNat - 48) else n
def V2 (ds : List UInt8) : Int := (ds.foldl cap2 0 : Nat)
theorem cap2_le (ds : List UInt8) (n : Nat) (h : n ≤ 10300) : ds.foldl cap2 n ≤ 10300 := by
  induction ds generalizing n with
  | nil => exact h
  | cons d r ih =>
    refine ih _ ?_
    have := d.toNat_lt
    unfold cap2
    split <;> omega
theorem V2_le (ds : List UInt8) : 0 ≤ V2 ds ∧ V2 ds ≤ 10300 := by
  have := cap2_le ds 0 (by omega)
  unfold V2; omega
theorem caps (ds : List UInt8) : ∀ a b : Nat, ((a ≤ 20 ∧ a = b) ∨ (a = 21 ∧ 21 ≤ b)) → ((ds.foldl cap1 a ≤ 20 ∧ ds.foldl cap1 a = ds.foldl cap2 b) ∨ (ds.foldl cap1 a = 21 ∧ 21 ≤ ds.foldl cap2 b)) := by
  induction ds with
  | nil => intro a b h; exact h
  | cons d r ih =>
    intro a b h
    refine ih _ _ ?_
    unfold cap1 cap2
    rcases h with ⟨h, rfl⟩ | ⟨rfl, h⟩
    · rw [if_pos (by omega)]; omega
    · right
      refine ⟨by omega, ?_⟩
      split <;> omega
theorem V1_V2 (ds : List UInt8) : (V1 ds ≤ 20 ∧ V1 ds = V2 ds) ∨ (20 < V1 ds ∧ 20 < V2 ds) := by
  have := caps ds 0 0 (Or.inl ⟨by omega, rfl⟩)
  unfold V1 V2
  omega

theorem Tree.lay_congr {V V' : List UInt8 → Int} (t : Tree) : (∀ ds, ds ∈ t.leaves → V ds = V' ds) → ∀ ts, t.lay V ts = t.lay V' ts := by
  induction t with
  | num ds => intro h ts; simp only [Tree.lay]; rw [h ds (by simp [Tree.leaves])]
  | seq a b iha ihb =>
    intro h ts
    simp only [Tree.lay]
    rw [iha (fun ds hd => h ds (by simp [Tree.leaves, hd])), ihb (fun ds hd => h ds (by simp [Tree.leaves, hd]))]
  | par a b iha ihb =>
    intro h ts
    simp only [Tree.lay]
    rw [iha (fun ds hd => h ds (by simp [Tree.leaves, hd])), ihb (fun ds hd => h ds (by simp [Tree.leaves, hd]))]
theorem Tree.work_congr {V V' : List UInt8 → Int} (t : Tree) : (∀ ds, ds ∈ t.leaves → V ds = V' ds) → t.work V = t.work V' := by
  induction t with
  | num ds => intro h; exact h ds (by simp [Tree.leaves])
  | seq a b iha ihb => intro h; simp only [Tree.work]; rw [iha (fun ds hd => h ds (by simp [Tree.leaves, hd])), ihb (fun ds hd => h ds (by simp [Tree.leaves, hd]))]
  | par a b iha ihb => intro h; simp only [Tree.work]; rw [iha (fun ds hd => h ds (by simp [Tree.leaves, hd])), ihb (fun ds hd => h ds (by simp [Tree.leaves, hd]))]
theorem Tree.span_congr {V V' : List UInt8 → Int} (t : Tree) : (∀ ds, ds ∈ t.leaves → V ds = V' ds) → t.span V = t.span V' := by
  induction t with
  | num ds => intro h; exact h ds (by simp [Tree.leaves])
  | seq a b iha ihb => intro h; simp only [Tree.span]; rw [iha (fun ds hd => h ds (by simp [Tree.leaves, hd])), ihb (fun ds hd => h ds (by simp [Tree.leaves, hd]))]
  | par a b iha ihb => intro h; simp only [Tree.span]; rw [iha (fun ds hd => h ds (by simp [Tree.leaves, hd])), ihb (fun ds hd => h ds (by simp [Tree.leaves, hd]))]

theorem big_works (ts : List (Int × List Int)) : big ts = (worksOf ts).any (fun x => decide (20 < x)) := by
  unfold big worksOf
  rw [List.any_map]; rfl
theorem big_lay (V : List UInt8 → Int) (t : Tree) : big (t.lay V []) = t.leaves.any (fun ds => decide (20 < V ds)) := by
  rw [big_works, Tree.lay_works]
  simp [worksOf, List.any_map, Function.comp_def]
/-- Both readings agree on whether a number is too great. -/
theorem big_same (t : Tree) : big (t.lay V2 []) = big (t.lay V1 []) := by
  rw [big_lay, big_lay]
  congr 1
  funext ds
  rcases V1_V2 ds with ⟨h1, h2⟩ | ⟨h1, h2⟩
  · rw [h2]
  · simp [h1, h2]
/-- Where none is, they lay the same. -/
theorem leaf_same {t : Tree} (h : big (t.lay V1 []) = false) : ∀ ds, ds ∈ t.leaves → V2 ds = V1 ds := by
  intro ds hd
  rw [big_lay] at h
  have := List.any_eq_false.1 h ds hd
  rcases V1_V2 ds with ⟨h1, h2⟩ | ⟨h1, h2⟩
  · exact h2.symm
  · simp [h1] at this
end Go.Proofs.YtcankblanhpmpaaDoor
