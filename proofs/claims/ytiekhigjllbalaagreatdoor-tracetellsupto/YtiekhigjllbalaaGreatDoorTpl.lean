/- Plain: what is wrong with deeds, by themselves and as they were told. No word of the program. -/
import Derived.Test.YtiekhigjllbalaaGreatDoorGngf
namespace Go.Proofs.YtiekhigjllbalaaGreatDoor

/-- What is wrong with the first that has a fault. -/
def firstE : List Deed → Int
  | [] => 0
  | d :: r => if deedE d = 0 then firstE r else deedE d
def deedsErr (ds : List Deed) : Int := if 1000 < ds.length then 4 else firstE ds
theorem firstE_at : ∀ (l : List Deed) (k : Nat), k < l.length → (∀ j, j < k → deedE (l.getD j (0, 0, 0, 0)) = 0) → deedE (l.getD k (0, 0, 0, 0)) ≠ 0 → firstE l = deedE (l.getD k (0, 0, 0, 0)) := by
  intro l
  induction l with
  | nil => intro k hk; simp at hk
  | cons a r ih =>
    intro k hk hj hf
    rw [firstE]
    cases k with
    | zero => exact if_neg hf
    | succ k =>
      have h0 : deedE a = 0 := hj 0 (by omega)
      rw [if_pos h0]
      exact ih k (by simpa using hk) (fun j h => hj (j + 1) (by omega)) hf
theorem firstE_none : ∀ (l : List Deed), (∀ j, j < l.length → deedE (l.getD j (0, 0, 0, 0)) = 0) → firstE l = 0 := by
  intro l
  induction l with
  | nil => intro _; rfl
  | cons a r ih =>
    intro h
    have h0 : deedE a = 0 := h 0 (by simp)
    rw [firstE, if_pos h0]
    exact ih (fun j hj => h (j + 1) (by simpa using hj))
theorem firstE_zero : ∀ {l : List Deed}, firstE l = 0 → ∀ d, d ∈ l → deedE d = 0 := by
  intro l
  induction l with
  | nil => intro _ d hd; simp at hd
  | cons a r ih =>
    intro h d hd
    rw [firstE] at h
    by_cases h0 : deedE a = 0
    · rw [if_pos h0] at h
      rcases List.mem_cons.1 hd with rfl | hd
      · exact h0
      · exact ih h d hd
    · rw [if_neg h0] at h; exact absurd h h0
theorem deedsErr_zero {ds : List Deed} (h : deedsErr ds = 0) : ds.length ≤ 1000 ∧ ∀ d, d ∈ ds → deedE d = 0 := by
  unfold deedsErr at h
  by_cases h1 : 1000 < ds.length
  · rw [if_pos h1] at h; omega
  · rw [if_neg h1] at h; exact ⟨by omega, firstE_zero h⟩
theorem deedE_one {a h t o : Int} (hc : a < 1 ∨ 6 < a ∨ h < 0 ∨ 5 < h ∨ t < 0 ∨ 29 < t ∨ (a = 2 ∧ (o < 0 ∨ 5 < o))) : deedE (a, h, t, o) = 1 := if_pos hc
theorem deedE_three {a h t o : Int} (hn : ¬ (a < 1 ∨ 6 < a ∨ h < 0 ∨ 5 < h ∨ t < 0 ∨ 29 < t ∨ (a = 2 ∧ (o < 0 ∨ 5 < o)))) (hc : (a ≠ 2 ∧ o ≠ 0) ∨ (4 < a ∧ t ≠ 0)) : deedE (a, h, t, o) = 3 := by
  unfold deedE
  rw [if_neg hn, if_pos hc]
theorem deedE_none {a h t o : Int} (hn : ¬ (a < 1 ∨ 6 < a ∨ h < 0 ∨ 5 < h ∨ t < 0 ∨ 29 < t ∨ (a = 2 ∧ (o < 0 ∨ 5 < o)))) (hc : ¬ ((a ≠ 2 ∧ o ≠ 0) ∨ (4 < a ∧ t ≠ 0))) : deedE (a, h, t, o) = 0 := by
  unfold deedE
  rw [if_neg hn, if_neg hc]
/-- What is wrong with deeds of a plan that is right. -/
def toldErr (ts : List (Int × List Int)) (hands : Nat) (ds : List Deed) : Int := if deedsErr ds = 0 then trErrs ts hands trNew ds else deedsErr ds
theorem trErrs_hit {ts : List (Int × List Int)} {hands : Nat} {ds : List Deed} {k : Nat} {q : Int} (hk : k < ds.length) (h0 : trErrs ts hands trNew (ds.take k) = 0) (hq : trErr ts hands (trEnd trNew (ds.take k)) (ds.getD k (0, 0, 0, 0)) = q) (hn : q ≠ 0) : trErrs ts hands trNew ds = q := by
  have e : ds = ds.take k ++ ds.getD k (0, 0, 0, 0) :: ds.drop (k + 1) := by
    conv => lhs; rw [← List.take_append_drop k ds]
    congr 1
    rw [List.drop_eq_getElem_cons hk, List.getD_eq_getElem?_getD, List.getElem?_eq_getElem hk]
    rfl
  rw [e, trErrs_append _ _ _ h0, trErrs, if_neg (by rw [hq]; exact hn), hq]
theorem trErrs_more {ts : List (Int × List Int)} {hands : Nat} {ds : List Deed} {k : Nat} (hk : k < ds.length) (h0 : trErrs ts hands trNew (ds.take k) = 0) (hq : trErr ts hands (trEnd trNew (ds.take k)) (ds.getD k (0, 0, 0, 0)) = 0) : trErrs ts hands trNew (ds.take (k + 1)) = 0 ∧ trEnd trNew (ds.take (k + 1)) = trNext (trEnd trNew (ds.take k)) (ds.getD k (0, 0, 0, 0)) := by
  have e : ds.take (k + 1) = ds.take k ++ [ds.getD k (0, 0, 0, 0)] := by
    rw [List.take_succ_eq_append_getElem hk, List.getD_eq_getElem?_getD, List.getElem?_eq_getElem hk]
    rfl
  rw [e, trErrs_append _ _ _ h0]
  refine ⟨?_, by simp [trEnd]⟩
  rw [trErrs, if_pos hq]
  rfl
theorem deed_parts {d : Deed} (h : deedE d = 0) : (1 ≤ d.1 ∧ d.1 ≤ 6) ∧ (0 ≤ d.2.1 ∧ d.2.1 ≤ 5) ∧ (0 ≤ d.2.2.1 ∧ d.2.2.1 ≤ 29) ∧ 0 ≤ d.2.2.2 := by
  unfold deedE at h
  by_cases hc : d.1 < 1 ∨ 6 < d.1 ∨ d.2.1 < 0 ∨ 5 < d.2.1 ∨ d.2.2.1 < 0 ∨ 29 < d.2.2.1 ∨ (d.1 = 2 ∧ (d.2.2.2 < 0 ∨ 5 < d.2.2.2))
  · rw [if_pos hc] at h; omega
  · rw [if_neg hc] at h
    by_cases hc2 : (d.1 ≠ 2 ∧ d.2.2.2 ≠ 0) ∨ (4 < d.1 ∧ d.2.2.1 ≠ 0)
    · rw [if_pos hc2] at h; omega
    · omega
theorem trErr_at {ts : List (Int × List Int)} {hands : Nat} {s : Tr} {x1 : Int} {x2 x3 x4 : Nat} (hp : ¬ ((hands : Int) ≤ (x2 : Int) ∨ (hands : Int) ≤ (x4 : Int) ∨ (x1 < 5 ∧ (ts.length : Int) ≤ (x3 : Int)))) : trErr ts hands s (x1, (x2 : Int), (x3 : Int), (x4 : Int)) =
    if x1 < 4 then (if 0 ≤ s.has x2 ∨ s.had x3 = true then 7 else if s.slp x2 = true ∨ (needsOf ts x3).any (fun y => !s.dn y.toNat) = true then 6 else if x1 = 2 ∧ (x4 : Int) = (x2 : Int) then 3 else 0)
    else if x1 = 4 then (if s.has x2 = (x3 : Int) then 0 else 6) else if x1 = 5 then (if 0 ≤ s.has x2 ∨ s.slp x2 = true then 6 else 0) else if s.slp x2 = true then 0 else 6 := by
  unfold trErr
  rw [if_neg hp]
  rfl
end Go.Proofs.YtiekhigjllbalaaGreatDoor
