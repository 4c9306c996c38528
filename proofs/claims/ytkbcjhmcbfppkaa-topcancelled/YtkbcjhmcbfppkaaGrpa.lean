/- Plain: groups, part of part; who is gone, with one more cancelled; which tasks live. No word of the program. -/
import Derived.Test.YtkbcjhmcbfppkaaK
namespace Go.Proofs.Ytkbcjhmcbfppkaa

/-- A group: of which one it is a part, whether it is cancelled. -/
abbrev Grp := Int × Bool
def parG (gs : List Grp) (i : Nat) : Int := (gs.getD i (-1, false)).1
def canG (gs : List Grp) (i : Nat) : Bool := (gs.getD i (-1, false)).2
/-- Each is a part of one ahead of it, or of none. -/
def RightG (gs : List Grp) : Prop := ∀ k, k < gs.length → -1 ≤ parG gs k ∧ parG gs k < (k : Int)
/-- Is one gone? (So many ways up.) -/
def goneF (gs : List Grp) : Nat → Nat → Bool
  | 0, _ => false
  | f + 1, i => canG gs i || (if parG gs i < 0 then false else goneF gs f (parG gs i).toNat)
def goneG (gs : List Grp) (i : Nat) : Bool := goneF gs (i + 1) i
theorem goneF_fuel {gs : List Grp} (hr : RightG gs) : ∀ (f i : Nat), i < gs.length → i < f → goneF gs f i = goneG gs i := by
  intro f
  induction f using Nat.strongRecOn with
  | ind f ih =>
    intro i hi hf
    obtain ⟨f', rfl⟩ : ∃ f', f = f' + 1 := ⟨f - 1, by omega⟩
    unfold goneG
    unfold goneF
    by_cases hp : parG gs i < 0
    · rw [if_pos hp, if_pos hp]
    · rw [if_neg hp, if_neg hp]
      have h1 := hr i hi
      have e1 := ih f' (by omega) (parG gs i).toNat (by omega) (by omega)
      rw [e1]
      by_cases e : i < f'
      · rw [ih i (by omega) (parG gs i).toNat (by omega) (by omega)]
      · obtain rfl : i = f' := by omega
        rw [e1]
theorem goneG_eq {gs : List Grp} (hr : RightG gs) {i : Nat} (hi : i < gs.length) : goneG gs i = (canG gs i || (if parG gs i < 0 then false else goneG gs (parG gs i).toNat)) := by
  have h1 := hr i hi
  show goneF gs (i + 1) i = _
  unfold goneF
  by_cases hp : parG gs i < 0
  · rw [if_pos hp, if_pos hp]
  · rw [if_neg hp, if_neg hp, goneF_fuel hr i _ (by omega) (by omega)]
/-- One cancelled. -/
def setC (gs : List Grp) (i : Nat) : List Grp := gs.set i (parG gs i, true)
theorem setC_length (gs : List Grp) (i : Nat) : (setC gs i).length = gs.length := by simp [setC]
theorem setC_getD {gs : List Grp} {i k : Nat} (hi : i < gs.length) : (setC gs i).getD k (-1, false) = if k = i then (parG gs i, true) else gs.getD k (-1, false) := by
  unfold setC
  rw [List.getD_eq_getElem?_getD, List.getD_eq_getElem?_getD, List.getElem?_set]
  by_cases e : k = i
  · subst e; simp [hi]
  · rw [if_neg (fun h => e h.symm), if_neg e]
theorem parG_setC {gs : List Grp} {i k : Nat} (hi : i < gs.length) : parG (setC gs i) k = parG gs k := by
  unfold parG
  rw [setC_getD hi]
  split
  · rename_i e; subst e; rfl
  · rfl
theorem canG_setC {gs : List Grp} {i k : Nat} (hi : i < gs.length) : canG (setC gs i) k = (canG gs k || decide (k = i)) := by
  unfold canG
  rw [setC_getD hi]
  by_cases e : k = i
  · simp [e]
  · simp [e]
theorem RightG.set {gs : List Grp} (hr : RightG gs) {i : Nat} (hi : i < gs.length) : RightG (setC gs i) := fun k hk => by
  rw [setC_length] at hk
  rw [parG_setC hi]
  exact hr k hk
/-- Is one a part of another one, or that one? -/
def partF (gs : List Grp) (i : Nat) : Nat → Nat → Bool
  | 0, _ => false
  | f + 1, k => decide (k = i) || (if parG gs k < 0 then false else partF gs i f (parG gs k).toNat)
def partG (gs : List Grp) (k i : Nat) : Bool := partF gs i (k + 1) k
theorem partF_fuel {gs : List Grp} (hr : RightG gs) (j : Nat) : ∀ (f i : Nat), i < gs.length → i < f → partF gs j f i = partG gs i j := by
  intro f
  induction f using Nat.strongRecOn with
  | ind f ih =>
    intro i hi hf
    obtain ⟨f', rfl⟩ : ∃ f', f = f' + 1 := ⟨f - 1, by omega⟩
    unfold partG
    unfold partF
    by_cases hp : parG gs i < 0
    · rw [if_pos hp, if_pos hp]
    · rw [if_neg hp, if_neg hp]
      have h1 := hr i hi
      have e1 := ih f' (by omega) (parG gs i).toNat (by omega) (by omega)
      rw [e1]
      by_cases e : i < f'
      · rw [ih i (by omega) (parG gs i).toNat (by omega) (by omega)]
      · obtain rfl : i = f' := by omega
        rw [e1]
theorem partG_eq {gs : List Grp} (hr : RightG gs) {k : Nat} (hk : k < gs.length) (i : Nat) : partG gs k i = (decide (k = i) || (if parG gs k < 0 then false else partG gs (parG gs k).toNat i)) := by
  have h1 := hr k hk
  show partF gs i (k + 1) k = _
  unfold partF
  by_cases hp : parG gs k < 0
  · rw [if_pos hp, if_pos hp]
  · rw [if_neg hp, if_neg hp, partF_fuel hr i k _ (by omega) (by omega)]
/-- With one cancelled it and all its parts are gone, and those that were. -/
theorem gone_cancel {gs : List Grp} (hr : RightG gs) {i : Nat} (hi : i < gs.length) : ∀ k, k < gs.length → goneG (setC gs i) k = (goneG gs k || partG gs k i) := by
  intro k
  induction k using Nat.strongRecOn with
  | ind k ih =>
    intro hk
    have h1 := hr k hk
    rw [goneG_eq (hr.set hi) (by rw [setC_length]; exact hk), goneG_eq hr hk, partG_eq hr hk, canG_setC hi, parG_setC hi]
    by_cases hp : parG gs k < 0
    · rw [if_pos hp, if_pos hp, if_pos hp]
      cases canG gs k <;> simp
    · rw [if_neg hp, if_neg hp, if_neg hp, ih _ (by omega) (by omega)]
      generalize goneG gs (parG gs k).toNat = a
      generalize partG gs (parG gs k).toNat i = b
      generalize canG gs k = c
      generalize decide (k = i) = d
      cases a <;> cases b <;> cases c <;> cases d <;> rfl
theorem part_self {gs : List Grp} (hr : RightG gs) {k : Nat} (hk : k < gs.length) : partG gs k k = true := by
  rw [partG_eq hr hk]; simp
/-- Of groups in a row the later ones are parts of the earlier ones. -/
theorem line_part {gs : List Grp} (hl : ∀ k, k < gs.length → parG gs k = (k : Int) - 1) {i : Nat} : ∀ k, k < gs.length → partG gs k i = decide (i ≤ k) := by
  have hr : RightG gs := fun k hk => by rw [hl k hk]; omega
  intro k
  induction k with
  | zero =>
    intro hk
    rw [partG_eq hr hk, hl 0 hk, if_pos (by omega)]
    by_cases e : i = 0
    · simp [e]
    · have : ¬ (0 = i) := fun h => e h.symm
      simp [e, this]
  | succ k ih =>
    intro hk
    rw [partG_eq hr hk, hl (k + 1) hk, if_neg (by omega)]
    have e1 : (((k + 1 : Nat) : Int) - 1).toNat = k := by omega
    rw [e1, ih (by omega)]
    by_cases h1 : k + 1 = i
    · simp [h1]
    · have : decide (i ≤ k + 1) = decide (i ≤ k) := by
        rw [Bool.eq_iff_iff]; simp; omega
      simp [h1, this]

/-- The tasks that live: of which none that they need, and so on, nor they themselves, is of a group that is gone. -/
def Lives (ts : List (Int × List Int)) (D : Nat → Bool) (k : Nat) : Prop := D k = false ∧ ∀ m, Reach ts k m → D m = false
theorem Lives.need {ts : List (Int × List Int)} {D : Nat → Bool} {k n : Nat} (h : Lives ts D k) (hn : Need ts k n) : Lives ts D n :=
  ⟨h.2 n (Reach.one hn), fun m hm => h.2 m ((Reach.one hn).trans hm)⟩
theorem lives_iff {ts : List (Int × List Int)} {D : Nat → Bool} {k : Nat} : Lives ts D k ↔ D k = false ∧ ∀ n, Need ts k n → Lives ts D n := by
  constructor
  · intro h
    exact ⟨h.1, fun n hn => h.need hn⟩
  · rintro ⟨h1, h2⟩
    refine ⟨h1, fun m hm => ?_⟩
    exact (Reach.ind (motive := fun y _ => Lives ts D y) (fun h => h2 _ h) (fun _ hn ih => ih.need hn) hm).1
/-- With more gone none lives more. -/
theorem Lives.less {ts : List (Int × List Int)} {D D' : Nat → Bool} {k : Nat} (h : Lives ts D' k) (hd : ∀ m, D m = true → D' m = true) : Lives ts D k := by
  have hf : ∀ m, D' m = false → D m = false := fun m hm => by
    cases e : D m with
    | false => rfl
    | true => rw [hd m e] at hm; cases hm
  exact ⟨hf k h.1, fun m hm => hf m (h.2 m hm)⟩
end Go.Proofs.Ytkbcjhmcbfppkaa
