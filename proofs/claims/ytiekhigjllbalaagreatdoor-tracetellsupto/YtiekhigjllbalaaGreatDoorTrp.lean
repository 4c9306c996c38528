/- Plain: numbers of at most two digits as strconv.Atoi and Itoa tell them; a line's words one by one. No word of the program. -/
import Derived.Test.YtiekhigjllbalaaGreatDoorTa
import Derived.Lib.AtoiAll
namespace Go.Proofs.YtiekhigjllbalaaGreatDoor
open Go

theorem atoi_dec : ∀ m, m < 100 → Lib.atoiAll (Lib.decDigits m) = .ok (m : Int) := by decide +kernel
theorem puint_one (acc : Nat) (h : acc ≤ 1000) (c : UInt8) : Lib.parseUint10 acc [c] = if 48 ≤ c.toNat ∧ c.toNat ≤ 57 then .ok (acc * 10 + (c.toNat - 48)) else .syntax := by
  have := c.toNat_lt
  simp only [Lib.parseUint10]
  split
  · rw [if_neg (by omega), if_neg (by omega)]
  · rfl
theorem puint_two (c d : UInt8) : Lib.parseUint10 0 [c, d] = if 48 ≤ c.toNat ∧ c.toNat ≤ 57 then Lib.parseUint10 (c.toNat - 48) [d] else .syntax := by
  have := c.toNat_lt
  rw [Lib.parseUint10]
  split
  · rw [if_neg (by omega), if_neg (by omega)]
    congr 1
    omega
  · rfl
theorem pmag_small (l : List UInt8) (h : l.length ≤ 2) : Lib.parseMag l = .syntax ∨ ∃ u, Lib.parseMag l = .ok u ∧ u < 100 := by
  match l, h with
  | [], _ => exact Or.inl rfl
  | [c], _ =>
    have e : Lib.parseMag [c] = Lib.parseUint10 0 [c] := rfl
    rw [e, puint_one 0 (by omega)]
    by_cases h : 48 ≤ c.toNat ∧ c.toNat ≤ 57
    · rw [if_pos h]; exact Or.inr ⟨_, rfl, by omega⟩
    · rw [if_neg h]; exact Or.inl rfl
  | [c, d], _ =>
    have e : Lib.parseMag [c, d] = Lib.parseUint10 0 [c, d] := rfl
    rw [e, puint_two]
    by_cases h : 48 ≤ c.toNat ∧ c.toNat ≤ 57
    · rw [if_pos h, puint_one _ (by omega)]
      by_cases h2 : 48 ≤ d.toNat ∧ d.toNat ≤ 57
      · rw [if_pos h2]; exact Or.inr ⟨_, rfl, by omega⟩
      · rw [if_neg h2]; exact Or.inl rfl
    · rw [if_neg h]; exact Or.inl rfl
theorem atoi_two (l : List UInt8) (h : l.length ≤ 2) : Lib.atoiAll l = .syntax ∨ ∃ v : Int, Lib.atoiAll l = .ok v ∧ v < 100 := by
  cases l with
  | nil => exact Or.inl rfl
  | cons c r =>
    have hs : (if c.toNat = 43 ∨ c.toNat = 45 then r else c :: r).length ≤ 2 := by
      simp at h
      split
      · omega
      · simp; omega
    unfold Lib.atoiAll
    dsimp only
    rcases pmag_small _ hs with e | ⟨u, e, hu⟩
    · rw [e]; exact Or.inl rfl
    · rw [e]
      dsimp only
      right
      rw [if_neg (by omega), if_neg (by omega)]
      refine ⟨_, rfl, ?_⟩
      split <;> omega
theorem decFrom_two {l : List UInt8} (h : l.length ≤ 2) {m : Nat} (hm : Lib.decFrom 0 l = some m) : m < 100 := by
  have key : ∀ (c : UInt8) (d : Nat), Lib.digitVal c = some d → d ≤ 9 := fun c d hd => by
    unfold Lib.digitVal at hd
    split at hd
    · simp at hd; omega
    · cases hd
  match l, h with
  | [], _ => simp [Lib.decFrom] at hm; omega
  | [c], _ =>
    unfold Lib.decFrom at hm
    cases hc : Lib.digitVal c with
    | none => rw [hc] at hm; cases hm
    | some d =>
      rw [hc] at hm
      simp [Lib.decFrom] at hm
      have := key c d hc
      omega
  | [c, e], _ =>
    unfold Lib.decFrom at hm
    cases hc : Lib.digitVal c with
    | none => rw [hc] at hm; cases hm
    | some d =>
      rw [hc] at hm
      dsimp only at hm
      unfold Lib.decFrom at hm
      cases he : Lib.digitVal e with
      | none => rw [he] at hm; cases hm
      | some f =>
        rw [he] at hm
        simp [Lib.decFrom] at hm
        have := key c d hc
        have := key e f he
        omega
theorem num2_small {l : List UInt8} {m : Nat} (h : num2 l = some m) : m < 100 := by
  unfold num2 at h
  split at h
  · cases h
  · rename_i hl
    unfold numOf at h
    split at h
    · cases h
    · unfold Lib.decNat at h
      split at h
      · cases h
      · exact decFrom_two (by omega) h
theorem num2_atoi {l : List UInt8} {m : Nat} (h : num2 l = some m) : Lib.atoiAll l = .ok (m : Int) := by
  have h1 := num2_small h
  have h2 := num2_inv h
  unfold digs at h2
  rw [Int.toNat_natCast] at h2
  rw [h2]
  exact atoi_dec m h1
theorem num2_syntax {l : List UInt8} (h : Lib.atoiAll l = .syntax) : num2 l = none := by
  cases e : num2 l with
  | none => rfl
  | some m => rw [num2_atoi e] at h; cases h
theorem num2_no {l : List UInt8} {v : Int} (h : Lib.atoiAll l = .ok v) (hn : ¬ (0 ≤ v ∧ digs v = l)) : num2 l = none := by
  cases e : num2 l with
  | none => rfl
  | some m =>
    have h1 := num2_atoi e
    rw [h] at h1
    simp only [Lib.NumEnd.ok.injEq] at h1
    exact absurd ⟨by omega, by rw [h1]; exact (num2_inv e).symm⟩ hn
theorem num2_yes {v : Int} (h0 : 0 ≤ v) (h1 : v < 100) : num2 (digs v) = some v.toNat := num2_digs ⟨h0, h1⟩
/-- What is left of a line: its words, and whether there are more. -/
def RemW (rest : List UInt8) (more : Bool) (ws : List (List UInt8)) : Prop := (more = true ∧ ws = splitC 32 rest) ∨ (more = false ∧ rest = [] ∧ ws = [])
theorem cutB_no (c : UInt8) (l : List UInt8) (h : (cutB c l).2.2 = false) : (cutB c l).2.1 = [] := by
  induction l with
  | nil => rfl
  | cons b r ih =>
    rw [cutB_cons] at h ⊢
    by_cases hb : b = c
    · rw [if_pos hb] at h; cases h
    · rw [if_neg hb] at h ⊢; exact ih h
theorem RemW.cut (l : List UInt8) : ∃ ws, splitC 32 l = (cutB 32 l).1 :: ws ∧ RemW (cutB 32 l).2.1 (cutB 32 l).2.2 ws := by
  refine ⟨_, splitC_cut 32 l, ?_⟩
  cases h : (cutB 32 l).2.2 with
  | true => exact Or.inl ⟨rfl, by rw [if_pos rfl]⟩
  | false => exact Or.inr ⟨rfl, cutB_no 32 l h, by simp⟩
/-- The next word. -/
theorem RemW.next {rest : List UInt8} {more : Bool} {ws : List (List UInt8)} (h : RemW rest more ws) : (ws = [] ∧ (cutB 32 rest).1 = [] ∧ more = false) ∨ ∃ ws', ws = (cutB 32 rest).1 :: ws' ∧ RemW (cutB 32 rest).2.1 (cutB 32 rest).2.2 ws' ∧ more = true := by
  rcases h with ⟨h1, h2⟩ | ⟨h1, h2, h3⟩
  · obtain ⟨ws', e, hr⟩ := RemW.cut rest
    exact Or.inr ⟨ws', by rw [h2, e], hr, h1⟩
  · subst h2
    exact Or.inl ⟨h3, rfl, h1⟩
theorem RemW.none {rest : List UInt8} {more : Bool} (h : RemW rest more []) : more = false := by
  rcases h with ⟨_, h2⟩ | ⟨h1, _⟩
  · rw [splitC_cut] at h2; cases h2
  · exact h1
theorem RemW.some {rest : List UInt8} {more : Bool} {w : List UInt8} {ws : List (List UInt8)} (h : RemW rest more (w :: ws)) : more = true := by
  rcases h with ⟨h1, _⟩ | ⟨_, _, h⟩
  · exact h1
  · cases h
end Go.Proofs.YtiekhigjllbalaaGreatDoor
