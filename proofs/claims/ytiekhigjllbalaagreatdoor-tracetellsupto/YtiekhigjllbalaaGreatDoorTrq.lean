/- Plain: a line's numbers, one behind the other; a line as a deed. No word of the program. -/
import Derived.Test.YtiekhigjllbalaaGreatDoorTrp
namespace Go.Proofs.YtiekhigjllbalaaGreatDoor
open Go

/-- So many numbers of words, and the words that are left. -/
def numsR : Nat → List (List UInt8) → Option (List Nat × List (List UInt8))
  | 0, ws => some ([], ws)
  | _ + 1, [] => none
  | n + 1, w :: ws => match num2 w with
    | none => none
    | some m => (numsR n ws).map (fun p => (m :: p.1, p.2))
theorem numsR_len : ∀ (n : Nat) (ws : List (List UInt8)) (ns : List Nat) (r : List (List UInt8)), numsR n ws = some (ns, r) → ns.length = n := by
  intro n
  induction n with
  | zero => intro ws ns r h; simp [numsR] at h; simp [h.1]
  | succ n ih =>
    intro ws ns r h
    cases ws with
    | nil => simp [numsR] at h
    | cons w ws =>
      simp only [numsR] at h
      cases hm : num2 w with
      | none => rw [hm] at h; cases h
      | some m =>
        rw [hm] at h
        obtain ⟨p, hp, e⟩ := Option.map_eq_some_iff.1 h
        simp only [Prod.mk.injEq] at e
        rw [← e.1, List.length_cons, ih ws p.1 p.2 hp]
/-- No word is left. -/
theorem numsR_stop : ∀ (i : Nat) (ws : List (List UInt8)) (ns : List Nat), numsR i ws = some (ns, []) → ∀ n, i < n → numsR n ws = none := by
  intro i
  induction i with
  | zero =>
    intro ws ns h n hn
    simp [numsR] at h
    rw [h.2]
    cases n with
    | zero => omega
    | succ n => rfl
  | succ i ih =>
    intro ws ns h n hn
    cases ws with
    | nil => simp [numsR] at h
    | cons w ws =>
      cases n with
      | zero => omega
      | succ n =>
        simp only [numsR] at h ⊢
        cases hm : num2 w with
        | none => rfl
        | some m =>
          rw [hm] at h
          obtain ⟨p, hp, e⟩ := Option.map_eq_some_iff.1 h
          simp only [Prod.mk.injEq] at e
          dsimp only
          rw [ih ws p.1 (by rw [hp, ← e.2]) n (by omega)]
          rfl
/-- The next word is no number. -/
theorem numsR_bad : ∀ (i : Nat) (ws : List (List UInt8)) (ns : List Nat) (x : List UInt8) (r : List (List UInt8)), numsR i ws = some (ns, x :: r) → num2 x = none → ∀ n, i < n → numsR n ws = none := by
  intro i
  induction i with
  | zero =>
    intro ws ns x r h hx n hn
    simp [numsR] at h
    rw [h.2]
    cases n with
    | zero => omega
    | succ n => simp only [numsR, hx]
  | succ i ih =>
    intro ws ns x r h hx n hn
    cases ws with
    | nil => simp [numsR] at h
    | cons w ws =>
      cases n with
      | zero => omega
      | succ n =>
        simp only [numsR] at h ⊢
        cases hm : num2 w with
        | none => rfl
        | some m =>
          rw [hm] at h
          obtain ⟨p, hp, e⟩ := Option.map_eq_some_iff.1 h
          simp only [Prod.mk.injEq] at e
          dsimp only
          rw [ih ws p.1 x r (by rw [hp, ← e.2]) hx n (by omega)]
          rfl
/-- The next word is one. -/
theorem numsR_step : ∀ (i : Nat) (ws : List (List UInt8)) (ns : List Nat) (x : List UInt8) (r : List (List UInt8)) (m : Nat), numsR i ws = some (ns, x :: r) → num2 x = some m → numsR (i + 1) ws = some (ns ++ [m], r) := by
  intro i
  induction i with
  | zero =>
    intro ws ns x r m h hx
    simp [numsR] at h
    rw [h.2, h.1]
    simp [numsR, hx]
  | succ i ih =>
    intro ws ns x r m h hx
    cases ws with
    | nil => simp [numsR] at h
    | cons w ws =>
      rw [numsR] at h ⊢
      cases hm : num2 w with
      | none => rw [hm] at h; cases h
      | some k =>
        rw [hm] at h
        obtain ⟨p, hp, e⟩ := Option.map_eq_some_iff.1 h
        simp only [Prod.mk.injEq] at e
        dsimp only
        rw [ih ws p.1 x r m (by rw [hp, ← e.2]) hx, ← e.1]
        rfl
def numsD (a : Int) : Nat := if a = 2 then 3 else if 4 < a then 1 else 2
/-- A line's deed by its words. -/
def deedW (w : List UInt8) (ws : List (List UInt8)) : Option Deed :=
  if whatD w = 0 then none else match numsR (numsD (whatD w)) ws with
  | some (ns, []) => some (whatD w, ((ns.getD 0 0 : Nat) : Int), ((ns.getD 1 0 : Nat) : Int), ((ns.getD 2 0 : Nat) : Int))
  | _ => none
theorem deedOf_words (l : List UInt8) {w : List UInt8} {ws : List (List UInt8)} (h : splitC 32 l = w :: ws) : deedOf l = deedW w ws := by
  unfold deedOf deedW
  rw [h]
  rcases whatD_cases w with h0 | ⟨h1, -⟩
  · rw [if_pos h0]
    match ws with
    | [] => rfl
    | [_] => simp [h0]
    | [_, _] => simp [h0]
    | [_, _, _] => simp [h0]
    | _ :: _ :: _ :: _ :: _ => rfl
  · rw [if_neg (by omega)]
    match ws with
    | [] => rcases six h1 with e | e | e | e | e | e <;> rw [e] <;> rfl
    | [a] =>
      cases ha : num2 a <;> rcases six h1 with e | e | e | e | e | e <;> simp [numsR, numsD, ha, e]
    | [a, b] =>
      cases ha : num2 a <;> cases hb : num2 b <;> rcases six h1 with e | e | e | e | e | e <;> simp [numsR, numsD, ha, hb, e]
    | [a, b, c] =>
      cases ha : num2 a <;> cases hb : num2 b <;> cases hc : num2 c <;> rcases six h1 with e | e | e | e | e | e <;> simp [numsR, numsD, ha, hb, hc, e]
    | a :: b :: c :: d :: r =>
      cases ha : num2 a <;> cases hb : num2 b <;> cases hc : num2 c <;> rcases six h1 with e | e | e | e | e | e <;> simp [numsR, numsD, ha, hb, hc, e]
/-- A line with its end. -/
def lineD (l : List UInt8) : Option Deed := if l.getLast? = some 10 then deedOf l.dropLast else none
theorem cutB_len (c : UInt8) (l : List UInt8) : (cutB c l).1.length ≤ l.length ∧ (cutB c l).2.1.length ≤ l.length := by
  induction l with
  | nil => exact ⟨Nat.le_refl _, Nat.le_refl _⟩
  | cons b r ih =>
    rw [cutB_cons]
    split
    · simp
    · simp; omega
end Go.Proofs.YtiekhigjllbalaaGreatDoor
