/- Plain: deeds as texts: a line for each; each reading is a writing undone. No word of the program. -/
import Derived.Test.YtiekhigjllbalaaGreatDoorGngf
import Derived.Test.YtiekhigjllbalaaGreatDoorQ
namespace Go.Proofs.YtiekhigjllbalaaGreatDoor
open Go

/-- The words of deeds. -/
def wordD (a : Int) : List UInt8 :=
  if a = 1 then [116, 111, 111, 107] else if a = 2 then [115, 116, 111, 108, 101] else if a = 3 then [102, 101, 116, 99, 104, 101, 100]
  else if a = 4 then [102, 105, 110, 105, 115, 104, 101, 100] else if a = 5 then [115, 108, 101, 112, 116] else [119, 111, 107, 101]
def whatD (w : List UInt8) : Int :=
  if w = [116, 111, 111, 107] then 1 else if w = [115, 116, 111, 108, 101] then 2 else if w = [102, 101, 116, 99, 104, 101, 100] then 3
  else if w = [102, 105, 110, 105, 115, 104, 101, 100] then 4 else if w = [115, 108, 101, 112, 116] then 5 else if w = [119, 111, 107, 101] then 6 else 0
theorem six {a : Int} (h : 1 ≤ a ∧ a ≤ 6) : a = 1 ∨ a = 2 ∨ a = 3 ∨ a = 4 ∨ a = 5 ∨ a = 6 := by omega
theorem what_word {a : Int} (h : 1 ≤ a ∧ a ≤ 6) : whatD (wordD a) = a := by
  rcases six h with rfl | rfl | rfl | rfl | rfl | rfl <;> decide
theorem whatD_cases (w : List UInt8) : whatD w = 0 ∨ ((1 ≤ whatD w ∧ whatD w ≤ 6) ∧ wordD (whatD w) = w) := by
  unfold whatD
  split
  · rename_i h; exact Or.inr ⟨by omega, h.symm⟩
  · split
    · rename_i h; exact Or.inr ⟨by omega, h.symm⟩
    · split
      · rename_i h; exact Or.inr ⟨by omega, h.symm⟩
      · split
        · rename_i h; exact Or.inr ⟨by omega, h.symm⟩
        · split
          · rename_i h; exact Or.inr ⟨by omega, h.symm⟩
          · split
            · rename_i h; exact Or.inr ⟨by omega, h.symm⟩
            · exact Or.inl rfl
theorem word_clean {a : Int} (h : 1 ≤ a ∧ a ≤ 6) : (32 : UInt8) ∉ wordD a ∧ (10 : UInt8) ∉ wordD a := by
  rcases six h with rfl | rfl | rfl | rfl | rfl | rfl <;> decide
/-- A number of at most two digits. -/
def num2 (l : List UInt8) : Option Nat := if 2 < l.length then none else numOf l
theorem digs_len {z : Int} (h : 0 ≤ z ∧ z < 100) : (digs z).length ≤ 2 := by
  unfold digs
  by_cases h1 : z.toNat < 10
  · rw [dec_small _ h1]; simp
  · rw [dec_two _ (by omega) (by omega)]; simp
theorem num2_digs {z : Int} (h : 0 ≤ z ∧ z < 100) : num2 (digs z) = some z.toNat := by
  unfold num2
  have := digs_len h
  rw [if_neg (by omega)]
  exact num_digs z h
theorem num2_inv {l : List UInt8} {n : Nat} (h : num2 l = some n) : l = digs (n : Int) := by
  unfold num2 at h
  split at h
  · cases h
  · rw [num_inv l n h]
    unfold digs
    rw [Int.toNat_natCast]
theorem dig_ten {d : Nat} (h : d < 10) : UInt8.ofNat (48 + d) ≠ 10 := by
  intro e
  have h1 : (UInt8.ofNat (48 + d)).toNat = 48 + d := by rw [UInt8.toNat_ofNat']; omega
  rw [e] at h1
  simp at h1
  omega
theorem digs_ten {z : Int} (h : 0 ≤ z ∧ z < 100) : (10 : UInt8) ∉ digs z := by
  unfold digs
  by_cases h1 : z.toNat < 10
  · rw [dec_small _ h1]
    simp only [List.mem_singleton]
    exact fun e => dig_ten h1 e.symm
  · rw [dec_two _ (by omega) (by omega)]
    simp only [List.mem_cons, List.not_mem_nil, or_false, not_or]
    exact ⟨fun e => dig_ten (by omega) e.symm, fun e => dig_ten (by omega) e.symm⟩
/-- The words of a deed's line. -/
def deedWs (d : Deed) : List (List UInt8) :=
  if 4 < d.1 then [wordD d.1, digs d.2.1] else if d.1 = 2 then [wordD d.1, digs d.2.1, digs d.2.2.1, digs d.2.2.2] else [wordD d.1, digs d.2.1, digs d.2.2.1]
def deedText (d : Deed) : List UInt8 := joinC 32 (deedWs d)
def deedsText (l : List Deed) : List UInt8 := l.flatMap (fun d => deedText d ++ [10])
/-- A deed of a line. -/
def deedOf (l : List UInt8) : Option Deed :=
  match splitC 32 l with
  | [w, h] => if 4 < whatD w then (num2 h).map (fun (h : Nat) => (whatD w, (h : Int), 0, 0)) else none
  | [w, h, t] => if whatD w = 1 ∨ whatD w = 3 ∨ whatD w = 4 then (num2 h).bind (fun (h : Nat) => (num2 t).map (fun (t : Nat) => (whatD w, (h : Int), (t : Int), 0))) else none
  | [w, h, t, o] => if whatD w = 2 then (num2 h).bind (fun (h : Nat) => (num2 t).bind (fun (t : Nat) => (num2 o).map (fun (o : Nat) => (2, (h : Int), (t : Int), (o : Int))))) else none
  | _ => none
def deedsOf (t : List UInt8) : Option (List Deed) := if (splitC 10 t).getLast? = some [] then allOf deedOf (splitC 10 t).dropLast else none
theorem deedE_zero {d : Deed} (h : deedE d = 0) : (1 ≤ d.1 ∧ d.1 ≤ 6) ∧ (0 ≤ d.2.1 ∧ d.2.1 ≤ 5) ∧ (0 ≤ d.2.2.1 ∧ d.2.2.1 ≤ 29) ∧ (d.1 = 2 → 0 ≤ d.2.2.2 ∧ d.2.2.2 ≤ 5) ∧ (d.1 ≠ 2 → d.2.2.2 = 0) ∧ (4 < d.1 → d.2.2.1 = 0) := by
  unfold deedE at h
  split at h
  · omega
  · split at h
    · omega
    · omega
theorem deedWs_clean {d : Deed} (h : deedE d = 0) {c : UInt8} (hc : c = 32 ∨ c = 10) : ∀ w, w ∈ deedWs d → c ∉ w := by
  obtain ⟨h1, h2, h3, h4, -, -⟩ := deedE_zero h
  have hw := word_clean h1
  have hd : ∀ z : Int, 0 ≤ z ∧ z < 100 → c ∉ digs z := fun z hz => by
    rcases hc with rfl | rfl
    · exact digs_clean z hz 32 (Or.inl rfl)
    · exact digs_ten hz
  have hw2 : c ∉ wordD d.1 := by
    rcases hc with rfl | rfl
    · exact hw.1
    · exact hw.2
  intro w hm
  unfold deedWs at hm
  split at hm
  · simp only [List.mem_cons, List.not_mem_nil, or_false] at hm
    rcases hm with rfl | rfl
    · exact hw2
    · exact hd _ (by omega)
  · split at hm
    · rename_i h2'
      have := h4 h2'
      simp only [List.mem_cons, List.not_mem_nil, or_false] at hm
      rcases hm with rfl | rfl | rfl | rfl
      · exact hw2
      · exact hd _ (by omega)
      · exact hd _ (by omega)
      · exact hd _ (by omega)
    · simp only [List.mem_cons, List.not_mem_nil, or_false] at hm
      rcases hm with rfl | rfl | rfl
      · exact hw2
      · exact hd _ (by omega)
      · exact hd _ (by omega)
theorem deedWs_ne (d : Deed) : deedWs d ≠ [] := by
  unfold deedWs
  split
  · simp
  · split <;> simp
theorem deed_text {d : Deed} (h : deedE d = 0) : deedOf (deedText d) = some d := by
  obtain ⟨a, b, c, o⟩ := d
  obtain ⟨h1, h2, h3, h4, h5, h6⟩ := deedE_zero h
  dsimp only at h1 h2 h3 h4 h5 h6
  unfold deedOf deedText
  rw [split_join 32 _ (deedWs_ne _) (deedWs_clean h (Or.inl rfl))]
  unfold deedWs
  dsimp only
  have eb : ((b.toNat : Nat) : Int) = b := Int.toNat_of_nonneg h2.1
  have ec : ((c.toNat : Nat) : Int) = c := Int.toNat_of_nonneg h3.1
  by_cases e4 : 4 < a
  · rw [if_pos e4]
    dsimp only
    rw [what_word h1, if_pos e4, num2_digs (by omega), h6 e4, h5 (by omega)]
    simp [eb]
  · rw [if_neg e4]
    by_cases e2 : a = 2
    · subst e2
      have eo : ((o.toNat : Nat) : Int) = o := Int.toNat_of_nonneg (h4 rfl).1
      have := h4 rfl
      rw [if_pos rfl]
      dsimp only
      rw [what_word h1, if_pos rfl, num2_digs (by omega), num2_digs (by omega), num2_digs (by omega)]
      simp [eb, ec, eo]
    · rw [if_neg e2]
      dsimp only
      rw [what_word h1, if_pos (by omega), num2_digs (by omega), num2_digs (by omega), h5 e2]
      simp [eb, ec]
theorem deed_back {l : List UInt8} {d : Deed} (h : deedOf l = some d) : deedText d = l := by
  have hj := join_split 32 l
  unfold deedOf at h
  split at h
  · rename_i w x hs
    split at h
    · rename_i h4
      obtain ⟨n, hn, rfl⟩ := Option.map_eq_some_iff.1 h
      rcases whatD_cases w with h0 | ⟨_, hw⟩
      · omega
      · unfold deedText deedWs
        dsimp only
        rw [if_pos h4, hw, ← num2_inv hn, ← hs, hj]
    · cases h
  · rename_i w x y hs
    split at h
    · rename_i h4
      obtain ⟨n, hn, h⟩ := Option.bind_eq_some_iff.1 h
      obtain ⟨m, hm, rfl⟩ := Option.map_eq_some_iff.1 h
      rcases whatD_cases w with h0 | ⟨_, hw⟩
      · omega
      · unfold deedText deedWs
        dsimp only
        rw [if_neg (by omega), if_neg (by omega), hw, ← num2_inv hn, ← num2_inv hm, ← hs, hj]
    · cases h
  · rename_i w x y z hs
    split at h
    · rename_i h4
      obtain ⟨n, hn, h⟩ := Option.bind_eq_some_iff.1 h
      obtain ⟨m, hm, h⟩ := Option.bind_eq_some_iff.1 h
      obtain ⟨k, hk, rfl⟩ := Option.map_eq_some_iff.1 h
      rcases whatD_cases w with h0 | ⟨_, hw⟩
      · omega
      · unfold deedText deedWs
        dsimp only
        rw [if_neg (by omega), if_pos rfl]
        rw [h4] at hw
        rw [hw, ← num2_inv hn, ← num2_inv hm, ← num2_inv hk, ← hs, hj]
    · cases h
  · cases h
theorem deedText_ten {d : Deed} (h : deedE d = 0) : (10 : UInt8) ∉ deedText d := by
  intro hm
  rcases joinC_mem 32 10 _ hm with e | ⟨w, hw, hb⟩
  · exact absurd e (by decide)
  · exact deedWs_clean h (Or.inr rfl) w hw hb
theorem split_deeds : ∀ (l : List Deed), (∀ d, d ∈ l → deedE d = 0) → splitC 10 (deedsText l) = l.map deedText ++ [[]] := by
  intro l
  induction l with
  | nil => intro _; rfl
  | cons d r ih =>
    intro h
    show splitC 10 (deedText d ++ [10] ++ deedsText r) = _
    rw [List.append_assoc]
    show splitC 10 (deedText d ++ 10 :: deedsText r) = _
    rw [splitC_append 10 _ _ (deedText_ten (h d (by simp))), ih (fun x hx => h x (List.mem_cons_of_mem _ hx))]
    rfl
/-- Deeds are read as they were. -/
theorem deeds_text {l : List Deed} (h : ∀ d, d ∈ l → deedE d = 0) : deedsOf (deedsText l) = some l := by
  unfold deedsOf
  rw [split_deeds l h]
  rw [if_pos (by simp), List.dropLast_concat]
  exact allOf_map deedOf deedText l (fun d hd => deed_text (h d hd))
theorem join_lines : ∀ (ws : List (List UInt8)), joinC 10 (ws ++ [[]]) = ws.flatMap (fun w => w ++ [10]) := by
  intro ws
  induction ws with
  | nil => rfl
  | cons w r ih =>
    cases r with
    | nil => simp [joinC]
    | cons x r =>
      show w ++ 10 :: joinC 10 ((x :: r) ++ [[]]) = _
      rw [ih]
      simp
theorem last_of {α : Type} {a : α} : ∀ (l : List α), l.getLast? = some a → l = l.dropLast ++ [a] := by
  intro l
  induction l with
  | nil => intro h; simp at h
  | cons x r ih =>
    intro h
    cases r with
    | nil =>
      have : x = a := by simpa using h
      rw [this]
      rfl
    | cons y r =>
      have h2 : (y :: r).getLast? = some a := by simpa using h
      have := ih h2
      show x :: (y :: r) = x :: ((y :: r).dropLast ++ [a])
      rw [← this]
theorem deeds_back {t : List UInt8} {l : List Deed} (h : deedsOf t = some l) : deedsText l = t := by
  unfold deedsOf at h
  split at h
  · rename_i hl
    have hd := allOf_inv deedOf deedText (fun x y hx => (deed_back hx).symm) _ _ h
    have hs := last_of _ hl
    have hj := join_split 10 t
    rw [hs, join_lines, hd] at hj
    rw [← hj]
    unfold deedsText
    rw [List.flatMap_map]
  · cases h
end Go.Proofs.YtiekhigjllbalaaGreatDoor
