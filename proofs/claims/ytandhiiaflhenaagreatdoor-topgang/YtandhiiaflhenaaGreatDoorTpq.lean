/- Plain: deeds as texts: a line for each; each reading is a writing undone. No word of the program. Plain: numbers of at most two digits as strconv.Atoi and Itoa tell them; a line's words one by one. No word of the program. Plain: a line's numbers, one behind the other; a line as a deed. No word of the program. -/
import Derived.Test.YtandhiiaflhenaaGreatDoorGnfg
import Derived.Test.YtandhiiaflhenaaGreatDoorOQ
import Derived.Lib.AtoiAll

namespace Go.Proofs.YtandhiiaflhenaaGreatDoor
open Go

/-- The words of deeds. -/
def wordD (a : Int) : List UInt8 :=
  if a = 1 then [116, 111, 111, 107] else if a = 2 then [115, 116, 111, 108, 101] else if a = 3 then [102, 101, 116, 99, 104, 101, 100]
  else if a = 4 then [102, 105, 110, 105, 115, 104, 101, 100] else if a = 5 then [115, 108, 101, 112, 116] else [119, 111, 107, 101]
def whatD (w : List UInt8) : Int :=
  if w = [116, 111, 111, 107] then 1 else if w = [115, 116, 111, 108, 101] then 2 else if w = [102, 101, 116, 99, 104, 101, 100] then 3
  else if w = [102, 105, 110, 105, 115, 104, 101, 100] then 4 else if w = [115, 108, 101, 112, 116] then 5 else if w = [119, 111, 107, 101] then 6 else 0
theorem six {a : Int} (h : 1 ≤ a ∧ a ≤ 6) : a = 1 ∨ a = 2 ∨ a = 3 ∨ a = 4 ∨ a = 5 ∨ a = 6 := by omega
theorem what_word {a : Int} (h : 1 ≤ a ∧ a ≤ 6) : whatD (wordD a) = a := by
  rcases six h with rfl | rfl | rfl | rfl | rfl | rfl <;> decide
theorem whatD_cases (w : List UInt8) : whatD w = 0 ∨ ((1 ≤ whatD w ∧ whatD w ≤ 6) ∧ wordD (whatD w) = w) := by
  unfold whatD
  split
  · rename_i h; exact Or.inr ⟨by omega, h.symm⟩
  · split
    · rename_i h; exact Or.inr ⟨by omega, h.symm⟩
    · split
      · rename_i h; exact Or.inr ⟨by omega, h.symm⟩
      · split
        · rename_i h; exact Or.inr ⟨by omega, h.symm⟩
        · split
          · rename_i h; exact Or.inr ⟨by omega, h.symm⟩
          · split
            · rename_i h; exact Or.inr ⟨by omega, h.symm⟩
            · exact Or.inl rfl
theorem word_clean {a : Int} (h : 1 ≤ a ∧ a ≤ 6) : (32 : UInt8) ∉ wordD a ∧ (10 : UInt8) ∉ wordD a := by
  rcases six h with rfl | rfl | rfl | rfl | rfl | rfl <;> decide
/-- A number of at most two digits. -/
def num2 (l : List UInt8) : Option Nat := if 2 < l.length then none else numOf l
theorem digs_len {z : Int} (h : 0 ≤ z ∧ z < 100) : (digs z).length ≤ 2 := by
  unfold digs
  by_cases h1 : z.toNat < 10
  · rw [dec_small _ h1]; simp
  · rw [dec_two _ (by omega) (by omega)]; simp
theorem num2_digs {z : Int} (h : 0 ≤ z ∧ z < 100) : num2 (digs z) = some z.toNat := by
  unfold num2
  have := digs_len h
  rw [if_neg (by omega)]
  exact num_digs z h
theorem num2_inv {l : List UInt8} {n : Nat} (h : num2 l = some n) : l = digs (n : Int) := by
  unfold num2 at h
  split at h
  · cases h
  · rw [num_inv l n h]
    unfold digs
    rw [Int.toNat_natCast]
theorem dig_ten {d : Nat} (h : d < 10) : UInt8.ofNat (48 + d) ≠ 10 := by
  intro e
  have h1 : (UInt8.ofNat (48 + d)).toNat = 48 + d := by rw [UInt8.toNat_ofNat']; omega
  rw [e] at h1
  simp at h1
  omega
theorem digs_ten {z : Int} (h : 0 ≤ z ∧ z < 100) : (10 : UInt8) ∉ digs z := by
  unfold digs
  by_cases h1 : z.toNat < 10
  · rw [dec_small _ h1]
    simp only [List.mem_singleton]
    exact fun e => dig_ten h1 e.symm
  · rw [dec_two _ (by omega) (by omega)]
    simp only [List.mem_cons, List.not_mem_nil, or_false, not_or]
    exact ⟨fun e => dig_ten (by omega) e.symm, fun e => dig_ten (by omega) e.symm⟩
/-- The words of a deed's line. -/
def deedWs (d : Deed) : List (List UInt8) :=
  if 4 < d.1 then [wordD d.1, digs d.2.1] else if d.1 = 2 then [wordD d.1, digs d.2.1, digs d.2.2.1, digs d.2.2.2] else [wordD d.1, digs d.2.1, digs d.2.2.1]
def deedText (d : Deed) : List UInt8 := joinC 32 (deedWs d)
def deedsText (l : List Deed) : List UInt8 := l.flatMap (fun d => deedText d ++ [10])
/-- A deed of a line. -/
def deedOf (l : List UInt8) : Option Deed :=
  match splitC 32 l with
  | [w, h] => if 4 < whatD w then (num2 h).map (fun (h : Nat) => (whatD w, (h : Int), 0, 0)) else none
  | [w, h, t] => if whatD w = 1 ∨ whatD w = 3 ∨ whatD w = 4 then (num2 h).bind (fun (h : Nat) => (num2 t).map (fun (t : Nat) => (whatD w, (h : Int), (t : Int), 0))) else none
  | [w, h, t, o] => if whatD w = 2 then (num2 h).bind (fun (h : Nat) => (num2 t).bind (fun (t : Nat) => (num2 o).map (fun (o : Nat) => (2, (h : Int), (t : Int), (o : Int))))) else none
  | _ => none
def deedsOf (t : List UInt8) : Option (List Deed) := if (splitC 10 t).getLast? = some [] then allOf deedOf (splitC 10 t).dropLast else none
theorem deedE_zero {d : Deed} (h : deedE d = 0) : (1 ≤ d.1 ∧ d.1 ≤ 6) ∧ (0 ≤ d.2.1 ∧ d.2.1 ≤ 5) ∧ (0 ≤ d.2.2.1 ∧ d.2.2.1 ≤ 29) ∧ (d.1 = 2 → 0 ≤ d.2.2.2 ∧ d.2.2.2 ≤ 5) ∧ (d.1 ≠ 2 → d.2.2.2 = 0) ∧ (4 < d.1 → d.2.2.1 = 0) := by
  unfold deedE at h
  split at h
  · omega
  · split at h
    · omega
    · omega
theorem deedWs_clean {d : Deed} (h : deedE d = 0) {c : UInt8} (hc : c = 32 ∨ c = 10) : ∀ w, w ∈ deedWs d → c ∉ w := by
  obtain ⟨h1, h2, h3, h4, -, -⟩ := deedE_zero h
  have hw := word_clean h1
  have hd : ∀ z : Int, 0 ≤ z ∧ z < 100 → c ∉ digs z := fun z hz => by
    rcases hc with rfl | rfl
    · exact digs_clean z hz 32 (Or.inl rfl)
    · exact digs_ten hz
  have hw2 : c ∉ wordD d.1 := by
    rcases hc with rfl | rfl
    · exact hw.1
    · exact hw.2
  intro w hm
  unfold deedWs at hm
  split at hm
  · simp only [List.mem_cons, List.not_mem_nil, or_false] at hm
    rcases hm with rfl | rfl
    · exact hw2
    · exact hd _ (by omega)
  · split at hm
    · rename_i h2'
      have := h4 h2'
      simp only [List.mem_cons, List.not_mem_nil, or_false] at hm
      rcases hm with rfl | rfl | rfl | rfl
      · exact hw2
      · exact hd _ (by omega)
      · exact hd _ (by omega)
      · exact hd _ (by omega)
    · simp only [List.mem_cons, List.not_mem_nil, or_false] at hm
      rcases hm with rfl | rfl | rfl
      · exact hw2
      · exact hd _ (by omega)
      · exact hd _ (by omega)
theorem deedWs_ne (d : Deed) : deedWs d ≠ [] := by
  unfold deedWs
  split
  · simp
  · split <;> simp
theorem deed_text {d : Deed} (h : deedE d = 0) : deedOf (deedText d) = some d := by
  obtain ⟨a, b, c, o⟩ := d
  obtain ⟨h1, h2, h3, h4, h5, h6⟩ := deedE_zero h
  dsimp only at h1 h2 h3 h4 h5 h6
  unfold deedOf deedText
  rw [split_join 32 _ (deedWs_ne _) (deedWs_clean h (Or.inl rfl))]
  unfold deedWs
  dsimp only
  have eb : ((b.toNat : Nat) : Int) = b := Int.toNat_of_nonneg h2.1
  have ec : ((c.toNat : Nat) : Int) = c := Int.toNat_of_nonneg h3.1
  by_cases e4 : 4 < a
  · rw [if_pos e4]
    dsimp only
    rw [what_word h1, if_pos e4, num2_digs (by omega), h6 e4, h5 (by omega)]
    simp [eb]
  · rw [if_neg e4]
    by_cases e2 : a = 2
    · subst e2
      have eo : ((o.toNat : Nat) : Int) = o := Int.toNat_of_nonneg (h4 rfl).1
      have := h4 rfl
      rw [if_pos rfl]
      dsimp only
      rw [what_word h1, if_pos rfl, num2_digs (by omega), num2_digs (by omega), num2_digs (by omega)]
      simp [eb, ec, eo]
    · rw [if_neg e2]
      dsimp only
      rw [what_word h1, if_pos (by omega), num2_digs (by omega), num2_digs (by omega), h5 e2]
      simp [eb, ec]
theorem deed_back {l : List UInt8} {d : Deed} (h : deedOf l = some d) : deedText d = l := by
  have hj := join_split 32 l
  unfold deedOf at h
  split at h
  · rename_i w x hs
    split at h
    · rename_i h4
      obtain ⟨n, hn, rfl⟩ := Option.map_eq_some_iff.1 h
      rcases whatD_cases w with h0 | ⟨_, hw⟩
      · omega
      · unfold deedText deedWs
        dsimp only
        rw [if_pos h4, hw, ← num2_inv hn, ← hs, hj]
    · cases h
  · rename_i w x y hs
    split at h
    · rename_i h4
      obtain ⟨n, hn, h⟩ := Option.bind_eq_some_iff.1 h
      obtain ⟨m, hm, rfl⟩ := Option.map_eq_some_iff.1 h
      rcases whatD_cases w with h0 | ⟨_, hw⟩
      · omega
      · unfold deedText deedWs
        dsimp only
        rw [if_neg (by omega), if_neg (by omega), hw, ← num2_inv hn, ← num2_inv hm, ← hs, hj]
    · cases h
  · rename_i w x y z hs
    split at h
    · rename_i h4
      obtain ⟨n, hn, h⟩ := Option.bind_eq_some_iff.1 h
      obtain ⟨m, hm, h⟩ := Option.bind_eq_some_iff.1 h
      obtain ⟨k, hk, rfl⟩ := Option.map_eq_some_iff.1 h
      rcases whatD_cases w with h0 | ⟨_, hw⟩
      · omega
      · unfold deedText deedWs
        dsimp only
        rw [if_neg (by omega), if_pos rfl]
        rw [h4] at hw
        rw [hw, ← num2_inv hn, ← num2_inv hm, ← num2_inv hk, ← hs, hj]
    · cases h
  · cases h
theorem deedText_ten {d : Deed} (h : deedE d = 0) : (10 : UInt8) ∉ deedText d := by
  intro hm
  rcases joinC_mem 32 10 _ hm with e | ⟨w, hw, hb⟩
  · exact absurd e (by decide)
  · exact deedWs_clean h (Or.inr rfl) w hw hb
theorem split_deeds : ∀ (l : List Deed), (∀ d, d ∈ l → deedE d = 0) → splitC 10 (deedsText l) = l.map deedText ++ [[]] := by
  intro l
  induction l with
  | nil => intro _; rfl
  | cons d r ih =>
    intro h
    show splitC 10 (deedText d ++ [10] ++ deedsText r) = _
    rw [List.append_assoc]
    show splitC 10 (deedText d ++ 10 :: deedsText r) = _
    rw [splitC_append 10 _ _ (deedText_ten (h d (by simp))), ih (fun x hx => h x (List.mem_cons_of_mem _ hx))]
    rfl
/-- Deeds are read as they were. -/
theorem deeds_text {l : List Deed} (h : ∀ d, d ∈ l → deedE d = 0) : deedsOf (deedsText l) = some l := by
  unfold deedsOf
  rw [split_deeds l h]
  rw [if_pos (by simp), List.dropLast_concat]
  exact allOf_map deedOf deedText l (fun d hd => deed_text (h d hd))
theorem join_lines : ∀ (ws : List (List UInt8)), joinC 10 (ws ++ [[]]) = ws.flatMap (fun w => w ++ [10]) := by
  intro ws
  induction ws with
  | nil => rfl
  | cons w r ih =>
    cases r with
    | nil => simp [joinC]
    | cons x r =>
      show w ++ 10 :: joinC 10 ((x :: r) ++ [[]]) = _
      rw [ih]
      simp
theorem last_of {α : Type} {a : α} : ∀ (l : List α), l.getLast? = some a → l = l.dropLast ++ [a] := by
  intro l
  induction l with
  | nil => intro h; simp at h
  | cons x r ih =>
    intro h
    cases r with
    | nil =>
      have : x = a := by simpa using h
      rw [this]
      rfl
    | cons y r =>
      have h2 : (y :: r).getLast? = some a := by simpa using h
      have := ih h2
      show x :: (y :: r) = x :: ((y :: r).dropLast ++ [a])
      rw [← this]
theorem deeds_back {t : List UInt8} {l : List Deed} (h : deedsOf t = some l) : deedsText l = t := by
  unfold deedsOf at h
  split at h
  · rename_i hl
    have hd := allOf_inv deedOf deedText (fun x y hx => (deed_back hx).symm) _ _ h
    have hs := last_of _ hl
    have hj := join_split 10 t
    rw [hs, join_lines, hd] at hj
    rw [← hj]
    unfold deedsText
    rw [List.flatMap_map]
  · cases h
end Go.Proofs.YtandhiiaflhenaaGreatDoor

namespace Go.Proofs.YtandhiiaflhenaaGreatDoor
open Go

theorem atoi_dec : ∀ m, m < 100 → Lib.atoiAll (Lib.decDigits m) = .ok (m : Int) := by decide +kernel
theorem puint_one (acc : Nat) (h : acc ≤ 1000) (c : UInt8) : Lib.parseUint10 acc [c] = if 48 ≤ c.toNat ∧ c.toNat ≤ 57 then .ok (acc * 10 + (c.toNat - 48)) else .syntax := by
  have := c.toNat_lt
  simp only [Lib.parseUint10]
  split
  · rw [if_neg (by omega), if_neg (by omega)]
  · rfl
theorem puint_two (c d : UInt8) : Lib.parseUint10 0 [c, d] = if 48 ≤ c.toNat ∧ c.toNat ≤ 57 then Lib.parseUint10 (c.toNat - 48) [d] else .syntax := by
  have := c.toNat_lt
  rw [Lib.parseUint10]
  split
  · rw [if_neg (by omega), if_neg (by omega)]
    congr 1
    omega
  · rfl
theorem pmag_small (l : List UInt8) (h : l.length ≤ 2) : Lib.parseMag l = .syntax ∨ ∃ u, Lib.parseMag l = .ok u ∧ u < 100 := by
  match l, h with
  | [], _ => exact Or.inl rfl
  | [c], _ =>
    have e : Lib.parseMag [c] = Lib.parseUint10 0 [c] := rfl
    rw [e, puint_one 0 (by omega)]
    by_cases h : 48 ≤ c.toNat ∧ c.toNat ≤ 57
    · rw [if_pos h]; exact Or.inr ⟨_, rfl, by omega⟩
    · rw [if_neg h]; exact Or.inl rfl
  | [c, d], _ =>
    have e : Lib.parseMag [c, d] = Lib.parseUint10 0 [c, d] := rfl
    rw [e, puint_two]
    by_cases h : 48 ≤ c.toNat ∧ c.toNat ≤ 57
    · rw [if_pos h, puint_one _ (by omega)]
      by_cases h2 : 48 ≤ d.toNat ∧ d.toNat ≤ 57
      · rw [if_pos h2]; exact Or.inr ⟨_, rfl, by omega⟩
      · rw [if_neg h2]; exact Or.inl rfl
    · rw [if_neg h]; exact Or.inl rfl
theorem atoi_two (l : List UInt8) (h : l.length ≤ 2) : Lib.atoiAll l = .syntax ∨ ∃ v : Int, Lib.atoiAll l = .ok v ∧ v < 100 := by
  cases l with
  | nil => exact Or.inl rfl
  | cons c r =>
    have hs : (if c.toNat = 43 ∨ c.toNat = 45 then r else c :: r).length ≤ 2 := by
      simp at h
      split
      · omega
      · simp; omega
    unfold Lib.atoiAll
    dsimp only
    rcases pmag_small _ hs with e | ⟨u, e, hu⟩
    · rw [e]; exact Or.inl rfl
    · rw [e]
      dsimp only
      right
      rw [if_neg (by omega), if_neg (by omega)]
      refine ⟨_, rfl, ?_⟩
      split <;> omega
theorem decFrom_two {l : List UInt8} (h : l.length ≤ 2) {m : Nat} (hm : Lib.decFrom 0 l = some m) : m < 100 := by
  have key : ∀ (c : UInt8) (d : Nat), Lib.digitVal c = some d → d ≤ 9 := fun c d hd => by
    unfold Lib.digitVal at hd
    split at hd
    · simp at hd; omega
    · cases hd
  match l, h with
  | [], _ => simp [Lib.decFrom] at hm; omega
  | [c], _ =>
    unfold Lib.decFrom at hm
    cases hc : Lib.digitVal c with
    | none => rw [hc] at hm; cases hm
    | some d =>
      rw [hc] at hm
      simp [Lib.decFrom] at hm
      have := key c d hc
      omega
  | [c, e], _ =>
    unfold Lib.decFrom at hm
    cases hc : Lib.digitVal c with
    | none => rw [hc] at hm; cases hm
    | some d =>
      rw [hc] at hm
      dsimp only at hm
      unfold Lib.decFrom at hm
      cases he : Lib.digitVal e with
      | none => rw [he] at hm; cases hm
      | some f =>
        rw [he] at hm
        simp [Lib.decFrom] at hm
        have := key c d hc
        have := key e f he
        omega
theorem num2_small {l : List UInt8} {m : Nat} (h : num2 l = some m) : m < 100 := by
  unfold num2 at h
  split at h
  · cases h
  · rename_i hl
    unfold numOf at h
    split at h
    · cases h
    · unfold Lib.decNat at h
      split at h
      · cases h
      · exact decFrom_two (by omega) h
theorem num2_atoi {l : List UInt8} {m : Nat} (h : num2 l = some m) : Lib.atoiAll l = .ok (m : Int) := by
  have h1 := num2_small h
  have h2 := num2_inv h
  unfold digs at h2
  rw [Int.toNat_natCast] at h2
  rw [h2]
  exact atoi_dec m h1
theorem num2_syntax {l : List UInt8} (h : Lib.atoiAll l = .syntax) : num2 l = none := by
  cases e : num2 l with
  | none => rfl
  | some m => rw [num2_atoi e] at h; cases h
theorem num2_no {l : List UInt8} {v : Int} (h : Lib.atoiAll l = .ok v) (hn : ¬ (0 ≤ v ∧ digs v = l)) : num2 l = none := by
  cases e : num2 l with
  | none => rfl
  | some m =>
    have h1 := num2_atoi e
    rw [h] at h1
    simp only [Lib.NumEnd.ok.injEq] at h1
    exact absurd ⟨by omega, by rw [h1]; exact (num2_inv e).symm⟩ hn
theorem num2_yes {v : Int} (h0 : 0 ≤ v) (h1 : v < 100) : num2 (digs v) = some v.toNat := num2_digs ⟨h0, h1⟩
/-- What is left of a line: its words, and whether there are more. -/
def RemW (rest : List UInt8) (more : Bool) (ws : List (List UInt8)) : Prop := (more = true ∧ ws = splitC 32 rest) ∨ (more = false ∧ rest = [] ∧ ws = [])
theorem cutB_no (c : UInt8) (l : List UInt8) (h : (cutB c l).2.2 = false) : (cutB c l).2.1 = [] := by
  induction l with
  | nil => rfl
  | cons b r ih =>
    rw [cutB_cons] at h ⊢
    by_cases hb : b = c
    · rw [if_pos hb] at h; cases h
    · rw [if_neg hb] at h ⊢; exact ih h
theorem RemW.cut (l : List UInt8) : ∃ ws, splitC 32 l = (cutB 32 l).1 :: ws ∧ RemW (cutB 32 l).2.1 (cutB 32 l).2.2 ws := by
  refine ⟨_, splitC_cut 32 l, ?_⟩
  cases h : (cutB 32 l).2.2 with
  | true => exact Or.inl ⟨rfl, by rw [if_pos rfl]⟩
  | false => exact Or.inr ⟨rfl, cutB_no 32 l h, by simp⟩
/-- The next word. -/
theorem RemW.next {rest : List UInt8} {more : Bool} {ws : List (List UInt8)} (h : RemW rest more ws) : (ws = [] ∧ (cutB 32 rest).1 = [] ∧ more = false) ∨ ∃ ws', ws = (cutB 32 rest).1 :: ws' ∧ RemW (cutB 32 rest).2.1 (cutB 32 rest).2.2 ws' ∧ more = true := by
  rcases h with ⟨h1, h2⟩ | ⟨h1, h2, h3⟩
  · obtain ⟨ws', e, hr⟩ := RemW.cut rest
    exact Or.inr ⟨ws', by rw [h2, e], hr, h1⟩
  · subst h2
    exact Or.inl ⟨h3, rfl, h1⟩
theorem RemW.none {rest : List UInt8} {more : Bool} (h : RemW rest more []) : more = false := by
  rcases h with ⟨_, h2⟩ | ⟨h1, _⟩
  · rw [splitC_cut] at h2; cases h2
  · exact h1
theorem RemW.some {rest : List UInt8} {more : Bool} {w : List UInt8} {ws : List (List UInt8)} (h : RemW rest more (w :: ws)) : more = true := by
  rcases h with ⟨h1, _⟩ | ⟨_, _, h⟩
  · exact h1
  · cases h
end Go.Proofs.YtandhiiaflhenaaGreatDoor

namespace Go.Proofs.YtandhiiaflhenaaGreatDoor
open Go

/-- So many numbers of words, and the words that are left. -/
def numsR : Nat → List (List UInt8) → Option (List Nat × List (List UInt8))
  | 0, ws => some ([], ws)
  | _ + 1, [] => none
  | n + 1, w :: ws => match num2 w with
    | none => none
    | some m => (numsR n ws).map (fun p => (m :: p.1, p.2))
theorem numsR_len : ∀ (n : Nat) (ws : List (List UInt8)) (ns : List Nat) (r : List (List UInt8)), numsR n ws = some (ns, r) → ns.length = n := by
  intro n
  induction n with
  | zero => intro ws ns r h; simp [numsR] at h; simp [h.1]
  | succ n ih =>
    intro ws ns r h
    cases ws with
    | nil => simp [numsR] at h
    | cons w ws =>
      simp only [numsR] at h
      cases hm : num2 w with
      | none => rw [hm] at h; cases h
      | some m =>
        rw [hm] at h
        obtain ⟨p, hp, e⟩ := Option.map_eq_some_iff.1 h
        simp only [Prod.mk.injEq] at e
        rw [← e.1, List.length_cons, ih ws p.1 p.2 hp]
/-- No word is left. -/
theorem numsR_stop : ∀ (i : Nat) (ws : List (List UInt8)) (ns : List Nat), numsR i ws = some (ns, []) → ∀ n, i < n → numsR n ws = none := by
  intro i
  induction i with
  | zero =>
    intro ws ns h n hn
    simp [numsR] at h
    rw [h.2]
    cases n with
    | zero => omega
    | succ n => rfl
  | succ i ih =>
    intro ws ns h n hn
    cases ws with
    | nil => simp [numsR] at h
    | cons w ws =>
      cases n with
      | zero => omega
      | succ n =>
        simp only [numsR] at h ⊢
        cases hm : num2 w with
        | none => rfl
        | some m =>
          rw [hm] at h
          obtain ⟨p, hp, e⟩ := Option.map_eq_some_iff.1 h
          simp only [Prod.mk.injEq] at e
          dsimp only
          rw [ih ws p.1 (by rw [hp, ← e.2]) n (by omega)]
          rfl
/-- The next word is no number. -/
theorem numsR_bad : ∀ (i : Nat) (ws : List (List UInt8)) (ns : List Nat) (x : List UInt8) (r : List (List UInt8)), numsR i ws = some (ns, x :: r) → num2 x = none → ∀ n, i < n → numsR n ws = none := by
  intro i
  induction i with
  | zero =>
    intro ws ns x r h hx n hn
    simp [numsR] at h
    rw [h.2]
    cases n with
    | zero => omega
    | succ n => simp only [numsR, hx]
  | succ i ih =>
    intro ws ns x r h hx n hn
    cases ws with
    | nil => simp [numsR] at h
    | cons w ws =>
      cases n with
      | zero => omega
      | succ n =>
        simp only [numsR] at h ⊢
        cases hm : num2 w with
        | none => rfl
        | some m =>
          rw [hm] at h
          obtain ⟨p, hp, e⟩ := Option.map_eq_some_iff.1 h
          simp only [Prod.mk.injEq] at e
          dsimp only
          rw [ih ws p.1 x r (by rw [hp, ← e.2]) hx n (by omega)]
          rfl
/-- The next word is one. -/
theorem numsR_step : ∀ (i : Nat) (ws : List (List UInt8)) (ns : List Nat) (x : List UInt8) (r : List (List UInt8)) (m : Nat), numsR i ws = some (ns, x :: r) → num2 x = some m → numsR (i + 1) ws = some (ns ++ [m], r) := by
  intro i
  induction i with
  | zero =>
    intro ws ns x r m h hx
    simp [numsR] at h
    rw [h.2, h.1]
    simp [numsR, hx]
  | succ i ih =>
    intro ws ns x r m h hx
    cases ws with
    | nil => simp [numsR] at h
    | cons w ws =>
      rw [numsR] at h ⊢
      cases hm : num2 w with
      | none => rw [hm] at h; cases h
      | some k =>
        rw [hm] at h
        obtain ⟨p, hp, e⟩ := Option.map_eq_some_iff.1 h
        simp only [Prod.mk.injEq] at e
        dsimp only
        rw [ih ws p.1 x r m (by rw [hp, ← e.2]) hx, ← e.1]
        rfl
def numsD (a : Int) : Nat := if a = 2 then 3 else if 4 < a then 1 else 2
/-- A line's deed by its words. -/
def deedW (w : List UInt8) (ws : List (List UInt8)) : Option Deed :=
  if whatD w = 0 then none else match numsR (numsD (whatD w)) ws with
  | some (ns, []) => some (whatD w, ((ns.getD 0 0 : Nat) : Int), ((ns.getD 1 0 : Nat) : Int), ((ns.getD 2 0 : Nat) : Int))
  | _ => none
theorem deedOf_words (l : List UInt8) {w : List UInt8} {ws : List (List UInt8)} (h : splitC 32 l = w :: ws) : deedOf l = deedW w ws := by
  unfold deedOf deedW
  rw [h]
  rcases whatD_cases w with h0 | ⟨h1, -⟩
  · rw [if_pos h0]
    match ws with
    | [] => rfl
    | [_] => simp [h0]
    | [_, _] => simp [h0]
    | [_, _, _] => simp [h0]
    | _ :: _ :: _ :: _ :: _ => rfl
  · rw [if_neg (by omega)]
    match ws with
    | [] => rcases six h1 with e | e | e | e | e | e <;> rw [e] <;> rfl
    | [a] =>
      cases ha : num2 a <;> rcases six h1 with e | e | e | e | e | e <;> simp [numsR, numsD, ha, e]
    | [a, b] =>
      cases ha : num2 a <;> cases hb : num2 b <;> rcases six h1 with e | e | e | e | e | e <;> simp [numsR, numsD, ha, hb, e]
    | [a, b, c] =>
      cases ha : num2 a <;> cases hb : num2 b <;> cases hc : num2 c <;> rcases six h1 with e | e | e | e | e | e <;> simp [numsR, numsD, ha, hb, hc, e]
    | a :: b :: c :: d :: r =>
      cases ha : num2 a <;> cases hb : num2 b <;> cases hc : num2 c <;> rcases six h1 with e | e | e | e | e | e <;> simp [numsR, numsD, ha, hb, hc, e]
/-- A line with its end. -/
def lineD (l : List UInt8) : Option Deed := if l.getLast? = some 10 then deedOf l.dropLast else none
theorem cutB_len (c : UInt8) (l : List UInt8) : (cutB c l).1.length ≤ l.length ∧ (cutB c l).2.1.length ≤ l.length := by
  induction l with
  | nil => exact ⟨Nat.le_refl _, Nat.le_refl _⟩
  | cons b r ih =>
    rw [cutB_cons]
    split
    · simp
    · simp; omega
end Go.Proofs.YtandhiiaflhenaaGreatDoor
