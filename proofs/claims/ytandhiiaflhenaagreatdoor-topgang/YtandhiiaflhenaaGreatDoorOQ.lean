/- Plain: plans as texts: how a text is cut, how numbers are read and written, and that each reading is a writing undone. Plain: a plan's text read is the plan; a text that is read, written, is the text. -/
import Derived.Lib.Atoi
import Derived.Lib.ItoaNum
import Derived.Lib.IndexMore
import Derived.Lib.IndexBytes

namespace Go.Proofs.YtandhiiaflhenaaGreatDoor
open Go

/-- What stands ahead of the first c, what behind it, and whether there is one. -/
def cutB (c : UInt8) : List UInt8 → List UInt8 × List UInt8 × Bool
  | [] => ([], [], false)
  | b :: r => if b = c then ([], r, true) else (b :: (cutB c r).1, (cutB c r).2.1, (cutB c r).2.2)

theorem cutB_none (c : UInt8) (l : List UInt8) (h : (cutB c l).2.2 = false) : (cutB c l).1 = l ∧ (cutB c l).2.1 = [] := by
  induction l with
  | nil => exact ⟨rfl, rfl⟩
  | cons b r ih =>
    unfold cutB at h ⊢
    split at h
    · simp at h
    · rename_i hb
      rw [if_neg hb]
      have := ih h
      exact ⟨by rw [this.1], this.2⟩
theorem cutB_shorter (c : UInt8) (l : List UInt8) (h : (cutB c l).2.2 = true) : (cutB c l).2.1.length < l.length := by
  induction l with
  | nil => simp [cutB] at h
  | cons b r ih =>
    unfold cutB at h ⊢
    split at h
    · rename_i hb; rw [if_pos hb]; simp
    · rename_i hb; rw [if_neg hb]; have := ih h; simp; omega

theorem cut_eq (c : UInt8) (l : List UInt8) : Lib.cut l [c] = cutB c l := by
  unfold Lib.cut
  rw [Lib.index_one]
  induction l with
  | nil => simp [Lib.indexByte, cutB]
  | cons b r ih =>
    unfold Lib.indexByte cutB
    by_cases hb : b = c
    · simp [hb]
    · have hbc : (b == c) = false := by simp [hb]
      rw [hbc, if_neg hb]
      simp only [Bool.false_eq_true, ↓reduceIte]
      rw [← ih]
      by_cases h1 : Lib.indexByte r c = -1
      · simp [h1]
      · have h1' : (Lib.indexByte r c == -1) = false := by simp [h1]
        simp only [h1', Bool.false_eq_true, ↓reduceIte]
        by_cases h2 : 0 ≤ Lib.indexByte r c
        · obtain ⟨k, hk⟩ := Int.eq_ofNat_of_zero_le h2
          rw [hk]
          have e1 : ((k : Int) + 1).toNat = k + 1 := by omega
          have e2 : (0 : Int) ≤ (k : Int) + 1 := by omega
          have e3 : (0 : Int) ≤ (k : Int) := by omega
          simp [e1, e2, e3]
        · have h3 : ¬ 0 ≤ Lib.indexByte r c + 1 := by omega
          simp [h2, h3]

/-- The text cut at each c. -/
def splitC (c : UInt8) : List UInt8 → List (List UInt8)
  | [] => [[]]
  | b :: r => if b = c then [] :: splitC c r else match splitC c r with | x :: xs => (b :: x) :: xs | [] => [[b]]

theorem splitC_cons (c b : UInt8) (r : List UInt8) : splitC c (b :: r) = if b = c then [] :: splitC c r else match splitC c r with | x :: xs => (b :: x) :: xs | [] => [[b]] := rfl
theorem cutB_cons (c b : UInt8) (r : List UInt8) : cutB c (b :: r) = if b = c then ([], r, true) else (b :: (cutB c r).1, (cutB c r).2.1, (cutB c r).2.2) := rfl
theorem splitC_ne (c : UInt8) (l : List UInt8) : splitC c l ≠ [] := by
  cases l with
  | nil => simp [splitC]
  | cons b r => unfold splitC; split; simp; split <;> simp

theorem splitC_cut (c : UInt8) (l : List UInt8) : splitC c l = (cutB c l).1 :: if (cutB c l).2.2 then splitC c (cutB c l).2.1 else [] := by
  induction l with
  | nil => rfl
  | cons b r ih =>
    rw [splitC_cons, cutB_cons]
    by_cases hb : b = c
    · rw [if_pos hb, if_pos hb]; rfl
    · rw [if_neg hb, if_neg hb, ih]

def joinC (c : UInt8) : List (List UInt8) → List UInt8
  | [] => []
  | [x] => x
  | x :: y :: r => x ++ c :: joinC c (y :: r)

theorem join_split (c : UInt8) (l : List UInt8) : joinC c (splitC c l) = l := by
  induction l with
  | nil => rfl
  | cons b r ih =>
    unfold splitC
    by_cases hb : b = c
    · rw [if_pos hb]
      cases hs : splitC c r with
      | nil => exact absurd hs (splitC_ne c r)
      | cons x xs => rw [hs] at ih; simp [joinC, ih, hb]
    · rw [if_neg hb]
      cases hs : splitC c r with
      | nil => exact absurd hs (splitC_ne c r)
      | cons x xs =>
        rw [hs] at ih
        cases xs with
        | nil => simp [joinC] at ih ⊢; exact ih
        | cons y ys => simp [joinC] at ih ⊢; exact ih

theorem splitC_clean (c : UInt8) (x : List UInt8) (h : c ∉ x) : splitC c x = [x] := by
  induction x with
  | nil => rfl
  | cons b r ih =>
    simp at h
    unfold splitC
    rw [if_neg (fun e => h.1 e.symm), ih h.2]

theorem splitC_append (c : UInt8) (x l : List UInt8) (h : c ∉ x) : splitC c (x ++ c :: l) = x :: splitC c l := by
  induction x with
  | nil => simp [splitC]
  | cons b r ih =>
    simp at h
    rw [List.cons_append, splitC_cons, if_neg (fun e => h.1 e.symm), ih h.2]

theorem split_join (c : UInt8) (ws : List (List UInt8)) (h0 : ws ≠ []) (h : ∀ w, w ∈ ws → c ∉ w) : splitC c (joinC c ws) = ws := by
  induction ws with
  | nil => exact absurd rfl h0
  | cons x r ih =>
    cases r with
    | nil => exact splitC_clean c x (h x (by simp))
    | cons y ys =>
      show splitC c (x ++ c :: joinC c (y :: ys)) = _
      rw [splitC_append c x _ (h x (by simp)), ih (by simp) (fun w hw => h w (by simp [hw]))]

/-- A number of at most four digits, without a needless 0. -/
def numOf (l : List UInt8) : Option Nat := if 4 < l.length ∨ (1 < l.length ∧ l.head? = some 48) then none else Lib.decNat l

def allOf {α β : Type} (f : α → Option β) : List α → Option (List β)
  | [] => some []
  | x :: r => match f x, allOf f r with | some y, some ys => some (y :: ys) | _, _ => none

theorem allOf_snoc {α β : Type} (f : α → Option β) (l : List α) (x : α) (ys : List β) (y : β) (h : allOf f l = some ys) (hx : f x = some y) : allOf f (l ++ [x]) = some (ys ++ [y]) := by
  induction l generalizing ys with
  | nil => simp [allOf] at h; subst h; simp [allOf, hx]
  | cons a r ih =>
    simp only [List.cons_append, allOf] at h ⊢
    cases ha : f a with
    | none => simp [ha] at h
    | some b =>
      cases hr : allOf f r with
      | none => simp [ha, hr] at h
      | some bs => simp [ha, hr] at h; subst h; simp [ih bs hr]
theorem allOf_bad {α β : Type} (f : α → Option β) (l r : List α) (x : α) (hx : f x = none) : allOf f (l ++ x :: r) = none := by
  induction l with
  | nil => simp [allOf, hx]
  | cons a l ih => simp only [List.cons_append, allOf, ih]; cases f a <;> rfl

/-- Numbers with commas between. -/
def numsOf (l : List UInt8) : Option (List Int) := (allOf numOf (splitC 44 l)).map (List.map Int.ofNat)
/-- A task's text. -/
def taskOf (l : List UInt8) : Option (Int × List Int) :=
  match numOf (cutB 60 l).1 with
  | none => none
  | some w => if (cutB 60 l).2.2 then (numsOf (cutB 60 l).2.1).map (fun ns => ((w : Int), ns)) else some ((w : Int), [])
/-- A plan's text. -/
def tasksOf (l : List UInt8) : Option (List (Int × List Int)) := if l = [] then some [] else allOf taskOf (splitC 32 l)

def digs (n : Int) : List UInt8 := Lib.decDigits n.toNat
def taskText (t : Int × List Int) : List UInt8 := digs t.1 ++ if t.2 = [] then [] else 60 :: joinC 44 (t.2.map digs)
def planText (ts : List (Int × List Int)) : List UInt8 := joinC 32 (ts.map taskText)

theorem dec_small (n : Nat) (h : n < 10) : Lib.decDigits n = [UInt8.ofNat (48 + n)] := by unfold Lib.decDigits; rw [dif_pos h]
theorem dec_two (n : Nat) (h : 10 ≤ n) (h2 : n < 100) : Lib.decDigits n = [UInt8.ofNat (48 + n / 10), UInt8.ofNat (48 + n % 10)] := by
  rw [Lib.decDigits, dif_neg (by omega), dec_small (n / 10) (by omega)]; rfl
theorem dec_more (n : Nat) (h : 10 ≤ n) : Lib.decDigits n = Lib.decDigits (n / 10) ++ [UInt8.ofNat (48 + n % 10)] := by
  rw [Lib.decDigits, dif_neg (by omega)]

theorem dig_val (d : Nat) (h : d < 10) : Lib.digitVal (UInt8.ofNat (48 + d)) = some d := by
  have : (UInt8.ofNat (48 + d)).toNat = 48 + d := by rw [UInt8.toNat_ofNat']; omega
  unfold Lib.digitVal
  rw [this, if_pos (by omega)]
  congr 1; omega
theorem dig_of {b : UInt8} {d : Nat} (h : Lib.digitVal b = some d) : b = UInt8.ofNat (48 + d) ∧ d < 10 := by
  unfold Lib.digitVal at h
  split at h
  · rename_i hb
    simp at h
    refine ⟨UInt8.toNat_inj.1 ?_, by omega⟩
    rw [UInt8.toNat_ofNat']; omega
  · simp at h
theorem dig_ne {d : Nat} (h : d < 10) {c : UInt8} (hc : c = 32 ∨ c = 44 ∨ c = 60) : UInt8.ofNat (48 + d) ≠ c := by
  intro e
  have h1 : (UInt8.ofNat (48 + d)).toNat = 48 + d := by rw [UInt8.toNat_ofNat']; omega
  rw [e] at h1
  rcases hc with rfl | rfl | rfl <;> simp at h1 <;> omega
theorem dig_zero {d : Nat} (h : d < 10) : UInt8.ofNat (48 + d) = 48 ↔ d = 0 := by
  constructor
  · intro e
    have h1 : (UInt8.ofNat (48 + d)).toNat = 48 + d := by rw [UInt8.toNat_ofNat']; omega
    rw [e] at h1
    simp at h1; omega
  · rintro rfl; rfl

theorem num_dec (n : Nat) (h : n < 100) : numOf (Lib.decDigits n) = some n := by
  by_cases h1 : n < 10
  · rw [dec_small n h1]
    have v1 := dig_val n h1
    simp only [numOf, List.length_cons, List.length_nil, Lib.decNat, Lib.decFrom, v1, List.isEmpty_cons]
    rw [if_neg (by omega)]
    simp
  · rw [dec_two n (by omega) h]
    have hne : UInt8.ofNat (48 + n / 10) ≠ 48 := fun e => by have := (dig_zero (by omega)).1 e; omega
    have v1 := dig_val (n / 10) (by omega)
    have v2 := dig_val (n % 10) (by omega)
    simp only [numOf, List.length_cons, List.length_nil, List.head?_cons, Option.some.injEq, Lib.decNat, Lib.decFrom, v1, v2, List.isEmpty_cons]
    rw [if_neg (by rintro (h | ⟨_, h⟩); omega; exact hne h)]
    simp; omega

theorem dec_clean (n : Nat) (h : n < 100) (c : UInt8) (hc : c = 32 ∨ c = 44 ∨ c = 60) : c ∉ Lib.decDigits n := by
  by_cases h1 : n < 10
  · rw [dec_small n h1]
    simp only [List.mem_singleton]
    exact fun e => dig_ne h1 hc e.symm
  · rw [dec_two n (by omega) h]
    simp only [List.mem_cons, List.not_mem_nil, or_false, not_or]
    exact ⟨fun e => dig_ne (by omega) hc e.symm, fun e => dig_ne (by omega) hc e.symm⟩

theorem num_inv (l : List UInt8) (n : Nat) (h : numOf l = some n) : l = Lib.decDigits n := by
  unfold numOf at h
  split at h
  · simp at h
  · rename_i hc
    simp only [not_or, Nat.not_lt, not_and] at hc
    obtain ⟨h4, hz⟩ := hc
    unfold Lib.decNat at h
    match l, h4, hz, h with
    | [], _, _, h => simp at h
    | [a], _, _, h =>
      simp only [Lib.decFrom, List.isEmpty_cons] at h
      cases ha : Lib.digitVal a with
      | none => simp [ha] at h
      | some d =>
        simp [ha] at h
        obtain ⟨e, hd⟩ := dig_of ha
        subst h; rw [dec_small d hd, e]
    | [a, b], _, hz, h =>
      simp only [Lib.decFrom, List.isEmpty_cons] at h
      cases ha : Lib.digitVal a with
      | none => simp [ha] at h
      | some d =>
        cases hb : Lib.digitVal b with
        | none => simp [ha, hb] at h
        | some f =>
          simp [ha, hb] at h
          obtain ⟨e, hd⟩ := dig_of ha
          obtain ⟨e2, hf⟩ := dig_of hb
          have hne : d ≠ 0 := fun e0 => by have := hz (by simp); simp at this; exact this (by rw [e, e0]; rfl)
          subst h
          rw [dec_two _ (by omega) (by omega), e, e2, show (d * 10 + f) / 10 = d by omega, show (d * 10 + f) % 10 = f by omega]
    | [a, b, c], _, hz, h =>
      simp only [Lib.decFrom, List.isEmpty_cons] at h
      cases ha : Lib.digitVal a with
      | none => simp [ha] at h
      | some d =>
        cases hb : Lib.digitVal b with
        | none => simp [ha, hb] at h
        | some f =>
          cases hc : Lib.digitVal c with
          | none => simp [ha, hb, hc] at h
          | some g =>
            simp [ha, hb, hc] at h
            obtain ⟨e, hd⟩ := dig_of ha
            obtain ⟨e2, hf⟩ := dig_of hb
            obtain ⟨e3, hg⟩ := dig_of hc
            have hne : d ≠ 0 := fun e0 => by have := hz (by simp); simp at this; exact this (by rw [e, e0]; rfl)
            subst h
            rw [dec_more _ (by omega), dec_two _ (by omega) (by omega), e, e2, e3, show ((d * 10 + f) * 10 + g) / 10 / 10 = d by omega, show ((d * 10 + f) * 10 + g) / 10 % 10 = f by omega, show ((d * 10 + f) * 10 + g) % 10 = g by omega]
            rfl
    | [a, b, c, x], _, hz, h =>
      simp only [Lib.decFrom, List.isEmpty_cons] at h
      cases ha : Lib.digitVal a with
      | none => simp [ha] at h
      | some d =>
        cases hb : Lib.digitVal b with
        | none => simp [ha, hb] at h
        | some f =>
          cases hc : Lib.digitVal c with
          | none => simp [ha, hb, hc] at h
          | some g =>
            cases hx : Lib.digitVal x with
            | none => simp [ha, hb, hc, hx] at h
            | some i =>
              simp [ha, hb, hc, hx] at h
              obtain ⟨e, hd⟩ := dig_of ha
              obtain ⟨e2, hf⟩ := dig_of hb
              obtain ⟨e3, hg⟩ := dig_of hc
              obtain ⟨e4, hi⟩ := dig_of hx
              have hne : d ≠ 0 := fun e0 => by have := hz (by simp); simp at this; exact this (by rw [e, e0]; rfl)
              subst h
              rw [dec_more _ (by omega), dec_more _ (by omega), dec_two _ (by omega) (by omega), e, e2, e3, e4, show (((d * 10 + f) * 10 + g) * 10 + i) / 10 / 10 / 10 = d by omega, show (((d * 10 + f) * 10 + g) * 10 + i) / 10 / 10 % 10 = f by omega, show (((d * 10 + f) * 10 + g) * 10 + i) / 10 % 10 = g by omega, show (((d * 10 + f) * 10 + g) * 10 + i) % 10 = i by omega]
              rfl
    | a :: b :: c :: x :: y :: r, h4, _, _ => simp at h4
end Go.Proofs.YtandhiiaflhenaaGreatDoor

namespace Go.Proofs.YtandhiiaflhenaaGreatDoor
open Go

theorem allOf_map {α β : Type} (f : β → Option α) (g : α → β) (l : List α) (h : ∀ x, x ∈ l → f (g x) = some x) : allOf f (l.map g) = some l := by
  induction l with
  | nil => rfl
  | cons x r ih => simp only [List.map_cons, allOf, h x (by simp), ih (fun y hy => h y (by simp [hy]))]
theorem allOf_inv {α β : Type} (f : β → Option α) (g : α → β) (hf : ∀ x y, f x = some y → x = g y) (l : List β) (ys : List α) (h : allOf f l = some ys) : l = ys.map g := by
  induction l generalizing ys with
  | nil => simp [allOf] at h; subst h; rfl
  | cons x r ih =>
    simp only [allOf] at h
    cases hx : f x with
    | none => simp [hx] at h
    | some y =>
      cases hr : allOf f r with
      | none => simp [hx, hr] at h
      | some zs => simp [hx, hr] at h; subst h; rw [List.map_cons, ← hf x y hx, ← ih zs hr]

theorem cutB_at (c : UInt8) (x r : List UInt8) (h : c ∉ x) : cutB c (x ++ c :: r) = (x, r, true) := by
  induction x with
  | nil => simp [cutB]
  | cons b x ih =>
    simp at h
    rw [List.cons_append, cutB_cons, if_neg (fun e => h.1 e.symm), ih h.2]
theorem cutB_clean (c : UInt8) (x : List UInt8) (h : c ∉ x) : cutB c x = (x, [], false) := by
  induction x with
  | nil => rfl
  | cons b x ih =>
    simp at h
    rw [cutB_cons, if_neg (fun e => h.1 e.symm), ih h.2]
theorem cutB_back (c : UInt8) (l : List UInt8) (h : (cutB c l).2.2 = true) : l = (cutB c l).1 ++ c :: (cutB c l).2.1 := by
  induction l with
  | nil => simp [cutB] at h
  | cons b r ih =>
    rw [cutB_cons] at h ⊢
    by_cases hb : b = c
    · rw [if_pos hb]; simp [hb]
    · rw [if_neg hb] at h ⊢
      have := ih h
      simp only [List.cons_append]
      rw [← this]

/-- A task whose numbers are small. -/
def Small (t : Int × List Int) : Prop := (0 ≤ t.1 ∧ t.1 < 100) ∧ ∀ z, z ∈ t.2 → 0 ≤ z ∧ z < 100

theorem digs_clean (z : Int) (h : 0 ≤ z ∧ z < 100) (c : UInt8) (hc : c = 32 ∨ c = 44 ∨ c = 60) : c ∉ digs z := dec_clean z.toNat (by omega) c hc
theorem num_digs (z : Int) (h : 0 ≤ z ∧ z < 100) : numOf (digs z) = some z.toNat := num_dec z.toNat (by omega)

theorem joinC_mem (c b : UInt8) (ws : List (List UInt8)) (h : b ∈ joinC c ws) : b = c ∨ ∃ w, w ∈ ws ∧ b ∈ w := by
  induction ws with
  | nil => simp [joinC] at h
  | cons x r ih =>
    cases r with
    | nil => exact Or.inr ⟨x, by simp, h⟩
    | cons y ys =>
      have h' : b ∈ x ++ c :: joinC c (y :: ys) := h
      rcases List.mem_append.1 h' with h1 | h1
      · exact Or.inr ⟨x, by simp, h1⟩
      · rcases List.mem_cons.1 h1 with h2 | h2
        · exact Or.inl h2
        · rcases ih h2 with h3 | ⟨w, hw, hb⟩
          · exact Or.inl h3
          · exact Or.inr ⟨w, by simp [hw], hb⟩

theorem nums_text (zs : List Int) (h0 : zs ≠ []) (h : ∀ z, z ∈ zs → 0 ≤ z ∧ z < 100) : numsOf (joinC 44 (zs.map digs)) = some zs := by
  unfold numsOf
  rw [split_join 44 (zs.map digs) (by simpa using h0) (fun w hw => by
    obtain ⟨z, hz, rfl⟩ := List.mem_map.1 hw
    exact digs_clean z (h z hz) 44 (by simp))]
  have : zs.map digs = (zs.map Int.toNat).map (fun n => Lib.decDigits n) := by rw [List.map_map]; rfl
  rw [this, allOf_map numOf (fun n => Lib.decDigits n) (zs.map Int.toNat) (fun n hn => by
    obtain ⟨z, hz, rfl⟩ := List.mem_map.1 hn
    exact num_dec z.toNat (by have := h z hz; omega))]
  simp only [Option.map_some, Option.some.injEq, List.map_map]
  conv => rhs; rw [← List.map_id zs]
  refine List.map_congr_left fun z hz => ?_
  have := h z hz
  simp; omega

theorem task_text (t : Int × List Int) (h : Small t) : taskOf (taskText t) = some t := by
  obtain ⟨w, zs⟩ := t
  obtain ⟨hw, hz⟩ := h
  simp only at hw hz
  have hc := digs_clean w hw 60 (by simp)
  have hn := num_digs w hw
  have hwn : ((w.toNat : Nat) : Int) = w := by omega
  unfold taskOf taskText
  by_cases h0 : zs = []
  · subst h0
    simp only [↓reduceIte, List.append_nil]
    rw [cutB_clean 60 _ hc]
    simp [hn, hwn]
  · simp only [h0, ↓reduceIte]
    rw [cutB_at 60 _ _ hc]
    simp only [hn, ↓reduceIte]
    rw [nums_text zs h0 hz]
    simp [hwn]

theorem taskText_clean (t : Int × List Int) (h : Small t) : (32 : UInt8) ∉ taskText t := by
  obtain ⟨w, zs⟩ := t
  obtain ⟨hw, hz⟩ := h
  intro hm
  unfold taskText at hm
  rcases List.mem_append.1 hm with h1 | h1
  · exact digs_clean w hw 32 (by simp) h1
  · by_cases h0 : zs = []
    · simp [h0] at h1
    · simp only [h0, ↓reduceIte] at h1
      rcases List.mem_cons.1 h1 with h2 | h2
      · simp at h2
      · rcases joinC_mem 44 32 _ h2 with h3 | ⟨x, hx, hb⟩
        · simp at h3
        · obtain ⟨z, hzz, rfl⟩ := List.mem_map.1 hx
          exact digs_clean z (hz z hzz) 32 (by simp) hb

theorem dec_ne_nil (n : Nat) : Lib.decDigits n ≠ [] := by
  unfold Lib.decDigits
  split <;> simp

theorem taskText_ne (t : Int × List Int) : taskText t ≠ [] := by
  unfold taskText digs
  intro h
  exact dec_ne_nil _ (List.append_eq_nil_iff.1 h).1

theorem planText_ne (ts : List (Int × List Int)) (h : ts ≠ []) : planText ts ≠ [] := by
  cases ts with
  | nil => exact absurd rfl h
  | cons t r =>
    cases r with
    | nil => exact taskText_ne t
    | cons u us =>
      show taskText t ++ 32 :: joinC 32 ((u :: us).map taskText) ≠ []
      simp

/-- A plan's text, read, is the plan. -/
theorem tasks_text (ts : List (Int × List Int)) (h : ∀ t, t ∈ ts → Small t) : tasksOf (planText ts) = some ts := by
  unfold tasksOf
  by_cases h0 : ts = []
  · subst h0; rfl
  · rw [if_neg (planText_ne ts h0)]
    unfold planText
    rw [split_join 32 _ (by simpa using h0) (fun w hw => by
      obtain ⟨t, ht, rfl⟩ := List.mem_map.1 hw
      exact taskText_clean t (h t ht))]
    exact allOf_map taskOf taskText ts (fun t ht => task_text t (h t ht))

theorem nums_back (l : List UInt8) (zs : List Int) (h : numsOf l = some zs) : zs ≠ [] ∧ joinC 44 (zs.map digs) = l := by
  unfold numsOf at h
  obtain ⟨ns, hn, rfl⟩ := Option.map_eq_some_iff.1 h
  have hs := allOf_inv numOf (fun n => Lib.decDigits n) num_inv _ _ hn
  refine ⟨fun e => ?_, ?_⟩
  · have : ns = [] := by simpa using e
    rw [this] at hs
    exact splitC_ne 44 l (by simpa using hs)
  · conv => rhs; rw [← join_split 44 l, hs]
    rw [List.map_map]
    congr 1

theorem task_back (l : List UInt8) (t : Int × List Int) (h : taskOf l = some t) : taskText t = l := by
  unfold taskOf at h
  cases hn : numOf (cutB 60 l).1 with
  | none => simp [hn] at h
  | some w =>
    rw [hn] at h
    simp only at h
    have hw := num_inv _ _ hn
    cases hf : (cutB 60 l).2.2 with
    | false =>
      rw [hf] at h
      simp at h
      subst h
      unfold taskText
      simp only [↓reduceIte, List.append_nil]
      rw [← (cutB_none 60 l hf).1, hw]
      rfl
    | true =>
      rw [hf] at h
      simp only [↓reduceIte, Option.map_eq_some_iff] at h
      obtain ⟨zs, hz, rfl⟩ := h
      obtain ⟨h0, hj⟩ := nums_back _ _ hz
      unfold taskText
      simp only [h0, ↓reduceIte]
      rw [hj]
      conv => rhs; rw [cutB_back 60 l hf]
      rw [hw]
      rfl

/-- A text that is read, written, is the text. -/
theorem tasks_back (l : List UInt8) (ts : List (Int × List Int)) (h : tasksOf l = some ts) : planText ts = l := by
  unfold tasksOf at h
  by_cases h0 : l = []
  · rw [if_pos h0] at h
    simp at h; subst h; rw [h0]; rfl
  · rw [if_neg h0] at h
    have hs := allOf_inv taskOf taskText (fun x y hxy => (task_back x y hxy).symm) _ _ h
    unfold planText
    rw [← hs, join_split]
end Go.Proofs.YtandhiiaflhenaaGreatDoor
