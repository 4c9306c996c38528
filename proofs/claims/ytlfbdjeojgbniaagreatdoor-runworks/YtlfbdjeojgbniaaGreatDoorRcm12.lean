/- Plain: what is left of each task, told by hands or by tasks. No word of the program. Plain: deeds that may have been, as chapter 17 says; what a gang tells may have been. No word of the program. Plain: plans as texts: how a text is cut, how numbers are read and written, and that each reading is a writing undone. Plain: a plan's text read is the plan; a text that is read, written, is the text. Plain: deeds as texts: a line for each; each reading is a writing undone. No word of the program. -/
import Derived.Test.YtlfbdjeojgbniaaGreatDoorRcm11
import Derived.Lib.Atoi
import Derived.Lib.ItoaNum
import Derived.Lib.IndexMore
import Derived.Lib.IndexBytes

namespace Go.Proofs.YtlfbdjeojgbniaaGreatDoor

/-- What is left of each task: of one that a hand has what the hand has left, of one that nobody has begun all of it. -/
def WkOk (ts : List (Int × List Int)) (hands : Nat) (g : Gs) (wk : Nat → Int) : Prop :=
  (∀ h, h < hands → 0 ≤ g.task h → wk (g.task h).toNat = g.work h) ∧ (∀ t, t < ts.length → g.S t = false → (∀ h, h < hands → g.task h ≠ ((t : Nat) : Int)) → wk t = workOf ts t)
variable {ts : List (Int × List Int)} {room hands : Nat} {g : Gs} {wk : Nat → Int}
theorem WkOk.new (ts : List (Int × List Int)) (hands : Nat) : WkOk ts hands (gnew ts) (workOf ts) :=
  ⟨fun h _ ht => by simp [gnew] at ht, fun t _ _ _ => rfl⟩
theorem WkOk.takes (hK : WkOk ts hands g wk) {g1 : Gs} (hS : g1.S = g.S) (ht1 : g1.task = g.task) (hw1 : g1.work = g.work) {h i : Nat} (hh : h < hands) (ht : g.task h < 0) (hi : i < ts.length) (hSi : g.S i = false) (hno : ∀ k, k < hands → g.task k ≠ ((i : Nat) : Int)) : WkOk ts hands (YtlfbdjeojgbniaaGreatDoor.takes ts g1 h (i : Int)) wk := by
  refine ⟨fun k hk h0 => ?_, fun t htl hSt hnt => ?_⟩
  · show wk (updG g1.task h (i : Int) k).toNat = updG g1.work h (workOf ts (i : Int).toNat) k
    have h0' : 0 ≤ updG g1.task h (i : Int) k := h0
    by_cases e : k = h
    · subst e
      rw [updG_self, updG_self, Int.toNat_natCast]
      exact hK.2 i hi hSi hno
    · rw [updG_ne _ _ e] at h0' ⊢
      rw [updG_ne _ _ e, ht1, hw1]
      rw [ht1] at h0'
      exact hK.1 k hk h0'
  · have hSt' : g.S t = false := by rw [← hS]; exact hSt
    refine hK.2 t htl hSt' fun k hk => ?_
    have h1 : updG g1.task h (i : Int) k ≠ ((t : Nat) : Int) := hnt k hk
    by_cases e : k = h
    · subst e; omega
    · rw [updG_ne _ _ e, ht1] at h1
      exact h1
theorem WkOk.works (hK : WkOk ts hands g wk) (hI : Inv ts room hands g) {h i : Nat} (hh : h < hands) (ht : g.task h = (i : Int)) : WkOk ts hands { g with work := updG g.work h (g.work h - 1) } (updG wk i (wk i - 1)) := by
  have hi : (g.task h).toNat = i := by omega
  refine ⟨fun k hk h0 => ?_, fun t htl hSt hnt => ?_⟩
  · show updG wk i (wk i - 1) (g.task k).toNat = updG g.work h (g.work h - 1) k
    have h0' : 0 ≤ g.task k := h0
    by_cases e : k = h
    · subst e
      rw [updG_self, hi, updG_self, ← hK.1 k hk h0', hi]
    · have : g.task k ≠ g.task h := fun e2 => e (hI.oneHas hh hk (by omega) e2)
      rw [updG_ne _ _ e, updG_ne _ _ (by omega)]
      exact hK.1 k hk h0'
  · have hne : t ≠ i := fun e => hnt h hh (by rw [e]; exact ht)
    rw [updG_ne _ _ hne]
    exact hK.2 t htl hSt hnt
theorem WkOk.ends (hK : WkOk ts hands g wk) (hI : Inv ts room hands g) {h i : Nat} (hh : h < hands) (ht : g.task h = (i : Int)) (x : Int) : WkOk ts hands (YtlfbdjeojgbniaaGreatDoor.ends ts room g h) (updG wk i x) := by
  have hi : (g.task h).toNat = i := by omega
  refine ⟨fun k hk h0 => ?_, fun t htl hSt hnt => ?_⟩
  · have h0' : 0 ≤ updG g.task h (-1) k := h0
    show updG wk i x (updG g.task h (-1) k).toNat = updG g.work h (g.work h - 1) k
    by_cases e : k = h
    · subst e; rw [updG_self] at h0'; omega
    · rw [updG_ne _ _ e] at h0' ⊢
      have : g.task k ≠ g.task h := fun e2 => e (hI.oneHas hh hk (by omega) e2)
      rw [updG_ne _ _ (by omega), updG_ne _ _ e]
      exact hK.1 k hk h0'
  · have hSt' : mark g.S (g.task h).toNat t = false := hSt
    rw [hi] at hSt'
    have hne : t ≠ i := fun e => by subst e; simp [mark] at hSt'
    rw [mark_ne hne] at hSt'
    rw [updG_ne _ _ hne]
    refine hK.2 t htl hSt' fun k hk => ?_
    have h1 : updG g.task h (-1) k ≠ ((t : Nat) : Int) := hnt k hk
    by_cases e : k = h
    · subst e; rw [ht]; omega
    · rw [updG_ne _ _ e] at h1; exact h1
end Go.Proofs.YtlfbdjeojgbniaaGreatDoor

namespace Go.Proofs.YtlfbdjeojgbniaaGreatDoor

/-- What deeds have come to: what each hand has (-1: nothing), who sleeps, what was had, what is done. -/
structure Tr where
  has : Nat → Int
  slp : Nat → Bool
  had : Nat → Bool
  dn : Nat → Bool
def trNew : Tr := ⟨fun _ => -1, fun _ => false, fun _ => false, fun _ => false⟩
/-- What is wrong with a deed by itself. -/
def deedE (d : Deed) : Int :=
  if d.1 < 1 ∨ 6 < d.1 ∨ d.2.1 < 0 ∨ 5 < d.2.1 ∨ d.2.2.1 < 0 ∨ 29 < d.2.2.1 ∨ (d.1 = 2 ∧ (d.2.2.2 < 0 ∨ 5 < d.2.2.2)) then 1
  else if (d.1 ≠ 2 ∧ d.2.2.2 ≠ 0) ∨ (4 < d.1 ∧ d.2.2.1 ≠ 0) then 3 else 0
/-- What is wrong with a deed, behind others. -/
def trErr (ts : List (Int × List Int)) (hands : Nat) (s : Tr) (d : Deed) : Int :=
  if (hands : Int) ≤ d.2.1 ∨ (hands : Int) ≤ d.2.2.2 ∨ (d.1 < 5 ∧ (ts.length : Int) ≤ d.2.2.1) then 1
  else if d.1 < 4 then
    if 0 ≤ s.has d.2.1.toNat ∨ s.had d.2.2.1.toNat = true then 7
    else if s.slp d.2.1.toNat = true ∨ (needsOf ts d.2.2.1.toNat).any (fun y => !s.dn y.toNat) = true then 6
    else if d.1 = 2 ∧ d.2.2.2 = d.2.1 then 3 else 0
  else if d.1 = 4 then (if s.has d.2.1.toNat = d.2.2.1 then 0 else 6)
  else if d.1 = 5 then (if 0 ≤ s.has d.2.1.toNat ∨ s.slp d.2.1.toNat = true then 6 else 0)
  else if s.slp d.2.1.toNat = true then 0 else 6
def trNext (s : Tr) (d : Deed) : Tr :=
  if d.1 < 4 then { s with has := updG s.has d.2.1.toNat d.2.2.1, had := mark s.had d.2.2.1.toNat }
  else if d.1 = 4 then { s with has := updG s.has d.2.1.toNat (-1), dn := mark s.dn d.2.2.1.toNat }
  else if d.1 = 5 then { s with slp := updG s.slp d.2.1.toNat true }
  else { s with slp := updG s.slp d.2.1.toNat false }
def trErrs (ts : List (Int × List Int)) (hands : Nat) : Tr → List Deed → Int
  | _, [] => 0
  | s, d :: r => if trErr ts hands s d = 0 then trErrs ts hands (trNext s d) r else trErr ts hands s d
def trEnd (s : Tr) (l : List Deed) : Tr := l.foldl trNext s
theorem trErrs_append {ts : List (Int × List Int)} {hands : Nat} : ∀ (l m : List Deed) (s : Tr), trErrs ts hands s l = 0 → trErrs ts hands s (l ++ m) = trErrs ts hands (trEnd s l) m := by
  intro l
  induction l with
  | nil => intro m s _; rfl
  | cons d r ih =>
    intro m s h
    unfold trErrs at h
    by_cases h0 : trErr ts hands s d = 0
    · rw [if_pos h0] at h
      rw [List.cons_append, trErrs, if_pos h0]
      exact ih m (trNext s d) h
    · rw [if_neg h0] at h
      exact absurd h h0
/-- Of deeds that may have been a beginning may have been. -/
theorem trErrs_take {ts : List (Int × List Int)} {hands : Nat} : ∀ (l : List Deed) (s : Tr) (k : Nat), trErrs ts hands s l = 0 → trErrs ts hands s (l.take k) = 0 := by
  intro l
  induction l with
  | nil => intro s k _; simp [trErrs]
  | cons d r ih =>
    intro s k h
    cases k with
    | zero => rfl
    | succ k =>
      rw [List.take_succ_cons, trErrs]
      unfold trErrs at h
      by_cases h0 : trErr ts hands s d = 0
      · rw [if_pos h0] at h ⊢
        exact ih _ _ h
      · rw [if_neg h0] at h
        exact absurd h h0
/-- What deeds have come to is what the gang is. -/
structure TI (hands : Nat) (g : Gs) (s : Tr) : Prop where
  has : ∀ h, h < hands → s.has h = g.task h
  slp : ∀ h : Nat, h < hands → (s.slp h = true ↔ ((h : Nat) : Int) ∈ g.zz)
  dn : ∀ i, s.dn i = g.S i
  had : ∀ i : Nat, s.had i = true → g.S i = true ∨ ∃ h, h < hands ∧ g.task h = ((i : Nat) : Int)
theorem TI.new (hands : Nat) (ts : List (Int × List Int)) : TI hands (gnew ts) trNew := ⟨fun _ _ => rfl, fun h _ => by simp [trNew, gnew], fun _ => rfl, fun _ h => by simp [trNew] at h⟩

variable {ts : List (Int × List Int)} {room hands : Nat} {g : Gs}
theorem ofAll_disj {n : Nat} (hd : (ofAll g n).Nodup) {h k : Nat} (hh : h < n) (hk : k < n) (hne : h ≠ k) {x : Int} (h1 : x ∈ ofH g h) (h2 : x ∈ ofH g k) : False := by
  induction n with
  | zero => omega
  | succ n ih =>
    rw [ofAll] at hd
    obtain ⟨a1, a2, a3⟩ := List.nodup_append.1 hd
    by_cases e1 : h = n
    · subst e1
      exact a3 x (mem_ofAll.2 ⟨k, by omega, h2⟩) x h1 rfl
    · by_cases e2 : k = n
      · subst e2
        exact a3 x (mem_ofAll.2 ⟨h, by omega, h1⟩) x h2 rfl
      · exact ih a1 (by omega) (by omega)
theorem Inv.tasks (hI : Inv ts room hands g) {h k : Nat} (hh : h < hands) (hk : k < hands) (ht : 0 ≤ g.task h) (he : g.task k = g.task h) : k = h := by
  apply Classical.byContradiction
  intro hne
  have hd := (List.nodup_append.1 hI.nodup).1
  exact ofAll_disj (x := g.task h) hd hh hk (fun e => hne e.symm) (by simp [ofH, oneT_some ht]) (by rw [← he]; simp [ofH, oneT_some (he ▸ ht)])
/-- A hand begins with a task. -/
theorem TI.took {s : Tr} (hT : TI hands g s) {g' : Gs} (hI' : Inv ts room hands g') {h : Nat} (hh : h < hands) (hz : (h : Int) ∉ g.zz) (ht : ¬ 0 ≤ g.task h) (hS : g'.S = g.S) (hzz : g'.zz = g.zz) (hoth : ∀ k, k ≠ h → g'.task k = g.task k) (hi : 0 ≤ g'.task h)
    (a o : Int) (ha : 1 ≤ a ∧ a ≤ 3) (ho : (a = 2 → o ≠ (h : Int)) ∧ o < (hands : Int)) :
    trErr ts hands s (a, (h : Int), g'.task h, o) = 0 ∧ TI hands g' (trNext s (a, (h : Int), g'.task h, o)) := by
  obtain ⟨i, he, hil, hrb⟩ := hI'.rdy (held_task hh hi)
  unfold readyB at hrb
  rw [Bool.and_eq_true] at hrb
  have hSi : g.S i = false := by rw [← hS]; simpa using hrb.1
  have hms := missN_zero.1 (of_decide_eq_true hrb.2)
  have hhad : s.had i = false := by
    cases e : s.had i with
    | false => rfl
    | true =>
      rcases hT.had i e with h1 | ⟨k, hk, h1⟩
      · rw [hSi] at h1; cases h1
      · exfalso
        by_cases ek : k = h
        · subst ek; omega
        · have hk' := hoth k ek
          exact ek (hI'.tasks hh hk hi (by rw [hk', h1, he]))
  have hsl : s.slp h = false := by
    cases e : s.slp h with
    | false => rfl
    | true => exact absurd ((hT.slp h hh).1 e) hz
  have hfree : (needsOf ts i).any (fun y => !s.dn y.toNat) = false := by
    rw [List.any_eq_false]
    intro y hy
    rw [hT.dn, ← hS, hms y hy]
    simp
  constructor
  · unfold trErr
    dsimp only
    rw [he, Int.toNat_natCast, Int.toNat_natCast, if_neg (by omega), if_pos (by omega), if_neg, if_neg, if_neg]
    · intro hc; exact ho.1 hc.1 hc.2
    · rw [hsl, hfree]; simp
    · rw [hT.has h hh, hhad]; simp; omega
  · unfold trNext
    dsimp only
    rw [if_pos (by omega), he, Int.toNat_natCast, Int.toNat_natCast]
    refine ⟨fun k hk => ?_, fun k hk => ?_, fun j => ?_, fun j hj => ?_⟩
    · dsimp only
      by_cases e : k = h
      · subst e; rw [updG_self, he]
      · rw [updG_ne _ _ e, hoth k e, hT.has k hk]
    · dsimp only
      rw [hzz]
      exact hT.slp k hk
    · dsimp only
      rw [hS]
      exact hT.dn j
    · dsimp only at hj
      unfold mark at hj
      split at hj
      · rename_i e
        exact Or.inr ⟨h, hh, by rw [he, e]⟩
      · rcases hT.had j hj with h1 | ⟨k, hk, h1⟩
        · left; rw [hS]; exact h1
        · right
          refine ⟨k, hk, ?_⟩
          by_cases e : k = h
          · subst e; omega
          · rw [hoth k e]; exact h1
end Go.Proofs.YtlfbdjeojgbniaaGreatDoor

namespace Go.Proofs.YtlfbdjeojgbniaaGreatDoor
open Go

/-- What stands ahead of the first c, what behind it, and whether there is one. -/
def cutB (c : UInt8) : List UInt8 → List UInt8 × List UInt8 × Bool
  | [] => ([], [], false)
  | b :: r => if b = c then ([], r, true) else (b :: (cutB c r).1, (cutB c r).2.1, (cutB c r).2.2)

theorem cutB_none (c : UInt8) (l : List UInt8) (h : (cutB c l).2.2 = false) : (cutB c l).1 = l ∧ (cutB c l).2.1 = [] := by
  induction l with
  | nil => exact ⟨rfl, rfl⟩
  | cons b r ih =>
    unfold cutB at h ⊢
    split at h
    · simp at h
    · rename_i hb
      rw [if_neg hb]
      have := ih h
      exact ⟨by rw [this.1], this.2⟩
theorem cutB_shorter (c : UInt8) (l : List UInt8) (h : (cutB c l).2.2 = true) : (cutB c l).2.1.length < l.length := by
  induction l with
  | nil => simp [cutB] at h
  | cons b r ih =>
    unfold cutB at h ⊢
    split at h
    · rename_i hb; rw [if_pos hb]; simp
    · rename_i hb; rw [if_neg hb]; have := ih h; simp; omega

theorem cut_eq (c : UInt8) (l : List UInt8) : Lib.cut l [c] = cutB c l := by
  unfold Lib.cut
  rw [Lib.index_one]
  induction l with
  | nil => simp [Lib.indexByte, cutB]
  | cons b r ih =>
    unfold Lib.indexByte cutB
    by_cases hb : b = c
    · simp [hb]
    · have hbc : (b == c) = false := by simp [hb]
      rw [hbc, if_neg hb]
      simp only [Bool.false_eq_true, ↓reduceIte]
      rw [← ih]
      by_cases h1 : Lib.indexByte r c = -1
      · simp [h1]
      · have h1' : (Lib.indexByte r c == -1) = false := by simp [h1]
        simp only [h1', Bool.false_eq_true, ↓reduceIte]
        by_cases h2 : 0 ≤ Lib.indexByte r c
        · obtain ⟨k, hk⟩ := Int.eq_ofNat_of_zero_le h2
          rw [hk]
          have e1 : ((k : Int) + 1).toNat = k + 1 := by omega
          have e2 : (0 : Int) ≤ (k : Int) + 1 := by omega
          have e3 : (0 : Int) ≤ (k : Int) := by omega
          simp [e1, e2, e3]
        · have h3 : ¬ 0 ≤ Lib.indexByte r c + 1 := by omega
          simp [h2, h3]

/-- The text cut at each c. -/
def splitC (c : UInt8) : List UInt8 → List (List UInt8)
  | [] => [[]]
  | b :: r => if b = c then [] :: splitC c r else match splitC c r with | x :: xs => (b :: x) :: xs | [] => [[b]]

theorem splitC_cons (c b : UInt8) (r : List UInt8) : splitC c (b :: r) = if b = c then [] :: splitC c r else match splitC c r with | x :: xs => (b :: x) :: xs | [] => [[b]] := rfl
theorem cutB_cons (c b : UInt8) (r : List UInt8) : cutB c (b :: r) = if b = c then ([], r, true) else (b :: (cutB c r).1, (cutB c r).2.1, (cutB c r).2.2) := rfl
theorem splitC_ne (c : UInt8) (l : List UInt8) : splitC c l ≠ [] := by
  cases l with
  | nil => simp [splitC]
  | cons b r => unfold splitC; split; simp; split <;> simp

theorem splitC_cut (c : UInt8) (l : List UInt8) : splitC c l = (cutB c l).1 :: if (cutB c l).2.2 then splitC c (cutB c l).2.1 else [] := by
  induction l with
  | nil => rfl
  | cons b r ih =>
    rw [splitC_cons, cutB_cons]
    by_cases hb : b = c
    · rw [if_pos hb, if_pos hb]; rfl
    · rw [if_neg hb, if_neg hb, ih]

def joinC (c : UInt8) : List (List UInt8) → List UInt8
  | [] => []
  | [x] => x
  | x :: y :: r => x ++ c :: joinC c (y :: r)

theorem join_split (c : UInt8) (l : List UInt8) : joinC c (splitC c l) = l := by
  induction l with
  | nil => rfl
  | cons b r ih =>
    unfold splitC
    by_cases hb : b = c
    · rw [if_pos hb]
      cases hs : splitC c r with
      | nil => exact absurd hs (splitC_ne c r)
      | cons x xs => rw [hs] at ih; simp [joinC, ih, hb]
    · rw [if_neg hb]
      cases hs : splitC c r with
      | nil => exact absurd hs (splitC_ne c r)
      | cons x xs =>
        rw [hs] at ih
        cases xs with
        | nil => simp [joinC] at ih ⊢; exact ih
        | cons y ys => simp [joinC] at ih ⊢; exact ih

theorem splitC_clean (c : UInt8) (x : List UInt8) (h : c ∉ x) : splitC c x = [x] := by
  induction x with
  | nil => rfl
  | cons b r ih =>
    simp at h
    unfold splitC
    rw [if_neg (fun e => h.1 e.symm), ih h.2]

theorem splitC_append (c : UInt8) (x l : List UInt8) (h : c ∉ x) : splitC c (x ++ c :: l) = x :: splitC c l := by
  induction x with
  | nil => simp [splitC]
  | cons b r ih =>
    simp at h
    rw [List.cons_append, splitC_cons, if_neg (fun e => h.1 e.symm), ih h.2]

theorem split_join (c : UInt8) (ws : List (List UInt8)) (h0 : ws ≠ []) (h : ∀ w, w ∈ ws → c ∉ w) : splitC c (joinC c ws) = ws := by
  induction ws with
  | nil => exact absurd rfl h0
  | cons x r ih =>
    cases r with
    | nil => exact splitC_clean c x (h x (by simp))
    | cons y ys =>
      show splitC c (x ++ c :: joinC c (y :: ys)) = _
      rw [splitC_append c x _ (h x (by simp)), ih (by simp) (fun w hw => h w (by simp [hw]))]

/-- A number of at most four digits, without a needless 0. -/
def numOf (l : List UInt8) : Option Nat := if 4 < l.length ∨ (1 < l.length ∧ l.head? = some 48) then none else Lib.decNat l

def allOf {α β : Type} (f : α → Option β) : List α → Option (List β)
  | [] => some []
  | x :: r => match f x, allOf f r with | some y, some ys => some (y :: ys) | _, _ => none

theorem allOf_snoc {α β : Type} (f : α → Option β) (l : List α) (x : α) (ys : List β) (y : β) (h : allOf f l = some ys) (hx : f x = some y) : allOf f (l ++ [x]) = some (ys ++ [y]) := by
  induction l generalizing ys with
  | nil => simp [allOf] at h; subst h; simp [allOf, hx]
  | cons a r ih =>
    simp only [List.cons_append, allOf] at h ⊢
    cases ha : f a with
    | none => simp [ha] at h
    | some b =>
      cases hr : allOf f r with
      | none => simp [ha, hr] at h
      | some bs => simp [ha, hr] at h; subst h; simp [ih bs hr]
theorem allOf_bad {α β : Type} (f : α → Option β) (l r : List α) (x : α) (hx : f x = none) : allOf f (l ++ x :: r) = none := by
  induction l with
  | nil => simp [allOf, hx]
  | cons a l ih => simp only [List.cons_append, allOf, ih]; cases f a <;> rfl

/-- Numbers with commas between. -/
def numsOf (l : List UInt8) : Option (List Int) := (allOf numOf (splitC 44 l)).map (List.map Int.ofNat)
/-- A task's text. -/
def taskOf (l : List UInt8) : Option (Int × List Int) :=
  match numOf (cutB 60 l).1 with
  | none => none
  | some w => if (cutB 60 l).2.2 then (numsOf (cutB 60 l).2.1).map (fun ns => ((w : Int), ns)) else some ((w : Int), [])
/-- A plan's text. -/
def tasksOf (l : List UInt8) : Option (List (Int × List Int)) := if l = [] then some [] else allOf taskOf (splitC 32 l)

def digs (n : Int) : List UInt8 := Lib.decDigits n.toNat
def taskText (t : Int × List Int) : List UInt8 := digs t.1 ++ if t.2 = [] then [] else 60 :: joinC 44 (t.2.map digs)
def planText (ts : List (Int × List Int)) : List UInt8 := joinC 32 (ts.map taskText)

theorem dec_small (n : Nat) (h : n < 10) : Lib.decDigits n = [UInt8.ofNat (48 + n)] := by unfold Lib.decDigits; rw [dif_pos h]
theorem dec_two (n : Nat) (h : 10 ≤ n) (h2 : n < 100) : Lib.decDigits n = [UInt8.ofNat (48 + n / 10), UInt8.ofNat (48 + n % 10)] := by
  rw [Lib.decDigits, dif_neg (by omega), dec_small (n / 10) (by omega)]; rfl
theorem dec_more (n : Nat) (h : 10 ≤ n) : Lib.decDigits n = Lib.decDigits (n / 10) ++ [UInt8.ofNat (48 + n % 10)] := by
  rw [Lib.decDigits, dif_neg (by omega)]

theorem dig_val (d : Nat) (h : d < 10) : Lib.digitVal (UInt8.ofNat (48 + d)) = some d := by
  have : (UInt8.ofNat (48 + d)).toNat = 48 + d := by rw [UInt8.toNat_ofNat']; omega
  unfold Lib.digitVal
  rw [this, if_pos (by omega)]
  congr 1; omega
theorem dig_of {b : UInt8} {d : Nat} (h : Lib.digitVal b = some d) : b = UInt8.ofNat (48 + d) ∧ d < 10 := by
  unfold Lib.digitVal at h
  split at h
  · rename_i hb
    simp at h
    refine ⟨UInt8.toNat_inj.1 ?_, by omega⟩
    rw [UInt8.toNat_ofNat']; omega
  · simp at h
theorem dig_ne {d : Nat} (h : d < 10) {c : UInt8} (hc : c = 32 ∨ c = 44 ∨ c = 60) : UInt8.ofNat (48 + d) ≠ c := by
  intro e
  have h1 : (UInt8.ofNat (48 + d)).toNat = 48 + d := by rw [UInt8.toNat_ofNat']; omega
  rw [e] at h1
  rcases hc with rfl | rfl | rfl <;> simp at h1 <;> omega
theorem dig_zero {d : Nat} (h : d < 10) : UInt8.ofNat (48 + d) = 48 ↔ d = 0 := by
  constructor
  · intro e
    have h1 : (UInt8.ofNat (48 + d)).toNat = 48 + d := by rw [UInt8.toNat_ofNat']; omega
    rw [e] at h1
    simp at h1; omega
  · rintro rfl; rfl

theorem num_dec (n : Nat) (h : n < 100) : numOf (Lib.decDigits n) = some n := by
  by_cases h1 : n < 10
  · rw [dec_small n h1]
    have v1 := dig_val n h1
    simp only [numOf, List.length_cons, List.length_nil, Lib.decNat, Lib.decFrom, v1, List.isEmpty_cons]
    rw [if_neg (by omega)]
    simp
  · rw [dec_two n (by omega) h]
    have hne : UInt8.ofNat (48 + n / 10) ≠ 48 := fun e => by have := (dig_zero (by omega)).1 e; omega
    have v1 := dig_val (n / 10) (by omega)
    have v2 := dig_val (n % 10) (by omega)
    simp only [numOf, List.length_cons, List.length_nil, List.head?_cons, Option.some.injEq, Lib.decNat, Lib.decFrom, v1, v2, List.isEmpty_cons]
    rw [if_neg (by rintro (h | ⟨_, h⟩); omega; exact hne h)]
    simp; omega

theorem dec_clean (n : Nat) (h : n < 100) (c : UInt8) (hc : c = 32 ∨ c = 44 ∨ c = 60) : c ∉ Lib.decDigits n := by
  by_cases h1 : n < 10
  · rw [dec_small n h1]
    simp only [List.mem_singleton]
    exact fun e => dig_ne h1 hc e.symm
  · rw [dec_two n (by omega) h]
    simp only [List.mem_cons, List.not_mem_nil, or_false, not_or]
    exact ⟨fun e => dig_ne (by omega) hc e.symm, fun e => dig_ne (by omega) hc e.symm⟩

theorem num_inv (l : List UInt8) (n : Nat) (h : numOf l = some n) : l = Lib.decDigits n := by
  unfold numOf at h
  split at h
  · simp at h
  · rename_i hc
    simp only [not_or, Nat.not_lt, not_and] at hc
    obtain ⟨h4, hz⟩ := hc
    unfold Lib.decNat at h
    match l, h4, hz, h with
    | [], _, _, h => simp at h
    | [a], _, _, h =>
      simp only [Lib.decFrom, List.isEmpty_cons] at h
      cases ha : Lib.digitVal a with
      | none => simp [ha] at h
      | some d =>
        simp [ha] at h
        obtain ⟨e, hd⟩ := dig_of ha
        subst h; rw [dec_small d hd, e]
    | [a, b], _, hz, h =>
      simp only [Lib.decFrom, List.isEmpty_cons] at h
      cases ha : Lib.digitVal a with
      | none => simp [ha] at h
      | some d =>
        cases hb : Lib.digitVal b with
        | none => simp [ha, hb] at h
        | some f =>
          simp [ha, hb] at h
          obtain ⟨e, hd⟩ := dig_of ha
          obtain ⟨e2, hf⟩ := dig_of hb
          have hne : d ≠ 0 := fun e0 => by have := hz (by simp); simp at this; exact this (by rw [e, e0]; rfl)
          subst h
          rw [dec_two _ (by omega) (by omega), e, e2, show (d * 10 + f) / 10 = d by omega, show (d * 10 + f) % 10 = f by omega]
    | [a, b, c], _, hz, h =>
      simp only [Lib.decFrom, List.isEmpty_cons] at h
      cases ha : Lib.digitVal a with
      | none => simp [ha] at h
      | some d =>
        cases hb : Lib.digitVal b with
        | none => simp [ha, hb] at h
        | some f =>
          cases hc : Lib.digitVal c with
          | none => simp [ha, hb, hc] at h
          | some g =>
            simp [ha, hb, hc] at h
            obtain ⟨e, hd⟩ := dig_of ha
            obtain ⟨e2, hf⟩ := dig_of hb
            obtain ⟨e3, hg⟩ := dig_of hc
            have hne : d ≠ 0 := fun e0 => by have := hz (by simp); simp at this; exact this (by rw [e, e0]; rfl)
            subst h
            rw [dec_more _ (by omega), dec_two _ (by omega) (by omega), e, e2, e3, show ((d * 10 + f) * 10 + g) / 10 / 10 = d by omega, show ((d * 10 + f) * 10 + g) / 10 % 10 = f by omega, show ((d * 10 + f) * 10 + g) % 10 = g by omega]
            rfl
    | [a, b, c, x], _, hz, h =>
      simp only [Lib.decFrom, List.isEmpty_cons] at h
      cases ha : Lib.digitVal a with
      | none => simp [ha] at h
      | some d =>
        cases hb : Lib.digitVal b with
        | none => simp [ha, hb] at h
        | some f =>
          cases hc : Lib.digitVal c with
          | none => simp [ha, hb, hc] at h
          | some g =>
            cases hx : Lib.digitVal x with
            | none => simp [ha, hb, hc, hx] at h
            | some i =>
              simp [ha, hb, hc, hx] at h
              obtain ⟨e, hd⟩ := dig_of ha
              obtain ⟨e2, hf⟩ := dig_of hb
              obtain ⟨e3, hg⟩ := dig_of hc
              obtain ⟨e4, hi⟩ := dig_of hx
              have hne : d ≠ 0 := fun e0 => by have := hz (by simp); simp at this; exact this (by rw [e, e0]; rfl)
              subst h
              rw [dec_more _ (by omega), dec_more _ (by omega), dec_two _ (by omega) (by omega), e, e2, e3, e4, show (((d * 10 + f) * 10 + g) * 10 + i) / 10 / 10 / 10 = d by omega, show (((d * 10 + f) * 10 + g) * 10 + i) / 10 / 10 % 10 = f by omega, show (((d * 10 + f) * 10 + g) * 10 + i) / 10 % 10 = g by omega, show (((d * 10 + f) * 10 + g) * 10 + i) % 10 = i by omega]
              rfl
    | a :: b :: c :: x :: y :: r, h4, _, _ => simp at h4
end Go.Proofs.YtlfbdjeojgbniaaGreatDoor

namespace Go.Proofs.YtlfbdjeojgbniaaGreatDoor
open Go

theorem allOf_map {α β : Type} (f : β → Option α) (g : α → β) (l : List α) (h : ∀ x, x ∈ l → f (g x) = some x) : allOf f (l.map g) = some l := by
  induction l with
  | nil => rfl
  | cons x r ih => simp only [List.map_cons, allOf, h x (by simp), ih (fun y hy => h y (by simp [hy]))]
theorem allOf_inv {α β : Type} (f : β → Option α) (g : α → β) (hf : ∀ x y, f x = some y → x = g y) (l : List β) (ys : List α) (h : allOf f l = some ys) : l = ys.map g := by
  induction l generalizing ys with
  | nil => simp [allOf] at h; subst h; rfl
  | cons x r ih =>
    simp only [allOf] at h
    cases hx : f x with
    | none => simp [hx] at h
    | some y =>
      cases hr : allOf f r with
      | none => simp [hx, hr] at h
      | some zs => simp [hx, hr] at h; subst h; rw [List.map_cons, ← hf x y hx, ← ih zs hr]

theorem cutB_at (c : UInt8) (x r : List UInt8) (h : c ∉ x) : cutB c (x ++ c :: r) = (x, r, true) := by
  induction x with
  | nil => simp [cutB]
  | cons b x ih =>
    simp at h
    rw [List.cons_append, cutB_cons, if_neg (fun e => h.1 e.symm), ih h.2]
theorem cutB_clean (c : UInt8) (x : List UInt8) (h : c ∉ x) : cutB c x = (x, [], false) := by
  induction x with
  | nil => rfl
  | cons b x ih =>
    simp at h
    rw [cutB_cons, if_neg (fun e => h.1 e.symm), ih h.2]
theorem cutB_back (c : UInt8) (l : List UInt8) (h : (cutB c l).2.2 = true) : l = (cutB c l).1 ++ c :: (cutB c l).2.1 := by
  induction l with
  | nil => simp [cutB] at h
  | cons b r ih =>
    rw [cutB_cons] at h ⊢
    by_cases hb : b = c
    · rw [if_pos hb]; simp [hb]
    · rw [if_neg hb] at h ⊢
      have := ih h
      simp only [List.cons_append]
      rw [← this]

/-- A task whose numbers are small. -/
def Small (t : Int × List Int) : Prop := (0 ≤ t.1 ∧ t.1 < 100) ∧ ∀ z, z ∈ t.2 → 0 ≤ z ∧ z < 100

theorem digs_clean (z : Int) (h : 0 ≤ z ∧ z < 100) (c : UInt8) (hc : c = 32 ∨ c = 44 ∨ c = 60) : c ∉ digs z := dec_clean z.toNat (by omega) c hc
theorem num_digs (z : Int) (h : 0 ≤ z ∧ z < 100) : numOf (digs z) = some z.toNat := num_dec z.toNat (by omega)

theorem joinC_mem (c b : UInt8) (ws : List (List UInt8)) (h : b ∈ joinC c ws) : b = c ∨ ∃ w, w ∈ ws ∧ b ∈ w := by
  induction ws with
  | nil => simp [joinC] at h
  | cons x r ih =>
    cases r with
    | nil => exact Or.inr ⟨x, by simp, h⟩
    | cons y ys =>
      have h' : b ∈ x ++ c :: joinC c (y :: ys) := h
      rcases List.mem_append.1 h' with h1 | h1
      · exact Or.inr ⟨x, by simp, h1⟩
      · rcases List.mem_cons.1 h1 with h2 | h2
        · exact Or.inl h2
        · rcases ih h2 with h3 | ⟨w, hw, hb⟩
          · exact Or.inl h3
          · exact Or.inr ⟨w, by simp [hw], hb⟩

theorem nums_text (zs : List Int) (h0 : zs ≠ []) (h : ∀ z, z ∈ zs → 0 ≤ z ∧ z < 100) : numsOf (joinC 44 (zs.map digs)) = some zs := by
  unfold numsOf
  rw [split_join 44 (zs.map digs) (by simpa using h0) (fun w hw => by
    obtain ⟨z, hz, rfl⟩ := List.mem_map.1 hw
    exact digs_clean z (h z hz) 44 (by simp))]
  have : zs.map digs = (zs.map Int.toNat).map (fun n => Lib.decDigits n) := by rw [List.map_map]; rfl
  rw [this, allOf_map numOf (fun n => Lib.decDigits n) (zs.map Int.toNat) (fun n hn => by
    obtain ⟨z, hz, rfl⟩ := List.mem_map.1 hn
    exact num_dec z.toNat (by have := h z hz; omega))]
  simp only [Option.map_some, Option.some.injEq, List.map_map]
  conv => rhs; rw [← List.map_id zs]
  refine List.map_congr_left fun z hz => ?_
  have := h z hz
  simp; omega

theorem task_text (t : Int × List Int) (h : Small t) : taskOf (taskText t) = some t := by
  obtain ⟨w, zs⟩ := t
  obtain ⟨hw, hz⟩ := h
  simp only at hw hz
  have hc := digs_clean w hw 60 (by simp)
  have hn := num_digs w hw
  have hwn : ((w.toNat : Nat) : Int) = w := by omega
  unfold taskOf taskText
  by_cases h0 : zs = []
  · subst h0
    simp only [↓reduceIte, List.append_nil]
    rw [cutB_clean 60 _ hc]
    simp [hn, hwn]
  · simp only [h0, ↓reduceIte]
    rw [cutB_at 60 _ _ hc]
    simp only [hn, ↓reduceIte]
    rw [nums_text zs h0 hz]
    simp [hwn]

theorem taskText_clean (t : Int × List Int) (h : Small t) : (32 : UInt8) ∉ taskText t := by
  obtain ⟨w, zs⟩ := t
  obtain ⟨hw, hz⟩ := h
  intro hm
  unfold taskText at hm
  rcases List.mem_append.1 hm with h1 | h1
  · exact digs_clean w hw 32 (by simp) h1
  · by_cases h0 : zs = []
    · simp [h0] at h1
    · simp only [h0, ↓reduceIte] at h1
      rcases List.mem_cons.1 h1 with h2 | h2
      · simp at h2
      · rcases joinC_mem 44 32 _ h2 with h3 | ⟨x, hx, hb⟩
        · simp at h3
        · obtain ⟨z, hzz, rfl⟩ := List.mem_map.1 hx
          exact digs_clean z (hz z hzz) 32 (by simp) hb

theorem dec_ne_nil (n : Nat) : Lib.decDigits n ≠ [] := by
  unfold Lib.decDigits
  split <;> simp

theorem taskText_ne (t : Int × List Int) : taskText t ≠ [] := by
  unfold taskText digs
  intro h
  exact dec_ne_nil _ (List.append_eq_nil_iff.1 h).1

theorem planText_ne (ts : List (Int × List Int)) (h : ts ≠ []) : planText ts ≠ [] := by
  cases ts with
  | nil => exact absurd rfl h
  | cons t r =>
    cases r with
    | nil => exact taskText_ne t
    | cons u us =>
      show taskText t ++ 32 :: joinC 32 ((u :: us).map taskText) ≠ []
      simp

/-- A plan's text, read, is the plan. -/
theorem tasks_text (ts : List (Int × List Int)) (h : ∀ t, t ∈ ts → Small t) : tasksOf (planText ts) = some ts := by
  unfold tasksOf
  by_cases h0 : ts = []
  · subst h0; rfl
  · rw [if_neg (planText_ne ts h0)]
    unfold planText
    rw [split_join 32 _ (by simpa using h0) (fun w hw => by
      obtain ⟨t, ht, rfl⟩ := List.mem_map.1 hw
      exact taskText_clean t (h t ht))]
    exact allOf_map taskOf taskText ts (fun t ht => task_text t (h t ht))

theorem nums_back (l : List UInt8) (zs : List Int) (h : numsOf l = some zs) : zs ≠ [] ∧ joinC 44 (zs.map digs) = l := by
  unfold numsOf at h
  obtain ⟨ns, hn, rfl⟩ := Option.map_eq_some_iff.1 h
  have hs := allOf_inv numOf (fun n => Lib.decDigits n) num_inv _ _ hn
  refine ⟨fun e => ?_, ?_⟩
  · have : ns = [] := by simpa using e
    rw [this] at hs
    exact splitC_ne 44 l (by simpa using hs)
  · conv => rhs; rw [← join_split 44 l, hs]
    rw [List.map_map]
    congr 1

theorem task_back (l : List UInt8) (t : Int × List Int) (h : taskOf l = some t) : taskText t = l := by
  unfold taskOf at h
  cases hn : numOf (cutB 60 l).1 with
  | none => simp [hn] at h
  | some w =>
    rw [hn] at h
    simp only at h
    have hw := num_inv _ _ hn
    cases hf : (cutB 60 l).2.2 with
    | false =>
      rw [hf] at h
      simp at h
      subst h
      unfold taskText
      simp only [↓reduceIte, List.append_nil]
      rw [← (cutB_none 60 l hf).1, hw]
      rfl
    | true =>
      rw [hf] at h
      simp only [↓reduceIte, Option.map_eq_some_iff] at h
      obtain ⟨zs, hz, rfl⟩ := h
      obtain ⟨h0, hj⟩ := nums_back _ _ hz
      unfold taskText
      simp only [h0, ↓reduceIte]
      rw [hj]
      conv => rhs; rw [cutB_back 60 l hf]
      rw [hw]
      rfl

/-- A text that is read, written, is the text. -/
theorem tasks_back (l : List UInt8) (ts : List (Int × List Int)) (h : tasksOf l = some ts) : planText ts = l := by
  unfold tasksOf at h
  by_cases h0 : l = []
  · rw [if_pos h0] at h
    simp at h; subst h; rw [h0]; rfl
  · rw [if_neg h0] at h
    have hs := allOf_inv taskOf taskText (fun x y hxy => (task_back x y hxy).symm) _ _ h
    unfold planText
    rw [← hs, join_split]
end Go.Proofs.YtlfbdjeojgbniaaGreatDoor

namespace Go.Proofs.YtlfbdjeojgbniaaGreatDoor
open Go

/-- The words of deeds. -/
def wordD (a : Int) : List UInt8 :=
  if a = 1 then [116, 111, 111, 107] else if a = 2 then [115, 116, 111, 108, 101] else if a = 3 then [102, 101, 116, 99, 104, 101, 100]
  else if a = 4 then [102, 105, 110, 105, 115, 104, 101, 100] else if a = 5 then [115, 108, 101, 112, 116] else [119, 111, 107, 101]
def whatD (w : List UInt8) : Int :=
  if w = [116, 111, 111, 107] then 1 else if w = [115, 116, 111, 108, 101] then 2 else if w = [102, 101, 116, 99, 104, 101, 100] then 3
  else if w = [102, 105, 110, 105, 115, 104, 101, 100] then 4 else if w = [115, 108, 101, 112, 116] then 5 else if w = [119, 111, 107, 101] then 6 else 0
theorem six {a : Int} (h : 1 ≤ a ∧ a ≤ 6) : a = 1 ∨ a = 2 ∨ a = 3 ∨ a = 4 ∨ a = 5 ∨ a = 6 := by omega
theorem what_word {a : Int} (h : 1 ≤ a ∧ a ≤ 6) : whatD (wordD a) = a := by
  rcases six h with rfl | rfl | rfl | rfl | rfl | rfl <;> decide
theorem whatD_cases (w : List UInt8) : whatD w = 0 ∨ ((1 ≤ whatD w ∧ whatD w ≤ 6) ∧ wordD (whatD w) = w) := by
  unfold whatD
  split
  · rename_i h; exact Or.inr ⟨by omega, h.symm⟩
  · split
    · rename_i h; exact Or.inr ⟨by omega, h.symm⟩
    · split
      · rename_i h; exact Or.inr ⟨by omega, h.symm⟩
      · split
        · rename_i h; exact Or.inr ⟨by omega, h.symm⟩
        · split
          · rename_i h; exact Or.inr ⟨by omega, h.symm⟩
          · split
            · rename_i h; exact Or.inr ⟨by omega, h.symm⟩
            · exact Or.inl rfl
theorem word_clean {a : Int} (h : 1 ≤ a ∧ a ≤ 6) : (32 : UInt8) ∉ wordD a ∧ (10 : UInt8) ∉ wordD a := by
  rcases six h with rfl | rfl | rfl | rfl | rfl | rfl <;> decide
/-- A number of at most two digits. -/
def num2 (l : List UInt8) : Option Nat := if 2 < l.length then none else numOf l
theorem digs_len {z : Int} (h : 0 ≤ z ∧ z < 100) : (digs z).length ≤ 2 := by
  unfold digs
  by_cases h1 : z.toNat < 10
  · rw [dec_small _ h1]; simp
  · rw [dec_two _ (by omega) (by omega)]; simp
theorem num2_digs {z : Int} (h : 0 ≤ z ∧ z < 100) : num2 (digs z) = some z.toNat := by
  unfold num2
  have := digs_len h
  rw [if_neg (by omega)]
  exact num_digs z h
theorem num2_inv {l : List UInt8} {n : Nat} (h : num2 l = some n) : l = digs (n : Int) := by
  unfold num2 at h
  split at h
  · cases h
  · rw [num_inv l n h]
    unfold digs
    rw [Int.toNat_natCast]
theorem dig_ten {d : Nat} (h : d < 10) : UInt8.ofNat (48 + d) ≠ 10 := by
  intro e
  have h1 : (UInt8.ofNat (48 + d)).toNat = 48 + d := by rw [UInt8.toNat_ofNat']; omega
  rw [e] at h1
  simp at h1
  omega
theorem digs_ten {z : Int} (h : 0 ≤ z ∧ z < 100) : (10 : UInt8) ∉ digs z := by
  unfold digs
  by_cases h1 : z.toNat < 10
  · rw [dec_small _ h1]
    simp only [List.mem_singleton]
    exact fun e => dig_ten h1 e.symm
  · rw [dec_two _ (by omega) (by omega)]
    simp only [List.mem_cons, List.not_mem_nil, or_false, not_or]
    exact ⟨fun e => dig_ten (by omega) e.symm, fun e => dig_ten (by omega) e.symm⟩
/-- The words of a deed's line. -/
def deedWs (d : Deed) : List (List UInt8) :=
  if 4 < d.1 then [wordD d.1, digs d.2.1] else if d.1 = 2 then [wordD d.1, digs d.2.1, digs d.2.2.1, digs d.2.2.2] else [wordD d.1, digs d.2.1, digs d.2.2.1]
def deedText (d : Deed) : List UInt8 := joinC 32 (deedWs d)
def deedsText (l : List Deed) : List UInt8 := l.flatMap (fun d => deedText d ++ [10])
/-- A deed of a line. -/
def deedOf (l : List UInt8) : Option Deed :=
  match splitC 32 l with
  | [w, h] => if 4 < whatD w then (num2 h).map (fun (h : Nat) => (whatD w, (h : Int), 0, 0)) else none
  | [w, h, t] => if whatD w = 1 ∨ whatD w = 3 ∨ whatD w = 4 then (num2 h).bind (fun (h : Nat) => (num2 t).map (fun (t : Nat) => (whatD w, (h : Int), (t : Int), 0))) else none
  | [w, h, t, o] => if whatD w = 2 then (num2 h).bind (fun (h : Nat) => (num2 t).bind (fun (t : Nat) => (num2 o).map (fun (o : Nat) => (2, (h : Int), (t : Int), (o : Int))))) else none
  | _ => none
def deedsOf (t : List UInt8) : Option (List Deed) := if (splitC 10 t).getLast? = some [] then allOf deedOf (splitC 10 t).dropLast else none
theorem deedE_zero {d : Deed} (h : deedE d = 0) : (1 ≤ d.1 ∧ d.1 ≤ 6) ∧ (0 ≤ d.2.1 ∧ d.2.1 ≤ 5) ∧ (0 ≤ d.2.2.1 ∧ d.2.2.1 ≤ 29) ∧ (d.1 = 2 → 0 ≤ d.2.2.2 ∧ d.2.2.2 ≤ 5) ∧ (d.1 ≠ 2 → d.2.2.2 = 0) ∧ (4 < d.1 → d.2.2.1 = 0) := by
  unfold deedE at h
  split at h
  · omega
  · split at h
    · omega
    · omega
theorem deedWs_clean {d : Deed} (h : deedE d = 0) {c : UInt8} (hc : c = 32 ∨ c = 10) : ∀ w, w ∈ deedWs d → c ∉ w := by
  obtain ⟨h1, h2, h3, h4, -, -⟩ := deedE_zero h
  have hw := word_clean h1
  have hd : ∀ z : Int, 0 ≤ z ∧ z < 100 → c ∉ digs z := fun z hz => by
    rcases hc with rfl | rfl
    · exact digs_clean z hz 32 (Or.inl rfl)
    · exact digs_ten hz
  have hw2 : c ∉ wordD d.1 := by
    rcases hc with rfl | rfl
    · exact hw.1
    · exact hw.2
  intro w hm
  unfold deedWs at hm
  split at hm
  · simp only [List.mem_cons, List.not_mem_nil, or_false] at hm
    rcases hm with rfl | rfl
    · exact hw2
    · exact hd _ (by omega)
  · split at hm
    · rename_i h2'
      have := h4 h2'
      simp only [List.mem_cons, List.not_mem_nil, or_false] at hm
      rcases hm with rfl | rfl | rfl | rfl
      · exact hw2
      · exact hd _ (by omega)
      · exact hd _ (by omega)
      · exact hd _ (by omega)
    · simp only [List.mem_cons, List.not_mem_nil, or_false] at hm
      rcases hm with rfl | rfl | rfl
      · exact hw2
      · exact hd _ (by omega)
      · exact hd _ (by omega)
theorem deedWs_ne (d : Deed) : deedWs d ≠ [] := by
  unfold deedWs
  split
  · simp
  · split <;> simp
theorem deed_text {d : Deed} (h : deedE d = 0) : deedOf (deedText d) = some d := by
  obtain ⟨a, b, c, o⟩ := d
  obtain ⟨h1, h2, h3, h4, h5, h6⟩ := deedE_zero h
  dsimp only at h1 h2 h3 h4 h5 h6
  unfold deedOf deedText
  rw [split_join 32 _ (deedWs_ne _) (deedWs_clean h (Or.inl rfl))]
  unfold deedWs
  dsimp only
  have eb : ((b.toNat : Nat) : Int) = b := Int.toNat_of_nonneg h2.1
  have ec : ((c.toNat : Nat) : Int) = c := Int.toNat_of_nonneg h3.1
  by_cases e4 : 4 < a
  · rw [if_pos e4]
    dsimp only
    rw [what_word h1, if_pos e4, num2_digs (by omega), h6 e4, h5 (by omega)]
    simp [eb]
  · rw [if_neg e4]
    by_cases e2 : a = 2
    · subst e2
      have eo : ((o.toNat : Nat) : Int) = o := Int.toNat_of_nonneg (h4 rfl).1
      have := h4 rfl
      rw [if_pos rfl]
      dsimp only
      rw [what_word h1, if_pos rfl, num2_digs (by omega), num2_digs (by omega), num2_digs (by omega)]
      simp [eb, ec, eo]
    · rw [if_neg e2]
      dsimp only
      rw [what_word h1, if_pos (by omega), num2_digs (by omega), num2_digs (by omega), h5 e2]
      simp [eb, ec]
theorem deed_back {l : List UInt8} {d : Deed} (h : deedOf l = some d) : deedText d = l := by
  have hj := join_split 32 l
  unfold deedOf at h
  split at h
  · rename_i w x hs
    split at h
    · rename_i h4
      obtain ⟨n, hn, rfl⟩ := Option.map_eq_some_iff.1 h
      rcases whatD_cases w with h0 | ⟨_, hw⟩
      · omega
      · unfold deedText deedWs
        dsimp only
        rw [if_pos h4, hw, ← num2_inv hn, ← hs, hj]
    · cases h
  · rename_i w x y hs
    split at h
    · rename_i h4
      obtain ⟨n, hn, h⟩ := Option.bind_eq_some_iff.1 h
      obtain ⟨m, hm, rfl⟩ := Option.map_eq_some_iff.1 h
      rcases whatD_cases w with h0 | ⟨_, hw⟩
      · omega
      · unfold deedText deedWs
        dsimp only
        rw [if_neg (by omega), if_neg (by omega), hw, ← num2_inv hn, ← num2_inv hm, ← hs, hj]
    · cases h
  · rename_i w x y z hs
    split at h
    · rename_i h4
      obtain ⟨n, hn, h⟩ := Option.bind_eq_some_iff.1 h
      obtain ⟨m, hm, h⟩ := Option.bind_eq_some_iff.1 h
      obtain ⟨k, hk, rfl⟩ := Option.map_eq_some_iff.1 h
      rcases whatD_cases w with h0 | ⟨_, hw⟩
      · omega
      · unfold deedText deedWs
        dsimp only
        rw [if_neg (by omega), if_pos rfl]
        rw [h4] at hw
        rw [hw, ← num2_inv hn, ← num2_inv hm, ← num2_inv hk, ← hs, hj]
    · cases h
  · cases h
theorem deedText_ten {d : Deed} (h : deedE d = 0) : (10 : UInt8) ∉ deedText d := by
  intro hm
  rcases joinC_mem 32 10 _ hm with e | ⟨w, hw, hb⟩
  · exact absurd e (by decide)
  · exact deedWs_clean h (Or.inr rfl) w hw hb
theorem split_deeds : ∀ (l : List Deed), (∀ d, d ∈ l → deedE d = 0) → splitC 10 (deedsText l) = l.map deedText ++ [[]] := by
  intro l
  induction l with
  | nil => intro _; rfl
  | cons d r ih =>
    intro h
    show splitC 10 (deedText d ++ [10] ++ deedsText r) = _
    rw [List.append_assoc]
    show splitC 10 (deedText d ++ 10 :: deedsText r) = _
    rw [splitC_append 10 _ _ (deedText_ten (h d (by simp))), ih (fun x hx => h x (List.mem_cons_of_mem _ hx))]
    rfl
/-- Deeds are read as they were. -/
theorem deeds_text {l : List Deed} (h : ∀ d, d ∈ l → deedE d = 0) : deedsOf (deedsText l) = some l := by
  unfold deedsOf
  rw [split_deeds l h]
  rw [if_pos (by simp), List.dropLast_concat]
  exact allOf_map deedOf deedText l (fun d hd => deed_text (h d hd))
theorem join_lines : ∀ (ws : List (List UInt8)), joinC 10 (ws ++ [[]]) = ws.flatMap (fun w => w ++ [10]) := by
  intro ws
  induction ws with
  | nil => rfl
  | cons w r ih =>
    cases r with
    | nil => simp [joinC]
    | cons x r =>
      show w ++ 10 :: joinC 10 ((x :: r) ++ [[]]) = _
      rw [ih]
      simp
theorem last_of {α : Type} {a : α} : ∀ (l : List α), l.getLast? = some a → l = l.dropLast ++ [a] := by
  intro l
  induction l with
  | nil => intro h; simp at h
  | cons x r ih =>
    intro h
    cases r with
    | nil =>
      have : x = a := by simpa using h
      rw [this]
      rfl
    | cons y r =>
      have h2 : (y :: r).getLast? = some a := by simpa using h
      have := ih h2
      show x :: (y :: r) = x :: ((y :: r).dropLast ++ [a])
      rw [← this]
theorem deeds_back {t : List UInt8} {l : List Deed} (h : deedsOf t = some l) : deedsText l = t := by
  unfold deedsOf at h
  split at h
  · rename_i hl
    have hd := allOf_inv deedOf deedText (fun x y hx => (deed_back hx).symm) _ _ h
    have hs := last_of _ hl
    have hj := join_split 10 t
    rw [hs, join_lines, hd] at hj
    rw [← hj]
    unfold deedsText
    rw [List.flatMap_map]
  · cases h
end Go.Proofs.YtlfbdjeojgbniaaGreatDoor
