/- Plain: deeds that may have been, as chapter 17 says; what a gang tells may have been. No word of the program. -/
import Derived.Test.YtiekhigjllbalaaGreatDoorGngd
namespace Go.Proofs.YtiekhigjllbalaaGreatDoor

/-- What deeds have come to: what each hand has (-1: nothing), who sleeps, what was had, what is done. -/
structure Tr where
  has : Nat → Int
  slp : Nat → Bool
  had : Nat → Bool
  dn : Nat → Bool
def trNew : Tr := ⟨fun _ => -1, fun _ => false, fun _ => false, fun _ => false⟩
/-- What is wrong with a deed by itself. -/
def deedE (d : Deed) : Int :=
  if d.1 < 1 ∨ 6 < d.1 ∨ d.2.1 < 0 ∨ 5 < d.2.1 ∨ d.2.2.1 < 0 ∨ 29 < d.2.2.1 ∨ (d.1 = 2 ∧ (d.2.2.2 < 0 ∨ 5 < d.2.2.2)) then 1
  else if (d.1 ≠ 2 ∧ d.2.2.2 ≠ 0) ∨ (4 < d.1 ∧ d.2.2.1 ≠ 0) then 3 else 0
/-- What is wrong with a deed, behind others. -/
def trErr (ts : List (Int × List Int)) (hands : Nat) (s : Tr) (d : Deed) : Int :=
  if (hands : Int) ≤ d.2.1 ∨ (hands : Int) ≤ d.2.2.2 ∨ (d.1 < 5 ∧ (ts.length : Int) ≤ d.2.2.1) then 1
  else if d.1 < 4 then
    if 0 ≤ s.has d.2.1.toNat ∨ s.had d.2.2.1.toNat = true then 7
    else if s.slp d.2.1.toNat = true ∨ (needsOf ts d.2.2.1.toNat).any (fun y => !s.dn y.toNat) = true then 6
    else if d.1 = 2 ∧ d.2.2.2 = d.2.1 then 3 else 0
  else if d.1 = 4 then (if s.has d.2.1.toNat = d.2.2.1 then 0 else 6)
  else if d.1 = 5 then (if 0 ≤ s.has d.2.1.toNat ∨ s.slp d.2.1.toNat = true then 6 else 0)
  else if s.slp d.2.1.toNat = true then 0 else 6
def trNext (s : Tr) (d : Deed) : Tr :=
  if d.1 < 4 then { s with has := upd s.has d.2.1.toNat d.2.2.1, had := mark s.had d.2.2.1.toNat }
  else if d.1 = 4 then { s with has := upd s.has d.2.1.toNat (-1), dn := mark s.dn d.2.2.1.toNat }
  else if d.1 = 5 then { s with slp := upd s.slp d.2.1.toNat true }
  else { s with slp := upd s.slp d.2.1.toNat false }
def trErrs (ts : List (Int × List Int)) (hands : Nat) : Tr → List Deed → Int
  | _, [] => 0
  | s, d :: r => if trErr ts hands s d = 0 then trErrs ts hands (trNext s d) r else trErr ts hands s d
def trEnd (s : Tr) (l : List Deed) : Tr := l.foldl trNext s
theorem trErrs_append {ts : List (Int × List Int)} {hands : Nat} : ∀ (l m : List Deed) (s : Tr), trErrs ts hands s l = 0 → trErrs ts hands s (l ++ m) = trErrs ts hands (trEnd s l) m := by
  intro l
  induction l with
  | nil => intro m s _; rfl
  | cons d r ih =>
    intro m s h
    unfold trErrs at h
    by_cases h0 : trErr ts hands s d = 0
    · rw [if_pos h0] at h
      rw [List.cons_append, trErrs, if_pos h0]
      exact ih m (trNext s d) h
    · rw [if_neg h0] at h
      exact absurd h h0
/-- Of deeds that may have been a beginning may have been. -/
theorem trErrs_take {ts : List (Int × List Int)} {hands : Nat} : ∀ (l : List Deed) (s : Tr) (k : Nat), trErrs ts hands s l = 0 → trErrs ts hands s (l.take k) = 0 := by
  intro l
  induction l with
  | nil => intro s k _; simp [trErrs]
  | cons d r ih =>
    intro s k h
    cases k with
    | zero => rfl
    | succ k =>
      rw [List.take_succ_cons, trErrs]
      unfold trErrs at h
      by_cases h0 : trErr ts hands s d = 0
      · rw [if_pos h0] at h ⊢
        exact ih _ _ h
      · rw [if_neg h0] at h
        exact absurd h h0
/-- What deeds have come to is what the gang is. -/
structure TI (hands : Nat) (g : Gs) (s : Tr) : Prop where
  has : ∀ h, h < hands → s.has h = g.task h
  slp : ∀ h : Nat, h < hands → (s.slp h = true ↔ ((h : Nat) : Int) ∈ g.zz)
  dn : ∀ i, s.dn i = g.S i
  had : ∀ i : Nat, s.had i = true → g.S i = true ∨ ∃ h, h < hands ∧ g.task h = ((i : Nat) : Int)
theorem TI.new (hands : Nat) (ts : List (Int × List Int)) : TI hands (gnew ts) trNew := ⟨fun _ _ => rfl, fun h _ => by simp [trNew, gnew], fun _ => rfl, fun _ h => by simp [trNew] at h⟩

variable {ts : List (Int × List Int)} {room hands : Nat} {g : Gs}
theorem ofAll_disj {n : Nat} (hd : (ofAll g n).Nodup) {h k : Nat} (hh : h < n) (hk : k < n) (hne : h ≠ k) {x : Int} (h1 : x ∈ ofH g h) (h2 : x ∈ ofH g k) : False := by
  induction n with
  | zero => omega
  | succ n ih =>
    rw [ofAll] at hd
    obtain ⟨a1, a2, a3⟩ := List.nodup_append.1 hd
    by_cases e1 : h = n
    · subst e1
      exact a3 x (mem_ofAll.2 ⟨k, by omega, h2⟩) x h1 rfl
    · by_cases e2 : k = n
      · subst e2
        exact a3 x (mem_ofAll.2 ⟨h, by omega, h1⟩) x h2 rfl
      · exact ih a1 (by omega) (by omega)
theorem Inv.tasks (hI : Inv ts room hands g) {h k : Nat} (hh : h < hands) (hk : k < hands) (ht : 0 ≤ g.task h) (he : g.task k = g.task h) : k = h := by
  apply Classical.byContradiction
  intro hne
  have hd := (List.nodup_append.1 hI.nodup).1
  exact ofAll_disj (x := g.task h) hd hh hk (fun e => hne e.symm) (by simp [ofH, oneT_some ht]) (by rw [← he]; simp [ofH, oneT_some (he ▸ ht)])
/-- A hand begins with a task. -/
theorem TI.took {s : Tr} (hT : TI hands g s) {g' : Gs} (hI' : Inv ts room hands g') {h : Nat} (hh : h < hands) (hz : (h : Int) ∉ g.zz) (ht : ¬ 0 ≤ g.task h) (hS : g'.S = g.S) (hzz : g'.zz = g.zz) (hoth : ∀ k, k ≠ h → g'.task k = g.task k) (hi : 0 ≤ g'.task h)
    (a o : Int) (ha : 1 ≤ a ∧ a ≤ 3) (ho : (a = 2 → o ≠ (h : Int)) ∧ o < (hands : Int)) :
    trErr ts hands s (a, (h : Int), g'.task h, o) = 0 ∧ TI hands g' (trNext s (a, (h : Int), g'.task h, o)) := by
  obtain ⟨i, he, hil, hrb⟩ := hI'.rdy (held_task hh hi)
  unfold readyB at hrb
  rw [Bool.and_eq_true] at hrb
  have hSi : g.S i = false := by rw [← hS]; simpa using hrb.1
  have hms := missN_zero.1 (of_decide_eq_true hrb.2)
  have hhad : s.had i = false := by
    cases e : s.had i with
    | false => rfl
    | true =>
      rcases hT.had i e with h1 | ⟨k, hk, h1⟩
      · rw [hSi] at h1; cases h1
      · exfalso
        by_cases ek : k = h
        · subst ek; omega
        · have hk' := hoth k ek
          exact ek (hI'.tasks hh hk hi (by rw [hk', h1, he]))
  have hsl : s.slp h = false := by
    cases e : s.slp h with
    | false => rfl
    | true => exact absurd ((hT.slp h hh).1 e) hz
  have hfree : (needsOf ts i).any (fun y => !s.dn y.toNat) = false := by
    rw [List.any_eq_false]
    intro y hy
    rw [hT.dn, ← hS, hms y hy]
    simp
  constructor
  · unfold trErr
    dsimp only
    rw [he, Int.toNat_natCast, Int.toNat_natCast, if_neg (by omega), if_pos (by omega), if_neg, if_neg, if_neg]
    · intro hc; exact ho.1 hc.1 hc.2
    · rw [hsl, hfree]; simp
    · rw [hT.has h hh, hhad]; simp; omega
  · unfold trNext
    dsimp only
    rw [if_pos (by omega), he, Int.toNat_natCast, Int.toNat_natCast]
    refine ⟨fun k hk => ?_, fun k hk => ?_, fun j => ?_, fun j hj => ?_⟩
    · dsimp only
      by_cases e : k = h
      · subst e; rw [upd_self, he]
      · rw [upd_ne _ _ e, hoth k e, hT.has k hk]
    · dsimp only
      rw [hzz]
      exact hT.slp k hk
    · dsimp only
      rw [hS]
      exact hT.dn j
    · dsimp only at hj
      unfold mark at hj
      split at hj
      · rename_i e
        exact Or.inr ⟨h, hh, by rw [he, e]⟩
      · rcases hT.had j hj with h1 | ⟨k, hk, h1⟩
        · left; rw [hS]; exact h1
        · right
          refine ⟨k, hk, ?_⟩
          by_cases e : k = h
          · subst e; omega
          · rw [hoth k e]; exact h1
end Go.Proofs.YtiekhigjllbalaaGreatDoor
