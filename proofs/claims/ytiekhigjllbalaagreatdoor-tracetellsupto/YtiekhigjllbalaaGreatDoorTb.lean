/- Plain: of deeds that may have been as many tasks were had as were taken, stolen and fetched, no more finished, and no more woke than slept; a line for each. No word of the program. -/
import Derived.Test.YtiekhigjllbalaaGreatDoorTa
namespace Go.Proofs.YtiekhigjllbalaaGreatDoor
open Go

def cntN (p : Nat → Bool) : Nat → Nat
  | 0 => 0
  | n + 1 => cntN p n + if p n then 1 else 0
theorem cntN_le (p : Nat → Bool) (n : Nat) : cntN p n ≤ n := by
  induction n with
  | zero => exact Nat.le_refl _
  | succ n ih => show cntN p n + _ ≤ _; split <;> omega
theorem cntN_congr {p q : Nat → Bool} {n : Nat} (h : ∀ i, i < n → p i = q i) : cntN p n = cntN q n := by
  induction n with
  | zero => rfl
  | succ n ih => show cntN p n + _ = cntN q n + _; rw [ih (fun i hi => h i (by omega)), h n (by omega)]
theorem cntN_one {p q : Nat → Bool} {n i : Nat} (hi : i < n) (h : ∀ k, k ≠ i → p k = q k) : cntN p n + (if q i then 1 else 0) = cntN q n + if p i then 1 else 0 := by
  induction n with
  | zero => omega
  | succ n ih =>
    show cntN p n + _ + _ = cntN q n + _ + _
    by_cases e : n = i
    · subst e
      rw [cntN_congr (p := p) (q := q) (fun k hk => h k (by omega))]
      omega
    · have := ih (by omega)
      rw [h n e]
      omega
/-- How many deeds of a kind there are. -/
def cntD (a : Int) (l : List Deed) : Nat := (l.filter (fun d => decide (d.1 = a))).length
theorem cntD_cons (a : Int) (d : Deed) (l : List Deed) : cntD a (d :: l) = cntD a l + if d.1 = a then 1 else 0 := by
  unfold cntD
  rw [List.filter_cons]
  by_cases h : d.1 = a
  · rw [if_pos (by simp [h]), if_pos h]; rfl
  · rw [if_neg (by simp [h]), if_neg h]; rfl
/-- What has been counted. -/
structure TC (ts : List (Int × List Int)) (hands : Nat) (s : Tr) (a f sl wk : Nat) : Prop where
  had : cntN s.had ts.length = a
  fin : f + cntN (fun h => decide (0 ≤ s.has h)) hands = a
  slp : wk + cntN s.slp hands = sl
theorem TC.new (ts : List (Int × List Int)) (hands : Nat) : TC ts hands trNew 0 0 0 0 := by
  have h1 : ∀ n, cntN (fun _ => false) n = 0 := fun n => by
    induction n with
    | zero => rfl
    | succ n ih => show cntN _ n + _ = 0; rw [ih]; rfl
  exact ⟨h1 _, by rw [show (fun h => decide (0 ≤ trNew.has h)) = (fun _ => false) from funext (fun _ => rfl), h1], by rw [show trNew.slp = (fun _ => false) from rfl, h1]⟩
theorem TC.step {ts : List (Int × List Int)} {hands : Nat} {s : Tr} {a f sl wk : Nat} (h : TC ts hands s a f sl wk) {d : Deed} (hd : deedE d = 0) (he : trErr ts hands s d = 0) :
    TC ts hands (trNext s d) (a + if d.1 < 4 then 1 else 0) (f + if d.1 = 4 then 1 else 0) (sl + if d.1 = 5 then 1 else 0) (wk + if d.1 = 6 then 1 else 0) := by
  obtain ⟨h1, h2, h3, -, -, -⟩ := deedE_zero hd
  obtain ⟨w, b, c, o⟩ := d
  dsimp only at h1 h2 h3 ⊢
  obtain ⟨x, rfl⟩ := Int.eq_ofNat_of_zero_le h2.1
  obtain ⟨y, rfl⟩ := Int.eq_ofNat_of_zero_le h3.1
  unfold trErr at he
  dsimp only at he
  rw [Int.toNat_natCast, Int.toNat_natCast] at he
  unfold trNext
  dsimp only
  rw [Int.toNat_natCast, Int.toNat_natCast]
  split at he
  · omega
  · rename_i hr
    have hx : x < hands := by omega
    by_cases e3 : w < 4
    · rw [if_pos e3] at he ⊢
      have hy : y < ts.length := by omega
      rw [if_pos e3, if_neg (by omega), if_neg (by omega), if_neg (by omega)]
      split at he
      · omega
      · rename_i hh
        have hh1 : ¬ 0 ≤ s.has x := fun e => hh (Or.inl e)
        have hh2 : s.had y = false := by
          cases e : s.had y with
          | false => rfl
          | true => exact absurd (Or.inr e) hh
        have k1 := cntN_one (p := mark s.had y) (q := s.had) hy (fun k hk => by unfold mark; rw [if_neg hk])
        have k2 := cntN_one (p := fun h => decide (0 ≤ upd s.has x (y : Int) h)) (q := fun h => decide (0 ≤ s.has h)) hx (fun k hk => by rw [upd_ne _ _ hk])
        rw [hh2, show mark s.had y y = true from by unfold mark; rw [if_pos rfl]] at k1
        rw [decide_eq_false hh1, show decide (0 ≤ upd s.has x (y : Int) x) = true from by rw [upd_self]; simp] at k2
        simp at k1 k2
        have a1 := h.had
        have a2 := h.fin
        refine ⟨by show cntN (mark s.had y) _ = _; omega, ?_, h.slp⟩
        show f + 0 + cntN (fun h => decide (0 ≤ upd s.has x (y : Int) h)) hands = _
        omega
    · rw [if_neg e3] at he ⊢
      rw [if_neg e3]
      by_cases e4 : w = 4
      · rw [if_pos e4] at he ⊢
        rw [if_pos e4, if_neg (by omega), if_neg (by omega)]
        split at he
        · rename_i hh
          have k2 := cntN_one (p := fun h => decide (0 ≤ upd s.has x (-1) h)) (q := fun h => decide (0 ≤ s.has h)) hx (fun k hk => by rw [upd_ne _ _ hk])
          rw [show decide (0 ≤ s.has x) = true from by rw [hh]; simp, show decide (0 ≤ upd s.has x (-1) x) = false from by rw [upd_self]; rfl] at k2
          simp at k2
          have a2 := h.fin
          refine ⟨h.had, ?_, h.slp⟩
          have goal : f + 1 + cntN (fun h => decide (0 ≤ upd s.has x (-1) h)) hands = a := by omega
          exact goal
        · omega
      · rw [if_neg e4] at he ⊢
        rw [if_neg e4]
        by_cases e5 : w = 5
        · rw [if_pos e5] at he ⊢
          rw [if_pos e5, if_neg (by omega)]
          split at he
          · omega
          · rename_i hh
            have hh2 : s.slp x = false := by
              cases e : s.slp x with
              | false => rfl
              | true => exact absurd (Or.inr e) hh
            have k1 := cntN_one (p := upd s.slp x true) (q := s.slp) hx (fun k hk => upd_ne _ _ hk)
            rw [hh2, upd_self] at k1
            simp at k1
            have a3 := h.slp
            refine ⟨h.had, h.fin, ?_⟩
            show wk + 0 + cntN (upd s.slp x true) hands = _
            omega
        · rw [if_neg e5] at he ⊢
          rw [if_neg e5, if_pos (by omega)]
          split at he
          · rename_i hh
            have k1 := cntN_one (p := upd s.slp x false) (q := s.slp) hx (fun k hk => upd_ne _ _ hk)
            rw [hh, upd_self] at k1
            simp at k1
            have a3 := h.slp
            refine ⟨h.had, h.fin, ?_⟩
            show wk + 1 + cntN (upd s.slp x false) hands = _
            omega
          · omega
theorem TC.all {ts : List (Int × List Int)} {hands : Nat} : ∀ (l : List Deed) {s : Tr} {a f sl wk : Nat}, TC ts hands s a f sl wk → (∀ d, d ∈ l → deedE d = 0) → trErrs ts hands s l = 0 →
    TC ts hands (trEnd s l) (a + (cntD 1 l + cntD 2 l + cntD 3 l)) (f + cntD 4 l) (sl + cntD 5 l) (wk + cntD 6 l) := by
  intro l
  induction l with
  | nil => intro s a f sl wk h _ _; exact h
  | cons d r ih =>
    intro s a f sl wk h hd he
    unfold trErrs at he
    by_cases h0 : trErr ts hands s d = 0
    · rw [if_pos h0] at he
      have hs := ih (h.step (hd d (by simp)) h0) (fun x hx => hd x (List.mem_cons_of_mem _ hx)) he
      obtain ⟨h1, -⟩ := deedE_zero (hd d (by simp))
      have e1 : a + (cntD 1 (d :: r) + cntD 2 (d :: r) + cntD 3 (d :: r)) = a + (if d.1 < 4 then 1 else 0) + (cntD 1 r + cntD 2 r + cntD 3 r) := by
        rw [cntD_cons, cntD_cons, cntD_cons]
        rcases six h1 with e | e | e | e | e | e <;> rw [e] <;> simp <;> omega
      rw [e1, cntD_cons 4, cntD_cons 5, cntD_cons 6]
      have e2 : ∀ n k : Nat, ∀ c : Int, n + (k + if d.1 = c then 1 else 0) = n + (if d.1 = c then 1 else 0) + k := fun n k c => by omega
      rw [e2, e2, e2]
      exact hs
    · rw [if_neg h0] at he
      exact absurd he h0
/-- What TraceBack says of counts. -/
theorem counts_right {ts : List (Int × List Int)} {hands : Nat} {l : List Deed} (hd : ∀ d, d ∈ l → deedE d = 0) (he : trErrs ts hands trNew l = 0) :
    cntD 1 l + cntD 2 l + cntD 3 l ≤ ts.length ∧ cntD 4 l ≤ cntD 1 l + cntD 2 l + cntD 3 l ∧ cntD 6 l ≤ cntD 5 l := by
  obtain ⟨h1, h2, h3⟩ := (TC.new ts hands).all l hd he
  have := cntN_le (trEnd trNew l).had ts.length
  omega
/-- A line for each. -/
theorem lines_many {l : List Deed} (h : ∀ d, d ∈ l → deedE d = 0) : (splitC 10 (deedsText l)).length = l.length + 1 := by
  rw [split_deeds l h]
  simp
end Go.Proofs.YtiekhigjllbalaaGreatDoor
