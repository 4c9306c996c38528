/- Plain: deeds that may have been, as chapter 17 says; what a gang tells may have been. No word of the program. Plain: whatever a gang does, step by step, what it tells may have been. No word of the program. -/
import Derived.Test.YtandhiiaflhenaaGreatDoorGnp

namespace Go.Proofs.YtandhiiaflhenaaGreatDoor

/-- What deeds have come to: what each hand has (-1: nothing), who sleeps, what was had, what is done. -/
structure Tr where
  has : Nat → Int
  slp : Nat → Bool
  had : Nat → Bool
  dn : Nat → Bool
def trNew : Tr := ⟨fun _ => -1, fun _ => false, fun _ => false, fun _ => false⟩
/-- What is wrong with a deed by itself. -/
def deedE (d : Deed) : Int :=
  if d.1 < 1 ∨ 6 < d.1 ∨ d.2.1 < 0 ∨ 5 < d.2.1 ∨ d.2.2.1 < 0 ∨ 29 < d.2.2.1 ∨ (d.1 = 2 ∧ (d.2.2.2 < 0 ∨ 5 < d.2.2.2)) then 1
  else if (d.1 ≠ 2 ∧ d.2.2.2 ≠ 0) ∨ (4 < d.1 ∧ d.2.2.1 ≠ 0) then 3 else 0
/-- What is wrong with a deed, behind others. -/
def trErr (ts : List (Int × List Int)) (hands : Nat) (s : Tr) (d : Deed) : Int :=
  if (hands : Int) ≤ d.2.1 ∨ (hands : Int) ≤ d.2.2.2 ∨ (d.1 < 5 ∧ (ts.length : Int) ≤ d.2.2.1) then 1
  else if d.1 < 4 then
    if 0 ≤ s.has d.2.1.toNat ∨ s.had d.2.2.1.toNat = true then 7
    else if s.slp d.2.1.toNat = true ∨ (needsOf ts d.2.2.1.toNat).any (fun y => !s.dn y.toNat) = true then 6
    else if d.1 = 2 ∧ d.2.2.2 = d.2.1 then 3 else 0
  else if d.1 = 4 then (if s.has d.2.1.toNat = d.2.2.1 then 0 else 6)
  else if d.1 = 5 then (if 0 ≤ s.has d.2.1.toNat ∨ s.slp d.2.1.toNat = true then 6 else 0)
  else if s.slp d.2.1.toNat = true then 0 else 6
def trNext (s : Tr) (d : Deed) : Tr :=
  if d.1 < 4 then { s with has := updG s.has d.2.1.toNat d.2.2.1, had := mark s.had d.2.2.1.toNat }
  else if d.1 = 4 then { s with has := updG s.has d.2.1.toNat (-1), dn := mark s.dn d.2.2.1.toNat }
  else if d.1 = 5 then { s with slp := updG s.slp d.2.1.toNat true }
  else { s with slp := updG s.slp d.2.1.toNat false }
def trErrs (ts : List (Int × List Int)) (hands : Nat) : Tr → List Deed → Int
  | _, [] => 0
  | s, d :: r => if trErr ts hands s d = 0 then trErrs ts hands (trNext s d) r else trErr ts hands s d
def trEnd (s : Tr) (l : List Deed) : Tr := l.foldl trNext s
theorem trErrs_append {ts : List (Int × List Int)} {hands : Nat} : ∀ (l m : List Deed) (s : Tr), trErrs ts hands s l = 0 → trErrs ts hands s (l ++ m) = trErrs ts hands (trEnd s l) m := by
  intro l
  induction l with
  | nil => intro m s _; rfl
  | cons d r ih =>
    intro m s h
    unfold trErrs at h
    by_cases h0 : trErr ts hands s d = 0
    · rw [if_pos h0] at h
      rw [List.cons_append, trErrs, if_pos h0]
      exact ih m (trNext s d) h
    · rw [if_neg h0] at h
      exact absurd h h0
/-- Of deeds that may have been a beginning may have been. -/
theorem trErrs_take {ts : List (Int × List Int)} {hands : Nat} : ∀ (l : List Deed) (s : Tr) (k : Nat), trErrs ts hands s l = 0 → trErrs ts hands s (l.take k) = 0 := by
  intro l
  induction l with
  | nil => intro s k _; simp [trErrs]
  | cons d r ih =>
    intro s k h
    cases k with
    | zero => rfl
    | succ k =>
      rw [List.take_succ_cons, trErrs]
      unfold trErrs at h
      by_cases h0 : trErr ts hands s d = 0
      · rw [if_pos h0] at h ⊢
        exact ih _ _ h
      · rw [if_neg h0] at h
        exact absurd h h0
/-- What deeds have come to is what the gang is. -/
structure TI (hands : Nat) (g : Gs) (s : Tr) : Prop where
  has : ∀ h, h < hands → s.has h = g.task h
  slp : ∀ h : Nat, h < hands → (s.slp h = true ↔ ((h : Nat) : Int) ∈ g.zz)
  dn : ∀ i, s.dn i = g.S i
  had : ∀ i : Nat, s.had i = true → g.S i = true ∨ ∃ h, h < hands ∧ g.task h = ((i : Nat) : Int)
theorem TI.new (hands : Nat) (ts : List (Int × List Int)) : TI hands (gnew ts) trNew := ⟨fun _ _ => rfl, fun h _ => by simp [trNew, gnew], fun _ => rfl, fun _ h => by simp [trNew] at h⟩

variable {ts : List (Int × List Int)} {room hands : Nat} {g : Gs}
theorem ofAll_disj {n : Nat} (hd : (ofAll g n).Nodup) {h k : Nat} (hh : h < n) (hk : k < n) (hne : h ≠ k) {x : Int} (h1 : x ∈ ofH g h) (h2 : x ∈ ofH g k) : False := by
  induction n with
  | zero => omega
  | succ n ih =>
    rw [ofAll] at hd
    obtain ⟨a1, a2, a3⟩ := List.nodup_append.1 hd
    by_cases e1 : h = n
    · subst e1
      exact a3 x (mem_ofAll.2 ⟨k, by omega, h2⟩) x h1 rfl
    · by_cases e2 : k = n
      · subst e2
        exact a3 x (mem_ofAll.2 ⟨h, by omega, h1⟩) x h2 rfl
      · exact ih a1 (by omega) (by omega)
theorem Inv.tasks (hI : Inv ts room hands g) {h k : Nat} (hh : h < hands) (hk : k < hands) (ht : 0 ≤ g.task h) (he : g.task k = g.task h) : k = h := by
  apply Classical.byContradiction
  intro hne
  have hd := (List.nodup_append.1 hI.nodup).1
  exact ofAll_disj (x := g.task h) hd hh hk (fun e => hne e.symm) (by simp [ofH, oneT_some ht]) (by rw [← he]; simp [ofH, oneT_some (he ▸ ht)])
/-- A hand begins with a task. -/
theorem TI.took {s : Tr} (hT : TI hands g s) {g' : Gs} (hI' : Inv ts room hands g') {h : Nat} (hh : h < hands) (hz : (h : Int) ∉ g.zz) (ht : ¬ 0 ≤ g.task h) (hS : g'.S = g.S) (hzz : g'.zz = g.zz) (hoth : ∀ k, k ≠ h → g'.task k = g.task k) (hi : 0 ≤ g'.task h)
    (a o : Int) (ha : 1 ≤ a ∧ a ≤ 3) (ho : (a = 2 → o ≠ (h : Int)) ∧ o < (hands : Int)) :
    trErr ts hands s (a, (h : Int), g'.task h, o) = 0 ∧ TI hands g' (trNext s (a, (h : Int), g'.task h, o)) := by
  obtain ⟨i, he, hil, hrb⟩ := hI'.rdy (held_task hh hi)
  unfold readyB at hrb
  rw [Bool.and_eq_true] at hrb
  have hSi : g.S i = false := by rw [← hS]; simpa using hrb.1
  have hms := missN_zero.1 (of_decide_eq_true hrb.2)
  have hhad : s.had i = false := by
    cases e : s.had i with
    | false => rfl
    | true =>
      rcases hT.had i e with h1 | ⟨k, hk, h1⟩
      · rw [hSi] at h1; cases h1
      · exfalso
        by_cases ek : k = h
        · subst ek; omega
        · have hk' := hoth k ek
          exact ek (hI'.tasks hh hk hi (by rw [hk', h1, he]))
  have hsl : s.slp h = false := by
    cases e : s.slp h with
    | false => rfl
    | true => exact absurd ((hT.slp h hh).1 e) hz
  have hfree : (needsOf ts i).any (fun y => !s.dn y.toNat) = false := by
    rw [List.any_eq_false]
    intro y hy
    rw [hT.dn, ← hS, hms y hy]
    simp
  constructor
  · unfold trErr
    dsimp only
    rw [he, Int.toNat_natCast, Int.toNat_natCast, if_neg (by omega), if_pos (by omega), if_neg, if_neg, if_neg]
    · intro hc; exact ho.1 hc.1 hc.2
    · rw [hsl, hfree]; simp
    · rw [hT.has h hh, hhad]; simp; omega
  · unfold trNext
    dsimp only
    rw [if_pos (by omega), he, Int.toNat_natCast, Int.toNat_natCast]
    refine ⟨fun k hk => ?_, fun k hk => ?_, fun j => ?_, fun j hj => ?_⟩
    · dsimp only
      by_cases e : k = h
      · subst e; rw [updG_self, he]
      · rw [updG_ne _ _ e, hoth k e, hT.has k hk]
    · dsimp only
      rw [hzz]
      exact hT.slp k hk
    · dsimp only
      rw [hS]
      exact hT.dn j
    · dsimp only at hj
      unfold mark at hj
      split at hj
      · rename_i e
        exact Or.inr ⟨h, hh, by rw [he, e]⟩
      · rcases hT.had j hj with h1 | ⟨k, hk, h1⟩
        · left; rw [hS]; exact h1
        · right
          refine ⟨k, hk, ?_⟩
          by_cases e : k = h
          · subst e; omega
          · rw [hoth k e]; exact h1
end Go.Proofs.YtandhiiaflhenaaGreatDoor

namespace Go.Proofs.YtandhiiaflhenaaGreatDoor
variable {ts : List (Int × List Int)} {room hands : Nat} {g : Gs}

/-- Those that sleep first wake. -/
theorem wokes (hh1 : 1 ≤ hands) : ∀ (l r : List Int) (s : Tr), (l ++ r).Nodup → (∀ x, x ∈ l ++ r → ∃ h : Nat, h < hands ∧ x = (h : Int)) → (∀ h : Nat, h < hands → (s.slp h = true ↔ ((h : Nat) : Int) ∈ l ++ r)) →
    trErrs ts hands s (l.map wokeD) = 0 ∧ (∀ h : Nat, h < hands → ((trEnd s (l.map wokeD)).slp h = true ↔ ((h : Nat) : Int) ∈ r)) ∧ (trEnd s (l.map wokeD)).has = s.has ∧ (trEnd s (l.map wokeD)).had = s.had ∧ (trEnd s (l.map wokeD)).dn = s.dn := by
  intro l
  induction l with
  | nil => intro r s _ _ h; exact ⟨rfl, h, rfl, rfl, rfl⟩
  | cons x l ih =>
    intro r s hd hx hs
    obtain ⟨h, hh, rfl⟩ := hx x (by simp)
    have hd2 := List.nodup_cons.1 hd
    have hsl : s.slp h = true := (hs h hh).2 (by simp)
    have e0 : trErr ts hands s (wokeD (h : Int)) = 0 := by
      unfold trErr wokeD
      dsimp only
      rw [Int.toNat_natCast, if_neg (by omega), if_neg (by omega), if_neg (by omega), if_neg (by omega), if_pos hsl]
    have en : trNext s (wokeD (h : Int)) = { s with slp := updG s.slp h false } := by
      unfold trNext wokeD
      dsimp only
      rw [Int.toNat_natCast, if_neg (by omega), if_neg (by omega), if_neg (by omega)]
    have hs2 : ∀ k : Nat, k < hands → (({ s with slp := updG s.slp h false } : Tr).slp k = true ↔ ((k : Nat) : Int) ∈ l ++ r) := fun k hk => by
      dsimp only
      by_cases e : k = h
      · subst e
        rw [updG_self]
        exact ⟨fun h => (by cases h), fun hm => absurd hm hd2.1⟩
      · rw [updG_ne _ _ e, hs k hk, List.cons_append, List.mem_cons]
        constructor
        · rintro (h1 | h1)
          · omega
          · exact h1
        · exact Or.inr
    obtain ⟨h1, h2, h3, h4, h5⟩ := ih r { s with slp := updG s.slp h false } hd2.2 (fun y hy => hx y (List.mem_cons_of_mem _ hy)) hs2
    rw [List.map_cons]
    refine ⟨?_, ?_, ?_, ?_, ?_⟩
    · rw [trErrs, if_pos e0, en]; exact h1
    · show ∀ k : Nat, k < hands → ((trEnd (trNext s (wokeD (h : Int))) (l.map wokeD)).slp k = true ↔ _); rw [en]; exact h2
    · show (trEnd (trNext s (wokeD (h : Int))) (l.map wokeD)).has = _; rw [en]; exact h3
    · show (trEnd (trNext s (wokeD (h : Int))) (l.map wokeD)).had = _; rw [en]; exact h4
    · show (trEnd (trNext s (wokeD (h : Int))) (l.map wokeD)).dn = _; rw [en]; exact h5
theorem ends_deeds (h : Nat) : endsD ts g h = (4, (h : Int), g.task h, 0) :: (g.zz.take (newL ts g.S (g.task h).toNat).length).map wokeD := rfl
/-- Its last unit is done. -/
theorem TI.ends {s : Tr} (hT : TI hands g s) (hI : Inv ts room hands g) {h : Nat} (hh : h < hands) (ht : 0 ≤ g.task h) :
    trErrs ts hands s (endsD ts g h) = 0 ∧ TI hands (YtandhiiaflhenaaGreatDoor.ends ts room g h) (trEnd s (endsD ts g h)) := by
  obtain ⟨i, he, hil, hrb⟩ := hI.rdy (held_task hh ht)
  generalize hm : (newL ts g.S (g.task h).toNat).length = m
  have e0 : trErr ts hands s (4, (h : Int), g.task h, 0) = 0 := by
    unfold trErr
    dsimp only
    rw [Int.toNat_natCast, if_neg (by omega), if_neg (by omega), if_pos rfl, if_pos (hT.has h hh)]
  have en : trNext s (4, (h : Int), g.task h, 0) = { s with has := updG s.has h (-1), dn := mark s.dn i } := by
    unfold trNext
    dsimp only
    rw [if_neg (by omega), if_pos rfl, Int.toNat_natCast, he, Int.toNat_natCast]
  have hsplit : g.zz.take m ++ g.zz.drop m = g.zz := List.take_append_drop _ _
  obtain ⟨h1, h2, h3, h4, h5⟩ := wokes (ts := ts) (hands := hands) (by omega) (g.zz.take m) (g.zz.drop m) { s with has := updG s.has h (-1), dn := mark s.dn i } (by rw [hsplit]; exact hI.znd)
    (fun x hx => by
      rw [hsplit] at hx
      obtain ⟨k, hk, e, _⟩ := hI.zr x hx
      exact ⟨k, hk, e⟩) (fun k hk => by rw [hsplit]; exact hT.slp k hk)
  rw [ends_deeds, hm]
  constructor
  · rw [trErrs, if_pos e0, en]; exact h1
  · show TI hands _ (trEnd (trNext s (4, (h : Int), g.task h, 0)) _)
    rw [en]
    refine ⟨fun k hk => ?_, fun k hk => ?_, fun j => ?_, fun j hj => ?_⟩
    · rw [h3]
      show updG s.has h (-1) k = updG g.task h (-1) k
      by_cases e : k = h
      · subst e; rw [updG_self, updG_self]
      · rw [updG_ne _ _ e, updG_ne _ _ e]; exact hT.has k hk
    · rw [h2 k hk]
      show _ ↔ _ ∈ g.zz.drop (newL ts g.S (g.task h).toNat).length
      rw [hm]
    · rw [h5]
      show mark s.dn i j = mark g.S (g.task h).toNat j
      rw [he, Int.toNat_natCast]
      unfold mark
      split
      · rfl
      · exact hT.dn j
    · rw [h4] at hj
      dsimp only at hj
      show mark g.S (g.task h).toNat j = true ∨ ∃ k, k < hands ∧ updG g.task h (-1) k = _
      rw [he, Int.toNat_natCast]
      by_cases ej : j = i
      · left; unfold mark; rw [if_pos ej]
      · rcases hT.had j hj with h6 | ⟨k, hk, h6⟩
        · left; unfold mark; rw [if_neg ej]; exact h6
        · right
          refine ⟨k, hk, ?_⟩
          by_cases e : k = h
          · subst e; omega
          · rw [updG_ne _ _ e]; exact h6
/-- A hand falls asleep. -/
theorem TI.slept {s : Tr} (hT : TI hands g s) {h : Nat} (hh : h < hands) (hz : (h : Int) ∉ g.zz) (ht : ¬ 0 ≤ g.task h) :
    trErrs ts hands s [(5, (h : Int), 0, 0)] = 0 ∧ TI hands { g with zz := g.zz ++ [(h : Int)] } (trEnd s [(5, (h : Int), 0, 0)]) := by
  have hsl : s.slp h = false := by
    cases e : s.slp h with
    | false => rfl
    | true => exact absurd ((hT.slp h hh).1 e) hz
  have e0 : trErr ts hands s (5, (h : Int), 0, 0) = 0 := by
    unfold trErr
    dsimp only
    rw [Int.toNat_natCast, if_neg (by omega), if_neg (by omega), if_neg (by omega), if_pos rfl, if_neg]
    rw [hT.has h hh, hsl]
    simp
    omega
  constructor
  · rw [trErrs, if_pos e0]; rfl
  · show TI hands _ (trNext s (5, (h : Int), 0, 0))
    unfold trNext
    dsimp only
    rw [if_neg (by omega), if_neg (by omega), if_pos rfl, Int.toNat_natCast]
    refine ⟨hT.has, fun k hk => ?_, hT.dn, hT.had⟩
    dsimp only
    rw [List.mem_append, List.mem_singleton]
    by_cases e : k = h
    · subst e; rw [updG_self]; simp
    · rw [updG_ne _ _ e, hT.slp k hk]
      constructor
      · exact Or.inl
      · rintro (h1 | h1)
        · exact h1
        · omega
theorem TI.one {s : Tr} {g' : Gs} {d : Deed} (h : trErr ts hands s d = 0 ∧ TI hands g' (trNext s d)) : trErrs ts hands s [d] = 0 ∧ TI hands g' (trEnd s [d]) := ⟨by rw [trErrs, if_pos h.1]; rfl, h.2⟩
/-- Whatever hand does its next step, whomever it robs: what it tells may have been. -/
theorem TI.step {s : Tr} (hT : TI hands g s) (hI : Inv ts room hands g) (hg : Good ts) (hw : ∀ i, i < ts.length → 1 ≤ workOf ts i) (hr1 : 1 ≤ room) {h : Nat} (hh : h < hands) (pick : Nat) :
    trErrs ts hands s (gdeeds ts hands g h pick) = 0 ∧ TI hands (gstep ts room hands g h pick) (trEnd s (gdeeds ts hands g h pick)) := by
  have hI' := hI.step hg hw hr1 hh pick
  unfold gstep at hI' ⊢
  unfold gdeeds
  by_cases hz : (h : Int) ∈ g.zz
  · simp only [if_pos hz]; exact ⟨rfl, hT⟩
  simp only [if_neg hz] at hI' ⊢
  by_cases ht : 0 ≤ g.task h
  · simp only [if_pos ht]
    by_cases hk : 1 < g.work h
    · simp only [if_pos hk]; exact ⟨rfl, ⟨hT.has, hT.slp, hT.dn, hT.had⟩⟩
    · simp only [if_neg hk]; exact hT.ends hI hh ht
  simp only [if_neg ht] at hI' ⊢
  have take : ∀ (g1 : Gs) (i : Int) (a o : Int), Inv ts room hands (takes ts g1 h i) → g1.S = g.S → g1.zz = g.zz → g1.task = g.task → i ∈ heldL g hands → 1 ≤ a ∧ a ≤ 3 → (a = 2 → o ≠ (h : Int)) ∧ o < (hands : Int) →
      trErrs ts hands s [(a, (h : Int), i, o)] = 0 ∧ TI hands (takes ts g1 h i) (trEnd s [(a, (h : Int), i, o)]) := fun g1 i a o hI1 h1 h2 h3 hi ha ho => by
    obtain ⟨k, hk, _, _⟩ := hI.rdy hi
    have e : (takes ts g1 h i).task h = i := updG_self _ _ _
    have := hT.took (g' := takes ts g1 h i) hI1 hh hz ht h1 h2 (fun k hk => by show updG g1.task h i k = _; rw [updG_ne _ _ hk, h3]) (by rw [e]; omega) a o ha ho
    rw [e] at this
    exact TI.one this
  by_cases hn : g.near h = -1
  · have hn' : ¬ g.near h ≠ -1 := fun e => e hn
    simp only [if_neg hn'] at hI' ⊢
    by_cases hr : g.ring h = []
    · have hr' : ¬ g.ring h ≠ [] := fun e => e hr
      simp only [if_neg hr'] at hI' ⊢
      by_cases hs : g.sp = []
      · have hs' : ¬ g.sp ≠ [] := fun e => e hs
        simp only [if_neg hs'] at hI' ⊢
        by_cases hp : pick % hands = h ∨ g.ring (pick % hands) = []
        · simp only [if_pos hp]; exact hT.slept hh hz ht
        · simp only [if_neg hp] at hI' ⊢
          have hpl : pick % hands < hands := Nat.mod_lt _ (by omega)
          have hne : g.ring (pick % hands) ≠ [] := fun e => hp (Or.inr e)
          unfold robs at hI' ⊢
          refine take _ _ 2 _ hI' rfl rfl rfl ?_ ⟨by omega, by omega⟩ ⟨fun _ e => hp (Or.inl (by omega)), by omega⟩
          refine held_ring hpl ?_
          have hlen : 0 < (g.ring (pick % hands)).length := List.length_pos_iff.2 hne
          have hhd : ((g.ring (pick % hands)).take (((g.ring (pick % hands)).length + 1) / 2)).headD 0 ∈ (g.ring (pick % hands)).take (((g.ring (pick % hands)).length + 1) / 2) := by
            cases hc : (g.ring (pick % hands)).take (((g.ring (pick % hands)).length + 1) / 2) with
            | nil =>
              have h2 := congrArg List.length hc
              rw [List.length_take] at h2
              have h3 : min (((g.ring (pick % hands)).length + 1) / 2) (g.ring (pick % hands)).length = 0 := h2
              omega
            | cons x r => simp
          exact List.mem_of_mem_take hhd
      · simp only [if_pos hs] at hI' ⊢
        refine take _ _ 3 0 hI' rfl rfl rfl ?_ ⟨by omega, by omega⟩ ⟨fun e => by omega, by omega⟩
        refine held_sp ?_
        cases hc : g.sp with
        | nil => exact absurd hc hs
        | cons x r => simp
    · simp only [if_pos hr] at hI' ⊢
      refine take _ _ 1 0 hI' rfl rfl rfl ?_ ⟨by omega, by omega⟩ ⟨fun e => by omega, by omega⟩
      refine held_ring hh ?_
      rw [last_split hr]
      simp
  · simp only [if_pos hn] at hI' ⊢
    exact take _ _ 1 0 hI' rfl rfl rfl (held_near hh hn) ⟨by omega, by omega⟩ ⟨fun e => by omega, by omega⟩
end Go.Proofs.YtandhiiaflhenaaGreatDoor
