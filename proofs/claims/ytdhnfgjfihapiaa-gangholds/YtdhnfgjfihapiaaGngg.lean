/- Plain: whatever a gang does, step by step, what it tells may have been. No word of the program. -/
import Derived.Test.YtdhnfgjfihapiaaGngf
namespace Go.Proofs.Ytdhnfgjfihapiaa
variable {ts : List (Int × List Int)} {room hands : Nat} {g : Gs}

/-- Those that sleep first wake. -/
theorem wokes (hh1 : 1 ≤ hands) : ∀ (l r : List Int) (s : Tr), (l ++ r).Nodup → (∀ x, x ∈ l ++ r → ∃ h : Nat, h < hands ∧ x = (h : Int)) → (∀ h : Nat, h < hands → (s.slp h = true ↔ ((h : Nat) : Int) ∈ l ++ r)) →
    trErrs ts hands s (l.map wokeD) = 0 ∧ (∀ h : Nat, h < hands → ((trEnd s (l.map wokeD)).slp h = true ↔ ((h : Nat) : Int) ∈ r)) ∧ (trEnd s (l.map wokeD)).has = s.has ∧ (trEnd s (l.map wokeD)).had = s.had ∧ (trEnd s (l.map wokeD)).dn = s.dn := by
  intro l
  induction l with
  | nil => intro r s _ _ h; exact ⟨rfl, h, rfl, rfl, rfl⟩
  | cons x l ih =>
    intro r s hd hx hs
    obtain ⟨h, hh, rfl⟩ := hx x (by simp)
    have hd2 := List.nodup_cons.1 hd
    have hsl : s.slp h = true := (hs h hh).2 (by simp)
    have e0 : trErr ts hands s (wokeD (h : Int)) = 0 := by
      unfold trErr wokeD
      dsimp only
      rw [Int.toNat_natCast, if_neg (by omega), if_neg (by omega), if_neg (by omega), if_neg (by omega), if_pos hsl]
    have en : trNext s (wokeD (h : Int)) = { s with slp := upd s.slp h false } := by
      unfold trNext wokeD
      dsimp only
      rw [Int.toNat_natCast, if_neg (by omega), if_neg (by omega), if_neg (by omega)]
    have hs2 : ∀ k : Nat, k < hands → (({ s with slp := upd s.slp h false } : Tr).slp k = true ↔ ((k : Nat) : Int) ∈ l ++ r) := fun k hk => by
      dsimp only
      by_cases e : k = h
      · subst e
        rw [upd_self]
        exact ⟨fun h => (by cases h), fun hm => absurd hm hd2.1⟩
      · rw [upd_ne _ _ e, hs k hk, List.cons_append, List.mem_cons]
        constructor
        · rintro (h1 | h1)
          · omega
          · exact h1
        · exact Or.inr
    obtain ⟨h1, h2, h3, h4, h5⟩ := ih r { s with slp := upd s.slp h false } hd2.2 (fun y hy => hx y (List.mem_cons_of_mem _ hy)) hs2
    rw [List.map_cons]
    refine ⟨?_, ?_, ?_, ?_, ?_⟩
    · rw [trErrs, if_pos e0, en]; exact h1
    · show ∀ k : Nat, k < hands → ((trEnd (trNext s (wokeD (h : Int))) (l.map wokeD)).slp k = true ↔ _); rw [en]; exact h2
    · show (trEnd (trNext s (wokeD (h : Int))) (l.map wokeD)).has = _; rw [en]; exact h3
    · show (trEnd (trNext s (wokeD (h : Int))) (l.map wokeD)).had = _; rw [en]; exact h4
    · show (trEnd (trNext s (wokeD (h : Int))) (l.map wokeD)).dn = _; rw [en]; exact h5
theorem ends_deeds (h : Nat) : endsD ts g h = (4, (h : Int), g.task h, 0) :: (g.zz.take (newL ts g.S (g.task h).toNat).length).map wokeD := rfl
/-- Its last unit is done. -/
theorem TI.ends {s : Tr} (hT : TI hands g s) (hI : Inv ts room hands g) {h : Nat} (hh : h < hands) (ht : 0 ≤ g.task h) :
    trErrs ts hands s (endsD ts g h) = 0 ∧ TI hands (Ytdhnfgjfihapiaa.ends ts room g h) (trEnd s (endsD ts g h)) := by
  obtain ⟨i, he, hil, hrb⟩ := hI.rdy (held_task hh ht)
  generalize hm : (newL ts g.S (g.task h).toNat).length = m
  have e0 : trErr ts hands s (4, (h : Int), g.task h, 0) = 0 := by
    unfold trErr
    dsimp only
    rw [Int.toNat_natCast, if_neg (by omega), if_neg (by omega), if_pos rfl, if_pos (hT.has h hh)]
  have en : trNext s (4, (h : Int), g.task h, 0) = { s with has := upd s.has h (-1), dn := mark s.dn i } := by
    unfold trNext
    dsimp only
    rw [if_neg (by omega), if_pos rfl, Int.toNat_natCast, he, Int.toNat_natCast]
  have hsplit : g.zz.take m ++ g.zz.drop m = g.zz := List.take_append_drop _ _
  obtain ⟨h1, h2, h3, h4, h5⟩ := wokes (ts := ts) (hands := hands) (by omega) (g.zz.take m) (g.zz.drop m) { s with has := upd s.has h (-1), dn := mark s.dn i } (by rw [hsplit]; exact hI.znd)
    (fun x hx => by
      rw [hsplit] at hx
      obtain ⟨k, hk, e, _⟩ := hI.zr x hx
      exact ⟨k, hk, e⟩) (fun k hk => by rw [hsplit]; exact hT.slp k hk)
  rw [ends_deeds, hm]
  constructor
  · rw [trErrs, if_pos e0, en]; exact h1
  · show TI hands _ (trEnd (trNext s (4, (h : Int), g.task h, 0)) _)
    rw [en]
    refine ⟨fun k hk => ?_, fun k hk => ?_, fun j => ?_, fun j hj => ?_⟩
    · rw [h3]
      show upd s.has h (-1) k = upd g.task h (-1) k
      by_cases e : k = h
      · subst e; rw [upd_self, upd_self]
      · rw [upd_ne _ _ e, upd_ne _ _ e]; exact hT.has k hk
    · rw [h2 k hk]
      show _ ↔ _ ∈ g.zz.drop (newL ts g.S (g.task h).toNat).length
      rw [hm]
    · rw [h5]
      show mark s.dn i j = mark g.S (g.task h).toNat j
      rw [he, Int.toNat_natCast]
      unfold mark
      split
      · rfl
      · exact hT.dn j
    · rw [h4] at hj
      dsimp only at hj
      show mark g.S (g.task h).toNat j = true ∨ ∃ k, k < hands ∧ upd g.task h (-1) k = _
      rw [he, Int.toNat_natCast]
      by_cases ej : j = i
      · left; unfold mark; rw [if_pos ej]
      · rcases hT.had j hj with h6 | ⟨k, hk, h6⟩
        · left; unfold mark; rw [if_neg ej]; exact h6
        · right
          refine ⟨k, hk, ?_⟩
          by_cases e : k = h
          · subst e; omega
          · rw [upd_ne _ _ e]; exact h6
/-- A hand falls asleep. -/
theorem TI.slept {s : Tr} (hT : TI hands g s) {h : Nat} (hh : h < hands) (hz : (h : Int) ∉ g.zz) (ht : ¬ 0 ≤ g.task h) :
    trErrs ts hands s [(5, (h : Int), 0, 0)] = 0 ∧ TI hands { g with zz := g.zz ++ [(h : Int)] } (trEnd s [(5, (h : Int), 0, 0)]) := by
  have hsl : s.slp h = false := by
    cases e : s.slp h with
    | false => rfl
    | true => exact absurd ((hT.slp h hh).1 e) hz
  have e0 : trErr ts hands s (5, (h : Int), 0, 0) = 0 := by
    unfold trErr
    dsimp only
    rw [Int.toNat_natCast, if_neg (by omega), if_neg (by omega), if_neg (by omega), if_pos rfl, if_neg]
    rw [hT.has h hh, hsl]
    simp
    omega
  constructor
  · rw [trErrs, if_pos e0]; rfl
  · show TI hands _ (trNext s (5, (h : Int), 0, 0))
    unfold trNext
    dsimp only
    rw [if_neg (by omega), if_neg (by omega), if_pos rfl, Int.toNat_natCast]
    refine ⟨hT.has, fun k hk => ?_, hT.dn, hT.had⟩
    dsimp only
    rw [List.mem_append, List.mem_singleton]
    by_cases e : k = h
    · subst e; rw [upd_self]; simp
    · rw [upd_ne _ _ e, hT.slp k hk]
      constructor
      · exact Or.inl
      · rintro (h1 | h1)
        · exact h1
        · omega
theorem TI.one {s : Tr} {g' : Gs} {d : Deed} (h : trErr ts hands s d = 0 ∧ TI hands g' (trNext s d)) : trErrs ts hands s [d] = 0 ∧ TI hands g' (trEnd s [d]) := ⟨by rw [trErrs, if_pos h.1]; rfl, h.2⟩
/-- Whatever hand does its next step, whomever it robs: what it tells may have been. -/
theorem TI.step {s : Tr} (hT : TI hands g s) (hI : Inv ts room hands g) (hg : Good ts) (hw : ∀ i, i < ts.length → 1 ≤ workOf ts i) (hr1 : 1 ≤ room) {h : Nat} (hh : h < hands) (pick : Nat) :
    trErrs ts hands s (gdeeds ts hands g h pick) = 0 ∧ TI hands (gstep ts room hands g h pick) (trEnd s (gdeeds ts hands g h pick)) := by
  have hI' := hI.step hg hw hr1 hh pick
  unfold gstep at hI' ⊢
  unfold gdeeds
  by_cases hz : (h : Int) ∈ g.zz
  · simp only [if_pos hz]; exact ⟨rfl, hT⟩
  simp only [if_neg hz] at hI' ⊢
  by_cases ht : 0 ≤ g.task h
  · simp only [if_pos ht]
    by_cases hk : 1 < g.work h
    · simp only [if_pos hk]; exact ⟨rfl, ⟨hT.has, hT.slp, hT.dn, hT.had⟩⟩
    · simp only [if_neg hk]; exact hT.ends hI hh ht
  simp only [if_neg ht] at hI' ⊢
  have take : ∀ (g1 : Gs) (i : Int) (a o : Int), Inv ts room hands (takes ts g1 h i) → g1.S = g.S → g1.zz = g.zz → g1.task = g.task → i ∈ heldL g hands → 1 ≤ a ∧ a ≤ 3 → (a = 2 → o ≠ (h : Int)) ∧ o < (hands : Int) →
      trErrs ts hands s [(a, (h : Int), i, o)] = 0 ∧ TI hands (takes ts g1 h i) (trEnd s [(a, (h : Int), i, o)]) := fun g1 i a o hI1 h1 h2 h3 hi ha ho => by
    obtain ⟨k, hk, _, _⟩ := hI.rdy hi
    have e : (takes ts g1 h i).task h = i := upd_self _ _ _
    have := hT.took (g' := takes ts g1 h i) hI1 hh hz ht h1 h2 (fun k hk => by show upd g1.task h i k = _; rw [upd_ne _ _ hk, h3]) (by rw [e]; omega) a o ha ho
    rw [e] at this
    exact TI.one this
  by_cases hn : g.near h = -1
  · have hn' : ¬ g.near h ≠ -1 := fun e => e hn
    simp only [if_neg hn'] at hI' ⊢
    by_cases hr : g.ring h = []
    · have hr' : ¬ g.ring h ≠ [] := fun e => e hr
      simp only [if_neg hr'] at hI' ⊢
      by_cases hs : g.sp = []
      · have hs' : ¬ g.sp ≠ [] := fun e => e hs
        simp only [if_neg hs'] at hI' ⊢
        by_cases hp : pick % hands = h ∨ g.ring (pick % hands) = []
        · simp only [if_pos hp]; exact hT.slept hh hz ht
        · simp only [if_neg hp] at hI' ⊢
          have hpl : pick % hands < hands := Nat.mod_lt _ (by omega)
          have hne : g.ring (pick % hands) ≠ [] := fun e => hp (Or.inr e)
          unfold robs at hI' ⊢
          refine take _ _ 2 _ hI' rfl rfl rfl ?_ ⟨by omega, by omega⟩ ⟨fun _ e => hp (Or.inl (by omega)), by omega⟩
          refine held_ring hpl ?_
          have hlen : 0 < (g.ring (pick % hands)).length := List.length_pos_iff.2 hne
          have hhd : ((g.ring (pick % hands)).take (((g.ring (pick % hands)).length + 1) / 2)).headD 0 ∈ (g.ring (pick % hands)).take (((g.ring (pick % hands)).length + 1) / 2) := by
            cases hc : (g.ring (pick % hands)).take (((g.ring (pick % hands)).length + 1) / 2) with
            | nil =>
              have h2 := congrArg List.length hc
              rw [List.length_take] at h2
              have h3 : min (((g.ring (pick % hands)).length + 1) / 2) (g.ring (pick % hands)).length = 0 := h2
              omega
            | cons x r => simp
          exact List.mem_of_mem_take hhd
      · simp only [if_pos hs] at hI' ⊢
        refine take _ _ 3 0 hI' rfl rfl rfl ?_ ⟨by omega, by omega⟩ ⟨fun e => by omega, by omega⟩
        refine held_sp ?_
        cases hc : g.sp with
        | nil => exact absurd hc hs
        | cons x r => simp
    · simp only [if_pos hr] at hI' ⊢
      refine take _ _ 1 0 hI' rfl rfl rfl ?_ ⟨by omega, by omega⟩ ⟨fun e => by omega, by omega⟩
      refine held_ring hh ?_
      rw [last_split hr]
      simp
  · simp only [if_pos hn] at hI' ⊢
    exact take _ _ 1 0 hI' rfl rfl rfl (held_near hh hn) ⟨by omega, by omega⟩ ⟨fun e => by omega, by omega⟩
end Go.Proofs.Ytdhnfgjfihapiaa
