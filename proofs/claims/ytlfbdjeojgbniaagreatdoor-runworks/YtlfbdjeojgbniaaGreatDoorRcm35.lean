/- The program's gang, wherever it lies: its calls. Plain: whatever a gang does, step by step, what it tells may have been. No word of the program. Plain: cells and ops, what an op comes to; along an order; in whatever order, to the same. No word of the program. -/
import Derived.Test.YtlfbdjeojgbniaaGreatDoorRcm34
import Derived.Test.YtlfbdjeojgbniaaGreatDoorRcm12
import Derived.Test.YtlfbdjeojgbniaaGreatDoorRcm05

namespace Go.Proofs.YtlfbdjeojgbniaaGreatDoor
open Go.RowKit Go.Deep

/-- A gang, of which nothing lies in what was there at first. -/
def GangAt (W0 : World) (G room hands : Nat) (ts : List (Int × List Int)) (g : Gs) (w : World) : Prop :=
  ∃ B own Q wk, Pg B G room hands ts g wk own Q w ∧ WkOk ts hands g wk ∧ Inv ts room hands g ∧ (∀ k, k < W0.heap.size → own k = 9) ∧ Below W0.heap.size W0 w
variable {W0 : World} {G room hands : Nat} {ts : List (Int × List Int)} {g : Gs} {w w' : World}
theorem GangAt.later (h : GangAt W0 G room hands ts g w) (hb : Below w.heap.size w w') : GangAt W0 G room hands ts g w' := by
  obtain ⟨B, own, Q, wk, hP, hK, hI, ho, hB⟩ := h
  exact ⟨B, _, Q, wk, hP.later0 (Kc.of_below hb), hK, hI, fun k hk => by rw [relabel_lt (by have := hB.size; omega)]; exact ho k hk, hB.trans (hb.mono hB.size)⟩
theorem gangAt_new {v : Value} (hp : PlanAt w v ts) (hc : CheckIs ts 0 0) (hB : Below W0.heap.size W0 w) (h1 : 1 ≤ hands) (h6 : hands ≤ 6) (r1 : 1 ≤ room) (r16 : room ≤ 16) :
    Calls Tryz.prog 13 #[v, .int .i64 hands, .int .i64 room] w fun e w' => ∃ G, e = .returned (.tuple #[.pointer (some ⟨G, 0, none⟩), .nilIface]) ∧ GangAt W0 G room hands ts (gnew ts) w' := by
  refine (gNew_good v ts w hp hc hands room h1 h6 r1 r16).mono ?_
  rintro e w' ⟨G, own, Q, rfl, hP, hG, hb⟩
  have := hB.size
  exact ⟨G, rfl, _, own, Q, _, hP, WkOk.new ts hands, Inv.new h1, fun k hk => (hP.far k (by show k < w.heap.size; omega)).2.1, hB.trans (hb.mono hB.size)⟩
theorem GangAt.step (h : GangAt W0 G room hands ts g w) (hg : Good ts) (hw : ∀ i, i < ts.length → 1 ≤ workOf ts i ∧ workOf ts i ≤ 1000) (hr1 : 1 ≤ room) (h16 : room ≤ 16) (h6 : hands ≤ 6) (j pick : Nat) (hj : j < hands) (hp63 : pick < 9223372036854775808) :
    Calls Tryz.prog 92 #[.pointer (some ⟨G, 0, none⟩), .int .i64 j, .int .i64 pick] w fun e w' => ∃ v, e = .returned (.tuple #[v, .nilIface]) ∧ RowD w.heap.size w' v (gdeeds ts hands g j pick) ∧ GangAt W0 G room hands ts (gstep ts room hands g j pick) w' := by
  obtain ⟨B, own, Q, wk, hP, hK, hI, ho, hB⟩ := h
  refine (step_any hP hI hK hg hw hr1 h16 h6 j pick hj hp63).mono ?_
  rintro e w' ⟨v, rfl, hv, B', own', Q', wk', hP', hK', hW⟩
  have hs := hB.size
  exact ⟨v, rfl, hv, B', own', Q', wk', hP', hK', hI.step hg (fun i hi => (hw i hi).1) hr1 hj pick, fun k hk => (hW.block k (by omega) (ho k hk)).2, ⟨hW.os.trans hB.os, hW.tape.trans hB.tape, hW.output.trans hB.output, Nat.le_trans hs hW.size, fun k hk => (hW.block k (by omega) (ho k hk)).1.trans (hB.block k hk)⟩⟩
theorem GangAt.below (h : GangAt W0 G room hands ts g w) : Below W0.heap.size W0 w := by
  obtain ⟨B, own, Q, wk, hP, hK, hI, ho, hB⟩ := h
  exact hB
end Go.Proofs.YtlfbdjeojgbniaaGreatDoor

namespace Go.Proofs.YtlfbdjeojgbniaaGreatDoor
variable {ts : List (Int × List Int)} {room hands : Nat} {g : Gs}

/-- Those that sleep first wake. -/
theorem wokes (hh1 : 1 ≤ hands) : ∀ (l r : List Int) (s : Tr), (l ++ r).Nodup → (∀ x, x ∈ l ++ r → ∃ h : Nat, h < hands ∧ x = (h : Int)) → (∀ h : Nat, h < hands → (s.slp h = true ↔ ((h : Nat) : Int) ∈ l ++ r)) →
    trErrs ts hands s (l.map wokeD) = 0 ∧ (∀ h : Nat, h < hands → ((trEnd s (l.map wokeD)).slp h = true ↔ ((h : Nat) : Int) ∈ r)) ∧ (trEnd s (l.map wokeD)).has = s.has ∧ (trEnd s (l.map wokeD)).had = s.had ∧ (trEnd s (l.map wokeD)).dn = s.dn := by
  intro l
  induction l with
  | nil => intro r s _ _ h; exact ⟨rfl, h, rfl, rfl, rfl⟩
  | cons x l ih =>
    intro r s hd hx hs
    obtain ⟨h, hh, rfl⟩ := hx x (by simp)
    have hd2 := List.nodup_cons.1 hd
    have hsl : s.slp h = true := (hs h hh).2 (by simp)
    have e0 : trErr ts hands s (wokeD (h : Int)) = 0 := by
      unfold trErr wokeD
      dsimp only
      rw [Int.toNat_natCast, if_neg (by omega), if_neg (by omega), if_neg (by omega), if_neg (by omega), if_pos hsl]
    have en : trNext s (wokeD (h : Int)) = { s with slp := updG s.slp h false } := by
      unfold trNext wokeD
      dsimp only
      rw [Int.toNat_natCast, if_neg (by omega), if_neg (by omega), if_neg (by omega)]
    have hs2 : ∀ k : Nat, k < hands → (({ s with slp := updG s.slp h false } : Tr).slp k = true ↔ ((k : Nat) : Int) ∈ l ++ r) := fun k hk => by
      dsimp only
      by_cases e : k = h
      · subst e
        rw [updG_self]
        exact ⟨fun h => (by cases h), fun hm => absurd hm hd2.1⟩
      · rw [updG_ne _ _ e, hs k hk, List.cons_append, List.mem_cons]
        constructor
        · rintro (h1 | h1)
          · omega
          · exact h1
        · exact Or.inr
    obtain ⟨h1, h2, h3, h4, h5⟩ := ih r { s with slp := updG s.slp h false } hd2.2 (fun y hy => hx y (List.mem_cons_of_mem _ hy)) hs2
    rw [List.map_cons]
    refine ⟨?_, ?_, ?_, ?_, ?_⟩
    · rw [trErrs, if_pos e0, en]; exact h1
    · show ∀ k : Nat, k < hands → ((trEnd (trNext s (wokeD (h : Int))) (l.map wokeD)).slp k = true ↔ _); rw [en]; exact h2
    · show (trEnd (trNext s (wokeD (h : Int))) (l.map wokeD)).has = _; rw [en]; exact h3
    · show (trEnd (trNext s (wokeD (h : Int))) (l.map wokeD)).had = _; rw [en]; exact h4
    · show (trEnd (trNext s (wokeD (h : Int))) (l.map wokeD)).dn = _; rw [en]; exact h5
theorem ends_deeds (h : Nat) : endsD ts g h = (4, (h : Int), g.task h, 0) :: (g.zz.take (newL ts g.S (g.task h).toNat).length).map wokeD := rfl
/-- Its last unit is done. -/
theorem TI.ends {s : Tr} (hT : TI hands g s) (hI : Inv ts room hands g) {h : Nat} (hh : h < hands) (ht : 0 ≤ g.task h) :
    trErrs ts hands s (endsD ts g h) = 0 ∧ TI hands (YtlfbdjeojgbniaaGreatDoor.ends ts room g h) (trEnd s (endsD ts g h)) := by
  obtain ⟨i, he, hil, hrb⟩ := hI.rdy (held_task hh ht)
  generalize hm : (newL ts g.S (g.task h).toNat).length = m
  have e0 : trErr ts hands s (4, (h : Int), g.task h, 0) = 0 := by
    unfold trErr
    dsimp only
    rw [Int.toNat_natCast, if_neg (by omega), if_neg (by omega), if_pos rfl, if_pos (hT.has h hh)]
  have en : trNext s (4, (h : Int), g.task h, 0) = { s with has := updG s.has h (-1), dn := mark s.dn i } := by
    unfold trNext
    dsimp only
    rw [if_neg (by omega), if_pos rfl, Int.toNat_natCast, he, Int.toNat_natCast]
  have hsplit : g.zz.take m ++ g.zz.drop m = g.zz := List.take_append_drop _ _
  obtain ⟨h1, h2, h3, h4, h5⟩ := wokes (ts := ts) (hands := hands) (by omega) (g.zz.take m) (g.zz.drop m) { s with has := updG s.has h (-1), dn := mark s.dn i } (by rw [hsplit]; exact hI.znd)
    (fun x hx => by
      rw [hsplit] at hx
      obtain ⟨k, hk, e, _⟩ := hI.zr x hx
      exact ⟨k, hk, e⟩) (fun k hk => by rw [hsplit]; exact hT.slp k hk)
  rw [ends_deeds, hm]
  constructor
  · rw [trErrs, if_pos e0, en]; exact h1
  · show TI hands _ (trEnd (trNext s (4, (h : Int), g.task h, 0)) _)
    rw [en]
    refine ⟨fun k hk => ?_, fun k hk => ?_, fun j => ?_, fun j hj => ?_⟩
    · rw [h3]
      show updG s.has h (-1) k = updG g.task h (-1) k
      by_cases e : k = h
      · subst e; rw [updG_self, updG_self]
      · rw [updG_ne _ _ e, updG_ne _ _ e]; exact hT.has k hk
    · rw [h2 k hk]
      show _ ↔ _ ∈ g.zz.drop (newL ts g.S (g.task h).toNat).length
      rw [hm]
    · rw [h5]
      show mark s.dn i j = mark g.S (g.task h).toNat j
      rw [he, Int.toNat_natCast]
      unfold mark
      split
      · rfl
      · exact hT.dn j
    · rw [h4] at hj
      dsimp only at hj
      show mark g.S (g.task h).toNat j = true ∨ ∃ k, k < hands ∧ updG g.task h (-1) k = _
      rw [he, Int.toNat_natCast]
      by_cases ej : j = i
      · left; unfold mark; rw [if_pos ej]
      · rcases hT.had j hj with h6 | ⟨k, hk, h6⟩
        · left; unfold mark; rw [if_neg ej]; exact h6
        · right
          refine ⟨k, hk, ?_⟩
          by_cases e : k = h
          · subst e; omega
          · rw [updG_ne _ _ e]; exact h6
/-- A hand falls asleep. -/
theorem TI.slept {s : Tr} (hT : TI hands g s) {h : Nat} (hh : h < hands) (hz : (h : Int) ∉ g.zz) (ht : ¬ 0 ≤ g.task h) :
    trErrs ts hands s [(5, (h : Int), 0, 0)] = 0 ∧ TI hands { g with zz := g.zz ++ [(h : Int)] } (trEnd s [(5, (h : Int), 0, 0)]) := by
  have hsl : s.slp h = false := by
    cases e : s.slp h with
    | false => rfl
    | true => exact absurd ((hT.slp h hh).1 e) hz
  have e0 : trErr ts hands s (5, (h : Int), 0, 0) = 0 := by
    unfold trErr
    dsimp only
    rw [Int.toNat_natCast, if_neg (by omega), if_neg (by omega), if_neg (by omega), if_pos rfl, if_neg]
    rw [hT.has h hh, hsl]
    simp
    omega
  constructor
  · rw [trErrs, if_pos e0]; rfl
  · show TI hands _ (trNext s (5, (h : Int), 0, 0))
    unfold trNext
    dsimp only
    rw [if_neg (by omega), if_neg (by omega), if_pos rfl, Int.toNat_natCast]
    refine ⟨hT.has, fun k hk => ?_, hT.dn, hT.had⟩
    dsimp only
    rw [List.mem_append, List.mem_singleton]
    by_cases e : k = h
    · subst e; rw [updG_self]; simp
    · rw [updG_ne _ _ e, hT.slp k hk]
      constructor
      · exact Or.inl
      · rintro (h1 | h1)
        · exact h1
        · omega
theorem TI.one {s : Tr} {g' : Gs} {d : Deed} (h : trErr ts hands s d = 0 ∧ TI hands g' (trNext s d)) : trErrs ts hands s [d] = 0 ∧ TI hands g' (trEnd s [d]) := ⟨by rw [trErrs, if_pos h.1]; rfl, h.2⟩
/-- Whatever hand does its next step, whomever it robs: what it tells may have been. -/
theorem TI.step {s : Tr} (hT : TI hands g s) (hI : Inv ts room hands g) (hg : Good ts) (hw : ∀ i, i < ts.length → 1 ≤ workOf ts i) (hr1 : 1 ≤ room) {h : Nat} (hh : h < hands) (pick : Nat) :
    trErrs ts hands s (gdeeds ts hands g h pick) = 0 ∧ TI hands (gstep ts room hands g h pick) (trEnd s (gdeeds ts hands g h pick)) := by
  have hI' := hI.step hg hw hr1 hh pick
  unfold gstep at hI' ⊢
  unfold gdeeds
  by_cases hz : (h : Int) ∈ g.zz
  · simp only [if_pos hz]; exact ⟨rfl, hT⟩
  simp only [if_neg hz] at hI' ⊢
  by_cases ht : 0 ≤ g.task h
  · simp only [if_pos ht]
    by_cases hk : 1 < g.work h
    · simp only [if_pos hk]; exact ⟨rfl, ⟨hT.has, hT.slp, hT.dn, hT.had⟩⟩
    · simp only [if_neg hk]; exact hT.ends hI hh ht
  simp only [if_neg ht] at hI' ⊢
  have take : ∀ (g1 : Gs) (i : Int) (a o : Int), Inv ts room hands (takes ts g1 h i) → g1.S = g.S → g1.zz = g.zz → g1.task = g.task → i ∈ heldL g hands → 1 ≤ a ∧ a ≤ 3 → (a = 2 → o ≠ (h : Int)) ∧ o < (hands : Int) →
      trErrs ts hands s [(a, (h : Int), i, o)] = 0 ∧ TI hands (takes ts g1 h i) (trEnd s [(a, (h : Int), i, o)]) := fun g1 i a o hI1 h1 h2 h3 hi ha ho => by
    obtain ⟨k, hk, _, _⟩ := hI.rdy hi
    have e : (takes ts g1 h i).task h = i := updG_self _ _ _
    have := hT.took (g' := takes ts g1 h i) hI1 hh hz ht h1 h2 (fun k hk => by show updG g1.task h i k = _; rw [updG_ne _ _ hk, h3]) (by rw [e]; omega) a o ha ho
    rw [e] at this
    exact TI.one this
  by_cases hn : g.near h = -1
  · have hn' : ¬ g.near h ≠ -1 := fun e => e hn
    simp only [if_neg hn'] at hI' ⊢
    by_cases hr : g.ring h = []
    · have hr' : ¬ g.ring h ≠ [] := fun e => e hr
      simp only [if_neg hr'] at hI' ⊢
      by_cases hs : g.sp = []
      · have hs' : ¬ g.sp ≠ [] := fun e => e hs
        simp only [if_neg hs'] at hI' ⊢
        by_cases hp : pick % hands = h ∨ g.ring (pick % hands) = []
        · simp only [if_pos hp]; exact hT.slept hh hz ht
        · simp only [if_neg hp] at hI' ⊢
          have hpl : pick % hands < hands := Nat.mod_lt _ (by omega)
          have hne : g.ring (pick % hands) ≠ [] := fun e => hp (Or.inr e)
          unfold robs at hI' ⊢
          refine take _ _ 2 _ hI' rfl rfl rfl ?_ ⟨by omega, by omega⟩ ⟨fun _ e => hp (Or.inl (by omega)), by omega⟩
          refine held_ring hpl ?_
          have hlen : 0 < (g.ring (pick % hands)).length := List.length_pos_iff.2 hne
          have hhd : ((g.ring (pick % hands)).take (((g.ring (pick % hands)).length + 1) / 2)).headD 0 ∈ (g.ring (pick % hands)).take (((g.ring (pick % hands)).length + 1) / 2) := by
            cases hc : (g.ring (pick % hands)).take (((g.ring (pick % hands)).length + 1) / 2) with
            | nil =>
              have h2 := congrArg List.length hc
              rw [List.length_take] at h2
              have h3 : min (((g.ring (pick % hands)).length + 1) / 2) (g.ring (pick % hands)).length = 0 := h2
              omega
            | cons x r => simp
          exact List.mem_of_mem_take hhd
      · simp only [if_pos hs] at hI' ⊢
        refine take _ _ 3 0 hI' rfl rfl rfl ?_ ⟨by omega, by omega⟩ ⟨fun e => by omega, by omega⟩
        refine held_sp ?_
        cases hc : g.sp with
        | nil => exact absurd hc hs
        | cons x r => simp
    · simp only [if_pos hr] at hI' ⊢
      refine take _ _ 1 0 hI' rfl rfl rfl ?_ ⟨by omega, by omega⟩ ⟨fun e => by omega, by omega⟩
      refine held_ring hh ?_
      rw [last_split hr]
      simp
  · simp only [if_pos hn] at hI' ⊢
    exact take _ _ 1 0 hI' rfl rfl rfl (held_near hh hn) ⟨by omega, by omega⟩ ⟨fun e => by omega, by omega⟩
end Go.Proofs.YtlfbdjeojgbniaaGreatDoor

namespace Go.Proofs.YtlfbdjeojgbniaaGreatDoor

/-- A cell: its number, whether it is a fault. -/
abbrev Cl := Int × Bool
/-- An op: what it does, its number. -/
abbrev Opn := Int × Int
def fitsC (n : Int) : Bool := decide (-1000000000 ≤ n) && decide (n ≤ 1000000000)
theorem fitsC_iff {n : Int} : fitsC n = true ↔ -1000000000 ≤ n ∧ n ≤ 1000000000 := by unfold fitsC; simp
theorem fitsC_not {n : Int} : fitsC n = false ↔ n < -1000000000 ∨ 1000000000 < n := by
  unfold fitsC
  rw [Bool.and_eq_false_iff]
  simp
def cellErr (c : Cl) : Int := if fitsC c.1 = true ∧ (c.2 = true → c.1 = 0) then 0 else 1
theorem cellErr_zero {c : Cl} : cellErr c = 0 ↔ fitsC c.1 = true ∧ (c.2 = true → c.1 = 0) := by
  unfold cellErr
  split
  · rename_i h
    exact ⟨fun _ => h, fun _ => rfl⟩
  · rename_i h
    constructor
    · intro e; omega
    · intro e; exact absurd e h
def opErr (o : Opn) : Int := if 1 ≤ o.1 ∧ o.1 ≤ 5 ∧ fitsC o.2 = true then 0 else 1
theorem opErr_zero {o : Opn} : opErr o = 0 ↔ 1 ≤ o.1 ∧ o.1 ≤ 5 ∧ fitsC o.2 = true := by
  unfold opErr
  split
  · rename_i h; simp [h]
  · rename_i h
    constructor
    · intro e; omega
    · intro e; exact absurd e h
/-- The first fault of a list of things. -/
def firstBad {α : Type} (f : α → Int) : List α → Int
  | [] => 0
  | a :: r => if f a = 0 then firstBad f r else f a
theorem firstBad_zero {α : Type} {f : α → Int} {l : List α} : firstBad f l = 0 ↔ ∀ x, x ∈ l → f x = 0 := by
  induction l with
  | nil => simp [firstBad]
  | cons a r ih =>
    unfold firstBad
    by_cases h : f a = 0
    · rw [if_pos h, ih]
      simp [h]
    · rw [if_neg h]
      constructor
      · intro e; exact absurd e h
      · intro e; exact absurd (e a (List.mem_cons_self ..)) h
theorem firstBad_append {α : Type} (f : α → Int) (l m : List α) : firstBad f (l ++ m) = if firstBad f l = 0 then firstBad f m else firstBad f l := by
  induction l with
  | nil => rfl
  | cons a r ih =>
    rw [List.cons_append, firstBad, firstBad, ih]
    by_cases h : f a = 0
    · rw [if_pos h, if_pos h]
    · rw [if_neg h, if_neg h, if_neg h]

/-- One step of an op. -/
def stepC (w a b : Int) : Int := if w = 2 then (if a < b then b else a) else if w = 3 then a * b else a + b
theorem stepC_bound {w a b : Int} (ha : fitsC a = true) (hb : fitsC b = true) : -1000000000000000000 ≤ stepC w a b ∧ stepC w a b ≤ 1000000000000000000 := by
  obtain ⟨a1, a2⟩ := fitsC_iff.1 ha
  obtain ⟨b1, b2⟩ := fitsC_iff.1 hb
  unfold stepC
  split
  · split <;> omega
  · split
    · have h1 : (a * b).natAbs ≤ 1000000000 * 1000000000 := by
        rw [Int.natAbs_mul]
        exact Nat.mul_le_mul (by omega) (by omega)
      omega
    · omega
/-- Step by step; none: a fault. -/
def foldC (w : Int) : Int → List Cl → Option Int
  | n, [] => some n
  | n, c :: r => if c.2 = true then none else if fitsC (stepC w n c.1) = true then foldC w (stepC w n c.1) r else none
theorem foldC_append (w : Int) (l m : List Cl) : ∀ n, foldC w n (l ++ m) = (foldC w n l).bind (fun k => foldC w k m) := by
  induction l with
  | nil => intro n; rfl
  | cons c r ih =>
    intro n
    rw [List.cons_append, foldC, foldC]
    split
    · rfl
    · split
      · exact ih _
      · rfl
theorem foldC_fits {w : Int} {l : List Cl} : ∀ {n m : Int}, fitsC n = true → foldC w n l = some m → fitsC m = true := by
  induction l with
  | nil => intro n m hn h; rw [foldC] at h; rw [← Option.some.inj h]; exact hn
  | cons c r ih =>
    intro n m hn h
    rw [foldC] at h
    split at h
    · cases h
    · split at h
      · rename_i h2; exact ih h2 h
      · cases h
/-- The first that is no fault. -/
def firstC (n : Int) : List Cl → Cl
  | [] => (n, false)
  | c :: r => if c.2 = true then firstC n r else c
/-- What is told behind the last step. -/
def endC (w n : Int) : Option Int → Cl
  | none => (0, true)
  | some m => if w = 4 then (if m = 0 then (0, true) else (n.tdiv m, false)) else (m, false)
/-- What an op comes to. -/
def doC (o : Opn) (l : List Cl) : Cl := if o.1 = 5 then firstC o.2 l else endC o.1 o.2 (foldC o.1 (if o.1 = 4 then 0 else o.2) l)
theorem tdiv_fits {n m : Int} (hn : fitsC n = true) : fitsC (n.tdiv m) = true := by
  obtain ⟨h1, h2⟩ := fitsC_iff.1 hn
  have h : (n.tdiv m).natAbs ≤ n.natAbs := by rw [Int.natAbs_tdiv]; exact Nat.div_le_self _ _
  exact fitsC_iff.2 (by omega)
theorem firstC_right {n : Int} {l : List Cl} (hn : fitsC n = true) (hl : ∀ c, c ∈ l → cellErr c = 0) : cellErr (firstC n l) = 0 := by
  induction l with
  | nil => exact cellErr_zero.2 ⟨hn, fun h => by cases h⟩
  | cons c r ih =>
    rw [firstC]
    split
    · exact ih (fun x hx => hl x (List.mem_cons_of_mem _ hx))
    · exact hl c (List.mem_cons_self ..)
/-- What an op that is right comes to, of cells that are, is right. -/
theorem doC_right {o : Opn} {l : List Cl} (ho : opErr o = 0) (hl : ∀ c, c ∈ l → cellErr c = 0) : cellErr (doC o l) = 0 := by
  obtain ⟨h1, h5, hf⟩ := opErr_zero.1 ho
  unfold doC
  split
  · exact firstC_right hf hl
  · have h0 : fitsC (if o.1 = 4 then 0 else o.2) = true := by
      split
      · rfl
      · exact hf
    cases hx : foldC o.1 (if o.1 = 4 then 0 else o.2) l with
    | none => exact cellErr_zero.2 ⟨rfl, fun _ => rfl⟩
    | some m =>
      have hm := foldC_fits h0 hx
      unfold endC
      dsimp only
      split
      · split
        · exact cellErr_zero.2 ⟨rfl, fun _ => rfl⟩
        · exact cellErr_zero.2 ⟨tdiv_fits hf, fun h => by cases h⟩
      · exact cellErr_zero.2 ⟨hm, fun h => by cases h⟩
/-- The document divides by sizes and signs. -/
theorem tdiv_sizes (n m : Int) : n.tdiv m = if (decide (n < 0) != decide (m < 0)) = true then -((n.natAbs / m.natAbs : Nat) : Int) else ((n.natAbs / m.natAbs : Nat) : Int) := by
  have hpos : ∀ a b : Nat, ((a : Int)).tdiv (b : Int) = ((a / b : Nat) : Int) := fun a b => (Int.ofNat_tdiv a b).symm
  obtain ⟨b, hb⟩ : ∃ b : Nat, b = m.natAbs := ⟨_, rfl⟩
  obtain ⟨a, ha⟩ : ∃ a : Nat, a = n.natAbs := ⟨_, rfl⟩
  rw [← ha, ← hb]
  by_cases h1 : n < 0
  · obtain rfl : n = -(a : Int) := by omega
    by_cases h2 : m < 0
    · obtain rfl : m = -(b : Int) := by omega
      rw [Int.neg_tdiv, Int.tdiv_neg, hpos, show decide (-(a : Int) < 0) = true from decide_eq_true h1, show decide (-(b : Int) < 0) = true from decide_eq_true h2]
      simp
    · obtain rfl : m = (b : Int) := by omega
      rw [Int.neg_tdiv, hpos, show decide (-(a : Int) < 0) = true from decide_eq_true h1, show decide ((b : Int) < 0) = false from decide_eq_false h2]
      simp
  · obtain rfl : n = (a : Int) := by omega
    by_cases h2 : m < 0
    · obtain rfl : m = -(b : Int) := by omega
      rw [Int.tdiv_neg, hpos, show decide ((a : Int) < 0) = false from decide_eq_false h1, show decide (-(b : Int) < 0) = true from decide_eq_true h2]
      simp
    · obtain rfl : m = (b : Int) := by omega
      rw [hpos, show decide ((a : Int) < 0) = false from decide_eq_false h1, show decide ((b : Int) < 0) = false from decide_eq_false h2]
      simp

/-- What all tasks come to, of each other. -/
def Sol (ts : List (Int × List Int)) (op : Nat → Opn) (F : Nat → Cl) : Prop := ∀ i, i < ts.length → F i = doC (op i) ((needsOf ts i).map (fun y => F y.toNat))
/-- There is one such alone. -/
theorem Sol.same {ts : List (Int × List Int)} {op : Nat → Opn} {F G : Nat → Cl} (hr : InRange ts) (hno : ∀ j, j < ts.length → ¬ Reach ts j j) (hF : Sol ts op F) (hG : Sol ts op G) : ∀ i, i < ts.length → F i = G i := by
  have h := no_ring_empty ts hno (fun x => x < ts.length ∧ F x ≠ G x) (fun x ⟨hx, hne⟩ => by
    refine ⟨hx, ?_⟩
    apply Classical.byContradiction
    intro hall
    refine hne ?_
    rw [hF x hx, hG x hx]
    congr 1
    refine List.map_congr_left fun y hy => ?_
    have hy2 := hr x hx y hy
    apply Classical.byContradiction
    intro h2
    refine hall ⟨y.toNat, ?_, by omega, h2⟩
    unfold Need
    rw [Int.toNat_of_nonneg hy2.1]
    exact hy)
  intro i hi
  apply Classical.byContradiction
  intro hne
  exact h i ⟨hi, hne⟩
/-- Task by task along an order. -/
def putC (F : Nat → Cl) (i : Nat) (c : Cl) : Nat → Cl := fun k => if k = i then c else F k
def alongC (ts : List (Int × List Int)) (op : Nat → Opn) : List Nat → Nat → Cl := fun ord => ord.foldl (fun F i => putC F i (doC (op i) ((needsOf ts i).map (fun y => F y.toNat)))) (fun _ => (0, false))
theorem alongC_snoc (ts : List (Int × List Int)) (op : Nat → Opn) (l : List Nat) (i : Nat) : alongC ts op (l ++ [i]) = putC (alongC ts op l) i (doC (op i) ((needsOf ts i).map (fun y => alongC ts op l y.toNat))) := by
  unfold alongC
  rw [List.foldl_append]
  rfl
/-- In this order nobody stands before whom it needs. -/
def Behind (ts : List (Int × List Int)) (ord : List Nat) : Prop := ∀ m, m < ord.length → ∀ y, Need ts (ord.getD m 0) y → y ∈ ord.take m
theorem Behind.init {ts : List (Int × List Int)} {l : List Nat} {i : Nat} (h : Behind ts (l ++ [i])) : Behind ts l ∧ ∀ y, Need ts i y → y ∈ l := by
  constructor
  · intro m hm y hy
    have := h m (by simp; omega) y (by rw [List.getD_eq_getElem?_getD, List.getElem?_append_left hm, ← List.getD_eq_getElem?_getD]; exact hy)
    rw [List.take_append_of_le_length (by omega)] at this
    exact this
  · intro y hy
    have := h l.length (by simp) y (by simpa using hy)
    simpa using this
/-- Along an order all that it names come to what they come to. -/
theorem alongC_at {ts : List (Int × List Int)} {op : Nat → Opn} : ∀ {ord : List Nat}, ord.Nodup → Behind ts ord → InRange ts → (∀ x, x ∈ ord → x < ts.length) → ∀ i, i ∈ ord → alongC ts op ord i = doC (op i) ((needsOf ts i).map (fun y => alongC ts op ord y.toNat)) := by
  intro ord
  generalize hn : ord.length = n
  induction n generalizing ord with
  | zero =>
    intro _ _ _ _ i hi
    rw [List.eq_nil_of_length_eq_zero hn] at hi
    simp at hi
  | succ n ih =>
    intro hd hb hr hx i hi
    obtain ⟨l, a, rfl⟩ : ∃ l a, ord = l ++ [a] := ⟨ord.dropLast, ord.getLast (by intro e; rw [e] at hn; simp at hn), (List.dropLast_concat_getLast _).symm⟩
    have hl : l.length = n := by simpa using hn
    obtain ⟨hb1, hb2⟩ := hb.init
    have hd2 := List.nodup_append.1 hd
    have hal : ¬ a ∈ l := fun h => hd2.2.2 a h a (List.mem_singleton.2 rfl) rfl
    have hkeep : ∀ x, x ∈ l → alongC ts op (l ++ [a]) x = alongC ts op l x := fun x hxl => by
      rw [alongC_snoc]
      unfold putC
      rw [if_neg]
      intro e
      rw [e] at hxl
      exact hal hxl
    have hneed : ∀ k, k < ts.length → (∀ y, Need ts k y → y ∈ l) → (needsOf ts k).map (fun y => alongC ts op (l ++ [a]) y.toNat) = (needsOf ts k).map (fun y => alongC ts op l y.toNat) := fun k hk hy => by
      refine List.map_congr_left fun y hym => hkeep _ (hy _ ?_)
      have := hr k hk y hym
      unfold Need
      rw [Int.toNat_of_nonneg this.1]
      exact hym
    have hlx : ∀ x, x ∈ l → x < ts.length := fun x h => hx x (List.mem_append.2 (Or.inl h))
    by_cases e : i = a
    · subst e
      rw [hneed i (hx i hi) hb2, alongC_snoc]
      unfold putC
      rw [if_pos rfl]
    · have hil : i ∈ l := by
        rcases List.mem_append.1 hi with h | h
        · exact h
        · exact absurd (List.mem_singleton.1 h) e
      have hyl : ∀ y, Need ts i y → y ∈ l := by
        obtain ⟨j, hj, he⟩ := List.getElem_of_mem hil
        intro y hy
        have := hb1 j hj y (by rw [List.getD_eq_getElem?_getD, List.getElem?_eq_getElem hj]; show Need ts l[j] y; rw [he]; exact hy)
        exact List.mem_of_mem_take this
      rw [hkeep i hil, hneed i (hx i hi) hyl]
      exact ih hl hd2.1 hb1 hr hlx i hil
theorem alongC_sol {ts : List (Int × List Int)} {op : Nat → Opn} {ord : List Nat} (hd : ord.Nodup) (hb : Behind ts ord) (hr : InRange ts) (hx : ∀ x, x ∈ ord → x < ts.length) (hall : ∀ x, x < ts.length → x ∈ ord) : Sol ts op (alongC ts op ord) := fun i hi => alongC_at hd hb hr hx i (hall i hi)
/-- In whatever order, to the same. -/
theorem alongC_same {ts : List (Int × List Int)} {op : Nat → Opn} {o1 o2 : List Nat} (hr : InRange ts) (hno : ∀ j, j < ts.length → ¬ Reach ts j j) (hd1 : o1.Nodup) (hb1 : Behind ts o1) (hx1 : ∀ x, x ∈ o1 → x < ts.length) (ha1 : ∀ x, x < ts.length → x ∈ o1) (hd2 : o2.Nodup) (hb2 : Behind ts o2) (hx2 : ∀ x, x ∈ o2 → x < ts.length) (ha2 : ∀ x, x < ts.length → x ∈ o2) : ∀ i, i < ts.length → alongC ts op o1 i = alongC ts op o2 i :=
  (alongC_sol hd1 hb1 hr hx1 ha1).same hr hno (alongC_sol hd2 hb2 hr hx2 ha2)
/-- All that they come to is right. -/
theorem Sol.right {ts : List (Int × List Int)} {op : Nat → Opn} {F : Nat → Cl} (hr : InRange ts) (hno : ∀ j, j < ts.length → ¬ Reach ts j j) (hF : Sol ts op F) (ho : ∀ i, i < ts.length → opErr (op i) = 0) : ∀ i, i < ts.length → cellErr (F i) = 0 := by
  have h := no_ring_empty ts hno (fun x => x < ts.length ∧ cellErr (F x) ≠ 0) (fun x ⟨hx, hne⟩ => by
    refine ⟨hx, ?_⟩
    apply Classical.byContradiction
    intro hall
    refine hne ?_
    rw [hF x hx]
    refine doC_right (ho x hx) (fun c hc => ?_)
    obtain ⟨y, hy, rfl⟩ := List.mem_map.1 hc
    have hy2 := hr x hx y hy
    apply Classical.byContradiction
    intro h2
    refine hall ⟨y.toNat, ?_, by omega, h2⟩
    unfold Need
    rw [Int.toNat_of_nonneg hy2.1]
    exact hy)
  intro i hi
  apply Classical.byContradiction
  intro hne
  exact h i ⟨hi, hne⟩
/-- A fault goes on, but not past who asks for the first. -/
theorem doC_fault {o : Opn} (ho : o.1 ≠ 5) : doC o [(0, true)] = (0, true) := by
  unfold doC
  rw [if_neg ho]
  rfl
theorem doC_first (n : Int) : doC (5, n) [(0, true)] = (n, false) := rfl
/-- To divide by nothing is a fault. -/
theorem doC_split (n : Int) : doC (4, n) [] = (0, true) := rfl
/-- Along a chain behind a fault all are faults. -/
theorem chain_faults {n : Nat} {op : Nat → Opn} {F : Nat → Cl} (hF : Sol (chainTs 1 n) op F) (h0 : op 0 = (4, 5)) (h5 : ∀ k, k + 1 < n → (op k).1 ≠ 5) : ∀ k, k + 1 < n → F k = (0, true) := by
  intro k
  induction k with
  | zero =>
    intro hk
    rw [hF 0 (by rw [chainTs_length]; omega), h0]
    unfold needsOf
    rw [chainTs_getD 1 n 0 (by omega)]
    rfl
  | succ k ih =>
    intro hk
    rw [hF (k + 1) (by rw [chainTs_length]; omega)]
    unfold needsOf
    rw [chainTs_getD 1 n (k + 1) (by omega), if_neg (by omega), List.map_singleton]
    have e : (((k + 1 : Nat) : Int) - 1).toNat = k := by omega
    rw [e, ih (by omega)]
    exact doC_fault (h5 (k + 1) hk)
theorem chain_last {n : Nat} {op : Nat → Opn} {F : Nat → Cl} (hF : Sol (chainTs 1 (n + 2)) op F) (h0 : op 0 = (4, 5)) (h5 : ∀ k, k + 1 < n + 2 → (op k).1 ≠ 5) : F (n + 1) = doC (op (n + 1)) [(0, true)] := by
  rw [hF (n + 1) (by rw [chainTs_length]; omega)]
  unfold needsOf
  rw [chainTs_getD 1 (n + 2) (n + 1) (by omega), if_neg (by omega), List.map_singleton]
  have e : (((n + 1 : Nat) : Int) - 1).toNat = n := by omega
  rw [e, chain_faults hF h0 h5 n (by omega)]
end Go.Proofs.YtlfbdjeojgbniaaGreatDoor
