/- Plain: in so many rounds as there is work, and tasks, all are done. No word of the program. -/
import Derived.Test.YtiekhigjllbalaaGreatDoorGngc
namespace Go.Proofs.YtiekhigjllbalaaGreatDoor
variable {ts : List (Int × List Int)} {room hands : Nat} {g : Gs}

theorem Inv.nodup (hI : Inv ts room hands g) : (heldL g hands).Nodup := hI.held.symm.nodup (intsOf_nodup (readyTo_nodup _ _ _))
theorem ofAll_apart {n : Nat} (hd : (ofAll g n).Nodup) : ∀ {h k : Nat}, h < n → k < n → h ≠ k → ∀ {x : Int}, x ∈ ofH g h → x ∈ ofH g k → False := by
  induction n with
  | zero => intro h k hh; omega
  | succ n ih =>
    intro h k hh hk hne x hx hy
    rw [ofAll] at hd
    have hd' := List.nodup_append.1 hd
    by_cases e : h = n
    · subst e
      exact hd'.2.2 x (mem_ofAll.2 ⟨k, by omega, hy⟩) x hx rfl
    · by_cases e2 : k = n
      · subst e2
        exact hd'.2.2 x (mem_ofAll.2 ⟨h, by omega, hx⟩) x hy rfl
      · exact ih hd'.1 (by omega) (by omega) hne hx hy
theorem ofAll_part {n : Nat} (hd : (ofAll g n).Nodup) : ∀ {h : Nat}, h < n → (ofH g h).Nodup := by
  induction n with
  | zero => intro h hh; omega
  | succ n ih =>
    intro h hh
    rw [ofAll] at hd
    have hd' := List.nodup_append.1 hd
    by_cases e : h = n
    · subst e; exact hd'.2.1
    · exact ih hd'.1 (by omega)
theorem Inv.oneHas (hI : Inv ts room hands g) {h k : Nat} (hh : h < hands) (hk : k < hands) (ht : 0 ≤ g.task h) (e : g.task k = g.task h) : k = h := by
  rcases Nat.decEq k h with hne | e2
  · exact absurd (ofAll_apart (List.nodup_append.1 hI.nodup).1 hk hh hne (x := g.task h) (by simp [ofH, ← e, oneT_some (show 0 ≤ g.task k by omega)]) (by simp [ofH, oneT_some ht])) id
  · exact e2
theorem Inv.free_hand (hI : Inv ts room hands g) {o : Nat} (ho : o < hands) {x : Int} (hx : x ∈ allH (g.near o) (g.ring o)) : ∀ k, k < hands → g.task k ≠ x := by
  intro k hk e
  have hmem : x ∈ heldL g hands := List.mem_append.2 (Or.inl (mem_ofAll.2 ⟨o, ho, by simp [ofH, hx]⟩))
  obtain ⟨j, hj, -⟩ := hI.rdy hmem
  have ht : 0 ≤ g.task k := by omega
  have hk1 : x ∈ oneT (g.task k) := by rw [oneT_some ht, e]; simp
  have hd := (List.nodup_append.1 hI.nodup).1
  by_cases e2 : k = o
  · subst e2
    exact (List.nodup_append.1 (ofAll_part hd hk)).2.2 x hk1 x hx rfl
  · exact ofAll_apart hd hk ho e2 (x := x) (by simp [ofH, hk1]) (by simp [ofH, hx])
theorem Inv.free_sp (hI : Inv ts room hands g) {x : Int} (hx : x ∈ g.sp) : ∀ k, k < hands → g.task k ≠ x := by
  intro k hk e
  obtain ⟨j, hj, -⟩ := hI.rdy (held_sp (hands := hands) hx)
  have ht : 0 ≤ g.task k := by omega
  have hd := List.nodup_append.1 hI.nodup
  exact hd.2.2 x (mem_ofAll.2 ⟨k, hk, by rw [ofH, oneT_some ht, e]; simp⟩) x hx rfl

def sumN (R : Nat → Nat) : Nat → Nat
  | 0 => 0
  | n + 1 => sumN R n + R n
theorem sumN_out (R : Nat → Nat) (i x : Nat) : ∀ n, n ≤ i → sumN (upd R i x) n = sumN R n := by
  intro n
  induction n with
  | zero => intro _; rfl
  | succ n ih => intro h; rw [sumN, sumN, ih (by omega), upd_ne _ _ (by omega)]
theorem sumN_in (R : Nat → Nat) {i x : Nat} (hx : x + 1 = R i) : ∀ n, i < n → sumN (upd R i x) n + 1 = sumN R n := by
  intro n
  induction n with
  | zero => intro h; omega
  | succ n ih =>
    intro h
    rw [sumN, sumN]
    by_cases e : n = i
    · subst e; rw [sumN_out R n x n (Nat.le_refl _), upd_self]; omega
    · rw [upd_ne _ _ e]; have := ih (by omega); omega
theorem sumN_zero {R : Nat → Nat} : ∀ {n : Nat}, sumN R n = 0 → ∀ i, i < n → R i = 0 := by
  intro n
  induction n with
  | zero => intro _ i hi; omega
  | succ n ih =>
    intro h i hi
    rw [sumN] at h
    by_cases e : i = n
    · subst e; omega
    · exact ih (by omega) i (by omega)
theorem sumN_all {R : Nat → Nat} {n : Nat} (h : ∀ i, i < n → R i = 0) : sumN R n = 0 := by
  induction n with
  | zero => rfl
  | succ n ih => rw [sumN, ih (fun i hi => h i (by omega)), h n (by omega)]

/-- How many times each task is still to be had, or a unit of it to be done. -/
structure Rem (ts : List (Int × List Int)) (hands : Nat) (g : Gs) (R : Nat → Nat) : Prop where
  dn : ∀ i, i < ts.length → g.S i = true → R i = 0
  had : ∀ h, h < hands → 0 ≤ g.task h → (R (g.task h).toNat : Int) = g.work h
  free : ∀ i, i < ts.length → g.S i = false → (∀ h, h < hands → g.task h ≠ ((i : Nat) : Int)) → (R i : Int) = 1 + workOf ts i
/-- None is left if and only if all are done. -/
theorem Rem.zero {R : Nat → Nat} (hR : Rem ts hands g R) (hI : Inv ts room hands g) (hw : ∀ i, i < ts.length → 1 ≤ workOf ts i) (h : sumN R ts.length = 0) : ∀ i, i < ts.length → g.S i = true := by
  intro i hi
  have h0 := sumN_zero h i hi
  cases hS : g.S i with
  | true => rfl
  | false =>
    exfalso
    by_cases hex : ∃ k, k < hands ∧ g.task k = ((i : Nat) : Int)
    · obtain ⟨k, hk, e⟩ := hex
      have h1 := hR.had k hk (by omega)
      have h2 := (hI.workOk k hk (by omega)).1
      rw [e] at h1
      simp at h1
      omega
    · have := hR.free i hi hS (fun k hk e => hex ⟨k, hk, e⟩)
      have := hw i hi
      omega
theorem Rem.done {R : Nat → Nat} (hR : Rem ts hands g R) (h : ∀ i, i < ts.length → g.S i = true) : sumN R ts.length = 0 := sumN_all (fun i hi => hR.dn i hi (h i hi))

theorem Rem.takes {R : Nat → Nat} (hR : Rem ts hands g R) (hI : Inv ts room hands g) (hw : ∀ i, i < ts.length → 1 ≤ workOf ts i) {g1 : Gs} {h : Nat} (hh : h < hands) (ht : ¬ 0 ≤ g.task h) {x : Int} (hx : x ∈ heldL g hands) (hfree : ∀ k, k < hands → g.task k ≠ x)
    (hS : g1.S = g.S) (hta : g1.task = g.task) (hwk : g1.work = g.work) : ∃ R', Rem ts hands (YtiekhigjllbalaaGreatDoor.takes ts g1 h x) R' ∧ sumN R' ts.length + 1 = sumN R ts.length := by
  obtain ⟨i, rfl, hi, hrd⟩ := hI.rdy hx
  have hSi := (ready_parts hrd).1
  have hRi := hR.free i hi hSi hfree
  have hwi := hw i hi
  refine ⟨upd R i (workOf ts i).toNat, ⟨fun j hj hSj => ?_, fun k hk htk => ?_, fun j hj hSj hfj => ?_⟩, sumN_in R (by omega) _ hi⟩
  · have hSj' : g.S j = true := by rw [← hS]; exact hSj
    have hne : j ≠ i := fun e => by rw [e, hSi] at hSj'; cases hSj'
    rw [upd_ne _ _ hne]
    exact hR.dn j hj hSj'
  · have htk' : 0 ≤ upd g1.task h ((i : Nat) : Int) k := htk
    show ((upd R i (workOf ts i).toNat (upd g1.task h ((i : Nat) : Int) k).toNat : Nat) : Int) = upd g1.work h (workOf ts ((i : Nat) : Int).toNat) k
    by_cases e : k = h
    · subst e
      rw [upd_self, upd_self]
      simp only [Int.toNat_natCast, upd_self]
      omega
    · rw [upd_ne _ _ e] at htk'
      rw [upd_ne _ _ e, upd_ne _ _ e, hta, hwk]
      rw [hta] at htk'
      have hne : (g.task k).toNat ≠ i := fun e2 => hfree k hk (by omega)
      rw [upd_ne _ _ hne]
      exact hR.had k hk htk'
  · have hSj' : g.S j = false := by rw [← hS]; exact hSj
    have hne : j ≠ i := fun e => by
      have := hfj h hh
      apply this
      show upd g1.task h ((i : Nat) : Int) h = _
      rw [upd_self, e]
    rw [upd_ne _ _ hne]
    refine hR.free j hj hSj' (fun k hk e => ?_)
    by_cases e2 : k = h
    · subst e2; omega
    · apply hfj k hk
      show upd g1.task h ((i : Nat) : Int) k = _
      rw [upd_ne _ _ e2, hta]; exact e

theorem Rem.works {R : Nat → Nat} (hR : Rem ts hands g R) (hI : Inv ts room hands g) {h : Nat} (hh : h < hands) (ht : 0 ≤ g.task h) (hk : 1 < g.work h) : ∃ R', Rem ts hands { g with work := upd g.work h (g.work h - 1) } R' ∧ sumN R' ts.length + 1 = sumN R ts.length := by
  obtain ⟨i, hti, hi, hrd⟩ := hI.rdy (held_task hh ht)
  have hSi := (ready_parts hrd).1
  have hRi := hR.had h hh ht
  have hin : (g.task h).toNat = i := by omega
  rw [hin] at hRi
  refine ⟨upd R i (R i - 1), ⟨fun j hj hSj => ?_, fun k hk2 htk => ?_, fun j hj hSj hfj => ?_⟩, sumN_in R (by omega) _ hi⟩
  · have hne : j ≠ i := fun e => by have h2 : g.S j = true := hSj; rw [e, hSi] at h2; cases h2
    rw [upd_ne _ _ hne]
    exact hR.dn j hj hSj
  · show ((upd R i (R i - 1) (g.task k).toNat : Nat) : Int) = upd g.work h (g.work h - 1) k
    by_cases e : k = h
    · subst e
      rw [hin, upd_self, upd_self]
      omega
    · have htk' : 0 ≤ g.task k := htk
      have hne : (g.task k).toNat ≠ i := fun e2 => e (hI.oneHas hh hk2 ht (by omega))
      rw [upd_ne _ _ hne, upd_ne _ _ e]
      exact hR.had k hk2 htk'
  · have hne : j ≠ i := fun e => hfj h hh (by show g.task h = _; rw [hti, e])
    rw [upd_ne _ _ hne]
    exact hR.free j hj hSj hfj
theorem Rem.ends {R : Nat → Nat} (hR : Rem ts hands g R) (hI : Inv ts room hands g) {h : Nat} (hh : h < hands) (ht : 0 ≤ g.task h) (hk : ¬ 1 < g.work h) : ∃ R', Rem ts hands (YtiekhigjllbalaaGreatDoor.ends ts room g h) R' ∧ sumN R' ts.length + 1 = sumN R ts.length := by
  obtain ⟨i, hti, hi, hrd⟩ := hI.rdy (held_task hh ht)
  have hSi := (ready_parts hrd).1
  have hRi := hR.had h hh ht
  have hw1 := (hI.workOk h hh ht).1
  have hin : (g.task h).toNat = i := by omega
  rw [hin] at hRi
  refine ⟨upd R i 0, ⟨fun j hj hSj => ?_, fun k hk2 htk => ?_, fun j hj hSj hfj => ?_⟩, sumN_in R (by omega) _ hi⟩
  · have hSj' : mark g.S (g.task h).toNat j = true := hSj
    rw [hin] at hSj'
    by_cases e : j = i
    · subst e; exact upd_self _ _ _
    · rw [mark_ne e] at hSj'
      rw [upd_ne _ _ e]
      exact hR.dn j hj hSj'
  · have htk' : 0 ≤ upd g.task h (-1) k := htk
    show ((upd R i 0 (upd g.task h (-1) k).toNat : Nat) : Int) = upd g.work h (g.work h - 1) k
    by_cases e : k = h
    · subst e; rw [upd_self] at htk'; omega
    · rw [upd_ne _ _ e] at htk'
      rw [upd_ne _ _ e, upd_ne _ _ e]
      have hne : (g.task k).toNat ≠ i := fun e2 => e (hI.oneHas hh hk2 ht (by omega))
      rw [upd_ne _ _ hne]
      exact hR.had k hk2 htk'
  · have hSj' : mark g.S (g.task h).toNat j = false := hSj
    rw [hin] at hSj'
    have hne : j ≠ i := fun e => by rw [e, mark_self] at hSj'; cases hSj'
    rw [mark_ne hne] at hSj'
    rw [upd_ne _ _ hne]
    refine hR.free j hj hSj' (fun k hk2 e => ?_)
    by_cases e2 : k = h
    · subst e2; omega
    · apply hfj k hk2
      show upd g.task h (-1) k = _
      rw [upd_ne _ _ e2]; exact e

/-- A step is one of those that are to be done, or nothing but that one falls asleep. -/
theorem step_dec {R : Nat → Nat} (hR : Rem ts hands g R) (hI : Inv ts room hands g) (hw : ∀ i, i < ts.length → 1 ≤ workOf ts i) {h : Nat} (hh : h < hands) (pick : Nat) :
    (∃ R', Rem ts hands (gstep ts room hands g h pick) R' ∧ sumN R' ts.length + 1 = sumN R ts.length)
      ∨ (gstep ts room hands g h pick = g ∧ (h : Int) ∈ g.zz)
      ∨ (gstep ts room hands g h pick = { g with zz := g.zz ++ [(h : Int)] } ∧ (h : Int) ∉ g.zz ∧ ¬ 0 ≤ g.task h ∧ g.near h = -1 ∧ g.ring h = [] ∧ g.sp = []) := by
  unfold gstep
  by_cases hz : (h : Int) ∈ g.zz
  · rw [if_pos hz]; exact Or.inr (Or.inl ⟨rfl, hz⟩)
  rw [if_neg hz]
  by_cases ht : 0 ≤ g.task h
  · rw [if_pos ht]
    by_cases hk : 1 < g.work h
    · rw [if_pos hk]; exact Or.inl (hR.works hI hh ht hk)
    · rw [if_neg hk]; exact Or.inl (hR.ends hI hh ht hk)
  rw [if_neg ht]
  by_cases hn : g.near h = -1
  · rw [if_neg (by simpa using hn)]
    by_cases hr : g.ring h = []
    · rw [if_neg (by simpa using hr)]
      by_cases hs : g.sp = []
      · rw [if_neg (by simpa using hs)]
        by_cases hp : pick % hands = h ∨ g.ring (pick % hands) = []
        · rw [if_pos hp]; exact Or.inr (Or.inr ⟨rfl, hz, ht, hn, hr, hs⟩)
        · rw [if_neg hp]
          have ho : pick % hands < hands := Nat.mod_lt _ (by omega)
          have hor : g.ring (pick % hands) ≠ [] := fun e => hp (Or.inr e)
          obtain ⟨x, l, hxl⟩ : ∃ x l, (g.ring (pick % hands)).take (((g.ring (pick % hands)).length + 1) / 2) = x :: l := List.exists_cons_of_ne_nil (by
            intro e
            have hpos := List.length_pos_iff.2 hor
            rcases List.take_eq_nil_iff.1 e with e | e
            · omega
            · exact hor e)
          have hxr : x ∈ g.ring (pick % hands) := List.mem_of_mem_take (by rw [hxl]; simp)
          refine Or.inl ?_
          unfold YtiekhigjllbalaaGreatDoor.robs
          simp only [hxl, List.headD_cons]
          exact hR.takes hI hw hh ht (held_ring ho hxr) (hI.free_hand ho (by unfold allH; split <;> simp [hxr])) rfl rfl rfl
      · rw [if_pos hs]
        obtain ⟨x, r, hx⟩ := List.exists_cons_of_ne_nil hs
        have hxs : g.sp.headD 0 ∈ g.sp := by rw [hx]; simp
        exact Or.inl (hR.takes hI hw hh ht (held_sp hxs) (hI.free_sp hxs) rfl rfl rfl)
    · rw [if_pos hr]
      have hxr : (g.ring h).getLastD 0 ∈ g.ring h := by
        have h2 : (g.ring h).getLastD 0 ∈ (g.ring h).dropLast ++ [(g.ring h).getLastD 0] := List.mem_append_right _ (List.mem_singleton_self _)
        rw [← last_split hr] at h2
        exact h2
      exact Or.inl (hR.takes hI hw hh ht (held_ring hh hxr) (hI.free_hand hh (by rw [hn, allH_none]; exact hxr)) rfl rfl rfl)
  · rw [if_pos hn]
    exact Or.inl (hR.takes hI hw hh ht (held_near hh hn) (hI.free_hand hh (by rw [allH_some hn]; simp)) rfl rfl rfl)

/-- Each of the first so many hands does a step. -/
def grun (ts : List (Int × List Int)) (room hands pick : Nat) (g : Gs) : Nat → Gs
  | 0 => g
  | k + 1 => gstep ts room hands (grun ts room hands pick g k) k pick
theorem Inv.run (hI : Inv ts room hands g) (hg : Good ts) (hw : ∀ i, i < ts.length → 1 ≤ workOf ts i) (hr1 : 1 ≤ room) (pick : Nat) : ∀ k, k ≤ hands → Inv ts room hands (grun ts room hands pick g k) := by
  intro k
  induction k with
  | zero => intro _; exact hI
  | succ k ih => intro h; exact (ih (by omega)).step hg hw hr1 (by omega) pick

/-- While not all are done one that is awake has something to do. -/
theorem Inv.busy (hI : Inv ts room hands g) (hg : Good ts) (hn : ¬ ∀ i, i < ts.length → g.S i = true) : ∃ h, h < hands ∧ (h : Int) ∉ g.zz ∧ (0 ≤ g.task h ∨ g.near h ≠ -1 ∨ g.ring h ≠ [] ∨ g.sp ≠ []) := by
  have hr := ready_some hg (S := g.S) (fun h => hn (unseen_all _ _ h))
  have hne : heldL g hands ≠ [] := fun e => by
    have := hI.held.length_eq
    rw [e, intsOf_length] at this
    exact hr (List.eq_nil_of_length_eq_zero this.symm)
  by_cases hs : g.sp = []
  · obtain ⟨x, r, hx⟩ := List.exists_cons_of_ne_nil hne
    have hxm : x ∈ ofAll g hands := by
      have : x ∈ heldL g hands := by rw [hx]; simp
      unfold heldL at this
      rw [hs, List.append_nil] at this
      exact this
    obtain ⟨h, hh, hxh⟩ := mem_ofAll.1 hxm
    have hhas : 0 ≤ g.task h ∨ g.near h ≠ -1 ∨ g.ring h ≠ [] := by
      unfold ofH at hxh
      rcases List.mem_append.1 hxh with h1 | h1
      · unfold oneT at h1
        split at h1
        · exact Or.inl (by assumption)
        · simp at h1
      · unfold allH at h1
        split at h1
        · exact Or.inr (Or.inr (fun e => by rw [e] at h1; simp at h1))
        · exact Or.inr (Or.inl (by assumption))
    refine ⟨h, hh, fun hz => ?_, ?_⟩
    · obtain ⟨k, h1, h2, h3, h4, h5⟩ := hI.zr _ hz
      obtain rfl : k = h := by omega
      rcases hhas with e | e | e
      · omega
      · exact e h4
      · exact e h5
    · rcases hhas with e | e | e
      · exact Or.inl e
      · exact Or.inr (Or.inl e)
      · exact Or.inr (Or.inr (Or.inl e))
  · obtain ⟨h, hh, hz⟩ := hI.awake hs
    exact ⟨h, hh, hz, Or.inr (Or.inr (Or.inr hs))⟩

theorem Rem.zz {R : Nat → Nat} (hR : Rem ts hands g R) (z : List Int) : Rem ts hands { g with zz := z } R := ⟨hR.dn, hR.had, hR.free⟩
/-- Up to there something was done, or nothing but that some fell asleep. -/
theorem run_dec {R : Nat → Nat} (hR : Rem ts hands g R) (hI : Inv ts room hands g) (hg : Good ts) (hw : ∀ i, i < ts.length → 1 ≤ workOf ts i) (hr1 : 1 ≤ room) (pick : Nat) : ∀ k, k ≤ hands →
    (∃ R', Rem ts hands (grun ts room hands pick g k) R' ∧ sumN R' ts.length < sumN R ts.length)
      ∨ ∃ z, grun ts room hands pick g k = { g with zz := z } ∧ (∀ h, h < hands → k ≤ h → ((h : Int) ∈ z ↔ (h : Int) ∈ g.zz)) ∧ ∀ h, h < k → (h : Int) ∉ g.zz → ¬ 0 ≤ g.task h ∧ g.near h = -1 ∧ g.ring h = [] ∧ g.sp = [] := by
  intro k
  induction k with
  | zero => intro _; exact Or.inr ⟨g.zz, rfl, fun h _ _ => Iff.rfl, fun h hk => by omega⟩
  | succ k ih =>
    intro hk
    have hIk := hI.run hg hw hr1 pick k (by omega)
    rcases ih (by omega) with ⟨R', hR', hlt⟩ | ⟨z, he, hz, hall⟩
    · refine Or.inl ?_
      show ∃ R'', Rem ts hands (gstep ts room hands (grun ts room hands pick g k) k pick) R'' ∧ _
      rcases step_dec hR' hIk hw (by omega : k < hands) pick with ⟨R2, h2, h3⟩ | ⟨e, -⟩ | ⟨e, -⟩
      · exact ⟨R2, h2, by omega⟩
      · rw [e]; exact ⟨R', hR', hlt⟩
      · rw [e]; exact ⟨R', hR'.zz _, hlt⟩
    · have hRk : Rem ts hands (grun ts room hands pick g k) R := by rw [he]; exact hR.zz z
      rcases step_dec hRk hIk hw (by omega : k < hands) pick with ⟨R2, h2, h3⟩ | ⟨e, h2⟩ | ⟨e, h2, h3⟩
      · exact Or.inl ⟨R2, h2, by omega⟩
      · refine Or.inr ⟨z, e.trans he, fun h hh hkh => hz h hh (by omega), fun h hlt hnz => ?_⟩
        by_cases e2 : h = k
        · subst e2
          rw [he] at h2
          exact absurd ((hz h (by omega) (Nat.le_refl _)).1 h2) hnz
        · exact hall h (by omega) hnz
      · refine Or.inr ⟨z ++ [(k : Int)], by show gstep ts room hands (grun ts room hands pick g k) k pick = _; rw [e, he], fun h hh hkh => ?_, fun h hlt hnz => ?_⟩
        · rw [List.mem_append, hz h hh (by omega)]
          constructor
          · rintro (h1 | h1)
            · exact h1
            · have := List.mem_singleton.1 h1
              omega
          · exact Or.inl
        · by_cases e2 : h = k
          · subst e2
            rw [he] at h3
            exact h3
          · exact hall h (by omega) hnz
/-- In a round, while not all are done, something is done. -/
theorem round_dec {R : Nat → Nat} (hR : Rem ts hands g R) (hI : Inv ts room hands g) (hg : Good ts) (hw : ∀ i, i < ts.length → 1 ≤ workOf ts i) (hr1 : 1 ≤ room) (pick : Nat) :
    ∃ R', Rem ts hands (grun ts room hands pick g hands) R' ∧ sumN R' ts.length ≤ sumN R ts.length - 1 := by
  by_cases hall : ∀ i, i < ts.length → g.S i = true
  · have h0 := hR.done hall
    rcases run_dec hR hI hg hw hr1 pick hands (Nat.le_refl _) with ⟨R', hR', hlt⟩ | ⟨z, he, -⟩
    · omega
    · exact ⟨R, by rw [he]; exact hR.zz z, by omega⟩
  · obtain ⟨h, hh, hz, hb⟩ := hI.busy hg hall
    rcases run_dec hR hI hg hw hr1 pick hands (Nat.le_refl _) with ⟨R', hR', hlt⟩ | ⟨z, he, -, hno⟩
    · exact ⟨R', hR', by omega⟩
    · exfalso
      obtain ⟨h1, h2, h3, h4⟩ := hno h hh hz
      rcases hb with e | e | e | e
      · exact h1 e
      · exact e h2
      · exact e h3
      · exact e h4
/-- So many rounds, with whatever picks. -/
def grounds (ts : List (Int × List Int)) (room hands : Nat) (pick : Nat → Nat) (g : Gs) : Nat → Gs
  | 0 => g
  | r + 1 => grun ts room hands (pick r) (grounds ts room hands pick g r) hands
theorem rounds_dec {R : Nat → Nat} (hR : Rem ts hands g R) (hI : Inv ts room hands g) (hg : Good ts) (hw : ∀ i, i < ts.length → 1 ≤ workOf ts i) (hr1 : 1 ≤ room) (pick : Nat → Nat) : ∀ r,
    Inv ts room hands (grounds ts room hands pick g r) ∧ ∃ R', Rem ts hands (grounds ts room hands pick g r) R' ∧ sumN R' ts.length ≤ sumN R ts.length - r := by
  intro r
  induction r with
  | zero => exact ⟨hI, R, hR, by omega⟩
  | succ r ih =>
    obtain ⟨hI2, R2, hR2, hle⟩ := ih
    obtain ⟨R3, hR3, hle3⟩ := round_dec hR2 hI2 hg hw hr1 (pick r)
    exact ⟨hI2.run hg hw hr1 (pick r) hands (Nat.le_refl _), R3, hR3, by omega⟩
theorem Rem.new : Rem ts hands (gnew ts) (fun i => (1 + workOf ts i).toNat) ∨ ¬ ∀ i, i < ts.length → 1 ≤ workOf ts i := by
  by_cases hw : ∀ i, i < ts.length → 1 ≤ workOf ts i
  · refine Or.inl ⟨fun i _ h => by simp [gnew] at h, fun h _ ht => by simp [gnew] at ht, fun i hi _ _ => ?_⟩
    have := hw i hi
    show (((1 + workOf ts i).toNat : Nat) : Int) = 1 + workOf ts i
    omega
  · exact Or.inr hw
/-- Behind any steps, in so many rounds as there is work, and tasks, all are done, and nothing is held. -/
theorem all_done {R : Nat → Nat} (hR : Rem ts hands g R) (hI : Inv ts room hands g) (hg : Good ts) (hw : ∀ i, i < ts.length → 1 ≤ workOf ts i) (hr1 : 1 ≤ room) (pick : Nat → Nat) {r : Nat} (hr : sumN R ts.length ≤ r) :
    (∀ i, i < ts.length → (grounds ts room hands pick g r).S i = true) ∧ heldL (grounds ts room hands pick g r) hands = [] := by
  obtain ⟨hI2, R2, hR2, hle⟩ := rounds_dec hR hI hg hw hr1 pick r
  have hd := hR2.zero hI2 hw (by omega)
  refine ⟨hd, ?_⟩
  have hp := hI2.held
  rw [ready_end (unseen_zero _ _ hd)] at hp
  exact List.Perm.eq_nil hp
end Go.Proofs.YtiekhigjllbalaaGreatDoor
