/- Plain: steps of the hands in turn, wherever they begin. No word of the program. -/
import Derived.Test.YtandhiiaflhenaaGreatDoorGnp
namespace Go.Proofs.YtandhiiaflhenaaGreatDoor
variable {ts : List (Int × List Int)} {room hands : Nat} {g : Gs} {hs pk : Nat → Nat}

/-- Steps of hands, one behind the other. -/
def gseq (ts : List (Int × List Int)) (room hands : Nat) (hs pk : Nat → Nat) (g : Gs) : Nat → Gs
  | 0 => g
  | k + 1 => gstep ts room hands (gseq ts room hands hs pk g k) (hs k) (pk k)
theorem Inv.seq (hI : Inv ts room hands g) (hg : Good ts) (hw : ∀ i, i < ts.length → 1 ≤ workOf ts i) (hr1 : 1 ≤ room) (hh : ∀ k, hs k < hands) : ∀ k, Inv ts room hands (gseq ts room hands hs pk g k) := by
  intro k
  induction k with
  | zero => exact hI
  | succ k ih => exact ih.step hg hw hr1 (hh k) (pk k)
/-- Up to there something was done, or nothing but that some fell asleep. -/
theorem seq_dec {R : Nat → Nat} (hR : Rem ts hands g R) (hI : Inv ts room hands g) (hg : Good ts) (hw : ∀ i, i < ts.length → 1 ≤ workOf ts i) (hr1 : 1 ≤ room) (hh : ∀ k, hs k < hands) : ∀ k,
    (∃ R', Rem ts hands (gseq ts room hands hs pk g k) R' ∧ sumN R' ts.length < sumN R ts.length)
      ∨ ∃ z, gseq ts room hands hs pk g k = { g with zz := z } ∧ (∀ h, h < hands → (∀ j, j < k → hs j ≠ h) → ((h : Int) ∈ z ↔ (h : Int) ∈ g.zz)) ∧ ∀ j, j < k → ((hs j : Nat) : Int) ∉ g.zz → ¬ 0 ≤ g.task (hs j) ∧ g.near (hs j) = -1 ∧ g.ring (hs j) = [] ∧ g.sp = [] := by
  intro k
  induction k with
  | zero => exact Or.inr ⟨g.zz, rfl, fun h _ _ => Iff.rfl, fun h hk => by omega⟩
  | succ k ih =>
    have hIk := hI.seq (pk := pk) hg hw hr1 hh k
    rcases ih with ⟨R', hR', hlt⟩ | ⟨z, he, hz, hall⟩
    · refine Or.inl ?_
      show ∃ R'', Rem ts hands (gstep ts room hands (gseq ts room hands hs pk g k) (hs k) (pk k)) R'' ∧ _
      rcases step_dec hR' hIk hw (hh k) (pk k) with ⟨R2, h2, h3⟩ | ⟨e, -⟩ | ⟨e, -⟩
      · exact ⟨R2, h2, by omega⟩
      · rw [e]; exact ⟨R', hR', hlt⟩
      · rw [e]; exact ⟨R', hR'.zz _, hlt⟩
    · have hRk : Rem ts hands (gseq ts room hands hs pk g k) R := by rw [he]; exact hR.zz z
      rcases step_dec hRk hIk hw (hh k) (pk k) with ⟨R2, h2, h3⟩ | ⟨e, h2⟩ | ⟨e, h2, h3⟩
      · exact Or.inl ⟨R2, h2, by omega⟩
      · refine Or.inr ⟨z, e.trans he, fun h hlt hno => hz h hlt (fun j hj => hno j (by omega)), fun j hj hnz => ?_⟩
        by_cases e2 : j < k
        · exact hall j e2 hnz
        · obtain rfl : j = k := by omega
          by_cases hv : ∃ m, m < j ∧ hs m = hs j
          · obtain ⟨m, hm, hmj⟩ := hv
            rw [← hmj] at hnz ⊢
            exact hall m hm hnz
          · rw [he] at h2
            exact absurd ((hz (hs j) (hh j) (fun m hm e3 => hv ⟨m, hm, e3⟩)).1 h2) hnz
      · refine Or.inr ⟨z ++ [((hs k : Nat) : Int)], by show gstep ts room hands (gseq ts room hands hs pk g k) (hs k) (pk k) = _; rw [e, he], fun h hlt hno => ?_, fun j hj hnz => ?_⟩
        · rw [List.mem_append, hz h hlt (fun j hj => hno j (by omega))]
          constructor
          · rintro (h1 | h1)
            · exact h1
            · have h4 := List.mem_singleton.1 h1
              have := hno k (by omega)
              omega
          · exact Or.inl
        · by_cases e2 : j < k
          · exact hall j e2 hnz
          · obtain rfl : j = k := by omega
            rw [he] at h3
            exact h3
/-- Steps in which each hand has its turn: while not all are done, something is done. -/
theorem window_dec {R : Nat → Nat} (hR : Rem ts hands g R) (hI : Inv ts room hands g) (hg : Good ts) (hw : ∀ i, i < ts.length → 1 ≤ workOf ts i) (hr1 : 1 ≤ room) (hh : ∀ k, hs k < hands) {K : Nat} (hc : ∀ h, h < hands → ∃ j, j < K ∧ hs j = h) :
    ∃ R', Rem ts hands (gseq ts room hands hs pk g K) R' ∧ sumN R' ts.length ≤ sumN R ts.length - 1 := by
  by_cases hall : ∀ i, i < ts.length → g.S i = true
  · have h0 := hR.done hall
    rcases seq_dec (pk := pk) hR hI hg hw hr1 hh K with ⟨R', hR', hlt⟩ | ⟨z, he, -⟩
    · omega
    · exact ⟨R, by rw [he]; exact hR.zz z, by omega⟩
  · obtain ⟨h, hlt, hz, hb⟩ := hI.busy hg hall
    rcases seq_dec (pk := pk) hR hI hg hw hr1 hh K with ⟨R', hR', hlt⟩ | ⟨z, he, -, hno⟩
    · exact ⟨R', hR', by omega⟩
    · exfalso
      obtain ⟨j, hj, rfl⟩ := hc h hlt
      obtain ⟨h1, h2, h3, h4⟩ := hno j hj hz
      rcases hb with e | e | e | e
      · exact h1 e
      · exact e h2
      · exact e h3
      · exact e h4
/-- The hands in turn, from the i-th step on, each with its number as pick. -/
def grot (ts : List (Int × List Int)) (room hands i : Nat) (g : Gs) (k : Nat) : Gs := gseq ts room hands (fun j => (i + j) % hands) (fun j => i + j) g k
theorem grot_zero (i : Nat) : grot ts room hands i g 0 = g := rfl
theorem grot_succ (i k : Nat) : grot ts room hands i g (k + 1) = gstep ts room hands (grot ts room hands i g k) ((i + k) % hands) (i + k) := rfl
theorem grot_add (i a : Nat) : ∀ b, grot ts room hands i g (a + b) = grot ts room hands (i + a) (grot ts room hands i g a) b := by
  intro b
  induction b with
  | zero => rfl
  | succ b ih => rw [← Nat.add_assoc, grot_succ, grot_succ, ih, Nat.add_assoc]
theorem turn_of (i : Nat) {h : Nat} (hh : h < hands) : ∃ j, j < hands ∧ (i + j) % hands = h := by
  have hp : 0 < hands := by omega
  have hm := Nat.div_add_mod i hands
  have hl := Nat.mod_lt i hp
  by_cases e : i % hands ≤ h
  · refine ⟨h - i % hands, by omega, ?_⟩
    rw [show i + (h - i % hands) = hands * (i / hands) + h by omega, Nat.mul_add_mod, Nat.mod_eq_of_lt hh]
  · refine ⟨hands - i % hands + h, by omega, ?_⟩
    rw [show i + (hands - i % hands + h) = hands * (i / hands + 1) + h by rw [Nat.mul_add, Nat.mul_one]; omega, Nat.mul_add_mod, Nat.mod_eq_of_lt hh]
theorem rot_dec {R : Nat → Nat} (hR : Rem ts hands g R) (hI : Inv ts room hands g) (hg : Good ts) (hw : ∀ i, i < ts.length → 1 ≤ workOf ts i) (hr1 : 1 ≤ room) (h1 : 1 ≤ hands) (i : Nat) : ∀ r,
    Inv ts room hands (grot ts room hands i g (hands * r)) ∧ ∃ R', Rem ts hands (grot ts room hands i g (hands * r)) R' ∧ sumN R' ts.length ≤ sumN R ts.length - r := by
  intro r
  induction r with
  | zero => exact ⟨hI, R, hR, by omega⟩
  | succ r ih =>
    obtain ⟨hI2, R2, hR2, hle⟩ := ih
    rw [Nat.mul_succ, grot_add]
    obtain ⟨R3, hR3, hle3⟩ := window_dec (hs := fun j => (i + hands * r + j) % hands) (pk := fun j => i + hands * r + j) (K := hands) hR2 hI2 hg hw hr1 (fun k => Nat.mod_lt _ (by omega)) (fun h hh => turn_of _ hh)
    exact ⟨hI2.seq hg hw hr1 (fun k => Nat.mod_lt _ (by omega)) hands, R3, hR3, by omega⟩
/-- In so many turns as there is work, and tasks, for each hand, all are done. -/
theorem rot_done {R : Nat → Nat} (hR : Rem ts hands g R) (hI : Inv ts room hands g) (hg : Good ts) (hw : ∀ i, i < ts.length → 1 ≤ workOf ts i) (hr1 : 1 ≤ room) (h1 : 1 ≤ hands) (i : Nat) {r : Nat} (hr : sumN R ts.length ≤ r) :
    ∀ k, k < ts.length → (grot ts room hands i g (hands * r)).S k = true := by
  obtain ⟨hI2, R2, hR2, hle⟩ := rot_dec hR hI hg hw hr1 h1 i r
  exact hR2.zero hI2 hw (by omega)
end Go.Proofs.YtandhiiaflhenaaGreatDoor
