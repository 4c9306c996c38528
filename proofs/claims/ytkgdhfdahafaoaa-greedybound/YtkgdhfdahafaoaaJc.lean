/- Plain: bits step by step may be so. No word of the program. -/
import Derived.Test.YtkgdhfdahafaoaaJa
namespace Go.Proofs.Ytkgdhfdahafaoaa

/-- A bit in whole numbers. -/
def bitZ (b : Nat × Nat × Nat) : BitZ := (b.1, b.2.1, b.2.2)
theorem mem_bitsOf {s : Nat} {l : List Nat} {b : Nat × Nat × Nat} : b ∈ bitsOf s l ↔ ∃ i, ∃ h : i < l.length, b = (s, i, l[i]) := by
  unfold bitsOf
  rw [List.mem_mapIdx]
  constructor
  · rintro ⟨i, h, rfl⟩; exact ⟨i, h, rfl⟩
  · rintro ⟨i, h, rfl⟩; exact ⟨i, h, rfl⟩
theorem mem_bitsTo {ts : List (Int × List Int)} {h s : Nat} {b : Nat × Nat × Nat} : b ∈ bitsTo ts h s ↔ ∃ t, t < s ∧ b ∈ bitsOf t (nowL ts h (leftAt ts h t)) := by
  induction s with
  | zero => exact ⟨fun e => (List.not_mem_nil e).elim, fun ⟨t, ht, _⟩ => by omega⟩
  | succ s ih =>
    show b ∈ bitsTo ts h s ++ bitsOf s _ ↔ _
    rw [List.mem_append, ih]
    constructor
    · rintro (⟨t, ht, hb⟩ | hb)
      · exact ⟨t, by omega, hb⟩
      · exact ⟨s, by omega, hb⟩
    · rintro ⟨t, ht, hb⟩
      by_cases e : t = s
      · subst e; exact Or.inr hb
      · exact Or.inl ⟨t, by omega, hb⟩
theorem bitsOf_apart (s : Nat) {l : List Nat} (hn : l.Nodup) : ((bitsOf s l).map bitZ).Pairwise (fun a b => a.1 = b.1 → a.2.1 ≠ b.2.1 ∧ a.2.2 ≠ b.2.2) := by
  rw [List.pairwise_map, List.pairwise_iff_getElem]
  intro i j hi hj hij _
  rw [bitsOf_length] at hi hj
  have e : ∀ k (hk : k < (bitsOf s l).length), (bitsOf s l)[k] = (s, k, l[k]'(by rw [bitsOf_length] at hk; exact hk)) := fun k hk => by simp [bitsOf]
  rw [e, e]
  have hne := List.pairwise_iff_getElem.1 hn i j hi hj hij
  unfold bitZ
  dsimp only
  refine ⟨by omega, by omega⟩
theorem bits_apart (ts : List (Int × List Int)) (h s : Nat) : ((bitsTo ts h s).map bitZ).Pairwise (fun a b => a.1 = b.1 → a.2.1 ≠ b.2.1 ∧ a.2.2 ≠ b.2.2) := by
  induction s with
  | zero => exact List.Pairwise.nil
  | succ s ih =>
    show ((bitsTo ts h s ++ bitsOf s _).map bitZ).Pairwise _
    rw [List.map_append, List.pairwise_append]
    refine ⟨ih, bitsOf_apart s (nowL_nodup _ _ _), fun a ha b hb e => ?_⟩
    obtain ⟨a', ha', rfl⟩ := List.mem_map.1 ha
    obtain ⟨b', hb', rfl⟩ := List.mem_map.1 hb
    obtain ⟨t, ht, ha2⟩ := mem_bitsTo.1 ha'
    have h1 := bitsOf_step ha2
    have h2 := bitsOf_step hb'
    have e' : ((a'.1 : Nat) : Int) = (b'.1 : Nat) := e
    omega
theorem many_bitsOf (s x : Nat) (l : List Nat) (hn : l.Nodup) : (manyB ((bitsOf s l).map bitZ) (x : Int) : Int) = if x ∈ l then 1 else 0 := by
  have key : ∀ l : List Nat, manyB ((bitsOf s l).map bitZ) (x : Int) = l.count x := by
    intro l
    have : ∀ l : List Nat, manyB ((bitsOf s l.reverse).map bitZ) (x : Int) = l.reverse.count x := by
      intro l
      induction l with
      | nil => rfl
      | cons a l ih =>
        rw [List.reverse_cons, bitsOf_snoc, List.map_append, manyB_append, ih, List.count_append]
        congr 1
        show manyB [bitZ _] _ = _
        rw [manyB_one]
        show (if ((a : Nat) : Int) = (x : Nat) then 1 else 0) = List.count x [a]
        by_cases e : a = x
        · subst e; simp
        · have : ¬ ((a : Nat) : Int) = (x : Nat) := by omega
          simp [this, e]
    have := this l.reverse
    rwa [List.reverse_reverse] at this
  rw [key]
  split
  · rename_i h; rw [hn.count, if_pos h]; rfl
  · rename_i h; rw [List.count_eq_zero_of_not_mem h]; rfl
theorem many_bits (ts : List (Int × List Int)) (h s x : Nat) : leftAt ts h s x + manyB ((bitsTo ts h s).map bitZ) (x : Int) = wkOf ts x := by
  induction s with
  | zero => show wkOf ts x + ((manyB [] _ : Nat) : Int) = _; rw [manyB_nil]; simp
  | succ s ih =>
    show decs (leftAt ts h s) (nowL ts h (leftAt ts h s)) x + ((manyB ((bitsTo ts h s ++ bitsOf s (nowL ts h (leftAt ts h s))).map bitZ) (x : Int) : Nat) : Int) = _
    rw [List.map_append, manyB_append, Int.natCast_add, many_bitsOf _ _ _ (nowL_nodup _ _ _), decs_at (nowL_nodup _ _ _)]
    split <;> omega
theorem leftAt_falls (ts : List (Int × List Int)) (h x t : Nat) (d : Nat) : leftAt ts h (t + d) x ≤ leftAt ts h t x := by
  have := ((leftAt_sched ts h).fall t x d).2
  exact this

/-- What is done step by step, to its end, may be so. -/
theorem greedy_bits {ts : List (Int × List Int)} {h s : Nat} (hw : Works ts) (hr : InRange ts) (hno : ∀ j, j < ts.length → ¬ Reach ts j j) (hh : 1 ≤ h) (hs : Stops ts h s) : BitsOk ts h ((bitsTo ts h s).map bitZ) := by
  have hs6 := hs.le hw hh
  have hover := (hs.over hw hr hno).none
  refine ⟨fun b hb => ?_, bits_apart ts h s, fun x hx => ?_, fun b hb a ha hn => ?_⟩
  · obtain ⟨b', hb', rfl⟩ := List.mem_map.1 hb
    obtain ⟨t, ht, h1⟩ := mem_bitsTo.1 hb'
    obtain ⟨i, hi, rfl⟩ := mem_bitsOf.1 h1
    have h2 := nowL_mem (List.getElem_mem hi)
    have h3 : (nowL ts h (leftAt ts h t)).length ≤ h := by rw [nowL_len]; omega
    unfold bitZ
    dsimp only
    omega
  · have h1 := many_bits ts h s x
    rw [hover x hx] at h1
    omega
  · obtain ⟨b', hb', rfl⟩ := List.mem_map.1 hb
    obtain ⟨a', ha', rfl⟩ := List.mem_map.1 ha
    obtain ⟨t, ht, h1⟩ := mem_bitsTo.1 hb'
    obtain ⟨t', ht', h2⟩ := mem_bitsTo.1 ha'
    obtain ⟨i, hi, rfl⟩ := mem_bitsOf.1 h1
    obtain ⟨j, hj, rfl⟩ := mem_bitsOf.1 h2
    have h3 := nowL_mem (List.getElem_mem hi)
    have h4 := nowL_mem (List.getElem_mem hj)
    have h5 := rdyB_pos h4.2
    have hn' : (((nowL ts h (leftAt ts h t'))[j] : Nat) : Int) ∈ needsOf ts (((nowL ts h (leftAt ts h t))[i] : Nat) : Int).toNat := hn
    rw [Int.toNat_natCast] at hn'
    have h6 : ¬ 0 < leftAt ts h t (nowL ts h (leftAt ts h t'))[j] := by
      have := h3.2
      unfold rdyB at this
      simp only [Bool.and_eq_true, Bool.not_eq_true', List.any_eq_false] at this
      have h7 := this.2 _ hn'
      unfold undB at h7
      rw [Int.toNat_natCast] at h7
      simpa using h7
    show ((t' : Nat) : Int) < (t : Nat)
    refine Classical.byContradiction fun e => ?_
    have h8 := leftAt_falls ts h (nowL ts h (leftAt ts h t'))[j] t (t' - t)
    rw [show t + (t' - t) = t' by omega] at h8
    omega
end Go.Proofs.Ytkgdhfdahafaoaa
