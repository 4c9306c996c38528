/- Plain: what is wrong with bits, and with stays, as the document judges them. No word of the program. Plain: bits step by step may be so. No word of the program. Plain: what is wrong with stays, as the document judges them; stays by an order, and bits step by step, may be so. No word of the program. -/
import Derived.Test.YtkcpimbhfmhjgaaLst

namespace Go.Proofs.Ytkcpimbhfmhjgaa

/-- A bit: its step, its hand, its task. -/
abbrev BitZ : Type := Int × Int × Int
/-- A stay: its hand, its task, from when on, till when. -/
abbrev StyZ : Type := Int × Int × Int × Int

/-- How many bits a task has. -/
def manyB (l : List BitZ) (x : Int) : Nat := l.countP (fun b => decide (b.2.2 = x))
/-- One is wrong by itself: of no step, no hand, no task. -/
def outB (n h : Nat) (b : BitZ) : Bool := decide (b.1 < 0) || decide (10000 < b.1) || decide (b.2.1 < 0) || decide ((h : Int) ≤ b.2.1) || decide (b.2.2 < 0) || decide ((n : Int) ≤ b.2.2)
/-- Two of one step, by one hand or of one task. -/
def hitB (a b : BitZ) : Bool := decide (a.1 = b.1) && (decide (a.2.1 = b.2.1) || decide (a.2.2 = b.2.2))
/-- The fault of a bit, by those ahead of it. -/
def bitErr (ts : List (Int × List Int)) (h : Nat) (l : List BitZ) (b : BitZ) : Int :=
  if outB ts.length h b = true then 1 else if l.any (fun a => hitB a b) = true then 7 else if wkOf ts b.2.2.toNat ≤ manyB l b.2.2 then 4 else 0
/-- The first fault of one, along a list. -/
def firstErr {α : Type} (E : List α → α → Int) : List α → List α → Int
  | _, [] => 0
  | l, b :: r => if E l b = 0 then firstErr E (l ++ [b]) r else E l b
theorem firstErr_zero {α : Type} {E : List α → α → Int} {l r : List α} : firstErr E l r = 0 ↔ ∀ k (hk : k < r.length), E (l ++ r.take k) r[k] = 0 := by
  induction r generalizing l with
  | nil => exact ⟨fun _ k hk => by simp at hk, fun _ => rfl⟩
  | cons b r ih =>
    unfold firstErr
    by_cases h : E l b = 0
    · rw [if_pos h, ih]
      constructor
      · intro hr k hk
        cases k with
        | zero => simpa using h
        | succ k =>
          have := hr k (by simpa using hk)
          simpa using this
      · intro hr k hk
        have := hr (k + 1) (by simpa using hk)
        simpa using this
    · rw [if_neg h]
      refine ⟨fun e => absurd e h, fun hr => ?_⟩
      have h1 : E (l ++ []) b = 0 := hr 0 (by simp)
      rw [List.append_nil] at h1
      exact absurd h1 h
/-- The last step of a task; 0 of none. -/
def lastB (l : List BitZ) (x : Int) : Int := l.foldl (fun m b => if b.2.2 = x ∧ m < b.1 then b.1 else m) 0
/-- Some task has less than its work. -/
def lackB (ts : List (Int × List Int)) (l : List BitZ) : Bool := (List.range ts.length).any (fun x => decide ((manyB l (x : Int) : Int) < wkOf ts x))
/-- A bit that is not behind all of those that its task needs. -/
def earlyB (ts : List (Int × List Int)) (l : List BitZ) : Bool := l.any (fun b => (needsOf ts b.2.2.toNat).any (fun y => decide (b.1 ≤ lastB l y)))
def bitsErr (ts : List (Int × List Int)) (h : Nat) (l : List BitZ) : Int :=
  if firstErr (bitErr ts h) [] l = 0 then (if lackB ts l = true then 5 else if earlyB ts l = true then 6 else 0) else firstErr (bitErr ts h) [] l

/-- Bits that may be so. -/
structure BitsOk (ts : List (Int × List Int)) (h : Nat) (l : List BitZ) : Prop where
  rng : ∀ b, b ∈ l → 0 ≤ b.1 ∧ b.1 ≤ 10000 ∧ 0 ≤ b.2.1 ∧ b.2.1 < h ∧ 0 ≤ b.2.2 ∧ b.2.2 < ts.length
  apart : l.Pairwise (fun a b => a.1 = b.1 → a.2.1 ≠ b.2.1 ∧ a.2.2 ≠ b.2.2)
  full : ∀ x, x < ts.length → (manyB l (x : Int) : Int) = wkOf ts x
  behind : ∀ b, b ∈ l → ∀ a, a ∈ l → a.2.2 ∈ needsOf ts b.2.2.toNat → a.1 < b.1

theorem outB_false {n h : Nat} {b : BitZ} : outB n h b = false ↔ 0 ≤ b.1 ∧ b.1 ≤ 10000 ∧ 0 ≤ b.2.1 ∧ b.2.1 < h ∧ 0 ≤ b.2.2 ∧ b.2.2 < n := by
  unfold outB
  simp only [Bool.or_eq_false_iff, decide_eq_false_iff_not]
  omega
theorem hitB_false {a b : BitZ} : hitB a b = false ↔ (a.1 = b.1 → a.2.1 ≠ b.2.1 ∧ a.2.2 ≠ b.2.2) := by
  unfold hitB
  by_cases h : a.1 = b.1
  · simp [h]
  · simp [h]
theorem lastB_foldl (x : Int) (l : List BitZ) : ∀ m, m ≤ l.foldl (fun m b => if b.2.2 = x ∧ m < b.1 then b.1 else m) m ∧ (∀ b, b ∈ l → b.2.2 = x → b.1 ≤ l.foldl (fun m b => if b.2.2 = x ∧ m < b.1 then b.1 else m) m) ∧ (l.foldl (fun m b => if b.2.2 = x ∧ m < b.1 then b.1 else m) m = m ∨ ∃ b, b ∈ l ∧ b.2.2 = x ∧ l.foldl (fun m b => if b.2.2 = x ∧ m < b.1 then b.1 else m) m = b.1) := by
  induction l with
  | nil => intro m; exact ⟨Int.le_refl _, fun b hb => (List.not_mem_nil hb).elim, Or.inl rfl⟩
  | cons a l ih =>
    intro m
    rw [List.foldl_cons]
    obtain ⟨h1, h2, h3⟩ := ih (if a.2.2 = x ∧ m < a.1 then a.1 else m)
    have h4 : m ≤ (if a.2.2 = x ∧ m < a.1 then a.1 else m) := by split <;> omega
    refine ⟨Int.le_trans h4 h1, fun b hb e => ?_, ?_⟩
    · rcases List.mem_cons.1 hb with rfl | hb
      · refine Int.le_trans ?_ h1
        split <;> omega
      · exact h2 b hb e
    · rcases h3 with h3 | ⟨b, hb, e, h3⟩
      · rw [h3]
        split
        · rename_i h5; exact Or.inr ⟨a, List.mem_cons_self .., h5.1, rfl⟩
        · exact Or.inl rfl
      · exact Or.inr ⟨b, List.mem_cons_of_mem _ hb, e, h3⟩
theorem lastB_ge {l : List BitZ} {b : BitZ} (hb : b ∈ l) : b.1 ≤ lastB l b.2.2 := (lastB_foldl b.2.2 l 0).2.1 b hb rfl
theorem lastB_at (l : List BitZ) (x : Int) : lastB l x = 0 ∨ ∃ b, b ∈ l ∧ b.2.2 = x ∧ lastB l x = b.1 := (lastB_foldl x l 0).2.2

theorem manyB_nil (x : Int) : manyB [] x = 0 := rfl
theorem manyB_append (l r : List BitZ) (x : Int) : manyB (l ++ r) x = manyB l x + manyB r x := by unfold manyB; rw [List.countP_append]
theorem manyB_one (b : BitZ) (x : Int) : manyB [b] x = if b.2.2 = x then 1 else 0 := by
  unfold manyB
  by_cases h : b.2.2 = x <;> simp [h]
theorem manyB_pos {l : List BitZ} {x : Int} (h : 0 < manyB l x) : ∃ b, b ∈ l ∧ b.2.2 = x := by
  unfold manyB at h
  rw [List.countP_pos_iff] at h
  obtain ⟨b, hb, e⟩ := h
  exact ⟨b, hb, by simpa using e⟩

theorem bitErr_zero {ts : List (Int × List Int)} {h : Nat} {l : List BitZ} {b : BitZ} : bitErr ts h l b = 0 ↔ outB ts.length h b = false ∧ (∀ a, a ∈ l → hitB a b = false) ∧ (manyB l b.2.2 : Int) < wkOf ts b.2.2.toNat := by
  unfold bitErr
  split
  · rename_i h1; simp [h1]
  · rename_i h1
    have h1' : outB ts.length h b = false := by simpa using h1
    split
    · rename_i h2
      refine ⟨fun e => by omega, fun e => ?_⟩
      obtain ⟨a, ha, h3⟩ := List.any_eq_true.1 h2
      rw [e.2.1 a ha] at h3
      cases h3
    · rename_i h2
      have h2' : l.any (fun a => hitB a b) = false := by simpa using h2
      rw [List.any_eq_false] at h2'
      split
      · rename_i h3
        exact ⟨fun e => by omega, fun e => by omega⟩
      · rename_i h3
        exact ⟨fun _ => ⟨h1', fun a ha => by simpa using h2' a ha, by omega⟩, fun _ => rfl⟩

/-- Of no fault: they may be so. -/
theorem bits_ok {ts : List (Int × List Int)} {h : Nat} {l : List BitZ} (hw : Works ts) (hr : InRange ts) : bitsErr ts h l = 0 ↔ BitsOk ts h l := by
  have hfirst : firstErr (bitErr ts h) [] l = 0 ↔ ∀ k (hk : k < l.length), outB ts.length h l[k] = false ∧ (∀ a, a ∈ l.take k → hitB a l[k] = false) ∧ (manyB (l.take k) l[k].2.2 : Int) < wkOf ts l[k].2.2.toNat := by
    rw [firstErr_zero]
    constructor
    · intro e k hk
      have := e k hk
      rw [List.nil_append] at this
      exact bitErr_zero.1 this
    · intro e k hk
      rw [List.nil_append]
      exact bitErr_zero.2 (e k hk)
  have hlack : lackB ts l = false ↔ ∀ x, x < ts.length → wkOf ts x ≤ manyB l (x : Int) := by
    unfold lackB
    rw [List.any_eq_false]
    constructor
    · intro e x hx
      have := e x (List.mem_range.2 hx)
      simp at this
      exact this
    · intro e x hx
      have := e x (List.mem_range.1 hx)
      simp
      exact this
  have hearly : earlyB ts l = false ↔ ∀ b, b ∈ l → ∀ y, y ∈ needsOf ts b.2.2.toNat → lastB l y < b.1 := by
    unfold earlyB
    rw [List.any_eq_false]
    constructor
    · intro e b hb y hy
      have := e b hb
      have h1 : (needsOf ts b.2.2.toNat).any (fun y => decide (b.1 ≤ lastB l y)) = false := by simpa using this
      rw [List.any_eq_false] at h1
      have := h1 y hy
      simp at this
      exact this
    · intro e b hb
      have : (needsOf ts b.2.2.toNat).any (fun y => decide (b.1 ≤ lastB l y)) = false := by
        rw [List.any_eq_false]
        intro y hy
        have := e b hb y hy
        simp
        exact this
      simpa using this
  unfold bitsErr
  constructor
  · intro e
    by_cases h0 : firstErr (bitErr ts h) [] l = 0
    · rw [if_pos h0] at e
      have hf := hfirst.1 h0
      cases hl : lackB ts l with
      | true => rw [hl] at e; simp at e
      | false =>
        rw [hl] at e
        cases he : earlyB ts l with
        | true => rw [he] at e; simp at e
        | false =>
          have hl' := hlack.1 hl
          have he' := hearly.1 he
          have hrng : ∀ b, b ∈ l → 0 ≤ b.1 ∧ b.1 ≤ 10000 ∧ 0 ≤ b.2.1 ∧ b.2.1 < h ∧ 0 ≤ b.2.2 ∧ b.2.2 < ts.length := fun b hb => by
            obtain ⟨k, hk, rfl⟩ := List.getElem_of_mem hb
            exact outB_false.1 (hf k hk).1
          refine ⟨hrng, ?_, fun x hx => ?_, fun b hb a ha hn => ?_⟩
          · rw [List.pairwise_iff_getElem]
            intro i j hi hj hij
            refine hitB_false.1 ((hf j hj).2.1 _ ?_)
            rw [List.mem_take_iff_getElem]
            exact ⟨i, by omega, rfl⟩
          · -- not above: the last bit of that task was let in
            have hle : ∀ m, m ≤ l.length → (manyB (l.take m) (x : Int) : Int) ≤ wkOf ts x := by
              intro m
              induction m with
              | zero => intro _; have := hw.2 x hx; rw [List.take_zero, manyB_nil]; simp; omega
              | succ m ih =>
                intro hm
                rw [List.take_succ_eq_append_getElem (by omega), manyB_append, manyB_one]
                have h1 := ih (by omega)
                split
                · rename_i h2
                  have h3 := (hf m (by omega)).2.2
                  rw [h2, Int.toNat_natCast] at h3
                  omega
                · omega
            have h1 := hle l.length (Nat.le_refl _)
            rw [List.take_length] at h1
            have h2 := hl' x hx
            omega
          · have h1 := he' b hb _ hn
            have h2 := lastB_ge ha
            omega
    · rw [if_neg h0] at e; exact absurd e h0
  · intro ok
    have h0 : firstErr (bitErr ts h) [] l = 0 := by
      rw [hfirst]
      intro k hk
      have hm := List.getElem_mem hk
      refine ⟨outB_false.2 (ok.rng _ hm), fun a ha => ?_, ?_⟩
      · rw [List.mem_take_iff_getElem] at ha
        obtain ⟨i, hi, rfl⟩ := ha
        exact hitB_false.2 (List.pairwise_iff_getElem.1 ok.apart i k (by omega) hk (by omega))
      · have hb := ok.rng _ hm
        have h1 := ok.full l[k].2.2.toNat (by omega)
        rw [show ((l[k].2.2.toNat : Nat) : Int) = l[k].2.2 by omega] at h1
        have e : l = l.take k ++ (l[k] :: l.drop (k + 1)) := by rw [List.getElem_cons_drop, List.take_append_drop]
        have h2' : ∀ x, manyB l x = manyB (l.take k) x + manyB (l[k] :: l.drop (k + 1)) x := fun x => by rw [← manyB_append, ← e]
        have h2 := h2' l[k].2.2
        have h3 : 1 ≤ manyB (l[k] :: l.drop (k + 1)) l[k].2.2 := by
          rw [show l[k] :: l.drop (k + 1) = [l[k]] ++ l.drop (k + 1) from rfl, manyB_append, manyB_one, if_pos rfl]
          omega
        omega
    have hl : lackB ts l = false := by
      rw [hlack]
      intro x hx
      have := ok.full x hx
      omega
    have he : earlyB ts l = false := by
      rw [hearly]
      intro b hb y hy
      have hbr := ok.rng b hb
      have hyr := hr b.2.2.toNat (by omega) y hy
      rcases lastB_at l y with h1 | ⟨a, ha, h1, h2⟩
      · -- a task that is needed has a bit, at 0 or behind it
        have h3 := ok.full y.toNat (by omega)
        have h4 := hw.2 y.toNat (by omega)
        rw [show ((y.toNat : Nat) : Int) = y by omega] at h3
        obtain ⟨a, ha, h5⟩ := manyB_pos (l := l) (x := y) (by omega)
        have h6 := ok.behind b hb a ha (by rw [h5]; exact hy)
        have h7 := (ok.rng a ha).1
        omega
      · rw [h2]
        exact ok.behind b hb a ha (by rw [h1]; exact hy)
    rw [if_pos h0, hl, he]
    simp
end Go.Proofs.Ytkcpimbhfmhjgaa

namespace Go.Proofs.Ytkcpimbhfmhjgaa

/-- A bit in whole numbers. -/
def bitZ (b : Nat × Nat × Nat) : BitZ := (b.1, b.2.1, b.2.2)
theorem mem_bitsOf {s : Nat} {l : List Nat} {b : Nat × Nat × Nat} : b ∈ bitsOf s l ↔ ∃ i, ∃ h : i < l.length, b = (s, i, l[i]) := by
  unfold bitsOf
  rw [List.mem_mapIdx]
  constructor
  · rintro ⟨i, h, rfl⟩; exact ⟨i, h, rfl⟩
  · rintro ⟨i, h, rfl⟩; exact ⟨i, h, rfl⟩
theorem mem_bitsTo {ts : List (Int × List Int)} {h s : Nat} {b : Nat × Nat × Nat} : b ∈ bitsTo ts h s ↔ ∃ t, t < s ∧ b ∈ bitsOf t (nowL ts h (leftAt ts h t)) := by
  induction s with
  | zero => exact ⟨fun e => (List.not_mem_nil e).elim, fun ⟨t, ht, _⟩ => by omega⟩
  | succ s ih =>
    show b ∈ bitsTo ts h s ++ bitsOf s _ ↔ _
    rw [List.mem_append, ih]
    constructor
    · rintro (⟨t, ht, hb⟩ | hb)
      · exact ⟨t, by omega, hb⟩
      · exact ⟨s, by omega, hb⟩
    · rintro ⟨t, ht, hb⟩
      by_cases e : t = s
      · subst e; exact Or.inr hb
      · exact Or.inl ⟨t, by omega, hb⟩
theorem bitsOf_apart (s : Nat) {l : List Nat} (hn : l.Nodup) : ((bitsOf s l).map bitZ).Pairwise (fun a b => a.1 = b.1 → a.2.1 ≠ b.2.1 ∧ a.2.2 ≠ b.2.2) := by
  rw [List.pairwise_map, List.pairwise_iff_getElem]
  intro i j hi hj hij _
  rw [bitsOf_length] at hi hj
  have e : ∀ k (hk : k < (bitsOf s l).length), (bitsOf s l)[k] = (s, k, l[k]'(by rw [bitsOf_length] at hk; exact hk)) := fun k hk => by simp [bitsOf]
  rw [e, e]
  have hne := List.pairwise_iff_getElem.1 hn i j hi hj hij
  unfold bitZ
  dsimp only
  refine ⟨by omega, by omega⟩
theorem bits_apart (ts : List (Int × List Int)) (h s : Nat) : ((bitsTo ts h s).map bitZ).Pairwise (fun a b => a.1 = b.1 → a.2.1 ≠ b.2.1 ∧ a.2.2 ≠ b.2.2) := by
  induction s with
  | zero => exact List.Pairwise.nil
  | succ s ih =>
    show ((bitsTo ts h s ++ bitsOf s _).map bitZ).Pairwise _
    rw [List.map_append, List.pairwise_append]
    refine ⟨ih, bitsOf_apart s (nowL_nodup _ _ _), fun a ha b hb e => ?_⟩
    obtain ⟨a', ha', rfl⟩ := List.mem_map.1 ha
    obtain ⟨b', hb', rfl⟩ := List.mem_map.1 hb
    obtain ⟨t, ht, ha2⟩ := mem_bitsTo.1 ha'
    have h1 := bitsOf_step ha2
    have h2 := bitsOf_step hb'
    have e' : ((a'.1 : Nat) : Int) = (b'.1 : Nat) := e
    omega
theorem many_bitsOf (s x : Nat) (l : List Nat) (hn : l.Nodup) : (manyB ((bitsOf s l).map bitZ) (x : Int) : Int) = if x ∈ l then 1 else 0 := by
  have key : ∀ l : List Nat, manyB ((bitsOf s l).map bitZ) (x : Int) = l.count x := by
    intro l
    have : ∀ l : List Nat, manyB ((bitsOf s l.reverse).map bitZ) (x : Int) = l.reverse.count x := by
      intro l
      induction l with
      | nil => rfl
      | cons a l ih =>
        rw [List.reverse_cons, bitsOf_snoc, List.map_append, manyB_append, ih, List.count_append]
        congr 1
        show manyB [bitZ _] _ = _
        rw [manyB_one]
        show (if ((a : Nat) : Int) = (x : Nat) then 1 else 0) = List.count x [a]
        by_cases e : a = x
        · subst e; simp
        · have : ¬ ((a : Nat) : Int) = (x : Nat) := by omega
          simp [this, e]
    have := this l.reverse
    rwa [List.reverse_reverse] at this
  rw [key]
  split
  · rename_i h; rw [hn.count, if_pos h]; rfl
  · rename_i h; rw [List.count_eq_zero_of_not_mem h]; rfl
theorem many_bits (ts : List (Int × List Int)) (h s x : Nat) : leftAt ts h s x + manyB ((bitsTo ts h s).map bitZ) (x : Int) = wkOf ts x := by
  induction s with
  | zero => show wkOf ts x + ((manyB [] _ : Nat) : Int) = _; rw [manyB_nil]; simp
  | succ s ih =>
    show decs (leftAt ts h s) (nowL ts h (leftAt ts h s)) x + ((manyB ((bitsTo ts h s ++ bitsOf s (nowL ts h (leftAt ts h s))).map bitZ) (x : Int) : Nat) : Int) = _
    rw [List.map_append, manyB_append, Int.natCast_add, many_bitsOf _ _ _ (nowL_nodup _ _ _), decs_at (nowL_nodup _ _ _)]
    split <;> omega
theorem leftAt_falls (ts : List (Int × List Int)) (h x t : Nat) (d : Nat) : leftAt ts h (t + d) x ≤ leftAt ts h t x := by
  have := ((leftAt_sched ts h).fall t x d).2
  exact this

/-- What is done step by step, to its end, may be so. -/
theorem greedy_bits {ts : List (Int × List Int)} {h s : Nat} (hw : Works ts) (hr : InRange ts) (hno : ∀ j, j < ts.length → ¬ Reach ts j j) (hh : 1 ≤ h) (hs : Stops ts h s) : BitsOk ts h ((bitsTo ts h s).map bitZ) := by
  have hs6 := hs.le hw hh
  have hover := (hs.over hw hr hno).none
  refine ⟨fun b hb => ?_, bits_apart ts h s, fun x hx => ?_, fun b hb a ha hn => ?_⟩
  · obtain ⟨b', hb', rfl⟩ := List.mem_map.1 hb
    obtain ⟨t, ht, h1⟩ := mem_bitsTo.1 hb'
    obtain ⟨i, hi, rfl⟩ := mem_bitsOf.1 h1
    have h2 := nowL_mem (List.getElem_mem hi)
    have h3 : (nowL ts h (leftAt ts h t)).length ≤ h := by rw [nowL_len]; omega
    unfold bitZ
    dsimp only
    omega
  · have h1 := many_bits ts h s x
    rw [hover x hx] at h1
    omega
  · obtain ⟨b', hb', rfl⟩ := List.mem_map.1 hb
    obtain ⟨a', ha', rfl⟩ := List.mem_map.1 ha
    obtain ⟨t, ht, h1⟩ := mem_bitsTo.1 hb'
    obtain ⟨t', ht', h2⟩ := mem_bitsTo.1 ha'
    obtain ⟨i, hi, rfl⟩ := mem_bitsOf.1 h1
    obtain ⟨j, hj, rfl⟩ := mem_bitsOf.1 h2
    have h3 := nowL_mem (List.getElem_mem hi)
    have h4 := nowL_mem (List.getElem_mem hj)
    have h5 := rdyB_pos h4.2
    have hn' : (((nowL ts h (leftAt ts h t'))[j] : Nat) : Int) ∈ needsOf ts (((nowL ts h (leftAt ts h t))[i] : Nat) : Int).toNat := hn
    rw [Int.toNat_natCast] at hn'
    have h6 : ¬ 0 < leftAt ts h t (nowL ts h (leftAt ts h t'))[j] := by
      have := h3.2
      unfold rdyB at this
      simp only [Bool.and_eq_true, Bool.not_eq_true', List.any_eq_false] at this
      have h7 := this.2 _ hn'
      unfold undB at h7
      rw [Int.toNat_natCast] at h7
      simpa using h7
    show ((t' : Nat) : Int) < (t : Nat)
    refine Classical.byContradiction fun e => ?_
    have h8 := leftAt_falls ts h (nowL ts h (leftAt ts h t'))[j] t (t' - t)
    rw [show t + (t' - t) = t' by omega] at h8
    omega
end Go.Proofs.Ytkcpimbhfmhjgaa

namespace Go.Proofs.Ytkcpimbhfmhjgaa

/-- One is wrong by itself: of no hand, no task, no time. -/
def outS (n h : Nat) (s : StyZ) : Bool := decide (s.1 < 0) || decide ((h : Int) ≤ s.1) || decide (s.2.1 < 0) || decide ((n : Int) ≤ s.2.1) || decide (s.2.2.1 < 0) || decide (s.2.2.2 < s.2.2.1) || decide (10000 < s.2.2.2)
/-- Two of one task, or that meet in one hand. -/
def hitS (a s : StyZ) : Bool := decide (a.2.1 = s.2.1) || (decide (a.1 = s.1) && decide (a.2.2.1 < s.2.2.2) && decide (s.2.2.1 < a.2.2.2))
/-- The fault of a stay, by those ahead of it. -/
def stayErr (ts : List (Int × List Int)) (h : Nat) (l : List StyZ) (s : StyZ) : Int :=
  if outS ts.length h s = true then 1 else if s.2.2.2 - s.2.2.1 ≠ wkOf ts s.2.1.toNat then 3 else if l.any (fun a => hitS a s) = true then 7 else 0
/-- A stay that begins ahead of the end of one that its task needs. -/
def earlyS (ts : List (Int × List Int)) (l : List StyZ) : Bool := l.any (fun s => l.any (fun a => decide (a.2.1 ∈ needsOf ts s.2.1.toNat) && decide (s.2.2.1 < a.2.2.2)))
def staysErr (ts : List (Int × List Int)) (h : Nat) (l : List StyZ) : Int :=
  if firstErr (stayErr ts h) [] l = 0 then (if l.length < ts.length then 5 else if earlyS ts l = true then 6 else 0) else firstErr (stayErr ts h) [] l

/-- Stays that may be so. -/
structure StaysOk (ts : List (Int × List Int)) (h : Nat) (l : List StyZ) : Prop where
  rng : ∀ s, s ∈ l → 0 ≤ s.1 ∧ s.1 < h ∧ 0 ≤ s.2.1 ∧ s.2.1 < ts.length ∧ 0 ≤ s.2.2.1 ∧ s.2.2.1 ≤ s.2.2.2 ∧ s.2.2.2 ≤ 10000
  long : ∀ s, s ∈ l → s.2.2.2 - s.2.2.1 = wkOf ts s.2.1.toNat
  apart : l.Pairwise (fun a s => a.2.1 ≠ s.2.1 ∧ (a.1 = s.1 → s.2.2.2 ≤ a.2.2.1 ∨ a.2.2.2 ≤ s.2.2.1))
  all : ts.length ≤ l.length
  behind : ∀ s, s ∈ l → ∀ a, a ∈ l → a.2.1 ∈ needsOf ts s.2.1.toNat → a.2.2.2 ≤ s.2.2.1

theorem outS_false {n h : Nat} {s : StyZ} : outS n h s = false ↔ 0 ≤ s.1 ∧ s.1 < h ∧ 0 ≤ s.2.1 ∧ s.2.1 < n ∧ 0 ≤ s.2.2.1 ∧ s.2.2.1 ≤ s.2.2.2 ∧ s.2.2.2 ≤ 10000 := by
  unfold outS
  simp only [Bool.or_eq_false_iff, decide_eq_false_iff_not]
  omega
theorem hitS_false {a s : StyZ} : hitS a s = false ↔ a.2.1 ≠ s.2.1 ∧ (a.1 = s.1 → s.2.2.2 ≤ a.2.2.1 ∨ a.2.2.2 ≤ s.2.2.1) := by
  unfold hitS
  simp only [Bool.or_eq_false_iff, Bool.and_eq_false_iff, decide_eq_false_iff_not]
  constructor
  · rintro ⟨h1, h2⟩
    refine ⟨h1, fun e => ?_⟩
    rcases h2 with (h2 | h2) | h2
    · exact absurd e h2
    · left; omega
    · right; omega
  · rintro ⟨h1, h2⟩
    refine ⟨h1, ?_⟩
    by_cases e : a.1 = s.1
    · rcases h2 e with h | h
      · left; right; omega
      · right; omega
    · exact Or.inl (Or.inl e)
theorem stayErr_zero {ts : List (Int × List Int)} {h : Nat} {l : List StyZ} {s : StyZ} : stayErr ts h l s = 0 ↔ outS ts.length h s = false ∧ s.2.2.2 - s.2.2.1 = wkOf ts s.2.1.toNat ∧ ∀ a, a ∈ l → hitS a s = false := by
  unfold stayErr
  split
  · rename_i h1; simp [h1]
  · rename_i h1
    have h1' : outS ts.length h s = false := by simpa using h1
    split
    · rename_i h2
      exact ⟨fun e => by omega, fun e => absurd e.2.1 h2⟩
    · rename_i h2
      have h2' : s.2.2.2 - s.2.2.1 = wkOf ts s.2.1.toNat := Classical.byContradiction fun e => h2 e
      split
      · rename_i h3
        refine ⟨fun e => by omega, fun e => ?_⟩
        obtain ⟨a, ha, h4⟩ := List.any_eq_true.1 h3
        rw [e.2.2 a ha] at h4
        cases h4
      · rename_i h3
        have h3' : l.any (fun a => hitS a s) = false := by simpa using h3
        rw [List.any_eq_false] at h3'
        exact ⟨fun _ => ⟨h1', h2', fun a ha => by simpa using h3' a ha⟩, fun _ => rfl⟩

/-- Of no fault: they may be so. -/
theorem stays_ok {ts : List (Int × List Int)} {h : Nat} {l : List StyZ} : staysErr ts h l = 0 ↔ StaysOk ts h l := by
  have hfirst : firstErr (stayErr ts h) [] l = 0 ↔ ∀ k (hk : k < l.length), outS ts.length h l[k] = false ∧ l[k].2.2.2 - l[k].2.2.1 = wkOf ts l[k].2.1.toNat ∧ ∀ a, a ∈ l.take k → hitS a l[k] = false := by
    rw [firstErr_zero]
    constructor
    · intro e k hk
      have := e k hk
      rw [List.nil_append] at this
      exact stayErr_zero.1 this
    · intro e k hk
      rw [List.nil_append]
      exact stayErr_zero.2 (e k hk)
  have hearly : earlyS ts l = false ↔ ∀ s, s ∈ l → ∀ a, a ∈ l → a.2.1 ∈ needsOf ts s.2.1.toNat → a.2.2.2 ≤ s.2.2.1 := by
    unfold earlyS
    rw [List.any_eq_false]
    constructor
    · intro e s hs a ha hn
      have h1 : l.any (fun a => decide (a.2.1 ∈ needsOf ts s.2.1.toNat) && decide (s.2.2.1 < a.2.2.2)) = false := by simpa using e s hs
      rw [List.any_eq_false] at h1
      have := h1 a ha
      simp [hn] at this
      exact this
    · intro e s hs
      have h1 : l.any (fun a => decide (a.2.1 ∈ needsOf ts s.2.1.toNat) && decide (s.2.2.1 < a.2.2.2)) = false := by
        rw [List.any_eq_false]
        intro a ha
        simp only [Bool.and_eq_true, decide_eq_true_eq, not_and]
        intro hn
        have := e s hs a ha hn
        omega
      simpa using h1
  unfold staysErr
  constructor
  · intro e
    by_cases h0 : firstErr (stayErr ts h) [] l = 0
    · rw [if_pos h0] at e
      have hf := hfirst.1 h0
      by_cases hl : l.length < ts.length
      · rw [if_pos hl] at e; omega
      · rw [if_neg hl] at e
        cases he : earlyS ts l with
        | true => rw [he] at e; simp at e
        | false =>
          refine ⟨fun s hs => ?_, fun s hs => ?_, ?_, by omega, hearly.1 he⟩
          · obtain ⟨k, hk, rfl⟩ := List.getElem_of_mem hs
            exact outS_false.1 (hf k hk).1
          · obtain ⟨k, hk, rfl⟩ := List.getElem_of_mem hs
            exact (hf k hk).2.1
          · rw [List.pairwise_iff_getElem]
            intro i j hi hj hij
            refine hitS_false.1 ((hf j hj).2.2 _ ?_)
            rw [List.mem_take_iff_getElem]
            exact ⟨i, by omega, rfl⟩
    · rw [if_neg h0] at e; exact absurd e h0
  · intro ok
    have h0 : firstErr (stayErr ts h) [] l = 0 := by
      rw [hfirst]
      intro k hk
      have hm := List.getElem_mem hk
      refine ⟨outS_false.2 (ok.rng _ hm), ok.long _ hm, fun a ha => ?_⟩
      rw [List.mem_take_iff_getElem] at ha
      obtain ⟨i, hi, rfl⟩ := ha
      exact hitS_false.2 (List.pairwise_iff_getElem.1 ok.apart i k (by omega) hk (by omega))
    have he : earlyS ts l = false := hearly.2 ok.behind
    have hl := ok.all
    rw [if_pos h0, if_neg (by omega), he]
    simp

/-- A stay in whole numbers. -/
def styZ (s : Sty) : StyZ := (s.1, s.2.1, s.2.2.1, s.2.2.2)
/-- What was taken by an order may be so. -/
theorem LaidS.stays {ts : List (Int × List Int)} {h b : Nat} {out : List Sty} (hw : Works ts) (_hr : InRange ts) (hL : LaidS ts h b out) (hb : b ≤ 601) (hf : out.length = ts.length) : StaysOk ts h (out.map styZ) := by
  refine ⟨fun s hs => ?_, fun s hs => ?_, ?_, by simp [hf], fun s hs a ha hn => ?_⟩
  · obtain ⟨x, hx, rfl⟩ := List.mem_map.1 hs
    have h1 := hL.ok x hx
    have h2 := wkN_eq hw h1.2.1
    have h3 := hw.2 _ h1.2.1
    unfold styZ
    dsimp only
    omega
  · obtain ⟨x, hx, rfl⟩ := List.mem_map.1 hs
    have h1 := hL.ok x hx
    have h2 := (wkN_eq hw h1.2.1).1
    show ((x.2.2.2 : Nat) : Int) - (x.2.2.1 : Nat) = wkOf ts ((x.2.1 : Nat) : Int).toNat
    rw [Int.toNat_natCast, h1.2.2.2]
    omega
  · rw [List.pairwise_map]
    have hnd := hL.once
    rw [List.Nodup, List.pairwise_map] at hnd
    refine (hL.apart.and hnd).imp ?_
    intro a s hab
    refine ⟨?_, fun e => ?_⟩
    · show ((a.2.1 : Nat) : Int) ≠ (s.2.1 : Nat)
      have := hab.2
      omega
    · have e' : a.1 = s.1 := by have e : ((a.1 : Nat) : Int) = (s.1 : Nat) := e; omega
      have := hab.1 e'
      right
      show ((a.2.2.2 : Nat) : Int) ≤ (s.2.2.1 : Nat)
      omega
  · obtain ⟨x, hx, rfl⟩ := List.mem_map.1 hs
    obtain ⟨y, hy, rfl⟩ := List.mem_map.1 ha
    have hn' : Need ts x.2.1 y.2.1 := by
      unfold Need
      have : ((y.2.1 : Nat) : Int) ∈ needsOf ts ((x.2.1 : Nat) : Int).toNat := hn
      rwa [Int.toNat_natCast] at this
    obtain ⟨s', h1, h2, h3⟩ := hL.need x hx _ hn'
    have h4 := map_once (fun s : Sty => s.2.1) hL.once h1 hy h2
    subst h4
    show ((s'.2.2.2 : Nat) : Int) ≤ (x.2.2.1 : Nat)
    omega
theorem list_stays {ts : List (Int × List Int)} {h : Nat} {ord : List Nat} (hw : Works ts) (hr : InRange ts) (hno : ∀ j, j < ts.length → ¬ Reach ts j j) (hh : 1 ≤ h) (ho : EachO ts.length ord) : StaysOk ts h ((listOut ts h ord).map styZ) :=
  (outAt_laid (h := h) ho.2.2 ho.all hr 601).1.stays hw hr (Nat.le_refl _) (list_full hw hr hno hh ho)
end Go.Proofs.Ytkcpimbhfmhjgaa
