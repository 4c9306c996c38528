/- Plain: what is wrong with bits, and with stays, as the document judges them. No word of the program. -/
import Derived.Test.YtkgdhfdahafaoaaDoorJw
namespace Go.Proofs.YtkgdhfdahafaoaaDoor

/-- A bit: its step, its hand, its task. -/
abbrev BitZ : Type := Int × Int × Int
/-- A stay: its hand, its task, from when on, till when. -/
abbrev StyZ : Type := Int × Int × Int × Int

/-- How many bits a task has. -/
def manyB (l : List BitZ) (x : Int) : Nat := l.countP (fun b => decide (b.2.2 = x))
/-- One is wrong by itself: of no step, no hand, no task. -/
def outB (n h : Nat) (b : BitZ) : Bool := decide (b.1 < 0) || decide (10000 < b.1) || decide (b.2.1 < 0) || decide ((h : Int) ≤ b.2.1) || decide (b.2.2 < 0) || decide ((n : Int) ≤ b.2.2)
/-- Two of one step, by one hand or of one task. -/
def hitB (a b : BitZ) : Bool := decide (a.1 = b.1) && (decide (a.2.1 = b.2.1) || decide (a.2.2 = b.2.2))
/-- The fault of a bit, by those ahead of it. -/
def bitErr (ts : List (Int × List Int)) (h : Nat) (l : List BitZ) (b : BitZ) : Int :=
  if outB ts.length h b = true then 1 else if l.any (fun a => hitB a b) = true then 7 else if wkOf ts b.2.2.toNat ≤ manyB l b.2.2 then 4 else 0
/-- The first fault of one, along a list. -/
def firstErr {α : Type} (E : List α → α → Int) : List α → List α → Int
  | _, [] => 0
  | l, b :: r => if E l b = 0 then firstErr E (l ++ [b]) r else E l b
theorem firstErr_zero {α : Type} {E : List α → α → Int} {l r : List α} : firstErr E l r = 0 ↔ ∀ k (hk : k < r.length), E (l ++ r.take k) r[k] = 0 := by
  induction r generalizing l with
  | nil => exact ⟨fun _ k hk => by simp at hk, fun _ => rfl⟩
  | cons b r ih =>
    unfold firstErr
    by_cases h : E l b = 0
    · rw [if_pos h, ih]
      constructor
      · intro hr k hk
        cases k with
        | zero => simpa using h
        | succ k =>
          have := hr k (by simpa using hk)
          simpa using this
      · intro hr k hk
        have := hr (k + 1) (by simpa using hk)
        simpa using this
    · rw [if_neg h]
      refine ⟨fun e => absurd e h, fun hr => ?_⟩
      have h1 : E (l ++ []) b = 0 := hr 0 (by simp)
      rw [List.append_nil] at h1
      exact absurd h1 h
/-- The last step of a task; 0 of none. -/
def lastB (l : List BitZ) (x : Int) : Int := l.foldl (fun m b => if b.2.2 = x ∧ m < b.1 then b.1 else m) 0
/-- Some task has less than its work. -/
def lackB (ts : List (Int × List Int)) (l : List BitZ) : Bool := (List.range ts.length).any (fun x => decide ((manyB l (x : Int) : Int) < wkOf ts x))
/-- A bit that is not behind all of those that its task needs. -/
def earlyB (ts : List (Int × List Int)) (l : List BitZ) : Bool := l.any (fun b => (needsOf ts b.2.2.toNat).any (fun y => decide (b.1 ≤ lastB l y)))
def bitsErr (ts : List (Int × List Int)) (h : Nat) (l : List BitZ) : Int :=
  if firstErr (bitErr ts h) [] l = 0 then (if lackB ts l = true then 5 else if earlyB ts l = true then 6 else 0) else firstErr (bitErr ts h) [] l

/-- Bits that may be so. -/
structure BitsOk (ts : List (Int × List Int)) (h : Nat) (l : List BitZ) : Prop where
  rng : ∀ b, b ∈ l → 0 ≤ b.1 ∧ b.1 ≤ 10000 ∧ 0 ≤ b.2.1 ∧ b.2.1 < h ∧ 0 ≤ b.2.2 ∧ b.2.2 < ts.length
  apart : l.Pairwise (fun a b => a.1 = b.1 → a.2.1 ≠ b.2.1 ∧ a.2.2 ≠ b.2.2)
  full : ∀ x, x < ts.length → (manyB l (x : Int) : Int) = wkOf ts x
  behind : ∀ b, b ∈ l → ∀ a, a ∈ l → a.2.2 ∈ needsOf ts b.2.2.toNat → a.1 < b.1

theorem outB_false {n h : Nat} {b : BitZ} : outB n h b = false ↔ 0 ≤ b.1 ∧ b.1 ≤ 10000 ∧ 0 ≤ b.2.1 ∧ b.2.1 < h ∧ 0 ≤ b.2.2 ∧ b.2.2 < n := by
  unfold outB
  simp only [Bool.or_eq_false_iff, decide_eq_false_iff_not]
  omega
theorem hitB_false {a b : BitZ} : hitB a b = false ↔ (a.1 = b.1 → a.2.1 ≠ b.2.1 ∧ a.2.2 ≠ b.2.2) := by
  unfold hitB
  by_cases h : a.1 = b.1
  · simp [h]
  · simp [h]
theorem lastB_foldl (x : Int) (l : List BitZ) : ∀ m, m ≤ l.foldl (fun m b => if b.2.2 = x ∧ m < b.1 then b.1 else m) m ∧ (∀ b, b ∈ l → b.2.2 = x → b.1 ≤ l.foldl (fun m b => if b.2.2 = x ∧ m < b.1 then b.1 else m) m) ∧ (l.foldl (fun m b => if b.2.2 = x ∧ m < b.1 then b.1 else m) m = m ∨ ∃ b, b ∈ l ∧ b.2.2 = x ∧ l.foldl (fun m b => if b.2.2 = x ∧ m < b.1 then b.1 else m) m = b.1) := by
  induction l with
  | nil => intro m; exact ⟨Int.le_refl _, fun b hb => (List.not_mem_nil hb).elim, Or.inl rfl⟩
  | cons a l ih =>
    intro m
    rw [List.foldl_cons]
    obtain ⟨h1, h2, h3⟩ := ih (if a.2.2 = x ∧ m < a.1 then a.1 else m)
    have h4 : m ≤ (if a.2.2 = x ∧ m < a.1 then a.1 else m) := by split <;> omega
    refine ⟨Int.le_trans h4 h1, fun b hb e => ?_, ?_⟩
    · rcases List.mem_cons.1 hb with rfl | hb
      · refine Int.le_trans ?_ h1
        split <;> omega
      · exact h2 b hb e
    · rcases h3 with h3 | ⟨b, hb, e, h3⟩
      · rw [h3]
        split
        · rename_i h5; exact Or.inr ⟨a, List.mem_cons_self .., h5.1, rfl⟩
        · exact Or.inl rfl
      · exact Or.inr ⟨b, List.mem_cons_of_mem _ hb, e, h3⟩
theorem lastB_ge {l : List BitZ} {b : BitZ} (hb : b ∈ l) : b.1 ≤ lastB l b.2.2 := (lastB_foldl b.2.2 l 0).2.1 b hb rfl
theorem lastB_at (l : List BitZ) (x : Int) : lastB l x = 0 ∨ ∃ b, b ∈ l ∧ b.2.2 = x ∧ lastB l x = b.1 := (lastB_foldl x l 0).2.2

theorem manyB_nil (x : Int) : manyB [] x = 0 := rfl
theorem manyB_append (l r : List BitZ) (x : Int) : manyB (l ++ r) x = manyB l x + manyB r x := by unfold manyB; rw [List.countP_append]
theorem manyB_one (b : BitZ) (x : Int) : manyB [b] x = if b.2.2 = x then 1 else 0 := by
  unfold manyB
  by_cases h : b.2.2 = x <;> simp [h]
theorem manyB_pos {l : List BitZ} {x : Int} (h : 0 < manyB l x) : ∃ b, b ∈ l ∧ b.2.2 = x := by
  unfold manyB at h
  rw [List.countP_pos_iff] at h
  obtain ⟨b, hb, e⟩ := h
  exact ⟨b, hb, by simpa using e⟩

theorem bitErr_zero {ts : List (Int × List Int)} {h : Nat} {l : List BitZ} {b : BitZ} : bitErr ts h l b = 0 ↔ outB ts.length h b = false ∧ (∀ a, a ∈ l → hitB a b = false) ∧ (manyB l b.2.2 : Int) < wkOf ts b.2.2.toNat := by
  unfold bitErr
  split
  · rename_i h1; simp [h1]
  · rename_i h1
    have h1' : outB ts.length h b = false := by simpa using h1
    split
    · rename_i h2
      refine ⟨fun e => by omega, fun e => ?_⟩
      obtain ⟨a, ha, h3⟩ := List.any_eq_true.1 h2
      rw [e.2.1 a ha] at h3
      cases h3
    · rename_i h2
      have h2' : l.any (fun a => hitB a b) = false := by simpa using h2
      rw [List.any_eq_false] at h2'
      split
      · rename_i h3
        exact ⟨fun e => by omega, fun e => by omega⟩
      · rename_i h3
        exact ⟨fun _ => ⟨h1', fun a ha => by simpa using h2' a ha, by omega⟩, fun _ => rfl⟩

/-- Of no fault: they may be so. -/
theorem bits_ok {ts : List (Int × List Int)} {h : Nat} {l : List BitZ} (hw : Works ts) (hr : InRange ts) : bitsErr ts h l = 0 ↔ BitsOk ts h l := by
  have hfirst : firstErr (bitErr ts h) [] l = 0 ↔ ∀ k (hk : k < l.length), outB ts.length h l[k] = false ∧ (∀ a, a ∈ l.take k → hitB a l[k] = false) ∧ (manyB (l.take k) l[k].2.2 : Int) < wkOf ts l[k].2.2.toNat := by
    rw [firstErr_zero]
    constructor
    · intro e k hk
      have := e k hk
      rw [List.nil_append] at this
      exact bitErr_zero.1 this
    · intro e k hk
      rw [List.nil_append]
      exact bitErr_zero.2 (e k hk)
  have hlack : lackB ts l = false ↔ ∀ x, x < ts.length → wkOf ts x ≤ manyB l (x : Int) := by
    unfold lackB
    rw [List.any_eq_false]
    constructor
    · intro e x hx
      have := e x (List.mem_range.2 hx)
      simp at this
      exact this
    · intro e x hx
      have := e x (List.mem_range.1 hx)
      simp
      exact this
  have hearly : earlyB ts l = false ↔ ∀ b, b ∈ l → ∀ y, y ∈ needsOf ts b.2.2.toNat → lastB l y < b.1 := by
    unfold earlyB
    rw [List.any_eq_false]
    constructor
    · intro e b hb y hy
      have := e b hb
      have h1 : (needsOf ts b.2.2.toNat).any (fun y => decide (b.1 ≤ lastB l y)) = false := by simpa using this
      rw [List.any_eq_false] at h1
      have := h1 y hy
      simp at this
      exact this
    · intro e b hb
      have : (needsOf ts b.2.2.toNat).any (fun y => decide (b.1 ≤ lastB l y)) = false := by
        rw [List.any_eq_false]
        intro y hy
        have := e b hb y hy
        simp
        exact this
      simpa using this
  unfold bitsErr
  constructor
  · intro e
    by_cases h0 : firstErr (bitErr ts h) [] l = 0
    · rw [if_pos h0] at e
      have hf := hfirst.1 h0
      cases hl : lackB ts l with
      | true => rw [hl] at e; simp at e
      | false =>
        rw [hl] at e
        cases he : earlyB ts l with
        | true => rw [he] at e; simp at e
        | false =>
          have hl' := hlack.1 hl
          have he' := hearly.1 he
          have hrng : ∀ b, b ∈ l → 0 ≤ b.1 ∧ b.1 ≤ 10000 ∧ 0 ≤ b.2.1 ∧ b.2.1 < h ∧ 0 ≤ b.2.2 ∧ b.2.2 < ts.length := fun b hb => by
            obtain ⟨k, hk, rfl⟩ := List.getElem_of_mem hb
            exact outB_false.1 (hf k hk).1
          refine ⟨hrng, ?_, fun x hx => ?_, fun b hb a ha hn => ?_⟩
          · rw [List.pairwise_iff_getElem]
            intro i j hi hj hij
            refine hitB_false.1 ((hf j hj).2.1 _ ?_)
            rw [List.mem_take_iff_getElem]
            exact ⟨i, by omega, rfl⟩
          · -- not above: the last bit of that task was let in
            have hle : ∀ m, m ≤ l.length → (manyB (l.take m) (x : Int) : Int) ≤ wkOf ts x := by
              intro m
              induction m with
              | zero => intro _; have := hw.2 x hx; rw [List.take_zero, manyB_nil]; simp; omega
              | succ m ih =>
                intro hm
                rw [List.take_succ_eq_append_getElem (by omega), manyB_append, manyB_one]
                have h1 := ih (by omega)
                split
                · rename_i h2
                  have h3 := (hf m (by omega)).2.2
                  rw [h2, Int.toNat_natCast] at h3
                  omega
                · omega
            have h1 := hle l.length (Nat.le_refl _)
            rw [List.take_length] at h1
            have h2 := hl' x hx
            omega
          · have h1 := he' b hb _ hn
            have h2 := lastB_ge ha
            omega
    · rw [if_neg h0] at e; exact absurd e h0
  · intro ok
    have h0 : firstErr (bitErr ts h) [] l = 0 := by
      rw [hfirst]
      intro k hk
      have hm := List.getElem_mem hk
      refine ⟨outB_false.2 (ok.rng _ hm), fun a ha => ?_, ?_⟩
      · rw [List.mem_take_iff_getElem] at ha
        obtain ⟨i, hi, rfl⟩ := ha
        exact hitB_false.2 (List.pairwise_iff_getElem.1 ok.apart i k (by omega) hk (by omega))
      · have hb := ok.rng _ hm
        have h1 := ok.full l[k].2.2.toNat (by omega)
        rw [show ((l[k].2.2.toNat : Nat) : Int) = l[k].2.2 by omega] at h1
        have e : l = l.take k ++ (l[k] :: l.drop (k + 1)) := by rw [List.getElem_cons_drop, List.take_append_drop]
        have h2' : ∀ x, manyB l x = manyB (l.take k) x + manyB (l[k] :: l.drop (k + 1)) x := fun x => by rw [← manyB_append, ← e]
        have h2 := h2' l[k].2.2
        have h3 : 1 ≤ manyB (l[k] :: l.drop (k + 1)) l[k].2.2 := by
          rw [show l[k] :: l.drop (k + 1) = [l[k]] ++ l.drop (k + 1) from rfl, manyB_append, manyB_one, if_pos rfl]
          omega
        omega
    have hl : lackB ts l = false := by
      rw [hlack]
      intro x hx
      have := ok.full x hx
      omega
    have he : earlyB ts l = false := by
      rw [hearly]
      intro b hb y hy
      have hbr := ok.rng b hb
      have hyr := hr b.2.2.toNat (by omega) y hy
      rcases lastB_at l y with h1 | ⟨a, ha, h1, h2⟩
      · -- a task that is needed has a bit, at 0 or behind it
        have h3 := ok.full y.toNat (by omega)
        have h4 := hw.2 y.toNat (by omega)
        rw [show ((y.toNat : Nat) : Int) = y by omega] at h3
        obtain ⟨a, ha, h5⟩ := manyB_pos (l := l) (x := y) (by omega)
        have h6 := ok.behind b hb a ha (by rw [h5]; exact hy)
        have h7 := (ok.rng a ha).1
        omega
      · rw [h2]
        exact ok.behind b hb a ha (by rw [h1]; exact hy)
    rw [if_pos h0, hl, he]
    simp
end Go.Proofs.YtkgdhfdahafaoaaDoor
