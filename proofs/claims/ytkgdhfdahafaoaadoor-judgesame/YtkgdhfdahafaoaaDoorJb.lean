/- Plain: what is wrong with stays, as the document judges them; stays by an order, and bits step by step, may be so. No word of the program. -/
import Derived.Test.YtkgdhfdahafaoaaDoorJa
namespace Go.Proofs.YtkgdhfdahafaoaaDoor

/-- One is wrong by itself: of no hand, no task, no time. -/
def outS (n h : Nat) (s : StyZ) : Bool := decide (s.1 < 0) || decide ((h : Int) ≤ s.1) || decide (s.2.1 < 0) || decide ((n : Int) ≤ s.2.1) || decide (s.2.2.1 < 0) || decide (s.2.2.2 < s.2.2.1) || decide (10000 < s.2.2.2)
/-- Two of one task, or that meet in one hand. -/
def hitS (a s : StyZ) : Bool := decide (a.2.1 = s.2.1) || (decide (a.1 = s.1) && decide (a.2.2.1 < s.2.2.2) && decide (s.2.2.1 < a.2.2.2))
/-- The fault of a stay, by those ahead of it. -/
def stayErr (ts : List (Int × List Int)) (h : Nat) (l : List StyZ) (s : StyZ) : Int :=
  if outS ts.length h s = true then 1 else if s.2.2.2 - s.2.2.1 ≠ wkOf ts s.2.1.toNat then 3 else if l.any (fun a => hitS a s) = true then 7 else 0
/-- A stay that begins ahead of the end of one that its task needs. -/
def earlyS (ts : List (Int × List Int)) (l : List StyZ) : Bool := l.any (fun s => l.any (fun a => decide (a.2.1 ∈ needsOf ts s.2.1.toNat) && decide (s.2.2.1 < a.2.2.2)))
def staysErr (ts : List (Int × List Int)) (h : Nat) (l : List StyZ) : Int :=
  if firstErr (stayErr ts h) [] l = 0 then (if l.length < ts.length then 5 else if earlyS ts l = true then 6 else 0) else firstErr (stayErr ts h) [] l

/-- Stays that may be so. -/
structure StaysOk (ts : List (Int × List Int)) (h : Nat) (l : List StyZ) : Prop where
  rng : ∀ s, s ∈ l → 0 ≤ s.1 ∧ s.1 < h ∧ 0 ≤ s.2.1 ∧ s.2.1 < ts.length ∧ 0 ≤ s.2.2.1 ∧ s.2.2.1 ≤ s.2.2.2 ∧ s.2.2.2 ≤ 10000
  long : ∀ s, s ∈ l → s.2.2.2 - s.2.2.1 = wkOf ts s.2.1.toNat
  apart : l.Pairwise (fun a s => a.2.1 ≠ s.2.1 ∧ (a.1 = s.1 → s.2.2.2 ≤ a.2.2.1 ∨ a.2.2.2 ≤ s.2.2.1))
  all : ts.length ≤ l.length
  behind : ∀ s, s ∈ l → ∀ a, a ∈ l → a.2.1 ∈ needsOf ts s.2.1.toNat → a.2.2.2 ≤ s.2.2.1

theorem outS_false {n h : Nat} {s : StyZ} : outS n h s = false ↔ 0 ≤ s.1 ∧ s.1 < h ∧ 0 ≤ s.2.1 ∧ s.2.1 < n ∧ 0 ≤ s.2.2.1 ∧ s.2.2.1 ≤ s.2.2.2 ∧ s.2.2.2 ≤ 10000 := by
  unfold outS
  simp only [Bool.or_eq_false_iff, decide_eq_false_iff_not]
  omega
theorem hitS_false {a s : StyZ} : hitS a s = false ↔ a.2.1 ≠ s.2.1 ∧ (a.1 = s.1 → s.2.2.2 ≤ a.2.2.1 ∨ a.2.2.2 ≤ s.2.2.1) := by
  unfold hitS
  simp only [Bool.or_eq_false_iff, Bool.and_eq_false_iff, decide_eq_false_iff_not]
  constructor
  · rintro ⟨h1, h2⟩
    refine ⟨h1, fun e => ?_⟩
    rcases h2 with (h2 | h2) | h2
    · exact absurd e h2
    · left; omega
    · right; omega
  · rintro ⟨h1, h2⟩
    refine ⟨h1, ?_⟩
    by_cases e : a.1 = s.1
    · rcases h2 e with h | h
      · left; right; omega
      · right; omega
    · exact Or.inl (Or.inl e)
theorem stayErr_zero {ts : List (Int × List Int)} {h : Nat} {l : List StyZ} {s : StyZ} : stayErr ts h l s = 0 ↔ outS ts.length h s = false ∧ s.2.2.2 - s.2.2.1 = wkOf ts s.2.1.toNat ∧ ∀ a, a ∈ l → hitS a s = false := by
  unfold stayErr
  split
  · rename_i h1; simp [h1]
  · rename_i h1
    have h1' : outS ts.length h s = false := by simpa using h1
    split
    · rename_i h2
      exact ⟨fun e => by omega, fun e => absurd e.2.1 h2⟩
    · rename_i h2
      have h2' : s.2.2.2 - s.2.2.1 = wkOf ts s.2.1.toNat := Classical.byContradiction fun e => h2 e
      split
      · rename_i h3
        refine ⟨fun e => by omega, fun e => ?_⟩
        obtain ⟨a, ha, h4⟩ := List.any_eq_true.1 h3
        rw [e.2.2 a ha] at h4
        cases h4
      · rename_i h3
        have h3' : l.any (fun a => hitS a s) = false := by simpa using h3
        rw [List.any_eq_false] at h3'
        exact ⟨fun _ => ⟨h1', h2', fun a ha => by simpa using h3' a ha⟩, fun _ => rfl⟩

/-- Of no fault: they may be so. -/
theorem stays_ok {ts : List (Int × List Int)} {h : Nat} {l : List StyZ} : staysErr ts h l = 0 ↔ StaysOk ts h l := by
  have hfirst : firstErr (stayErr ts h) [] l = 0 ↔ ∀ k (hk : k < l.length), outS ts.length h l[k] = false ∧ l[k].2.2.2 - l[k].2.2.1 = wkOf ts l[k].2.1.toNat ∧ ∀ a, a ∈ l.take k → hitS a l[k] = false := by
    rw [firstErr_zero]
    constructor
    · intro e k hk
      have := e k hk
      rw [List.nil_append] at this
      exact stayErr_zero.1 this
    · intro e k hk
      rw [List.nil_append]
      exact stayErr_zero.2 (e k hk)
  have hearly : earlyS ts l = false ↔ ∀ s, s ∈ l → ∀ a, a ∈ l → a.2.1 ∈ needsOf ts s.2.1.toNat → a.2.2.2 ≤ s.2.2.1 := by
    unfold earlyS
    rw [List.any_eq_false]
    constructor
    · intro e s hs a ha hn
      have h1 : l.any (fun a => decide (a.2.1 ∈ needsOf ts s.2.1.toNat) && decide (s.2.2.1 < a.2.2.2)) = false := by simpa using e s hs
      rw [List.any_eq_false] at h1
      have := h1 a ha
      simp [hn] at this
      exact this
    · intro e s hs
      have h1 : l.any (fun a => decide (a.2.1 ∈ needsOf ts s.2.1.toNat) && decide (s.2.2.1 < a.2.2.2)) = false := by
        rw [List.any_eq_false]
        intro a ha
        simp only [Bool.and_eq_true, decide_eq_true_eq, not_and]
        intro hn
        have := e s hs a ha hn
        omega
      simpa using h1
  unfold staysErr
  constructor
  · intro e
    by_cases h0 : firstErr (stayErr ts h) [] l = 0
    · rw [if_pos h0] at e
      have hf := hfirst.1 h0
      by_cases hl : l.length < ts.length
      · rw [if_pos hl] at e; omega
      · rw [if_neg hl] at e
        cases he : earlyS ts l with
        | true => rw [he] at e; simp at e
        | false =>
          refine ⟨fun s hs => ?_, fun s hs => ?_, ?_, by omega, hearly.1 he⟩
          · obtain ⟨k, hk, rfl⟩ := List.getElem_of_mem hs
            exact outS_false.1 (hf k hk).1
          · obtain ⟨k, hk, rfl⟩ := List.getElem_of_mem hs
            exact (hf k hk).2.1
          · rw [List.pairwise_iff_getElem]
            intro i j hi hj hij
            refine hitS_false.1 ((hf j hj).2.2 _ ?_)
            rw [List.mem_take_iff_getElem]
            exact ⟨i, by omega, rfl⟩
    · rw [if_neg h0] at e; exact absurd e h0
  · intro ok
    have h0 : firstErr (stayErr ts h) [] l = 0 := by
      rw [hfirst]
      intro k hk
      have hm := List.getElem_mem hk
      refine ⟨outS_false.2 (ok.rng _ hm), ok.long _ hm, fun a ha => ?_⟩
      rw [List.mem_take_iff_getElem] at ha
      obtain ⟨i, hi, rfl⟩ := ha
      exact hitS_false.2 (List.pairwise_iff_getElem.1 ok.apart i k (by omega) hk (by omega))
    have he : earlyS ts l = false := hearly.2 ok.behind
    have hl := ok.all
    rw [if_pos h0, if_neg (by omega), he]
    simp

end Go.Proofs.YtkgdhfdahafaoaaDoor
