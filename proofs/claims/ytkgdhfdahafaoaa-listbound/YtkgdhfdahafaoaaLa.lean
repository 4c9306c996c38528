/- Plain: tasks that are taken by hands and kept till they are done, nobody idle without need, are done unit by unit. No word of the program. -/
import Derived.Test.YtkgdhfdahafaoaaSc
namespace Go.Proofs.Ytkgdhfdahafaoaa

theorem nodup_sub_len {α : Type} [DecidableEq α] {l m : List α} (hd : l.Nodup) (hs : ∀ x, x ∈ l → x ∈ m) : l.length ≤ m.length := by
  induction l generalizing m with
  | nil => simp
  | cons a l ih =>
    have ha := hs a (List.mem_cons_self ..)
    have hd' := List.nodup_cons.1 hd
    have := ih (m := m.erase a) hd'.2 (fun x hx => by
      have hne : x ≠ a := by intro e; subst e; exact hd'.1 hx
      exact (List.mem_erase_of_ne hne).2 (hs x (List.mem_cons_of_mem _ hx)))
    rw [List.length_erase_of_mem ha] at this
    have := List.length_pos_of_mem ha
    simp only [List.length_cons]
    omega
theorem nodup_lt_len {l : List Nat} {n : Nat} (hd : l.Nodup) (hl : ∀ x, x ∈ l → x < n) : l.length ≤ n := by
  have := nodup_sub_len (m := List.range n) hd (fun x hx => List.mem_range.2 (hl x hx))
  simpa using this
theorem nodup_all {l : List Nat} {n : Nat} (hd : l.Nodup) (hl : ∀ x, x ∈ l → x < n) (hn : n ≤ l.length) : ∀ x, x < n → x ∈ l := by
  intro x hx
  by_cases e : x ∈ l
  · exact e
  · have := nodup_lt_len (l := x :: l) (List.nodup_cons.2 ⟨e, hd⟩) (fun y hy => by
      rcases List.mem_cons.1 hy with rfl | hy
      · exact hx
      · exact hl y hy)
    simp at this
    omega

/-- A task's work, as a number that counts. -/
def wkN (ts : List (Int × List Int)) (x : Nat) : Nat := (wkOf ts x).toNat

/-- By which hand, and from when on, each task is done. -/
structure Plays (ts : List (Int × List Int)) (h : Nat) (hand beg : Nat → Nat) : Prop where
  hlt : ∀ x, x < ts.length → hand x < h
  apart : ∀ x y, x < ts.length → y < ts.length → x ≠ y → hand x = hand y → beg x + wkN ts x ≤ beg y ∨ beg y + wkN ts y ≤ beg x
  need : ∀ x, x < ts.length → ∀ y, Need ts x y → beg y + wkN ts y ≤ beg x
  keen : ∀ x, x < ts.length → ∀ t, t < beg x → (∀ y, Need ts x y → beg y + wkN ts y ≤ t) → ∀ k, k < h → ∃ z, z < ts.length ∧ hand z = k ∧ beg z ≤ t ∧ t < beg z + wkN ts z

/-- What is left at a time. -/
def lefts (ts : List (Int × List Int)) (beg : Nat → Nat) (t x : Nat) : Int :=
  if x < ts.length then (if t ≤ beg x then wkOf ts x else if t < beg x + wkN ts x then (beg x + wkN ts x : Nat) - (t : Int) else 0) else 0
/-- Who is at work at a time. -/
def works (ts : List (Int × List Int)) (beg : Nat → Nat) (t : Nat) : List Nat := (List.range ts.length).filter (fun x => decide (beg x ≤ t ∧ t < beg x + wkN ts x))
theorem mem_works {ts : List (Int × List Int)} {beg : Nat → Nat} {t x : Nat} : x ∈ works ts beg t ↔ x < ts.length ∧ beg x ≤ t ∧ t < beg x + wkN ts x := by simp [works]
theorem wkN_eq {ts : List (Int × List Int)} (hw : Works ts) {x : Nat} (hx : x < ts.length) : ((wkN ts x : Nat) : Int) = wkOf ts x ∧ 1 ≤ wkN ts x := by
  have := hw.2 x hx
  unfold wkN
  omega
theorem lefts_pos {ts : List (Int × List Int)} (hw : Works ts) {beg : Nat → Nat} {t x : Nat} (hx : x < ts.length) : 0 < lefts ts beg t x ↔ t < beg x + wkN ts x := by
  have := wkN_eq hw hx
  unfold lefts
  rw [if_pos hx]
  split
  · omega
  · split <;> omega
theorem lefts_low {ts : List (Int × List Int)} (hw : Works ts) (beg : Nat → Nat) (t x : Nat) : 0 ≤ lefts ts beg t x := by
  unfold lefts
  split
  · rename_i hx
    have := wkN_eq hw hx
    split
    · omega
    · split <;> omega
  · omega

theorem Plays.sched {ts : List (Int × List Int)} {h : Nat} {hand beg : Nat → Nat} (hw : Works ts) (hr : InRange ts) (hp : Plays ts h hand beg) : Sched ts h (lefts ts beg) (works ts beg) := by
  have hhand : ∀ t, ((works ts beg t).map hand).Nodup := fun t => by
    have hn : (works ts beg t).Nodup := List.Pairwise.filter _ List.nodup_range
    rw [List.Nodup, List.pairwise_map]
    refine List.Pairwise.imp_of_mem (fun {a b} ha hb hab => ?_) hn
    have h1 := mem_works.1 ha
    have h2 := mem_works.1 hb
    intro e
    rcases hp.apart a b h1.1 h2.1 hab e with h | h <;> omega
  constructor
  · intro x
    unfold lefts
    split
    · rw [if_pos (by omega)]
    · rw [wkOf_past (by omega)]
  · intro t x
    by_cases hm : x ∈ works ts beg t
    · rw [if_pos hm]
      obtain ⟨hx, h1, h2⟩ := mem_works.1 hm
      have := wkN_eq hw hx
      unfold lefts
      rw [if_pos hx, if_pos hx, if_neg (by omega)]
      split
      · split <;> omega
      · split <;> omega
    · rw [if_neg hm]
      by_cases hx : x < ts.length
      · have hn : ¬ (beg x ≤ t ∧ t < beg x + wkN ts x) := fun e => hm (mem_works.2 ⟨hx, e⟩)
        have hwx := wkN_eq hw hx
        unfold lefts
        rw [if_pos hx, if_pos hx]
        split
        · rw [if_pos (by omega)]
        · rw [if_neg (by omega), if_neg (by omega), if_neg (by omega)]
      · unfold lefts
        rw [if_neg hx, if_neg hx]
  · intro t x hm
    obtain ⟨hx, h1, h2⟩ := mem_works.1 hm
    refine ⟨hx, ?_⟩
    unfold rdyB
    have hpos := (lefts_pos hw (beg := beg) (t := t) hx).2 h2
    have hany : (needsOf ts x).any (undB (lefts ts beg t)) = false := by
      rw [List.any_eq_false]
      intro y hy
      have hyr := hr x hx y hy
      have hneed : Need ts x y.toNat := by
        unfold Need
        rw [show ((y.toNat : Nat) : Int) = y by omega]
        exact hy
      have := hp.need x hx _ hneed
      have hnp : ¬ 0 < lefts ts beg t y.toNat := by rw [lefts_pos hw (by omega)]; omega
      simp [undB, hnp]
    rw [hany]
    simp [hpos]
  · exact fun t => List.Pairwise.filter _ List.nodup_range
  · intro t
    have := nodup_lt_len (hhand t) (n := h) (fun k hk => by
      obtain ⟨x, hx, rfl⟩ := List.mem_map.1 hk
      exact hp.hlt x (mem_works.1 hx).1)
    simpa using this
  · intro t hl x hx hrd
    have hpos := rdyB_pos hrd
    rw [lefts_pos hw hx] at hpos
    by_cases hb : beg x ≤ t
    · exact mem_works.2 ⟨hx, hb, hpos⟩
    · exfalso
      have hneed : ∀ y, Need ts x y → beg y + wkN ts y ≤ t := by
        intro y hy
        unfold rdyB at hrd
        simp only [Bool.and_eq_true, Bool.not_eq_true', List.any_eq_false] at hrd
        have h1 := hrd.2 _ hy
        have hyr := hr x hx _ hy
        unfold undB at h1
        rw [Int.toNat_natCast] at h1
        have h2 : ¬ 0 < lefts ts beg t y := by simpa using h1
        rw [lefts_pos hw (by omega)] at h2
        omega
      have hk := hp.keen x hx t (by omega) hneed
      have hsub : h ≤ ((works ts beg t).map hand).length := by
        have := nodup_sub_len (l := List.range h) (m := (works ts beg t).map hand) List.nodup_range (fun k hk' => by
          obtain ⟨z, hz, h1, h2, h3⟩ := hk k (List.mem_range.1 hk')
          exact List.mem_map.2 ⟨z, mem_works.2 ⟨hz, h2, h3⟩, h1⟩)
        simpa using this
      rw [List.length_map] at hsub
      omega

/-- When the last one is done. -/
structure EndsAt (ts : List (Int × List Int)) (beg : Nat → Nat) (e : Nat) : Prop where
  le : ∀ x, x < ts.length → beg x + wkN ts x ≤ e
  at_ : e = 0 ∨ ∃ x, x < ts.length ∧ e = beg x + wkN ts x
theorem EndsAt.over {ts : List (Int × List Int)} {beg : Nat → Nat} {e : Nat} (hw : Works ts) (he : EndsAt ts beg e) : Over ts (lefts ts beg) e where
  none := fun x hx => by
    have h1 := he.le x hx
    have h2 := lefts_low hw beg e x
    have h3 : ¬ 0 < lefts ts beg e x := by rw [lefts_pos hw hx]; omega
    omega
  some := fun t ht => by
    rcases he.at_ with h0 | ⟨x, hx, h1⟩
    · omega
    · have := (lefts_pos hw (beg := beg) (t := t) hx).2 (by omega)
      exact ⟨x, hx, by omega⟩
theorem EndsAt.det {ts : List (Int × List Int)} {beg : Nat → Nat} {e e' : Nat} (he : EndsAt ts beg e) (he' : EndsAt ts beg e') : e = e' := by
  have h1 : e ≤ e' := by
    rcases he.at_ with h0 | ⟨x, hx, h1⟩
    · omega
    · have := he'.le x hx; omega
  have h2 : e' ≤ e := by
    rcases he'.at_ with h0 | ⟨x, hx, h1⟩
    · omega
    · have := he.le x hx; omega
  omega

/-- With one hand more it takes at most twice as long. -/
theorem anomaly {ts : List (Int × List Int)} {h : Nat} {hand beg hand' beg' : Nat → Nat} {R T : Nat → Int} {e e' : Nat} (hw : Works ts) (hr : InRange ts) (hno : ∀ j, j < ts.length → ¬ Reach ts j j) (hh : 1 ≤ h) (h6 : h ≤ 6) (hd : Deep ts R T)
    (hp : Plays ts h hand beg) (he : EndsAt ts beg e) (hp' : Plays ts (h + 1) hand' beg') (he' : EndsAt ts beg' e') : e' ≤ 2 * e := by
  obtain ⟨_, a1, a2, _⟩ := (hp.sched hw hr).long hw hr hno hh hd (he.over hw)
  obtain ⟨_, _, _, b3⟩ := (hp'.sched hw hr).long hw hr hno (by omega) hd (he'.over hw)
  have : h = 1 ∨ h = 2 ∨ h = 3 ∨ h = 4 ∨ h = 5 ∨ h = 6 := by omega
  rcases this with rfl | rfl | rfl | rfl | rfl | rfl <;> omega
end Go.Proofs.Ytkgdhfdahafaoaa
