/- Plain: tasks that are taken by hands and kept till they are done, nobody idle without need, are done unit by unit. No word of the program. Plain: tasks that are taken by an order, time by time. No word of the program. Plain: what was taken by an order, time by time, is a play; how long it is. No word of the program. -/
import Derived.Test.YtkcpimbhfmhjgaaSc

namespace Go.Proofs.Ytkcpimbhfmhjgaa

theorem nodup_sub_len {α : Type} [DecidableEq α] {l m : List α} (hd : l.Nodup) (hs : ∀ x, x ∈ l → x ∈ m) : l.length ≤ m.length := by
  induction l generalizing m with
  | nil => simp
  | cons a l ih =>
    have ha := hs a (List.mem_cons_self ..)
    have hd' := List.nodup_cons.1 hd
    have := ih (m := m.erase a) hd'.2 (fun x hx => by
      have hne : x ≠ a := by intro e; subst e; exact hd'.1 hx
      exact (List.mem_erase_of_ne hne).2 (hs x (List.mem_cons_of_mem _ hx)))
    rw [List.length_erase_of_mem ha] at this
    have := List.length_pos_of_mem ha
    simp only [List.length_cons]
    omega
theorem nodup_lt_len {l : List Nat} {n : Nat} (hd : l.Nodup) (hl : ∀ x, x ∈ l → x < n) : l.length ≤ n := by
  have := nodup_sub_len (m := List.range n) hd (fun x hx => List.mem_range.2 (hl x hx))
  simpa using this
theorem nodup_all {l : List Nat} {n : Nat} (hd : l.Nodup) (hl : ∀ x, x ∈ l → x < n) (hn : n ≤ l.length) : ∀ x, x < n → x ∈ l := by
  intro x hx
  by_cases e : x ∈ l
  · exact e
  · have := nodup_lt_len (l := x :: l) (List.nodup_cons.2 ⟨e, hd⟩) (fun y hy => by
      rcases List.mem_cons.1 hy with rfl | hy
      · exact hx
      · exact hl y hy)
    simp at this
    omega

/-- A task's work, as a number that counts. -/
def wkN (ts : List (Int × List Int)) (x : Nat) : Nat := (wkOf ts x).toNat

/-- By which hand, and from when on, each task is done. -/
structure Plays (ts : List (Int × List Int)) (h : Nat) (hand beg : Nat → Nat) : Prop where
  hlt : ∀ x, x < ts.length → hand x < h
  apart : ∀ x y, x < ts.length → y < ts.length → x ≠ y → hand x = hand y → beg x + wkN ts x ≤ beg y ∨ beg y + wkN ts y ≤ beg x
  need : ∀ x, x < ts.length → ∀ y, Need ts x y → beg y + wkN ts y ≤ beg x
  keen : ∀ x, x < ts.length → ∀ t, t < beg x → (∀ y, Need ts x y → beg y + wkN ts y ≤ t) → ∀ k, k < h → ∃ z, z < ts.length ∧ hand z = k ∧ beg z ≤ t ∧ t < beg z + wkN ts z

/-- What is left at a time. -/
def lefts (ts : List (Int × List Int)) (beg : Nat → Nat) (t x : Nat) : Int :=
  if x < ts.length then (if t ≤ beg x then wkOf ts x else if t < beg x + wkN ts x then (beg x + wkN ts x : Nat) - (t : Int) else 0) else 0
/-- Who is at work at a time. -/
def works (ts : List (Int × List Int)) (beg : Nat → Nat) (t : Nat) : List Nat := (List.range ts.length).filter (fun x => decide (beg x ≤ t ∧ t < beg x + wkN ts x))
theorem mem_works {ts : List (Int × List Int)} {beg : Nat → Nat} {t x : Nat} : x ∈ works ts beg t ↔ x < ts.length ∧ beg x ≤ t ∧ t < beg x + wkN ts x := by simp [works]
theorem wkN_eq {ts : List (Int × List Int)} (hw : Works ts) {x : Nat} (hx : x < ts.length) : ((wkN ts x : Nat) : Int) = wkOf ts x ∧ 1 ≤ wkN ts x := by
  have := hw.2 x hx
  unfold wkN
  omega
theorem lefts_pos {ts : List (Int × List Int)} (hw : Works ts) {beg : Nat → Nat} {t x : Nat} (hx : x < ts.length) : 0 < lefts ts beg t x ↔ t < beg x + wkN ts x := by
  have := wkN_eq hw hx
  unfold lefts
  rw [if_pos hx]
  split
  · omega
  · split <;> omega
theorem lefts_low {ts : List (Int × List Int)} (hw : Works ts) (beg : Nat → Nat) (t x : Nat) : 0 ≤ lefts ts beg t x := by
  unfold lefts
  split
  · rename_i hx
    have := wkN_eq hw hx
    split
    · omega
    · split <;> omega
  · omega

theorem Plays.sched {ts : List (Int × List Int)} {h : Nat} {hand beg : Nat → Nat} (hw : Works ts) (hr : InRange ts) (hp : Plays ts h hand beg) : Sched ts h (lefts ts beg) (works ts beg) := by
  have hhand : ∀ t, ((works ts beg t).map hand).Nodup := fun t => by
    have hn : (works ts beg t).Nodup := List.Pairwise.filter _ List.nodup_range
    rw [List.Nodup, List.pairwise_map]
    refine List.Pairwise.imp_of_mem (fun {a b} ha hb hab => ?_) hn
    have h1 := mem_works.1 ha
    have h2 := mem_works.1 hb
    intro e
    rcases hp.apart a b h1.1 h2.1 hab e with h | h <;> omega
  constructor
  · intro x
    unfold lefts
    split
    · rw [if_pos (by omega)]
    · rw [wkOf_past (by omega)]
  · intro t x
    by_cases hm : x ∈ works ts beg t
    · rw [if_pos hm]
      obtain ⟨hx, h1, h2⟩ := mem_works.1 hm
      have := wkN_eq hw hx
      unfold lefts
      rw [if_pos hx, if_pos hx, if_neg (by omega)]
      split
      · split <;> omega
      · split <;> omega
    · rw [if_neg hm]
      by_cases hx : x < ts.length
      · have hn : ¬ (beg x ≤ t ∧ t < beg x + wkN ts x) := fun e => hm (mem_works.2 ⟨hx, e⟩)
        have hwx := wkN_eq hw hx
        unfold lefts
        rw [if_pos hx, if_pos hx]
        split
        · rw [if_pos (by omega)]
        · rw [if_neg (by omega), if_neg (by omega), if_neg (by omega)]
      · unfold lefts
        rw [if_neg hx, if_neg hx]
  · intro t x hm
    obtain ⟨hx, h1, h2⟩ := mem_works.1 hm
    refine ⟨hx, ?_⟩
    unfold rdyB
    have hpos := (lefts_pos hw (beg := beg) (t := t) hx).2 h2
    have hany : (needsOf ts x).any (undB (lefts ts beg t)) = false := by
      rw [List.any_eq_false]
      intro y hy
      have hyr := hr x hx y hy
      have hneed : Need ts x y.toNat := by
        unfold Need
        rw [show ((y.toNat : Nat) : Int) = y by omega]
        exact hy
      have := hp.need x hx _ hneed
      have hnp : ¬ 0 < lefts ts beg t y.toNat := by rw [lefts_pos hw (by omega)]; omega
      simp [undB, hnp]
    rw [hany]
    simp [hpos]
  · exact fun t => List.Pairwise.filter _ List.nodup_range
  · intro t
    have := nodup_lt_len (hhand t) (n := h) (fun k hk => by
      obtain ⟨x, hx, rfl⟩ := List.mem_map.1 hk
      exact hp.hlt x (mem_works.1 hx).1)
    simpa using this
  · intro t hl x hx hrd
    have hpos := rdyB_pos hrd
    rw [lefts_pos hw hx] at hpos
    by_cases hb : beg x ≤ t
    · exact mem_works.2 ⟨hx, hb, hpos⟩
    · exfalso
      have hneed : ∀ y, Need ts x y → beg y + wkN ts y ≤ t := by
        intro y hy
        unfold rdyB at hrd
        simp only [Bool.and_eq_true, Bool.not_eq_true', List.any_eq_false] at hrd
        have h1 := hrd.2 _ hy
        have hyr := hr x hx _ hy
        unfold undB at h1
        rw [Int.toNat_natCast] at h1
        have h2 : ¬ 0 < lefts ts beg t y := by simpa using h1
        rw [lefts_pos hw (by omega)] at h2
        omega
      have hk := hp.keen x hx t (by omega) hneed
      have hsub : h ≤ ((works ts beg t).map hand).length := by
        have := nodup_sub_len (l := List.range h) (m := (works ts beg t).map hand) List.nodup_range (fun k hk' => by
          obtain ⟨z, hz, h1, h2, h3⟩ := hk k (List.mem_range.1 hk')
          exact List.mem_map.2 ⟨z, mem_works.2 ⟨hz, h2, h3⟩, h1⟩)
        simpa using this
      rw [List.length_map] at hsub
      omega

/-- When the last one is done. -/
structure EndsAt (ts : List (Int × List Int)) (beg : Nat → Nat) (e : Nat) : Prop where
  le : ∀ x, x < ts.length → beg x + wkN ts x ≤ e
  at_ : e = 0 ∨ ∃ x, x < ts.length ∧ e = beg x + wkN ts x
theorem EndsAt.over {ts : List (Int × List Int)} {beg : Nat → Nat} {e : Nat} (hw : Works ts) (he : EndsAt ts beg e) : Over ts (lefts ts beg) e where
  none := fun x hx => by
    have h1 := he.le x hx
    have h2 := lefts_low hw beg e x
    have h3 : ¬ 0 < lefts ts beg e x := by rw [lefts_pos hw hx]; omega
    omega
  some := fun t ht => by
    rcases he.at_ with h0 | ⟨x, hx, h1⟩
    · omega
    · have := (lefts_pos hw (beg := beg) (t := t) hx).2 (by omega)
      exact ⟨x, hx, by omega⟩
theorem EndsAt.det {ts : List (Int × List Int)} {beg : Nat → Nat} {e e' : Nat} (he : EndsAt ts beg e) (he' : EndsAt ts beg e') : e = e' := by
  have h1 : e ≤ e' := by
    rcases he.at_ with h0 | ⟨x, hx, h1⟩
    · omega
    · have := he'.le x hx; omega
  have h2 : e' ≤ e := by
    rcases he'.at_ with h0 | ⟨x, hx, h1⟩
    · omega
    · have := he.le x hx; omega
  omega

/-- With one hand more it takes at most twice as long. -/
theorem anomaly {ts : List (Int × List Int)} {h : Nat} {hand beg hand' beg' : Nat → Nat} {R T : Nat → Int} {e e' : Nat} (hw : Works ts) (hr : InRange ts) (hno : ∀ j, j < ts.length → ¬ Reach ts j j) (hh : 1 ≤ h) (h6 : h ≤ 6) (hd : Deep ts R T)
    (hp : Plays ts h hand beg) (he : EndsAt ts beg e) (hp' : Plays ts (h + 1) hand' beg') (he' : EndsAt ts beg' e') : e' ≤ 2 * e := by
  obtain ⟨_, a1, a2, _⟩ := (hp.sched hw hr).long hw hr hno hh hd (he.over hw)
  obtain ⟨_, _, _, b3⟩ := (hp'.sched hw hr).long hw hr hno (by omega) hd (he'.over hw)
  have : h = 1 ∨ h = 2 ∨ h = 3 ∨ h = 4 ∨ h = 5 ∨ h = 6 := by omega
  rcases this with rfl | rfl | rfl | rfl | rfl | rfl <;> omega
end Go.Proofs.Ytkcpimbhfmhjgaa

namespace Go.Proofs.Ytkcpimbhfmhjgaa

/-- A stay: its hand, its task, from when on, till when. -/
abbrev Sty : Type := Nat × Nat × Nat × Nat
def busyB (out : List Sty) (t k : Nat) : Bool := out.any (fun s => decide (s.1 = k) && decide (t < s.2.2.2))
def tookB (out : List Sty) (x : Nat) : Bool := out.any (fun s => decide (s.2.1 = x))
def doneB (out : List Sty) (t x : Nat) : Bool := out.any (fun s => decide (s.2.1 = x) && decide (s.2.2.2 ≤ t))
/-- Nobody has taken it, and all that it needs are done by then. -/
def rdyS (ts : List (Int × List Int)) (out : List Sty) (t x : Nat) : Bool := !tookB out x && (needsOf ts x).all (fun y => doneB out t y.toNat)
/-- The free hand of the least number. -/
def handAt (out : List Sty) (t h : Nat) : Option Nat := (List.range h).find? (fun k => !busyB out t k)
/-- The ready one that stands first in the order. -/
def taskAt (ts : List (Int × List Int)) (out : List Sty) (t : Nat) (ord : List Nat) : Option Nat := ord.find? (rdyS ts out t)
def takeAt (ts : List (Int × List Int)) (h : Nat) (ord : List Nat) (t : Nat) (out : List Sty) : Option Sty :=
  match handAt out t h, taskAt ts out t ord with
  | some k, some x => some (k, x, t, t + wkN ts x)
  | _, _ => none
def fillN (ts : List (Int × List Int)) (h : Nat) (ord : List Nat) (t : Nat) : Nat → List Sty → List Sty
  | 0, out => out
  | f + 1, out => match takeAt ts h ord t out with
    | some s => fillN ts h ord t f (out ++ [s])
    | none => out
/-- What was taken ahead of a time. -/
def outAt (ts : List (Int × List Int)) (h : Nat) (ord : List Nat) : Nat → List Sty
  | 0 => []
  | t + 1 => fillN ts h ord t ts.length (outAt ts h ord t)

/-- All is as it may be, and begins ahead of b. -/
structure LaidS (ts : List (Int × List Int)) (h b : Nat) (out : List Sty) : Prop where
  ok : ∀ s, s ∈ out → s.1 < h ∧ s.2.1 < ts.length ∧ s.2.2.1 < b ∧ s.2.2.2 = s.2.2.1 + wkN ts s.2.1
  once : (out.map (fun s => s.2.1)).Nodup
  apart : out.Pairwise (fun a b => a.1 = b.1 → a.2.2.2 ≤ b.2.2.1)
  need : ∀ s, s ∈ out → ∀ y, Need ts s.2.1 y → ∃ s', s' ∈ out ∧ s'.2.1 = y ∧ s'.2.2.2 ≤ s.2.2.1
/-- At a time nobody is idle without need. -/
def Keen (ts : List (Int × List Int)) (h u : Nat) (out : List Sty) : Prop :=
  (∀ k, k < h → ∃ s, s ∈ out ∧ s.1 = k ∧ s.2.2.1 ≤ u ∧ u < s.2.2.2) ∨
  ∀ x, x < ts.length → (∃ s, s ∈ out ∧ s.2.1 = x ∧ s.2.2.1 ≤ u) ∨ ∃ y, Need ts x y ∧ ∀ s, s ∈ out → s.2.1 = y → u < s.2.2.2

theorem takeAt_some {ts : List (Int × List Int)} {h : Nat} {ord : List Nat} {t : Nat} {out : List Sty} {s : Sty} (hs : takeAt ts h ord t out = some s) :
    ∃ k x, s = (k, x, t, t + wkN ts x) ∧ k < h ∧ busyB out t k = false ∧ x ∈ ord ∧ rdyS ts out t x = true := by
  unfold takeAt at hs
  split at hs
  · rename_i k x hk hx
    have h1 := List.mem_of_find?_eq_some hk
    have h2 := List.find?_some hk
    have h3 := List.mem_of_find?_eq_some hx
    have h4 := List.find?_some hx
    simp only [Option.some.injEq] at hs
    exact ⟨k, x, hs.symm, List.mem_range.1 h1, by simpa using h2, h3, h4⟩
  · simp at hs
theorem busyB_false {out : List Sty} {t k : Nat} (h : busyB out t k = false) {s : Sty} (hs : s ∈ out) (hk : s.1 = k) : s.2.2.2 ≤ t := by
  unfold busyB at h
  rw [List.any_eq_false] at h
  have := h s hs
  simp [hk] at this
  exact this
theorem tookB_false {out : List Sty} {x : Nat} (h : tookB out x = false) {s : Sty} (hs : s ∈ out) : s.2.1 ≠ x := by
  unfold tookB at h
  rw [List.any_eq_false] at h
  have := h s hs
  simpa using this
theorem doneB_true {out : List Sty} {t x : Nat} (h : doneB out t x = true) : ∃ s, s ∈ out ∧ s.2.1 = x ∧ s.2.2.2 ≤ t := by
  unfold doneB at h
  obtain ⟨s, hs, h1⟩ := List.any_eq_true.1 h
  simp at h1
  exact ⟨s, hs, h1.1, h1.2⟩

section
variable {ts : List (Int × List Int)} {h : Nat} {ord : List Nat}

theorem LaidS.take (ho : ∀ x, x ∈ ord → x < ts.length) {t : Nat} {out : List Sty} {s : Sty} (hL : LaidS ts h (t + 1) out) (hs : takeAt ts h ord t out = some s) : LaidS ts h (t + 1) (out ++ [s]) := by
  obtain ⟨k, x, rfl, hk, hb, hx, hr⟩ := takeAt_some hs
  unfold rdyS at hr
  simp only [Bool.and_eq_true, Bool.not_eq_true', List.all_eq_true] at hr
  refine ⟨fun s hs => ?_, ?_, ?_, fun s hs y hy => ?_⟩
  · rcases List.mem_append.1 hs with hs | hs
    · exact hL.ok s hs
    · obtain rfl := List.mem_singleton.1 hs
      exact ⟨hk, ho x hx, Nat.lt_succ_self t, rfl⟩
  · rw [List.map_append, List.nodup_append]
    refine ⟨hL.once, by simp, fun a ha b hb' => ?_⟩
    obtain ⟨s', hs', e'⟩ := List.mem_map.1 ha
    have hb2 : b = x := by simpa using hb'
    rw [hb2, ← e']
    exact tookB_false hr.1 hs'
  · rw [List.pairwise_append]
    refine ⟨hL.apart, by simp, fun a ha b hb' => ?_⟩
    obtain rfl := List.mem_singleton.1 hb'
    exact fun e => busyB_false hb ha e
  · rcases List.mem_append.1 hs with hs | hs
    · obtain ⟨s', h1, h2⟩ := hL.need s hs y hy
      exact ⟨s', List.mem_append.2 (Or.inl h1), h2⟩
    · obtain rfl := List.mem_singleton.1 hs
      have := hr.2 _ hy
      rw [Int.toNat_natCast] at this
      obtain ⟨s', h1, h2, h3⟩ := doneB_true this
      exact ⟨s', List.mem_append.2 (Or.inl h1), h2, h3⟩
theorem Keen.more {u : Nat} {out : List Sty} {s : Sty} (hK : Keen ts h u out) (hs : u < s.2.2.1) (hs2 : s.2.2.1 ≤ s.2.2.2) : Keen ts h u (out ++ [s]) := by
  rcases hK with hK | hK
  · refine Or.inl fun k hk => ?_
    obtain ⟨s', h1, h2⟩ := hK k hk
    exact ⟨s', List.mem_append.2 (Or.inl h1), h2⟩
  · refine Or.inr fun x hx => ?_
    rcases hK x hx with ⟨s', h1, h2⟩ | ⟨y, hy, h1⟩
    · exact Or.inl ⟨s', List.mem_append.2 (Or.inl h1), h2⟩
    · refine Or.inr ⟨y, hy, fun s' hs' e => ?_⟩
      rcases List.mem_append.1 hs' with hs' | hs'
      · exact h1 s' hs' e
      · obtain rfl := List.mem_singleton.1 hs'
        omega
theorem take_none (ho : ∀ x, x < ts.length → x ∈ ord) (hr : InRange ts) {t : Nat} {out : List Sty} (hL : LaidS ts h (t + 1) out) (hn : takeAt ts h ord t out = none) : Keen ts h t out := by
  unfold takeAt at hn
  split at hn
  · simp at hn
  · rename_i hnn
    cases hk : handAt out t h with
    | none =>
      refine Or.inl fun k hk' => ?_
      unfold handAt at hk
      have h1 := List.find?_eq_none.1 hk k (List.mem_range.2 hk')
      have h2 : busyB out t k = true := by simpa using h1
      unfold busyB at h2
      obtain ⟨s, hs, h3⟩ := List.any_eq_true.1 h2
      simp at h3
      have := (hL.ok s hs).2.2.1
      exact ⟨s, hs, h3.1, by omega, h3.2⟩
    | some k =>
      cases hx : taskAt ts out t ord with
      | some x => exact absurd hx (by intro _; exact hnn k x hk hx)
      | none =>
        refine Or.inr fun x hx' => ?_
        unfold taskAt at hx
        have h1 := List.find?_eq_none.1 hx x (ho x hx')
        unfold rdyS at h1
        by_cases ht : tookB out x = true
        · unfold tookB at ht
          obtain ⟨s, hs, h3⟩ := List.any_eq_true.1 ht
          simp at h3
          have := (hL.ok s hs).2.2.1
          exact Or.inl ⟨s, hs, h3, by omega⟩
        · have ht' : tookB out x = false := by simpa using ht
          rw [ht'] at h1
          have h2 : ¬ ∀ y, y ∈ needsOf ts x → doneB out t y.toNat = true := fun e => h1 (by simpa using e)
          have h3 : ∃ y, y ∈ needsOf ts x ∧ doneB out t y.toNat = false := by
            refine Classical.byContradiction fun e => h2 fun y hy => ?_
            cases hd : doneB out t y.toNat with
            | true => rfl
            | false => exact absurd ⟨y, hy, hd⟩ e
          obtain ⟨y, hy, hd⟩ := h3
          have hyr := hr x hx' y hy
          refine Or.inr ⟨y.toNat, ?_, fun s hs e => ?_⟩
          · unfold Need
            rw [show ((y.toNat : Nat) : Int) = y by omega]
            exact hy
          · unfold doneB at hd
            rw [List.any_eq_false] at hd
            have := hd s hs
            simp [e] at this
            exact this
theorem took_all {t : Nat} {out : List Sty} (hL : LaidS ts h t out) (hn : ts.length ≤ out.length) : ∀ x, x < ts.length → tookB out x = true := by
  intro x hx
  have hm := nodup_all hL.once (n := ts.length) (fun y hy => by
    obtain ⟨s, hs, rfl⟩ := List.mem_map.1 hy
    exact (hL.ok s hs).2.1) (by rw [List.length_map]; exact hn) x hx
  obtain ⟨s, hs, e⟩ := List.mem_map.1 hm
  exact List.any_eq_true.2 ⟨s, hs, by simpa using e⟩
theorem take_full (ho : ∀ x, x ∈ ord → x < ts.length) {t b : Nat} {out : List Sty} (hL : LaidS ts h b out) (hn : ts.length ≤ out.length) : takeAt ts h ord t out = none := by
  cases hs : takeAt ts h ord t out with
  | none => rfl
  | some s =>
    obtain ⟨k, x, _, _, _, hx, hr⟩ := takeAt_some hs
    unfold rdyS at hr
    rw [took_all hL hn x (ho x hx)] at hr
    simp at hr
theorem fill_laid (ho : ∀ x, x ∈ ord → x < ts.length) (ho' : ∀ x, x < ts.length → x ∈ ord) (hr : InRange ts) (t : Nat) : ∀ f out, LaidS ts h (t + 1) out → (∀ u, u < t → Keen ts h u out) → ts.length ≤ out.length + f →
    LaidS ts h (t + 1) (fillN ts h ord t f out) ∧ ∀ u, u < t + 1 → Keen ts h u (fillN ts h ord t f out) := by
  intro f
  induction f with
  | zero =>
    intro out hL hK hf
    refine ⟨hL, fun u hu => ?_⟩
    by_cases e : u = t
    · subst e
      show Keen ts h u out
      exact take_none ho' hr hL (take_full ho hL (by omega))
    · exact hK u (by omega)
  | succ f ih =>
    intro out hL hK hf
    unfold fillN
    cases hs : takeAt ts h ord t out with
    | none =>
      refine ⟨hL, fun u hu => ?_⟩
      by_cases e : u = t
      · subst e; exact take_none ho' hr hL hs
      · exact hK u (by omega)
    | some s =>
      obtain ⟨k, x, rfl, _⟩ := takeAt_some hs
      exact ih _ (hL.take ho hs) (fun u hu => (hK u hu).more hu (by show t ≤ t + _; omega)) (by rw [List.length_append]; simp; omega)
theorem outAt_laid (ho : ∀ x, x ∈ ord → x < ts.length) (ho' : ∀ x, x < ts.length → x ∈ ord) (hr : InRange ts) (t : Nat) : LaidS ts h t (outAt ts h ord t) ∧ ∀ u, u < t → Keen ts h u (outAt ts h ord t) := by
  induction t with
  | zero => exact ⟨⟨fun s hs => (List.not_mem_nil hs).elim, List.nodup_nil, List.Pairwise.nil, fun s hs => (List.not_mem_nil hs).elim⟩, fun u hu => by omega⟩
  | succ t ih =>
    obtain ⟨hL, hK⟩ := ih
    exact fill_laid ho ho' hr t ts.length _ ⟨fun s hs => by have := hL.ok s hs; omega, hL.once, hL.apart, hL.need⟩ hK (by omega)

/-- Where one is not taken yet, at each time ahead somebody was at work. -/
theorem keen_busy (hh : 1 ≤ h) (hr : InRange ts) (hno : ∀ j, j < ts.length → ¬ Reach ts j j) {u : Nat} {out : List Sty} (hK : Keen ts h u out) {x : Nat} (hx : x < ts.length) (hn : ∀ s, s ∈ out → s.2.1 ≠ x) : ∃ s, s ∈ out ∧ s.2.2.1 ≤ u ∧ u < s.2.2.2 := by
  rcases hK with hK | hK
  · obtain ⟨s, h1, _, h2⟩ := hK 0 (by omega)
    exact ⟨s, h1, h2⟩
  · refine Classical.byContradiction fun e => ?_
    have key := no_ring_empty ts hno (fun z => z < ts.length ∧ ∀ s, s ∈ out → s.2.1 = z → u < s.2.2.1) (fun z ⟨hz, hz2⟩ => by
      refine ⟨hz, ?_⟩
      rcases hK z hz with ⟨s, h1, h2, h3⟩ | ⟨y, hy, h1⟩
      · have := hz2 s h1 h2; omega
      · have hyr := hr z hz _ hy
        refine ⟨y, hy, by omega, fun s hs es => ?_⟩
        have h2 := h1 s hs es
        refine Nat.lt_of_not_le fun h3 => e ⟨s, hs, h3, h2⟩)
    exact key x ⟨hx, fun s hs es => absurd es (hn s hs)⟩
theorem sum_sub (f : Nat → Nat) (n : Nat) : ∀ (l : List Nat), l.Nodup → (∀ x, x ∈ l → x < n) → ((l.map f).sum : Int) ≤ sumTo (fun x => (f x : Int)) n := by
  have key : ∀ (l : List Nat) (g : Nat → Int), (∀ x, 0 ≤ g x) → l.Nodup → (∀ x, x ∈ l → x < n) → (l.map g).sum ≤ sumTo g n := by
    intro l
    induction l with
    | nil => intro g hg _ _; simpa using sumTo_nonneg g hg n
    | cons a l ih =>
      intro g hg hd hl
      have hd' := List.nodup_cons.1 hd
      have h1 := ih (upd g a 0) (fun x => by unfold upd; split; omega; exact hg x) hd'.2 (fun x hx => hl x (List.mem_cons_of_mem _ hx))
      rw [sumTo_upd g a 0 n (hl a (List.mem_cons_self ..))] at h1
      have e : l.map (upd g a 0) = l.map g := List.map_congr_left (fun x hx => upd_ne g 0 (fun e => hd'.1 (e ▸ hx)))
      rw [e] at h1
      simp only [List.map_cons, List.sum_cons]
      omega
  intro l hd hl
  have := key l (fun x => (f x : Int)) (fun x => by omega) hd hl
  have e : ((l.map f).sum : Int) = (l.map (fun x => (f x : Int))).sum := by
    clear this hd hl
    induction l with
    | nil => rfl
    | cons a l ih => simp only [List.map_cons, List.sum_cons, Int.natCast_add, ih]
  rw [e]; exact this
/-- Behind so many times all are taken. -/
theorem outAt_all (hw : Works ts) (hr : InRange ts) (hno : ∀ j, j < ts.length → ¬ Reach ts j j) (hh : 1 ≤ h) (ho : ∀ x, x ∈ ord → x < ts.length) (ho' : ∀ x, x < ts.length → x ∈ ord) {t : Nat} (ht : workTo ts ts.length ≤ t) : (outAt ts h ord t).length = ts.length := by
  obtain ⟨hL, hK⟩ := outAt_laid (h := h) ho ho' hr t
  have hle : (outAt ts h ord t).length ≤ ts.length := by
    have := nodup_lt_len hL.once (n := ts.length) (fun y hy => by
      obtain ⟨s, hs, rfl⟩ := List.mem_map.1 hy
      exact (hL.ok s hs).2.1)
    simpa using this
  refine Nat.le_antisymm hle ?_
  refine Nat.le_of_not_lt fun hlt => ?_
  have hex : ∃ x, x < ts.length ∧ ∀ s, s ∈ outAt ts h ord t → s.2.1 ≠ x := by
    refine Classical.byContradiction fun e => ?_
    have := nodup_sub_len (l := List.range ts.length) (m := (outAt ts h ord t).map (fun s => s.2.1)) List.nodup_range (fun x hx => by
      refine Classical.byContradiction fun e2 => e ⟨x, List.mem_range.1 hx, fun s hs es => e2 (List.mem_map.2 ⟨s, hs, es⟩)⟩)
    simp at this
    omega
  obtain ⟨x, hx, hn⟩ := hex
  have hcov : ∀ u, u < t → ∃ s, s ∈ outAt ts h ord t ∧ s.2.2.1 ≤ u ∧ u < s.2.2.2 := fun u hu => keen_busy hh hr hno (hK u hu) hx hn
  have h1 : t ≤ ((outAt ts h ord t).map (fun s => wkN ts s.2.1)).sum := by
    have := nodup_sub_len (l := List.range t) (m := (outAt ts h ord t).flatMap (fun s => List.range' s.2.2.1 (wkN ts s.2.1))) List.nodup_range (fun u hu => by
      obtain ⟨s, hs, h1, h2⟩ := hcov u (List.mem_range.1 hu)
      have := (hL.ok s hs).2.2.2
      exact List.mem_flatMap.2 ⟨s, hs, List.mem_range'_1.2 ⟨h1, by omega⟩⟩)
    rw [List.length_range, List.length_flatMap] at this
    simpa using this
  have hnd : (x :: (outAt ts h ord t).map (fun s => s.2.1)).Nodup := List.nodup_cons.2 ⟨fun e => by
    obtain ⟨s, hs, es⟩ := List.mem_map.1 e
    exact hn s hs es, hL.once⟩
  have h2 := sum_sub (wkN ts) ts.length _ hnd (fun y hy => by
    rcases List.mem_cons.1 hy with rfl | hy
    · exact hx
    · obtain ⟨s, hs, rfl⟩ := List.mem_map.1 hy
      exact (hL.ok s hs).2.1)
  rw [List.map_cons, List.sum_cons, List.map_map] at h2
  have h3 : sumTo (fun x => ((wkN ts x : Nat) : Int)) ts.length = workTo ts ts.length := by
    rw [workTo_sum]
    have : ∀ m, m ≤ ts.length → sumTo (fun x => ((wkN ts x : Nat) : Int)) m = sumTo (wkOf ts) m := by
      intro m
      induction m with
      | zero => intro _; rfl
      | succ m ih => intro hm; unfold sumTo; rw [ih (by omega), (wkN_eq hw (by omega)).1]
    exact this _ (Nat.le_refl _)
  have h4 := (wkN_eq hw hx).2
  have h5 : (outAt ts h ord t).map (wkN ts ∘ fun s => s.2.1) = (outAt ts h ord t).map (fun s => wkN ts s.2.1) := rfl
  rw [h3, h5] at h2
  omega
theorem outAt_stays (ho : ∀ x, x ∈ ord → x < ts.length) (ho' : ∀ x, x < ts.length → x ∈ ord) (hr : InRange ts) {t : Nat} (hf : (outAt ts h ord t).length = ts.length) (d : Nat) : outAt ts h ord (t + d) = outAt ts h ord t := by
  induction d with
  | zero => rfl
  | succ d ih =>
    show fillN ts h ord (t + d) ts.length (outAt ts h ord (t + d)) = _
    rw [ih]
    have hn := take_full ho (t := t + d) (outAt_laid (h := h) ho ho' hr t).1 (by omega)
    cases hl : ts.length with
    | zero => rfl
    | succ n => unfold fillN; rw [hn]
end
end Go.Proofs.Ytkcpimbhfmhjgaa

namespace Go.Proofs.Ytkcpimbhfmhjgaa

theorem map_once {α : Type} (f : α → Nat) {l : List α} (h : (l.map f).Nodup) {a b : α} (ha : a ∈ l) (hb : b ∈ l) (e : f a = f b) : a = b := by
  induction l with
  | nil => cases ha
  | cons c l ih =>
    rw [List.map_cons, List.nodup_cons] at h
    rcases List.mem_cons.1 ha with h1 | h1 <;> rcases List.mem_cons.1 hb with h2 | h2
    · rw [h1, h2]
    · subst h1; exact absurd (List.mem_map.2 ⟨b, h2, e.symm⟩) h.1
    · subst h2; exact absurd (List.mem_map.2 ⟨a, h1, e⟩) h.1
    · exact ih h.2 h1 h2
theorem pair_either {α : Type} {R : α → α → Prop} {l : List α} (h : l.Pairwise R) {a b : α} (ha : a ∈ l) (hb : b ∈ l) (e : a ≠ b) : R a b ∨ R b a := by
  induction l with
  | nil => cases ha
  | cons c l ih =>
    rw [List.pairwise_cons] at h
    rcases List.mem_cons.1 ha with h1 | h1 <;> rcases List.mem_cons.1 hb with h2 | h2
    · exact absurd (h1.trans h2.symm) e
    · subst h1; exact Or.inl (h.1 b h2)
    · subst h2; exact Or.inr (h.1 a h1)
    · exact ih h.2 h1 h2

/-- A task's stay. -/
def stayOf (out : List Sty) (x : Nat) : Sty := (out.find? (fun s => decide (s.2.1 = x))).getD (0, 0, 0, 0)
theorem stayOf_mem {out : List Sty} {x : Nat} (h : tookB out x = true) : stayOf out x ∈ out ∧ (stayOf out x).2.1 = x := by
  unfold stayOf
  cases hf : out.find? (fun s => decide (s.2.1 = x)) with
  | none =>
    obtain ⟨s, hs, h1⟩ := List.any_eq_true.1 h
    exact absurd h1 (List.find?_eq_none.1 hf s hs)
  | some s =>
    have h1 := List.mem_of_find?_eq_some hf
    have h2 := List.find?_some hf
    exact ⟨h1, by simpa using h2⟩
theorem LaidS.stay {ts : List (Int × List Int)} {h t : Nat} {out : List Sty} (hL : LaidS ts h t out) {s : Sty} (hs : s ∈ out) : stayOf out s.2.1 = s := by
  have h1 := stayOf_mem (out := out) (x := s.2.1) (List.any_eq_true.2 ⟨s, hs, by simp⟩)
  exact map_once (fun s : Sty => s.2.1) hL.once h1.1 hs h1.2

theorem LaidS.plays {ts : List (Int × List Int)} {h t : Nat} {out : List Sty} (hr : InRange ts) (hL : LaidS ts h t out) (hK : ∀ u, u < t → Keen ts h u out) (hf : out.length = ts.length) :
    Plays ts h (fun x => (stayOf out x).1) (fun x => (stayOf out x).2.2.1) := by
  have hm : ∀ x, x < ts.length → stayOf out x ∈ out ∧ (stayOf out x).2.1 = x := fun x hx => stayOf_mem (took_all hL (by omega) x hx)
  have hfin : ∀ x, x < ts.length → (stayOf out x).2.2.2 = (stayOf out x).2.2.1 + wkN ts x := fun x hx => by
    have := (hL.ok _ (hm x hx).1).2.2.2
    rw [(hm x hx).2] at this
    exact this
  refine ⟨fun x hx => (hL.ok _ (hm x hx).1).1, fun x y hx hy hne e => ?_, fun x hx y hy => ?_, fun x hx u hu hn k hk => ?_⟩
  · have hne' : stayOf out x ≠ stayOf out y := fun e2 => hne (by rw [← (hm x hx).2, ← (hm y hy).2, e2])
    have h1 := hfin x hx
    have h2 := hfin y hy
    rcases pair_either hL.apart (hm x hx).1 (hm y hy).1 hne' with h3 | h3
    · have := h3 e; omega
    · have := h3 e.symm; omega
  · have hyl : y < ts.length := by have := hr x hx _ hy; omega
    have hx2 := (hm x hx).2
    obtain ⟨s', h1, h2, h3⟩ := hL.need _ (hm x hx).1 y (by rw [hx2]; exact hy)
    have h4 := hL.stay h1
    rw [h2] at h4
    have h5 := hfin y hyl
    rw [← h5, h4]
    exact h3
  · have hu' : u < (stayOf out x).2.2.1 := hu
    have hlt := (hL.ok _ (hm x hx).1).2.2.1
    rcases hK u (by omega) with hK | hK
    · obtain ⟨s, h1, h2, h3, h4⟩ := hK k hk
      have h5 := hL.stay h1
      have h6 := hL.ok s h1
      refine ⟨s.2.1, h6.2.1, ?_, ?_, ?_⟩
      · show (stayOf out s.2.1).1 = k
        rw [h5]; exact h2
      · show (stayOf out s.2.1).2.2.1 ≤ u
        rw [h5]; exact h3
      · show u < (stayOf out s.2.1).2.2.1 + wkN ts s.2.1
        rw [h5, ← h6.2.2.2]; exact h4
    · exfalso
      rcases hK x hx with ⟨s, h1, h2, h3⟩ | ⟨y, hy, h1⟩
      · have h4 := hL.stay h1
        rw [h2] at h4
        rw [h4] at hu'
        omega
      · have hyl : y < ts.length := by have := hr x hx _ hy; omega
        have h2 := h1 _ (hm y hyl).1 (hm y hyl).2
        have h3 := hn y hy
        have h4 := hfin y hyl
        omega

/-- When the last one is done; 0 of none. -/
def endsOf (out : List Sty) : Nat := out.foldl (fun n s => max n s.2.2.2) 0
theorem endsOf_snoc (out : List Sty) (s : Sty) : endsOf (out ++ [s]) = max (endsOf out) s.2.2.2 := by simp [endsOf]
theorem foldl_ends (l : List Sty) : ∀ n, n ≤ l.foldl (fun n s => max n s.2.2.2) n ∧ (∀ s, s ∈ l → s.2.2.2 ≤ l.foldl (fun n s => max n s.2.2.2) n) ∧ (l.foldl (fun n s => max n s.2.2.2) n = n ∨ ∃ s, s ∈ l ∧ l.foldl (fun n s => max n s.2.2.2) n = s.2.2.2) := by
  induction l with
  | nil => intro n; exact ⟨Nat.le_refl _, fun s hs => (List.not_mem_nil hs).elim, Or.inl rfl⟩
  | cons a l ih =>
    intro n
    obtain ⟨h1, h2, h3⟩ := ih (max n a.2.2.2)
    rw [List.foldl_cons]
    refine ⟨by omega, fun s hs => ?_, ?_⟩
    · rcases List.mem_cons.1 hs with rfl | hs
      · omega
      · exact h2 s hs
    · rcases h3 with h3 | ⟨s, hs, h3⟩
      · by_cases e : n ≤ a.2.2.2
        · exact Or.inr ⟨a, List.mem_cons_self .., by omega⟩
        · exact Or.inl (by omega)
      · exact Or.inr ⟨s, List.mem_cons_of_mem _ hs, h3⟩
theorem LaidS.ends {ts : List (Int × List Int)} {h t : Nat} {out : List Sty} (hL : LaidS ts h t out) (hf : out.length = ts.length) : EndsAt ts (fun x => (stayOf out x).2.2.1) (endsOf out) := by
  obtain ⟨_, h2, h3⟩ := foldl_ends out 0
  refine ⟨fun x hx => ?_, ?_⟩
  · have hm := stayOf_mem (took_all hL (by omega) x hx)
    have := (hL.ok _ hm.1).2.2.2
    rw [hm.2] at this
    have := h2 _ hm.1
    show (stayOf out x).2.2.1 + wkN ts x ≤ endsOf out
    unfold endsOf
    omega
  · rcases h3 with h3 | ⟨s, hs, h3⟩
    · exact Or.inl h3
    · refine Or.inr ⟨s.2.1, (hL.ok s hs).2.1, ?_⟩
      show endsOf out = (stayOf out s.2.1).2.2.1 + wkN ts s.2.1
      rw [hL.stay hs, ← (hL.ok s hs).2.2.2]
      exact h3

/-- An order that names each task once. -/
def EachO (n : Nat) (ord : List Nat) : Prop := ord.length = n ∧ ord.Nodup ∧ ∀ x, x ∈ ord → x < n
theorem EachO.all {n : Nat} {ord : List Nat} (h : EachO n ord) : ∀ x, x < n → x ∈ ord := nodup_all h.2.1 h.2.2 (by rw [h.1]; exact Nat.le_refl _)

/-- What is taken by an order, to the end. -/
def listOut (ts : List (Int × List Int)) (h : Nat) (ord : List Nat) : List Sty := outAt ts h ord 601
section
variable {ts : List (Int × List Int)} {h : Nat} {ord : List Nat}
theorem list_full (hw : Works ts) (hr : InRange ts) (hno : ∀ j, j < ts.length → ¬ Reach ts j j) (hh : 1 ≤ h) (ho : EachO ts.length ord) : (listOut ts h ord).length = ts.length :=
  outAt_all hw hr hno hh ho.2.2 ho.all (by have := hw.all; omega)
theorem list_at (hw : Works ts) (hr : InRange ts) (hno : ∀ j, j < ts.length → ¬ Reach ts j j) (hh : 1 ≤ h) (ho : EachO ts.length ord) {t : Nat} (hf : (outAt ts h ord t).length = ts.length) : outAt ts h ord t = listOut ts h ord := by
  have h600 := outAt_all hw hr hno hh ho.2.2 ho.all (t := 601) (by have := hw.all; omega)
  by_cases e : t ≤ 601
  · have := outAt_stays ho.2.2 ho.all hr hf (601 - t)
    rw [show t + (601 - t) = 601 by omega] at this
    exact this.symm
  · have := outAt_stays ho.2.2 ho.all hr h600 (t - 601)
    rw [show 601 + (t - 601) = t by omega] at this
    exact this
/-- By any order: as many units as there is work; not below the work by the hands, nor the span; not above both. -/
theorem list_long {R T : Nat → Int} (hw : Works ts) (hr : InRange ts) (hno : ∀ j, j < ts.length → ¬ Reach ts j j) (hh : 1 ≤ h) (hd : Deep ts R T) (ho : EachO ts.length ord) :
    workTo ts ts.length ≤ (endsOf (listOut ts h ord) : Int) * h ∧ maxTo T ts.length ≤ endsOf (listOut ts h ord) ∧ (endsOf (listOut ts h ord) : Int) * h ≤ workTo ts ts.length + ((h : Int) - 1) * maxTo T ts.length := by
  obtain ⟨hL, hK⟩ := outAt_laid (h := h) ho.2.2 ho.all hr 601
  have hf := list_full hw hr hno hh ho
  exact ((hL.plays hr hK hf).sched hw hr |>.long hw hr hno hh hd ((hL.ends hf).over hw)).2
/-- With one hand more, by the same order, at most twice as long. -/
theorem list_anomaly {R T : Nat → Int} (hw : Works ts) (hr : InRange ts) (hno : ∀ j, j < ts.length → ¬ Reach ts j j) (hh : 1 ≤ h) (h6 : h ≤ 6) (hd : Deep ts R T) (ho : EachO ts.length ord) : endsOf (listOut ts (h + 1) ord) ≤ 2 * endsOf (listOut ts h ord) := by
  obtain ⟨hL, hK⟩ := outAt_laid (h := h) ho.2.2 ho.all hr 601
  obtain ⟨hL', hK'⟩ := outAt_laid (h := h + 1) ho.2.2 ho.all hr 601
  have hf := list_full hw hr hno hh ho
  have hf' := list_full (h := h + 1) hw hr hno (by omega) ho
  exact anomaly hw hr hno hh h6 hd (hL.plays hr hK hf) (hL.ends hf) (hL'.plays hr hK' hf') (hL'.ends hf')
end
end Go.Proofs.Ytkcpimbhfmhjgaa
