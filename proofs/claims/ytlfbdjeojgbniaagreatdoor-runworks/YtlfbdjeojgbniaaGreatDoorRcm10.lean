/- Plain: who is ready, by what is done. No word of the program. Plain: a gang, step by step, as the document's chapter 13 says. No word of the program. Plain: what a gang holds: each task that is ready and not finished, once, and no other one. No word of the program. -/
import Derived.Test.YtlfbdjeojgbniaaGreatDoorRcm05

namespace Go.Proofs.YtlfbdjeojgbniaaGreatDoor

theorem intsOf_append (l m : List Nat) : intsOf (l ++ m) = intsOf l ++ intsOf m := by simp [intsOf]
theorem rising_pairwise (zs : List Int) (h : rising zs = true) : zs.Pairwise (· < ·) := by
  induction zs with
  | nil => exact List.Pairwise.nil
  | cons a r ih =>
    cases r with
    | nil => simp
    | cons b r =>
      simp only [rising, Bool.and_eq_true, decide_eq_true_eq] at h
      have hp := ih h.2
      refine List.Pairwise.cons (fun x hx => ?_) hp
      rcases List.mem_cons.1 hx with rfl | hx
      · exact h.1
      · have := (List.pairwise_cons.1 hp).1 x hx; omega

/-- A plan that Check passes. -/
structure Good (ts : List (Int × List Int)) : Prop where
  le : ts.length ≤ 30
  rng : InRange ts
  nd : ∀ x, x < ts.length → (needsOf ts x).Nodup
  up : ∀ x, x < ts.length → (needsOf ts x).Pairwise (· < ·)
  no : ∀ j, j < ts.length → ¬ Reach ts j j
theorem errOf_rising {ts : List (Int × List Int)} {k : Nat} (h : errOf ts k = 0) : rising (needsOf ts k) = true := by
  unfold errOf taskErr at h
  split at h
  · simp at h
  · split at h
    · simp at h
    · split at h
      · assumption
      · simp at h
theorem CheckIs.good {ts : List (Int × List Int)} (h : CheckIs ts 0 0) : Good ts := by
  obtain ⟨_, h1, h2, h3⟩ := h.ok rfl
  exact ⟨h1, inRange_of h2, fun x hx => (rising_pairwise _ (errOf_rising (h2 x hx))).imp (fun h => by omega), fun x hx => rising_pairwise _ (errOf_rising (h2 x hx)), h3⟩

/-- How many of those that the k-th task needs are not done. -/
def missN (ts : List (Int × List Int)) (S : Nat → Bool) (k : Nat) : Nat := ((needsOf ts k).filter (fun y => !S y.toNat)).length
/-- Of the first m tasks those that need the k-th. -/
def aftTo (ts : List (Int × List Int)) (m k : Nat) : List Nat := (List.range m).filter (fun i => decide ((k : Int) ∈ needsOf ts i))
/-- A task is ready: not done, and all that it needs are. -/
def readyB (ts : List (Int × List Int)) (S : Nat → Bool) (k : Nat) : Bool := !S k && decide (missN ts S k = 0)
/-- Of the first m tasks those that are ready. -/
def readyTo (ts : List (Int × List Int)) (S : Nat → Bool) (m : Nat) : List Nat := (List.range m).filter (readyB ts S)
/-- Those that are ready by the i-th. -/
def newL (ts : List (Int × List Int)) (S : Nat → Bool) (i : Nat) : List Nat := (aftTo ts ts.length i).filter (fun k => decide (missN ts (mark S i) k = 0))
/-- How a task stands. -/
def stN (ts : List (Int × List Int)) (S : Nat → Bool) (k : Nat) : Nat := if S k then 2 else if missN ts S k = 0 then 1 else 0
/-- What is done needs only what is done. -/
def Down (ts : List (Int × List Int)) (S : Nat → Bool) : Prop := ∀ k, k < ts.length → S k = true → missN ts S k = 0

theorem missN_zero {ts : List (Int × List Int)} {S : Nat → Bool} {k : Nat} : missN ts S k = 0 ↔ ∀ y, y ∈ needsOf ts k → S y.toNat = true := by
  unfold missN
  rw [List.length_eq_zero_iff, List.filter_eq_nil_iff]
  constructor
  · intro h y hy; have := h y hy; simpa using this
  · intro h y hy; simp [h y hy]
theorem missN_none (ts : List (Int × List Int)) (k : Nat) : missN ts (fun _ => false) k = (needsOf ts k).length := by
  unfold missN
  congr 1
  exact List.filter_eq_self.2 (fun _ _ => rfl)
theorem missN_le (ts : List (Int × List Int)) (S : Nat → Bool) (k : Nat) : missN ts S k ≤ (needsOf ts k).length := List.length_filter_le _ _

theorem mark_self (S : Nat → Bool) (i : Nat) : mark S i i = true := by simp [mark]
theorem mark_ne {S : Nat → Bool} {i k : Nat} (h : k ≠ i) : mark S i k = S k := by simp [mark, h]
theorem mark_mono {S : Nat → Bool} {i k : Nat} (h : S k = true) : mark S i k = true := by unfold mark; split <;> simp [h]

theorem count_mark (S : Nat → Bool) (i : Nat) (hS : S i = false) (l : List Int) (hd : l.Nodup) (h0 : ∀ y, y ∈ l → 0 ≤ y) :
    (l.filter (fun y => !S y.toNat)).length = (l.filter (fun y => !mark S i y.toNat)).length + if (i : Int) ∈ l then 1 else 0 := by
  induction l with
  | nil => simp
  | cons y l ih =>
    have ih := ih (List.nodup_cons.1 hd).2 (fun z hz => h0 z (List.mem_cons_of_mem _ hz))
    have hy0 := h0 y (List.mem_cons_self ..)
    have hnd := (List.nodup_cons.1 hd).1
    by_cases e : y = (i : Int)
    · subst e
      rw [if_neg hnd] at ih
      simp only [List.filter_cons, Int.toNat_natCast, hS, mark_self, Bool.not_false, Bool.not_true, if_true, List.length_cons, List.mem_cons, true_or]
      simp [ih]
    · have hne : y.toNat ≠ i := by omega
      have hm : ((i : Int) ∈ y :: l) ↔ (i : Int) ∈ l := by simp [List.mem_cons]; intro h; exact absurd h.symm e
      simp only [List.filter_cons, mark_ne hne, hm]
      split <;> (try simp only [List.length_cons]) <;> omega

theorem missN_mark {ts : List (Int × List Int)} (hg : Good ts) {S : Nat → Bool} {i k : Nat} (hS : S i = false) (hk : k < ts.length) :
    missN ts S k = missN ts (mark S i) k + if (i : Int) ∈ needsOf ts k then 1 else 0 :=
  count_mark S i hS _ (hg.nd k hk) (fun y hy => (hg.rng k hk y hy).1)

theorem mem_aftTo {ts : List (Int × List Int)} {m i k : Nat} : k ∈ aftTo ts m i ↔ k < m ∧ (i : Int) ∈ needsOf ts k := by simp [aftTo]
theorem aftTo_nodup (ts : List (Int × List Int)) (m i : Nat) : (aftTo ts m i).Nodup := List.Pairwise.filter _ List.nodup_range
theorem aftTo_len (ts : List (Int × List Int)) (m i : Nat) : (aftTo ts m i).length ≤ m := by
  have := List.length_filter_le (fun j => decide ((i : Int) ∈ needsOf ts j)) (List.range m)
  simpa [aftTo] using this
theorem need_self {ts : List (Int × List Int)} (hg : Good ts) {i : Nat} (hi : i < ts.length) : ¬ (i : Int) ∈ needsOf ts i := fun h => hg.no i hi (Reach.one h)
theorem readyTo_succ (ts : List (Int × List Int)) (S : Nat → Bool) (m : Nat) : readyTo ts S (m + 1) = readyTo ts S m ++ if readyB ts S m then [m] else [] := by
  unfold readyTo
  rw [List.range_succ, List.filter_append]
  cases h : readyB ts S m <;> simp [h]
theorem mem_readyTo {ts : List (Int × List Int)} {S : Nat → Bool} {m k : Nat} : k ∈ readyTo ts S m ↔ k < m ∧ readyB ts S k = true := by simp [readyTo]
theorem readyTo_len (ts : List (Int × List Int)) (S : Nat → Bool) (m : Nat) : (readyTo ts S m).length ≤ m := by
  have := List.length_filter_le (readyB ts S) (List.range m)
  simpa [readyTo] using this
theorem readyTo_nodup (ts : List (Int × List Int)) (S : Nat → Bool) (m : Nat) : (readyTo ts S m).Nodup := List.Pairwise.filter _ List.nodup_range

/-- While the needs of the i-th are gone over: m of them are. -/
def aftIn (ts : List (Int × List Int)) (i m k : Nat) : List Nat := aftTo ts i k ++ if (k : Int) ∈ (needsOf ts i).take m then [i] else []
theorem aftIn_zero (ts : List (Int × List Int)) (i k : Nat) : aftIn ts i 0 k = aftTo ts i k := by simp [aftIn]
theorem aftIn_all (ts : List (Int × List Int)) (i k : Nat) : aftIn ts i (needsOf ts i).length k = aftTo ts (i + 1) k := by
  unfold aftIn aftTo
  rw [List.range_succ, List.filter_append, List.take_length]
  by_cases h : (k : Int) ∈ needsOf ts i <;> simp [h]
theorem aftIn_len (ts : List (Int × List Int)) (i m k : Nat) : (aftIn ts i m k).length ≤ i + 1 := by
  have := aftTo_len ts i k
  unfold aftIn
  split <;> simp <;> omega
theorem take_last {l : List Int} {m : Nat} (h : m < l.length) : l.take (m + 1) = l.take m ++ [l.getD m 0] := by
  rw [List.take_succ_eq_append_getElem h, List.getD_eq_getElem?_getD, List.getElem?_eq_getElem h]; rfl
theorem aftIn_hit {ts : List (Int × List Int)} (hg : Good ts) {i m y : Nat} (hi : i < ts.length) (hm : m < (needsOf ts i).length) (hy : (needsOf ts i).getD m 0 = (y : Int)) : aftIn ts i (m + 1) y = aftIn ts i m y ++ [i] := by
  have hnd := hg.nd i hi
  have hno : ¬ (y : Int) ∈ (needsOf ts i).take m := by
    rw [← List.take_append_drop (m + 1) (needsOf ts i), take_last hm, hy] at hnd
    have := (List.nodup_append.1 (List.nodup_append.1 hnd).1).2.2
    intro h
    exact this _ h _ (by simp) rfl
  unfold aftIn
  rw [take_last hm, hy]
  simp [hno]
theorem aftIn_miss {ts : List (Int × List Int)} {i m y k : Nat} (hm : m < (needsOf ts i).length) (hy : (needsOf ts i).getD m 0 = (y : Int)) (hk : k ≠ y) : aftIn ts i (m + 1) k = aftIn ts i m k := by
  unfold aftIn
  rw [take_last hm, hy]
  have : ¬ (k : Int) = (y : Int) := by omega
  simp [this]

theorem newL_eq {ts : List (Int × List Int)} (hg : Good ts) {S : Nat → Bool} (hd : Down ts S) {i : Nat} (hi : i < ts.length) (hS : S i = false) :
    newL ts S i = (List.range ts.length).filter (fun k => readyB ts (mark S i) k && !readyB ts S k) := by
  unfold newL aftTo
  rw [List.filter_filter]
  refine List.filter_congr fun k hk => ?_
  have hk := List.mem_range.1 hk
  have hm := missN_mark hg (S := S) (i := i) hS hk
  unfold readyB
  by_cases h : (i : Int) ∈ needsOf ts k
  · rw [if_pos h] at hm
    have hne : k ≠ i := fun e => need_self hg hi (e ▸ h)
    have hSk : S k = false := by
      cases hs : S k with
      | false => rfl
      | true => have := hd k hk hs; omega
    simp only [h, hm, mark_ne hne, hSk]
    simp
  · rw [if_neg h, Nat.add_zero] at hm
    by_cases e : k = i
    · subst e
      simp [h, mark_self]
    · rw [mark_ne e, ← hm]
      cases hs : S k <;> simp [h]

theorem ready_parts {ts : List (Int × List Int)} {S : Nat → Bool} {k : Nat} (h : readyB ts S k = true) : S k = false ∧ missN ts S k = 0 := by
  unfold readyB at h
  simpa using h
theorem Down.none (ts : List (Int × List Int)) : Down ts (fun _ => false) := fun k _ h => by simp at h
theorem Down.mark {ts : List (Int × List Int)} {S : Nat → Bool} (hd : Down ts S) {i : Nat} (hr : readyB ts S i = true) : Down ts (mark S i) := by
  intro k hk h
  have hz : missN ts S k = 0 := by
    by_cases e : k = i
    · rw [e]; exact (ready_parts hr).2
    · rw [mark_ne e] at h; exact hd k hk h
  exact missN_zero.2 fun y hy => mark_mono (missN_zero.1 hz y hy)

/-- A task was told to be ready: it is done, or it is. -/
def toldB (ts : List (Int × List Int)) (S : Nat → Bool) (k : Nat) : Bool := S k || readyB ts S k
theorem mem_newL {ts : List (Int × List Int)} (hg : Good ts) {S : Nat → Bool} (hd : Down ts S) {i : Nat} (hi : i < ts.length) (hS : S i = false) {k : Nat} : k ∈ newL ts S i ↔ k < ts.length ∧ readyB ts (mark S i) k = true ∧ readyB ts S k = false := by
  rw [newL_eq hg hd hi hS]
  simp
theorem newL_nodup (ts : List (Int × List Int)) (S : Nat → Bool) (i : Nat) : (newL ts S i).Nodup := List.Pairwise.filter _ (aftTo_nodup ts _ i)
theorem newL_len (ts : List (Int × List Int)) (S : Nat → Bool) (i : Nat) : (newL ts S i).length ≤ ts.length := Nat.le_trans (List.length_filter_le _ _) (aftTo_len ts _ i)
theorem told_new {ts : List (Int × List Int)} (hg : Good ts) {S : Nat → Bool} (hd : Down ts S) {i : Nat} (hi : i < ts.length) (hS : S i = false) {k : Nat} (hk : k ∈ newL ts S i) : k < ts.length ∧ toldB ts S k = false := by
  obtain ⟨h1, h2, h3⟩ := (mem_newL hg hd hi hS).1 hk
  refine ⟨h1, ?_⟩
  have hs := (ready_parts h2).1
  unfold toldB
  rw [h3, Bool.or_false]
  by_cases e : k = i
  · rw [e]; exact hS
  · rw [mark_ne e] at hs; exact hs
theorem told_step {ts : List (Int × List Int)} (hg : Good ts) {S : Nat → Bool} (hd : Down ts S) {i : Nat} (hi : i < ts.length) (hr : readyB ts S i = true) {k : Nat} (hk : k < ts.length) : toldB ts (mark S i) k = (toldB ts S k || (newL ts S i).contains k) := by
  have hS := (ready_parts hr).1
  have hc : (newL ts S i).contains k = (readyB ts (mark S i) k && !readyB ts S k) := by
    rw [Bool.eq_iff_iff, List.contains_iff_mem, mem_newL hg hd hi hS]
    simp [hk]
  rw [hc]
  unfold toldB
  by_cases e : k = i
  · subst e; simp [mark_self, hr]
  · rw [mark_ne e]
    cases hs : S k with
    | true => simp
    | false =>
      cases hb : readyB ts S k with
      | false => simp
      | true =>
        have hz := (ready_parts hb).2
        have : readyB ts (mark S i) k = true := by
          unfold readyB
          rw [mark_ne e, hs, missN_zero.2 fun y hy => mark_mono (missN_zero.1 hz y hy)]
          rfl
        simp [this]

theorem ready_some {ts : List (Int × List Int)} (hg : Good ts) {S : Nat → Bool} (h : unseen S ts.length ≠ 0) : readyTo ts S ts.length ≠ [] := by
  intro hn
  have hnone : ∀ k, k < ts.length → readyB ts S k = false := fun k hk => by
    cases hr : readyB ts S k with
    | false => rfl
    | true =>
      have : k ∈ readyTo ts S ts.length := mem_readyTo.2 ⟨hk, hr⟩
      rw [hn] at this; simp at this
  have := no_ring_empty ts hg.no (fun x => x < ts.length ∧ S x = false) (fun x ⟨hx, hs⟩ => by
    refine ⟨hx, ?_⟩
    have hr := hnone x hx
    unfold readyB at hr
    rw [hs] at hr
    simp only [Bool.not_false, Bool.true_and, decide_eq_false_iff_not] at hr
    rw [missN_zero] at hr
    simp only [Classical.not_forall] at hr
    obtain ⟨y, hy, hT⟩ := hr
    have hb := hg.rng x hx y hy
    refine ⟨y.toNat, by unfold Need; rw [Int.toNat_of_nonneg hb.1]; exact hy, by omega, by simpa using hT⟩)
  exact h (unseen_zero _ _ fun k hk => by
    cases hs : S k with
    | true => rfl
    | false => exact absurd ⟨hk, hs⟩ (this k))

theorem unseen_all (S : Nat → Bool) (n : Nat) (h : unseen S n = 0) : ∀ k, k < n → S k = true := by
  induction n with
  | zero => intro k hk; omega
  | succ n ih =>
    intro k hk
    unfold unseen at h
    by_cases e : k = n
    · subst e
      cases hs : S k with
      | true => rfl
      | false => rw [hs] at h; simp at h
    · exact ih (by omega) k (by omega)
theorem ready_end {ts : List (Int × List Int)} {S : Nat → Bool} (h : unseen S ts.length = 0) : readyTo ts S ts.length = [] := by
  unfold readyTo
  refine List.filter_eq_nil_iff.2 fun k hk => ?_
  unfold readyB
  rw [unseen_all S _ h k (List.mem_range.1 hk)]
  simp
theorem unseen_none (n : Nat) : unseen (fun _ => false) n = n := by
  induction n with
  | zero => rfl
  | succ n ih => unfold unseen; rw [ih]; rfl

/-- Along a chain, when so many are done. -/
def firstB (i : Nat) : Nat → Bool := fun k => decide (k < i)
theorem firstB_zero : firstB 0 = fun _ => false := by funext k; simp [firstB]
theorem firstB_mark (i : Nat) : mark (firstB i) i = firstB (i + 1) := by
  funext k
  unfold mark firstB
  by_cases e : k = i
  · simp [e]
  · rw [if_neg e]; congr 1; simp; omega
theorem range_one (n a : Nat) : (List.range n).filter (fun j => decide (j = a)) = if a < n then [a] else [] := by
  induction n with
  | zero => simp
  | succ n ih =>
    rw [List.range_succ, List.filter_append, ih]
    by_cases e : n = a
    · subst e; simp
    · by_cases h : a < n
      · rw [if_pos h, if_pos (by omega)]; simp [e]
      · rw [if_neg h, if_neg (by omega)]; simp [e]
theorem chain_needs (n x : Nat) (hx : x < n) : needsOf (chainTs 1 n) x = if x = 0 then [] else [(x : Int) - 1] := by
  unfold needsOf
  rw [chainTs_getD _ _ _ hx]
theorem chain_miss (n i k : Nat) (hk : k < n) (h : k ≤ i) : missN (chainTs 1 n) (firstB i) k = 0 := by
  refine missN_zero.2 fun y hy => ?_
  rw [chain_needs n k hk] at hy
  by_cases e : k = 0
  · simp [e] at hy
  · simp [e] at hy
    subst hy
    simp [firstB]; omega
theorem chain_ready (n i : Nat) (hi : i < n) : readyB (chainTs 1 n) (firstB i) i = true := by
  unfold readyB
  rw [chain_miss n i i hi (Nat.le_refl _)]
  simp [firstB]
theorem chain_newL (n i : Nat) : newL (chainTs 1 n) (firstB i) i = if i + 1 < n then [i + 1] else [] := by
  rw [← range_one n (i + 1)]
  unfold newL aftTo
  rw [List.filter_filter, chainTs_length]
  refine List.filter_congr fun k hk => ?_
  have hk := List.mem_range.1 hk
  rw [firstB_mark, chain_needs n k hk]
  by_cases e : k = i + 1
  · subst e
    rw [chain_miss n (i + 1) (i + 1) hk (Nat.le_refl _)]
    simp
  · by_cases e0 : k = 0
    · simp [e0]
    · have : ¬ (i : Int) = (k : Int) - 1 := by omega
      simp [e, e0, this]
theorem chain_unseen (n i : Nat) (h : i ≤ n) : unseen (firstB i) n = n - i := by
  induction i with
  | zero => rw [firstB_zero, unseen_none]; rfl
  | succ i ih =>
    have h1 := ih (by omega)
    have h2 := unseen_mark (firstB i) n i (by omega) (by simp [firstB])
    rw [firstB_mark] at h2
    omega
end Go.Proofs.YtlfbdjeojgbniaaGreatDoor

namespace Go.Proofs.YtlfbdjeojgbniaaGreatDoor

/-- What goes out of a hand when one more is put (nr is near, -1: none; xs the ring), and the ring behind it. -/
def putO (room : Nat) (nr : Int) (xs : List Int) : List Int := if nr = -1 ∨ xs.length < room then [] else xs.take ((xs.length + 1) / 2)
def putR (room : Nat) (nr : Int) (xs : List Int) : List Int := if nr = -1 then xs else if xs.length < room then xs ++ [nr] else xs.drop ((xs.length + 1) / 2) ++ [nr]
/-- All that a hand has beside its task. -/
def allH (nr : Int) (xs : List Int) : List Int := if nr = -1 then xs else xs ++ [nr]

def updG {α : Type} (f : Nat → α) (h : Nat) (x : α) : Nat → α := fun k => if k = h then x else f k
theorem updG_self {α : Type} (f : Nat → α) (h : Nat) (x : α) : updG f h x h = x := by simp [updG]
theorem updG_ne {α : Type} (f : Nat → α) {h k : Nat} (x : α) (e : k ≠ h) : updG f h x k = f k := by simp [updG, e]

/-- A gang: what is done; of each hand its task (-1: none) and how many units of it are left, what is near, its ring; the spill; those that sleep, in order. -/
structure Gs where
  S : Nat → Bool
  task : Nat → Int
  work : Nat → Int
  near : Nat → Int
  ring : Nat → List Int
  sp : List Int
  zz : List Int
/-- What, hand, task, other. -/
abbrev Deed := Int × Int × Int × Int
def wokeD (a : Int) : Deed := (6, a, 0, 0)

/-- A hand and the spill. -/
abbrev Hs := Int × List Int × List Int
def putOne (room : Nat) (s : Hs) (n : Int) : Hs := (n, putR room s.1 s.2.1, s.2.2 ++ putO room s.1 s.2.1)
def putAll (room : Nat) (s : Hs) (l : List Int) : Hs := l.foldl (putOne room) s

def workOf (ts : List (Int × List Int)) (x : Nat) : Int := (ts.getD x (0, [])).1

/-- A hand has a task. -/
def takes (ts : List (Int × List Int)) (g : Gs) (h : Nat) (i : Int) : Gs := { g with task := updG g.task h i, work := updG g.work h (workOf ts i.toNat) }
/-- Its last unit is done. -/
def ends (ts : List (Int × List Int)) (room : Nat) (g : Gs) (h : Nat) : Gs :=
  let l := newL ts g.S (g.task h).toNat
  let r := putAll room (g.near h, g.ring h, g.sp) (intsOf l)
  { S := mark g.S (g.task h).toNat, task := updG g.task h (-1), work := updG g.work h (g.work h - 1), near := updG g.near h r.1, ring := updG g.ring h r.2.1, sp := r.2.2, zz := g.zz.drop l.length }
def endsD (ts : List (Int × List Int)) (g : Gs) (h : Nat) : List Deed :=
  (4, (h : Int), g.task h, 0) :: (g.zz.take (newL ts g.S (g.task h).toNat).length).map (fun a => (6, a, 0, 0))
/-- It robs another one. -/
def robs (ts : List (Int × List Int)) (room : Nat) (g : Gs) (h o : Nat) : Gs :=
  let l := (g.ring o).take (((g.ring o).length + 1) / 2)
  let g1 : Gs := { g with ring := updG g.ring o ((g.ring o).drop (((g.ring o).length + 1) / 2)) }
  let r := putAll room (g1.near h, g1.ring h, []) l.tail
  takes ts { g1 with near := updG g1.near h r.1, ring := updG g1.ring h r.2.1 } h (l.headD 0)

/-- A step of a hand: what the gang is behind it. -/
def gstep (ts : List (Int × List Int)) (room hands : Nat) (g : Gs) (h pick : Nat) : Gs :=
  if (h : Int) ∈ g.zz then g
  else if 0 ≤ g.task h then
    if 1 < g.work h then { g with work := updG g.work h (g.work h - 1) } else ends ts room g h
  else if g.near h ≠ -1 then takes ts { g with near := updG g.near h (-1) } h (g.near h)
  else if g.ring h ≠ [] then takes ts { g with ring := updG g.ring h (g.ring h).dropLast } h ((g.ring h).getLastD 0)
  else if g.sp ≠ [] then takes ts { g with sp := g.sp.tail } h (g.sp.headD 0)
  else if pick % hands = h ∨ g.ring (pick % hands) = [] then { g with zz := g.zz ++ [(h : Int)] }
  else robs ts room g h (pick % hands)
/-- What it tells. -/
def gdeeds (ts : List (Int × List Int)) (hands : Nat) (g : Gs) (h pick : Nat) : List Deed :=
  if (h : Int) ∈ g.zz then []
  else if 0 ≤ g.task h then
    if 1 < g.work h then [] else endsD ts g h
  else if g.near h ≠ -1 then [(1, (h : Int), g.near h, 0)]
  else if g.ring h ≠ [] then [(1, (h : Int), (g.ring h).getLastD 0, 0)]
  else if g.sp ≠ [] then [(3, (h : Int), g.sp.headD 0, 0)]
  else if pick % hands = h ∨ g.ring (pick % hands) = [] then [(5, (h : Int), 0, 0)]
  else [(2, (h : Int), ((g.ring (pick % hands)).take (((g.ring (pick % hands)).length + 1) / 2)).headD 0, ((pick % hands : Nat) : Int))]

/-- At first. -/
def gnew (ts : List (Int × List Int)) : Gs := { S := fun _ => false, task := fun _ => -1, work := fun _ => 0, near := fun _ => -1, ring := fun _ => [], sp := intsOf (readyTo ts (fun _ => false) ts.length), zz := [] }

/-- A task that one has, as a list. -/
def oneT (t : Int) : List Int := if 0 ≤ t then [t] else []
/-- All that a hand has. -/
def ofH (g : Gs) (h : Nat) : List Int := oneT (g.task h) ++ allH (g.near h) (g.ring h)
/-- All that the first so many hands have. -/
def ofAll (g : Gs) : Nat → List Int
  | 0 => []
  | n + 1 => ofAll g n ++ ofH g n
/-- All that is held. -/
def heldL (g : Gs) (hands : Nat) : List Int := ofAll g hands ++ g.sp

theorem ofAll_congr {g g' : Gs} {n : Nat} (h : ∀ k, k < n → ofH g' k = ofH g k) : ofAll g' n = ofAll g n := by
  induction n with
  | zero => rfl
  | succ n ih => rw [ofAll, ofAll, ih (fun k hk => h k (by omega)), h n (by omega)]
/-- Where one hand alone differs. -/
theorem ofAll_one {g g' : Gs} {n h : Nat} (hh : h < n) (he : ∀ k, k ≠ h → ofH g' k = ofH g k) (l m : List Int) (hp : (l ++ ofH g' h).Perm (m ++ ofH g h)) : (l ++ ofAll g' n).Perm (m ++ ofAll g n) := by
  induction n with
  | zero => omega
  | succ n ih =>
    rw [ofAll, ofAll]
    by_cases e : n = h
    · subst e
      rw [ofAll_congr (fun k hk => he k (by omega))]
      refine (List.perm_append_comm_assoc _ _ _).trans ?_
      refine List.Perm.trans ?_ (List.perm_append_comm_assoc _ _ _)
      exact List.Perm.append_left _ hp
    · rw [he n e, ← List.append_assoc, ← List.append_assoc]
      exact (ih (by omega)).append_right _
end Go.Proofs.YtlfbdjeojgbniaaGreatDoor

namespace Go.Proofs.YtlfbdjeojgbniaaGreatDoor

theorem allH_none (xs : List Int) : allH (-1) xs = xs := by simp [allH]
theorem allH_some {n : Int} (h : n ≠ -1) (xs : List Int) : allH n xs = xs ++ [n] := by simp [allH, h]
theorem oneT_none : oneT (-1) = [] := by simp [oneT]
theorem oneT_some {t : Int} (h : 0 ≤ t) : oneT t = [t] := by simp [oneT, h]

theorem put_perm (room : Nat) (nr : Int) (xs : List Int) {n : Int} (hn : n ≠ -1) : (putO room nr xs ++ allH n (putR room nr xs)).Perm (allH nr xs ++ [n]) := by
  rw [allH_some hn]
  unfold putO putR
  by_cases h : nr = -1
  · subst h
    simp [allH_none]
  · rw [allH_some h]
    by_cases hl : xs.length < room
    · simp [h, hl]
    · simp only [h, hl, or_self, if_false]
      rw [← List.append_assoc, ← List.append_assoc, List.take_append_drop]
theorem put_len {room : Nat} (hr : 1 ≤ room) (nr : Int) {xs : List Int} (h : xs.length ≤ room) : (putR room nr xs).length ≤ room := by
  unfold putR
  split
  · exact h
  · split
    · simp; omega
    · simp; omega
theorem putAll_cons (room : Nat) (s : Hs) (n : Int) (l : List Int) : putAll room s (n :: l) = putAll room (putOne room s n) l := rfl
theorem putAll_perm (room : Nat) (l : List Int) : ∀ (s : Hs), (∀ n, n ∈ l → n ≠ -1) → ((putAll room s l).2.2 ++ allH (putAll room s l).1 (putAll room s l).2.1).Perm ((s.2.2 ++ allH s.1 s.2.1) ++ l) := by
  induction l with
  | nil => intro s _; simp [putAll]
  | cons n l ih =>
    intro s h
    rw [putAll_cons]
    refine (ih (putOne room s n) (fun m hm => h m (List.mem_cons_of_mem _ hm))).trans ?_
    have hp := put_perm room s.1 s.2.1 (h n (List.mem_cons_self ..))
    show ((s.2.2 ++ putO room s.1 s.2.1) ++ allH n (putR room s.1 s.2.1) ++ l).Perm _
    rw [List.append_assoc s.2.2]
    have : (s.2.2 ++ (putO room s.1 s.2.1 ++ allH n (putR room s.1 s.2.1)) ++ l).Perm (s.2.2 ++ (allH s.1 s.2.1 ++ [n]) ++ l) := (hp.append_left _).append_right _
    refine this.trans ?_
    simp
theorem putAll_len {room : Nat} (hr : 1 ≤ room) (l : List Int) : ∀ (s : Hs), s.2.1.length ≤ room → (putAll room s l).2.1.length ≤ room := by
  induction l with
  | nil => intro s h; exact h
  | cons n l ih => intro s h; rw [putAll_cons]; exact ih _ (put_len hr _ h)
/-- Where there is room nothing goes out. -/
theorem putAll_none (room : Nat) (l : List Int) : ∀ (s : Hs), s.2.1.length + l.length ≤ room → (putAll room s l).2.2 = s.2.2 := by
  induction l with
  | nil => intro s _; rfl
  | cons n l ih =>
    intro s h
    simp only [List.length_cons] at h
    have hl : s.2.1.length < room := by omega
    rw [putAll_cons, ih]
    · show s.2.2 ++ putO room s.1 s.2.1 = s.2.2
      simp [putO, hl]
    · have : (putR room s.1 s.2.1).length ≤ s.2.1.length + 1 := by
        unfold putR
        split
        · omega
        · simp
      show (putR room s.1 s.2.1).length + l.length ≤ room
      omega
theorem putAll_near (room : Nat) (l : List Int) : ∀ (s : Hs), (putAll room s l).1 = l.getLastD s.1 := by
  induction l with
  | nil => intro s; rfl
  | cons n l ih =>
    intro s
    rw [putAll_cons, ih]
    cases l with
    | nil => rfl
    | cons m l => rfl

/-- What stays so, whatever step is done. -/
structure Inv (ts : List (Int × List Int)) (room hands : Nat) (g : Gs) : Prop where
  held : (heldL g hands).Perm (intsOf (readyTo ts g.S ts.length))
  down : Down ts g.S
  zr : ∀ x, x ∈ g.zz → ∃ h, h < hands ∧ x = ((h : Nat) : Int) ∧ g.task h = -1 ∧ g.near h = -1 ∧ g.ring h = []
  znd : g.zz.Nodup
  awake : g.sp ≠ [] → ∃ h, h < hands ∧ ((h : Nat) : Int) ∉ g.zz
  ringLe : ∀ h, h < hands → (g.ring h).length ≤ room
  workOk : ∀ h, h < hands → 0 ≤ g.task h → 1 ≤ g.work h ∧ g.work h ≤ workOf ts (g.task h).toNat
  taskM : ∀ h, h < hands → -1 ≤ g.task h

theorem mem_ofAll {g : Gs} {n : Nat} {x : Int} : x ∈ ofAll g n ↔ ∃ h, h < n ∧ x ∈ ofH g h := by
  induction n with
  | zero => simp [ofAll]
  | succ n ih =>
    rw [ofAll, List.mem_append, ih]
    constructor
    · rintro (⟨h, hh, hx⟩ | hx)
      · exact ⟨h, by omega, hx⟩
      · exact ⟨n, by omega, hx⟩
    · rintro ⟨h, hh, hx⟩
      by_cases e : h = n
      · subst e; exact Or.inr hx
      · exact Or.inl ⟨h, by omega, hx⟩
variable {ts : List (Int × List Int)} {room hands : Nat} {g : Gs}
/-- Whatever is held is a task that is ready. -/
theorem Inv.rdy (hI : Inv ts room hands g) {x : Int} (hx : x ∈ heldL g hands) : ∃ k, x = ((k : Nat) : Int) ∧ k < ts.length ∧ readyB ts g.S k = true := by
  have := (hI.held.mem_iff).1 hx
  obtain ⟨k, hk, rfl⟩ := List.mem_map.1 this
  obtain ⟨h1, h2⟩ := mem_readyTo.1 hk
  exact ⟨k, rfl, h1, h2⟩
theorem held_task {h : Nat} (hh : h < hands) (ht : 0 ≤ g.task h) : g.task h ∈ heldL g hands := by
  refine List.mem_append.2 (Or.inl (mem_ofAll.2 ⟨h, hh, ?_⟩))
  simp [ofH, oneT_some ht]
theorem held_near {h : Nat} (hh : h < hands) (ht : g.near h ≠ -1) : g.near h ∈ heldL g hands := by
  refine List.mem_append.2 (Or.inl (mem_ofAll.2 ⟨h, hh, ?_⟩))
  simp [ofH, allH_some ht]
theorem held_ring {h : Nat} (hh : h < hands) {x : Int} (hx : x ∈ g.ring h) : x ∈ heldL g hands := by
  refine List.mem_append.2 (Or.inl (mem_ofAll.2 ⟨h, hh, ?_⟩))
  unfold ofH allH
  split <;> simp [hx]
theorem held_sp {x : Int} (hx : x ∈ g.sp) : x ∈ heldL g hands := List.mem_append.2 (Or.inr hx)
theorem Inv.held_le (hI : Inv ts room hands g) : (heldL g hands).length ≤ ts.length := by
  rw [hI.held.length_eq, intsOf_length]
  exact readyTo_len ts g.S ts.length
theorem Inv.sp_le (hI : Inv ts room hands g) : g.sp.length ≤ ts.length := by
  have := hI.held_le
  unfold heldL at this
  simp at this
  omega

theorem Inv.new (hh : 1 ≤ hands) : Inv ts room hands (gnew ts) := by
  have h0 : ∀ n, ofAll (gnew ts) n = [] := by
    intro n
    induction n with
    | zero => rfl
    | succ n ih => rw [ofAll, ih]; simp [ofH, gnew, oneT, allH]
  refine ⟨?_, Down.none ts, fun x hx => by simp [gnew] at hx, by simp [gnew], fun _ => ⟨0, by omega, by simp [gnew]⟩, fun h _ => by simp [gnew], fun h _ ht => by simp [gnew] at ht, fun h _ => by simp [gnew]⟩
  unfold heldL
  rw [h0]
  exact List.Perm.refl _
end Go.Proofs.YtlfbdjeojgbniaaGreatDoor
