/- Plain: who is ready, by what is done. No word of the program. Numbers in rows of their own; append of rows. A join in memory; the contracts of stateOf, State, Left. -/
import Derived.Test.YtandhiiaflhenaaGreatDoorOrdr
import Derived.Test.YtandhiiaflhenaaGreatDoorPln
import Derived.WalkKit
import Derived.WalkSpells
import Derived.Deep.LoopGhost
import Derived.Deep.Light
import Derived.Deep.OwnRows
import Derived.Shelf.Abstract
import Derived.OrdersHeld
import Derived.Deep.RegionLaw
import Derived.BigQuiet
import Derived.Deep.Draws
import Derived.Maps.AppendAt
import Derived.Laws.CopyOwn
import Derived.Maps.OwnSet

namespace Go.Proofs.YtandhiiaflhenaaGreatDoor

theorem intsOf_append (l m : List Nat) : intsOf (l ++ m) = intsOf l ++ intsOf m := by simp [intsOf]
theorem rising_pairwise (zs : List Int) (h : rising zs = true) : zs.Pairwise (· < ·) := by
  induction zs with
  | nil => exact List.Pairwise.nil
  | cons a r ih =>
    cases r with
    | nil => simp
    | cons b r =>
      simp only [rising, Bool.and_eq_true, decide_eq_true_eq] at h
      have hp := ih h.2
      refine List.Pairwise.cons (fun x hx => ?_) hp
      rcases List.mem_cons.1 hx with rfl | hx
      · exact h.1
      · have := (List.pairwise_cons.1 hp).1 x hx; omega

/-- A plan that Check passes. -/
structure Good (ts : List (Int × List Int)) : Prop where
  le : ts.length ≤ 30
  rng : InRange ts
  nd : ∀ x, x < ts.length → (needsOf ts x).Nodup
  up : ∀ x, x < ts.length → (needsOf ts x).Pairwise (· < ·)
  no : ∀ j, j < ts.length → ¬ Reach ts j j
theorem errOf_rising {ts : List (Int × List Int)} {k : Nat} (h : errOf ts k = 0) : rising (needsOf ts k) = true := by
  unfold errOf taskErr at h
  split at h
  · simp at h
  · split at h
    · simp at h
    · split at h
      · assumption
      · simp at h
theorem CheckIs.good {ts : List (Int × List Int)} (h : CheckIs ts 0 0) : Good ts := by
  obtain ⟨_, h1, h2, h3⟩ := h.ok rfl
  exact ⟨h1, inRange_of h2, fun x hx => (rising_pairwise _ (errOf_rising (h2 x hx))).imp (fun h => by omega), fun x hx => rising_pairwise _ (errOf_rising (h2 x hx)), h3⟩

/-- How many of those that the k-th task needs are not done. -/
def missN (ts : List (Int × List Int)) (S : Nat → Bool) (k : Nat) : Nat := ((needsOf ts k).filter (fun y => !S y.toNat)).length
/-- Of the first m tasks those that need the k-th. -/
def aftTo (ts : List (Int × List Int)) (m k : Nat) : List Nat := (List.range m).filter (fun i => decide ((k : Int) ∈ needsOf ts i))
/-- A task is ready: not done, and all that it needs are. -/
def readyB (ts : List (Int × List Int)) (S : Nat → Bool) (k : Nat) : Bool := !S k && decide (missN ts S k = 0)
/-- Of the first m tasks those that are ready. -/
def readyTo (ts : List (Int × List Int)) (S : Nat → Bool) (m : Nat) : List Nat := (List.range m).filter (readyB ts S)
/-- Those that are ready by the i-th. -/
def newL (ts : List (Int × List Int)) (S : Nat → Bool) (i : Nat) : List Nat := (aftTo ts ts.length i).filter (fun k => decide (missN ts (mark S i) k = 0))
/-- How a task stands. -/
def stN (ts : List (Int × List Int)) (S : Nat → Bool) (k : Nat) : Nat := if S k then 2 else if missN ts S k = 0 then 1 else 0
/-- What is done needs only what is done. -/
def Down (ts : List (Int × List Int)) (S : Nat → Bool) : Prop := ∀ k, k < ts.length → S k = true → missN ts S k = 0

theorem missN_zero {ts : List (Int × List Int)} {S : Nat → Bool} {k : Nat} : missN ts S k = 0 ↔ ∀ y, y ∈ needsOf ts k → S y.toNat = true := by
  unfold missN
  rw [List.length_eq_zero_iff, List.filter_eq_nil_iff]
  constructor
  · intro h y hy; have := h y hy; simpa using this
  · intro h y hy; simp [h y hy]
theorem missN_none (ts : List (Int × List Int)) (k : Nat) : missN ts (fun _ => false) k = (needsOf ts k).length := by
  unfold missN
  congr 1
  exact List.filter_eq_self.2 (fun _ _ => rfl)
theorem missN_le (ts : List (Int × List Int)) (S : Nat → Bool) (k : Nat) : missN ts S k ≤ (needsOf ts k).length := List.length_filter_le _ _

theorem mark_self (S : Nat → Bool) (i : Nat) : mark S i i = true := by simp [mark]
theorem mark_ne {S : Nat → Bool} {i k : Nat} (h : k ≠ i) : mark S i k = S k := by simp [mark, h]
theorem mark_mono {S : Nat → Bool} {i k : Nat} (h : S k = true) : mark S i k = true := by unfold mark; split <;> simp [h]

theorem count_mark (S : Nat → Bool) (i : Nat) (hS : S i = false) (l : List Int) (hd : l.Nodup) (h0 : ∀ y, y ∈ l → 0 ≤ y) :
    (l.filter (fun y => !S y.toNat)).length = (l.filter (fun y => !mark S i y.toNat)).length + if (i : Int) ∈ l then 1 else 0 := by
  induction l with
  | nil => simp
  | cons y l ih =>
    have ih := ih (List.nodup_cons.1 hd).2 (fun z hz => h0 z (List.mem_cons_of_mem _ hz))
    have hy0 := h0 y (List.mem_cons_self ..)
    have hnd := (List.nodup_cons.1 hd).1
    by_cases e : y = (i : Int)
    · subst e
      rw [if_neg hnd] at ih
      simp only [List.filter_cons, Int.toNat_natCast, hS, mark_self, Bool.not_false, Bool.not_true, if_true, List.length_cons, List.mem_cons, true_or]
      simp [ih]
    · have hne : y.toNat ≠ i := by omega
      have hm : ((i : Int) ∈ y :: l) ↔ (i : Int) ∈ l := by simp [List.mem_cons]; intro h; exact absurd h.symm e
      simp only [List.filter_cons, mark_ne hne, hm]
      split <;> (try simp only [List.length_cons]) <;> omega

theorem missN_mark {ts : List (Int × List Int)} (hg : Good ts) {S : Nat → Bool} {i k : Nat} (hS : S i = false) (hk : k < ts.length) :
    missN ts S k = missN ts (mark S i) k + if (i : Int) ∈ needsOf ts k then 1 else 0 :=
  count_mark S i hS _ (hg.nd k hk) (fun y hy => (hg.rng k hk y hy).1)

theorem mem_aftTo {ts : List (Int × List Int)} {m i k : Nat} : k ∈ aftTo ts m i ↔ k < m ∧ (i : Int) ∈ needsOf ts k := by simp [aftTo]
theorem aftTo_nodup (ts : List (Int × List Int)) (m i : Nat) : (aftTo ts m i).Nodup := List.Pairwise.filter _ List.nodup_range
theorem aftTo_len (ts : List (Int × List Int)) (m i : Nat) : (aftTo ts m i).length ≤ m := by
  have := List.length_filter_le (fun j => decide ((i : Int) ∈ needsOf ts j)) (List.range m)
  simpa [aftTo] using this
theorem need_self {ts : List (Int × List Int)} (hg : Good ts) {i : Nat} (hi : i < ts.length) : ¬ (i : Int) ∈ needsOf ts i := fun h => hg.no i hi (Reach.one h)
theorem readyTo_succ (ts : List (Int × List Int)) (S : Nat → Bool) (m : Nat) : readyTo ts S (m + 1) = readyTo ts S m ++ if readyB ts S m then [m] else [] := by
  unfold readyTo
  rw [List.range_succ, List.filter_append]
  cases h : readyB ts S m <;> simp [h]
theorem mem_readyTo {ts : List (Int × List Int)} {S : Nat → Bool} {m k : Nat} : k ∈ readyTo ts S m ↔ k < m ∧ readyB ts S k = true := by simp [readyTo]
theorem readyTo_len (ts : List (Int × List Int)) (S : Nat → Bool) (m : Nat) : (readyTo ts S m).length ≤ m := by
  have := List.length_filter_le (readyB ts S) (List.range m)
  simpa [readyTo] using this
theorem readyTo_nodup (ts : List (Int × List Int)) (S : Nat → Bool) (m : Nat) : (readyTo ts S m).Nodup := List.Pairwise.filter _ List.nodup_range

/-- While the needs of the i-th are gone over: m of them are. -/
def aftIn (ts : List (Int × List Int)) (i m k : Nat) : List Nat := aftTo ts i k ++ if (k : Int) ∈ (needsOf ts i).take m then [i] else []
theorem aftIn_zero (ts : List (Int × List Int)) (i k : Nat) : aftIn ts i 0 k = aftTo ts i k := by simp [aftIn]
theorem aftIn_all (ts : List (Int × List Int)) (i k : Nat) : aftIn ts i (needsOf ts i).length k = aftTo ts (i + 1) k := by
  unfold aftIn aftTo
  rw [List.range_succ, List.filter_append, List.take_length]
  by_cases h : (k : Int) ∈ needsOf ts i <;> simp [h]
theorem aftIn_len (ts : List (Int × List Int)) (i m k : Nat) : (aftIn ts i m k).length ≤ i + 1 := by
  have := aftTo_len ts i k
  unfold aftIn
  split <;> simp <;> omega
theorem take_last {l : List Int} {m : Nat} (h : m < l.length) : l.take (m + 1) = l.take m ++ [l.getD m 0] := by
  rw [List.take_succ_eq_append_getElem h, List.getD_eq_getElem?_getD, List.getElem?_eq_getElem h]; rfl
theorem aftIn_hit {ts : List (Int × List Int)} (hg : Good ts) {i m y : Nat} (hi : i < ts.length) (hm : m < (needsOf ts i).length) (hy : (needsOf ts i).getD m 0 = (y : Int)) : aftIn ts i (m + 1) y = aftIn ts i m y ++ [i] := by
  have hnd := hg.nd i hi
  have hno : ¬ (y : Int) ∈ (needsOf ts i).take m := by
    rw [← List.take_append_drop (m + 1) (needsOf ts i), take_last hm, hy] at hnd
    have := (List.nodup_append.1 (List.nodup_append.1 hnd).1).2.2
    intro h
    exact this _ h _ (by simp) rfl
  unfold aftIn
  rw [take_last hm, hy]
  simp [hno]
theorem aftIn_miss {ts : List (Int × List Int)} {i m y k : Nat} (hm : m < (needsOf ts i).length) (hy : (needsOf ts i).getD m 0 = (y : Int)) (hk : k ≠ y) : aftIn ts i (m + 1) k = aftIn ts i m k := by
  unfold aftIn
  rw [take_last hm, hy]
  have : ¬ (k : Int) = (y : Int) := by omega
  simp [this]

theorem newL_eq {ts : List (Int × List Int)} (hg : Good ts) {S : Nat → Bool} (hd : Down ts S) {i : Nat} (hi : i < ts.length) (hS : S i = false) :
    newL ts S i = (List.range ts.length).filter (fun k => readyB ts (mark S i) k && !readyB ts S k) := by
  unfold newL aftTo
  rw [List.filter_filter]
  refine List.filter_congr fun k hk => ?_
  have hk := List.mem_range.1 hk
  have hm := missN_mark hg (S := S) (i := i) hS hk
  unfold readyB
  by_cases h : (i : Int) ∈ needsOf ts k
  · rw [if_pos h] at hm
    have hne : k ≠ i := fun e => need_self hg hi (e ▸ h)
    have hSk : S k = false := by
      cases hs : S k with
      | false => rfl
      | true => have := hd k hk hs; omega
    simp only [h, hm, mark_ne hne, hSk]
    simp
  · rw [if_neg h, Nat.add_zero] at hm
    by_cases e : k = i
    · subst e
      simp [h, mark_self]
    · rw [mark_ne e, ← hm]
      cases hs : S k <;> simp [h]

theorem ready_parts {ts : List (Int × List Int)} {S : Nat → Bool} {k : Nat} (h : readyB ts S k = true) : S k = false ∧ missN ts S k = 0 := by
  unfold readyB at h
  simpa using h
theorem Down.none (ts : List (Int × List Int)) : Down ts (fun _ => false) := fun k _ h => by simp at h
theorem Down.mark {ts : List (Int × List Int)} {S : Nat → Bool} (hd : Down ts S) {i : Nat} (hr : readyB ts S i = true) : Down ts (mark S i) := by
  intro k hk h
  have hz : missN ts S k = 0 := by
    by_cases e : k = i
    · rw [e]; exact (ready_parts hr).2
    · rw [mark_ne e] at h; exact hd k hk h
  exact missN_zero.2 fun y hy => mark_mono (missN_zero.1 hz y hy)

/-- A task was told to be ready: it is done, or it is. -/
def toldB (ts : List (Int × List Int)) (S : Nat → Bool) (k : Nat) : Bool := S k || readyB ts S k
theorem mem_newL {ts : List (Int × List Int)} (hg : Good ts) {S : Nat → Bool} (hd : Down ts S) {i : Nat} (hi : i < ts.length) (hS : S i = false) {k : Nat} : k ∈ newL ts S i ↔ k < ts.length ∧ readyB ts (mark S i) k = true ∧ readyB ts S k = false := by
  rw [newL_eq hg hd hi hS]
  simp
theorem newL_nodup (ts : List (Int × List Int)) (S : Nat → Bool) (i : Nat) : (newL ts S i).Nodup := List.Pairwise.filter _ (aftTo_nodup ts _ i)
theorem newL_len (ts : List (Int × List Int)) (S : Nat → Bool) (i : Nat) : (newL ts S i).length ≤ ts.length := Nat.le_trans (List.length_filter_le _ _) (aftTo_len ts _ i)
theorem told_new {ts : List (Int × List Int)} (hg : Good ts) {S : Nat → Bool} (hd : Down ts S) {i : Nat} (hi : i < ts.length) (hS : S i = false) {k : Nat} (hk : k ∈ newL ts S i) : k < ts.length ∧ toldB ts S k = false := by
  obtain ⟨h1, h2, h3⟩ := (mem_newL hg hd hi hS).1 hk
  refine ⟨h1, ?_⟩
  have hs := (ready_parts h2).1
  unfold toldB
  rw [h3, Bool.or_false]
  by_cases e : k = i
  · rw [e]; exact hS
  · rw [mark_ne e] at hs; exact hs
theorem told_step {ts : List (Int × List Int)} (hg : Good ts) {S : Nat → Bool} (hd : Down ts S) {i : Nat} (hi : i < ts.length) (hr : readyB ts S i = true) {k : Nat} (hk : k < ts.length) : toldB ts (mark S i) k = (toldB ts S k || (newL ts S i).contains k) := by
  have hS := (ready_parts hr).1
  have hc : (newL ts S i).contains k = (readyB ts (mark S i) k && !readyB ts S k) := by
    rw [Bool.eq_iff_iff, List.contains_iff_mem, mem_newL hg hd hi hS]
    simp [hk]
  rw [hc]
  unfold toldB
  by_cases e : k = i
  · subst e; simp [mark_self, hr]
  · rw [mark_ne e]
    cases hs : S k with
    | true => simp
    | false =>
      cases hb : readyB ts S k with
      | false => simp
      | true =>
        have hz := (ready_parts hb).2
        have : readyB ts (mark S i) k = true := by
          unfold readyB
          rw [mark_ne e, hs, missN_zero.2 fun y hy => mark_mono (missN_zero.1 hz y hy)]
          rfl
        simp [this]

theorem ready_some {ts : List (Int × List Int)} (hg : Good ts) {S : Nat → Bool} (h : unseen S ts.length ≠ 0) : readyTo ts S ts.length ≠ [] := by
  intro hn
  have hnone : ∀ k, k < ts.length → readyB ts S k = false := fun k hk => by
    cases hr : readyB ts S k with
    | false => rfl
    | true =>
      have : k ∈ readyTo ts S ts.length := mem_readyTo.2 ⟨hk, hr⟩
      rw [hn] at this; simp at this
  have := no_ring_empty ts hg.no (fun x => x < ts.length ∧ S x = false) (fun x ⟨hx, hs⟩ => by
    refine ⟨hx, ?_⟩
    have hr := hnone x hx
    unfold readyB at hr
    rw [hs] at hr
    simp only [Bool.not_false, Bool.true_and, decide_eq_false_iff_not] at hr
    rw [missN_zero] at hr
    simp only [Classical.not_forall] at hr
    obtain ⟨y, hy, hT⟩ := hr
    have hb := hg.rng x hx y hy
    refine ⟨y.toNat, by unfold Need; rw [Int.toNat_of_nonneg hb.1]; exact hy, by omega, by simpa using hT⟩)
  exact h (unseen_zero _ _ fun k hk => by
    cases hs : S k with
    | true => rfl
    | false => exact absurd ⟨hk, hs⟩ (this k))

theorem unseen_all (S : Nat → Bool) (n : Nat) (h : unseen S n = 0) : ∀ k, k < n → S k = true := by
  induction n with
  | zero => intro k hk; omega
  | succ n ih =>
    intro k hk
    unfold unseen at h
    by_cases e : k = n
    · subst e
      cases hs : S k with
      | true => rfl
      | false => rw [hs] at h; simp at h
    · exact ih (by omega) k (by omega)
theorem ready_end {ts : List (Int × List Int)} {S : Nat → Bool} (h : unseen S ts.length = 0) : readyTo ts S ts.length = [] := by
  unfold readyTo
  refine List.filter_eq_nil_iff.2 fun k hk => ?_
  unfold readyB
  rw [unseen_all S _ h k (List.mem_range.1 hk)]
  simp
theorem unseen_none (n : Nat) : unseen (fun _ => false) n = n := by
  induction n with
  | zero => rfl
  | succ n ih => unfold unseen; rw [ih]; rfl

/-- Along a chain, when so many are done. -/
def firstB (i : Nat) : Nat → Bool := fun k => decide (k < i)
theorem firstB_zero : firstB 0 = fun _ => false := by funext k; simp [firstB]
theorem firstB_mark (i : Nat) : mark (firstB i) i = firstB (i + 1) := by
  funext k
  unfold mark firstB
  by_cases e : k = i
  · simp [e]
  · rw [if_neg e]; congr 1; simp; omega
theorem range_one (n a : Nat) : (List.range n).filter (fun j => decide (j = a)) = if a < n then [a] else [] := by
  induction n with
  | zero => simp
  | succ n ih =>
    rw [List.range_succ, List.filter_append, ih]
    by_cases e : n = a
    · subst e; simp
    · by_cases h : a < n
      · rw [if_pos h, if_pos (by omega)]; simp [e]
      · rw [if_neg h, if_neg (by omega)]; simp [e]
theorem chain_needs (n x : Nat) (hx : x < n) : needsOf (chainTs 1 n) x = if x = 0 then [] else [(x : Int) - 1] := by
  unfold needsOf
  rw [chainTs_getD _ _ _ hx]
theorem chain_miss (n i k : Nat) (hk : k < n) (h : k ≤ i) : missN (chainTs 1 n) (firstB i) k = 0 := by
  refine missN_zero.2 fun y hy => ?_
  rw [chain_needs n k hk] at hy
  by_cases e : k = 0
  · simp [e] at hy
  · simp [e] at hy
    subst hy
    simp [firstB]; omega
theorem chain_ready (n i : Nat) (hi : i < n) : readyB (chainTs 1 n) (firstB i) i = true := by
  unfold readyB
  rw [chain_miss n i i hi (Nat.le_refl _)]
  simp [firstB]
theorem chain_newL (n i : Nat) : newL (chainTs 1 n) (firstB i) i = if i + 1 < n then [i + 1] else [] := by
  rw [← range_one n (i + 1)]
  unfold newL aftTo
  rw [List.filter_filter, chainTs_length]
  refine List.filter_congr fun k hk => ?_
  have hk := List.mem_range.1 hk
  rw [firstB_mark, chain_needs n k hk]
  by_cases e : k = i + 1
  · subst e
    rw [chain_miss n (i + 1) (i + 1) hk (Nat.le_refl _)]
    simp
  · by_cases e0 : k = 0
    · simp [e0]
    · have : ¬ (i : Int) = (k : Int) - 1 := by omega
      simp [e, e0, this]
theorem chain_unseen (n i : Nat) (h : i ≤ n) : unseen (firstB i) n = n - i := by
  induction i with
  | zero => rw [firstB_zero, unseen_none]; rfl
  | succ i ih =>
    have h1 := ih (by omega)
    have h2 := unseen_mark (firstB i) n i (by omega) (by simp [firstB])
    rw [firstB_mark] at h2
    omega
end Go.Proofs.YtandhiiaflhenaaGreatDoor

namespace Go.Proofs.YtandhiiaflhenaaGreatDoor
open Go.RowKit Go.Deep


/-- Numbers in a row of their own, from block b on. -/
def RowI (b : Nat) (w : World) (v : Value) (zs : List Int) : Prop := w.ownsRow b 3 1 v zs.length (zs.map (Value.int .i64))
theorem RowI.of_blocks {b : Nat} {w w' : World} {v : Value} {zs : List Int} (h : RowI b w v zs) (hk : ∀ k, v.ownBlock = some k → w'.heap[k]? = w.heap[k]?) : RowI b w' v zs := by
  rcases h.2 with ⟨rfl, hn⟩ | ⟨g, cap, cur, rfl, hb, hh, hr⟩
  · exact ⟨h.1, Or.inl ⟨rfl, hn⟩⟩
  · exact ⟨h.1, Or.inr ⟨g, cap, cur, rfl, hb, (hk g rfl).trans hh, hr⟩⟩
theorem RowI.mono {b b' : Nat} {w : World} {v : Value} {zs : List Int} (h : RowI b w v zs) (hb : b' ≤ b) : RowI b' w v zs := by
  rcases h.2 with hn | ⟨g, cap, cur, hv, hg, r⟩
  · exact ⟨h.1, Or.inl hn⟩
  · exact ⟨h.1, Or.inr ⟨g, cap, cur, hv, Nat.le_trans hb hg, r⟩⟩
theorem RowI.low {b : Nat} {w : World} {v : Value} {zs : List Int} (h : RowI b w v zs) {k : Nat} (hk : v.ownBlock = some k) : b ≤ k ∧ k < w.heap.size := World.ownsRow.lt h k hk
theorem RowI.cap {B : Nat} {w : World} {v : Value} {zs : List Int} (h : RowI B w v zs) : ∃ a c, v = .slice a zs.length c ∧ zs.length ≤ c := by
  rcases h.2 with ⟨rfl, hn⟩ | ⟨g, cap, cur, rfl, _, _, hc, _⟩
  · exact ⟨none, 0, by rw [hn], by omega⟩
  · exact ⟨_, _, rfl, hc⟩
theorem RowI.shape {B : Nat} {w : World} {v : Value} {zs : List Int} (h : RowI B w v zs) : ∃ a c, v = .slice a zs.length c := by
  obtain ⟨a, c, hv, _⟩ := h.cap
  exact ⟨a, c, hv⟩
theorem RowI.nil (b : Nat) (w : World) : RowI b w (.slice none 0 0) [] := World.ownsRow_nil _ _ _ _
theorem RowI.alloc {b : Nat} {w : World} {v : Value} {zs : List Int} (h : RowI b w v zs) (o : Obj) : RowI b (w.alloc o) v zs := h.of_blocks (fun _ e => Below.heap_alloc _ _ _ (h.low e).2)
theorem RowI.cell {b g n c : Nat} {w : World} {zs : List Int} (h : RowI b w (.slice (some ⟨g, 0, none⟩) n c) zs) {k : Nat} (hk : k < zs.length) : w.cell? ⟨g, k, none⟩ = some (.int .i64 (zs.getD k 0)) := by
  have := World.ownsRow.cells h (g := g) rfl k (.int .i64 (zs.getD k 0)) (by simp [List.getD_eq_getElem?_getD, List.getElem?_eq_getElem hk])
  rwa [Addr.add_lit, Nat.zero_add] at this
theorem RowI.full {b : Nat} {w : World} {v : Value} {zs : List Int} (h : RowI b w v zs) (hz : 0 < zs.length) : ∃ g c, v = .slice (some ⟨g, 0, none⟩) zs.length c ∧ b ≤ g ∧ g < w.heap.size ∧ zs.length ≤ c ∧ c ≤ maxLen := by
  rcases h.2 with ⟨_, h0⟩ | ⟨g, cap, cur, hv, hb, hh, hc, hm, _⟩
  · omega
  · exact ⟨g, cap, hv, hb, (Array.getElem?_eq_some_iff.1 hh).1, hc, hm⟩

/-- A slice that reads as these numbers, in a block that A allows. -/
def Rds (A : Nat → Prop) (w : World) (v : Value) (xs : List Int) : Prop :=
  ∃ a c, v = .slice a xs.length c ∧ xs.length ≤ c ∧ ∀ k, k < xs.length → ∃ b o, a = some ⟨b, o, none⟩ ∧ A b ∧ b < w.heap.size ∧ w.cell? ⟨b, o + k, none⟩ = some (.int .i64 (xs.getD k 0))
theorem Rds.mono {A A' : Nat → Prop} {w : World} {v : Value} {xs : List Int} (h : Rds A w v xs) (hA : ∀ b, A b → A' b) : Rds A' w v xs := by
  obtain ⟨a, c, hv, hl, h⟩ := h
  refine ⟨a, c, hv, hl, fun k hk => ?_⟩
  obtain ⟨b, o, ha, hb, hw⟩ := h k hk
  exact ⟨b, o, ha, hA b hb, hw⟩
theorem Rds.of_blocks {A : Nat → Prop} {w w' : World} {v : Value} {xs : List Int} (h : Rds A w v xs) (hs : w.heap.size ≤ w'.heap.size) (hk : ∀ b, A b → b < w.heap.size → w'.heap[b]? = w.heap[b]?) : Rds A w' v xs := by
  obtain ⟨a, c, hv, hl, h⟩ := h
  refine ⟨a, c, hv, hl, fun k hk' => ?_⟩
  obtain ⟨b, o, ha, hb, hw, hc⟩ := h k hk'
  exact ⟨b, o, ha, hb, by omega, (World.cell?_of_block (hk b hb hw)).trans hc⟩
theorem Rds.shape {A : Nat → Prop} {w : World} {v : Value} {xs : List Int} (h : Rds A w v xs) : ∃ a c, v = .slice a xs.length c := by
  obtain ⟨a, c, hv, _⟩ := h
  exact ⟨a, c, hv⟩
theorem RowI.rds {b : Nat} {w : World} {v : Value} {xs : List Int} (h : RowI b w v xs) : Rds (fun k => v.ownBlock = some k) w v xs := by
  obtain ⟨a, c, rfl, hc⟩ := h.cap
  refine ⟨a, c, rfl, hc, fun k hk => ?_⟩
  obtain ⟨g, c', hv, hg⟩ := h.full (by omega)
  simp only [Value.slice.injEq] at hv
  obtain ⟨rfl, _, rfl⟩ := hv
  exact ⟨g, 0, rfl, rfl, hg.2.1, by rw [Nat.zero_add]; exact h.cell hk⟩

theorem append_zero (ty : TypeId) (b : Option Addr) (n c : Nat) (a : Option Addr) (c' : Nat) (w : World) (h : n ≤ c) : (Builtin.append_ #[37, 37] ty #[.slice b n c, .slice a 0 c']).run Tryz.prog w = .ok (.slice b n c) w := by
  unfold Builtin.append_
  cases b with
  | none => 
    cases a with
    | none => go_simp
    | some a => go_simp
  | some b =>
    cases a with
    | none => go_simp
    | some a => go_simp
theorem run_append_rows (ty : TypeId) {B : Nat} {A : Nat → Prop} {v x : Value} {zs ys : List Int} {w : World} (hv : RowI B w v zs) (hx : Rds A w x ys) (hb : zs.length + ys.length ≤ 1000) (hB : B ≤ w.heap.size) :
    ∃ v' w', (Builtin.append_ #[37, 37] ty #[v, x]).run Tryz.prog w = .ok v' w' ∧ RowI B w' v' (zs ++ ys) ∧ w.grownBy w' v.ownBlock ∧ (v'.ownBlock = v.ownBlock ∨ v'.ownBlock = some w.heap.size) := by
  obtain ⟨a, c, rfl, hc, hx⟩ := hx
  by_cases hy : ys = []
  · subst hy
    obtain ⟨b, d, rfl, hd⟩ := hv.cap
    refine ⟨_, w, append_zero ty b _ d a c w hd, by rw [List.append_nil]; exact hv, ⟨rfl, rfl, rfl, Nat.le_refl _, fun _ _ _ => rfl⟩, Or.inl rfl⟩
  · have hpos : 0 < ys.length := List.length_pos_iff.2 hy
    obtain ⟨i3, hi3, hz0, hz1, hz2⟩ := info_parts Tryz.info3
    obtain ⟨g, o, rfl, _⟩ := hx 0 hpos
    have hcl : ∀ j u, (ys.map (Value.int .i64))[j]? = some u → w.cell? ((⟨g, o, none⟩ : Addr).add j) = some u := fun j u hu => by
      have hj : j < ys.length := by have := (List.getElem?_eq_some_iff.1 hu).1; simpa using this
      obtain ⟨g', o', e, _, _, hc⟩ := hx j hj
      simp only [Option.some.injEq, Addr.mk.injEq, and_true] at e
      obtain ⟨rfl, rfl⟩ := e
      rw [Addr.add_lit, hc]
      simpa [List.getD_eq_getElem?_getD, List.getElem?_eq_getElem hj] using hu
    obtain ⟨v', w', h1, h2, h3, h4, h5⟩ := run_append_own_at (P := Tryz.prog) w B 37 ty 3 i3 (.int .i64 0) 1 8 Tryz.underlying37 hi3 hz0 hz1 hz2 rfl (by decide) v zs.length (zs.map (Value.int .i64)) hv ⟨g, o, none⟩ ys.length c (ys.map (Value.int .i64)) (by simp) hcl (by intro u hu; obtain ⟨x, _, rfl⟩ := List.mem_map.1 hu; rfl) (by unfold maxLen; omega) (by omega) hB
    refine ⟨v', w', h1, ?_, h3, h5⟩
    show w'.ownsRow B 3 1 v' (zs ++ ys).length ((zs ++ ys).map (Value.int .i64))
    rw [List.length_append, List.map_append]
    exact h2
theorem wpList_append_rows {ops : Array Oper} {rest : List Oper} {o : Oper} {a : Act} {Q : Exit → Act → World → Prop} {w : World} (hgd : o.guard = none) (s x : Operand) (ho : o.op = .call { callee := .builtin .append, args := #[s, x], argTypes := #[37, 37] })
    (B : Nat) (A : Nat → Prop) (v xv : Value) (zs ys : List Int) (hs : a.eval s = v) (hx : a.eval x = xv) (hv : RowI B w v zs) (hxv : Rds A w xv ys) (hb : zs.length + ys.length ≤ 1000) (hB : B ≤ w.heap.size)
    (h : ∀ v' w', RowI B w' v' (zs ++ ys) → w.grownBy w' v.ownBlock → (v'.ownBlock = v.ownBlock ∨ v'.ownBlock = some w.heap.size) → wpList Tryz.prog ops Q rest (a.put o.dst v') w') : wpList Tryz.prog ops Q (o :: rest) a w := by
  refine wpList_plain hgd fun K hK => ?_
  obtain ⟨v', w', hr, h2, h3, h4⟩ := run_append_rows o.type hv hxv hb hB
  unfold Oper.wp execOp
  simp only [ho, resolve, invoke, builtin, Sem.run_bind, Sem.run_pure, Result.andThen_ok, List.map_toArray, List.map_cons, List.map_nil, hs, hx, hr]
  exact hK _ _ (h v' w' h2 h3 h4)
theorem step_append_rows {ops : Array Oper} {o : Oper} {a : Act} {w : World} {K : Act → World → Prop} {Q : Exit → Act → World → Prop} {E : Prop} (hgd : o.guard = none) (s x : Operand) (ho : o.op = .call { callee := .builtin .append, args := #[s, x], argTypes := #[37, 37] })
    (B : Nat) (A : Nat → Prop) (v xv : Value) (zs ys : List Int) (hs : a.eval s = v) (hx : a.eval x = xv) (hv : RowI B w v zs) (hxv : Rds A w xv ys) (hb : zs.length + ys.length ≤ 1000) (hB : B ≤ w.heap.size)
    (h : ∀ v' w', RowI B w' v' (zs ++ ys) → w.grownBy w' v.ownBlock → (v'.ownBlock = v.ownBlock ∨ v'.ownBlock = some w.heap.size) → K (a.put o.dst v') w') :
    if Region.wanted o (yielded ops a.tmps) = true then Oper.wp Tryz.prog o a w K Q else E := by
  have hw : Region.wanted o (yielded ops a.tmps) = true := by simp [Region.wanted, hgd]
  rw [if_pos hw]
  obtain ⟨v', w', hr, h2, h3, h4⟩ := run_append_rows o.type hv hxv hb hB
  unfold Oper.wp execOp
  simp only [ho, resolve, invoke, builtin, Sem.run_bind, Sem.run_pure, Result.andThen_ok, List.map_toArray, List.map_cons, List.map_nil, hs, hx, hr]
  exact h v' w' h2 h3 h4

/-- What is kept: all blocks but those of X, and new ones. -/
structure Kx (X : Nat → Prop) (w w' : World) : Prop where
  os : w'.os = w.os
  tape : w'.tape = w.tape
  output : w'.output = w.output
  size : w.heap.size ≤ w'.heap.size
  block : ∀ k, k < w.heap.size → ¬ X k → w'.heap[k]? = w.heap[k]?
theorem Kx.refl (X : Nat → Prop) (w : World) : Kx X w w := ⟨rfl, rfl, rfl, Nat.le_refl _, fun _ _ _ => rfl⟩
theorem Kx.trans {X Y : Nat → Prop} {a b c : World} (h : Kx X a b) (k : Kx Y b c) (hY : ∀ j, Y j → X j ∨ a.heap.size ≤ j) : Kx X a c :=
  ⟨k.os.trans h.os, k.tape.trans h.tape, k.output.trans h.output, Nat.le_trans h.size k.size, fun i hi hX => by
    refine (k.block i (Nat.lt_of_lt_of_le hi h.size) (fun e => ?_)).trans (h.block i hi hX)
    rcases hY i e with h1 | h1
    · exact hX h1
    · omega⟩
theorem Kx.later {X : Nat → Prop} {w w1 w2 : World} (h : Kx X w w1) (hb : Below w1.heap.size w1 w2) : Kx X w w2 :=
  h.trans (Y := fun _ => False) ⟨hb.os, hb.tape, hb.output, hb.size, fun k hk _ => hb.block k hk⟩ (fun _ e => e.elim)
theorem Below.kx {X : Nat → Prop} {w w' : World} (h : Below w.heap.size w w') : Kx X w w' := ⟨h.os, h.tape, h.output, h.size, fun k hk _ => h.block k hk⟩
theorem Kx.set {X : Nat → Prop} {w0 w : World} (h : Kx X w0 w) {M : Nat} (hM : X M ∨ w0.heap.size ≤ M) (j : Nat) (u : Value) : Kx X w0 (w.setCell ⟨M, j, none⟩ u) :=
  h.trans (Y := fun k => k = M) ⟨rfl, rfl, rfl, by simp, fun k _ hk => Below.heap_setCell _ _ _ _ (by show k ≠ M; exact hk)⟩ (fun j e => by rw [e]; exact hM)
theorem Kx.below {X : Nat → Prop} {B : Nat} {w w' : World} (h : Kx X w w') (hX : ∀ j, X j → B ≤ j) (hB : B ≤ w.heap.size) : Below B w w' :=
  ⟨h.os, h.tape, h.output, h.size, fun k hk => h.block k (by omega) (fun e => by have := hX k e; omega)⟩
theorem Rds.at {A : Nat → Prop} {w : World} {a : Option Addr} {n c : Nat} {xs : List Int} (h : Rds A w (.slice a n c) xs) {k : Nat} (hk : k < xs.length) : ∃ b o, a = some ⟨b, o, none⟩ ∧ A b ∧ b < w.heap.size ∧ w.cell? ⟨b, o + k, none⟩ = some (.int .i64 (xs.getD k 0)) := by
  obtain ⟨a2, c2, hv, _, h⟩ := h
  simp only [Value.slice.injEq] at hv
  obtain ⟨rfl, _, rfl⟩ := hv
  exact h k hk

end Go.Proofs.YtandhiiaflhenaaGreatDoor

namespace Go.Proofs.YtandhiiaflhenaaGreatDoor
open Go.RowKit Go.Deep Go.Maps

theorem keyed3 : Keyed Tryz.prog 3 := int_keyed Tryz.underlying3
theorem zero48 (w : World) : (zeroValue 161).run Tryz.prog w = .ok (.agg #[]) w := by kernel_rfl
theorem wf_nat {y : Nat} (h : y < 1000) : (Lit.int .i64 (y : Int)).wf = true := WalkArith.wf_i64 (by omega)
theorem key_nat {y : Nat} (h : y < 1000) : keyOf Tryz.prog 3 (.int .i64 (y : Int)) = some (.int .i64 (y : Int)) := keyOf_int_mk Tryz.underlying3 (wf_nat h)

/-- Block B is the map of those that are done. -/
def DoneAt (w : World) (B n : Nat) (S : Nat → Bool) : Prop :=
  ∃ m D, w.ownsMap Tryz.prog 3 (unitElem (H := Unit)) B m D ∧ Maps.size D = m ∧ m + unseen S n = n ∧ ∀ x : Nat, x < n → Maps.has D (.int .i64 x) = S x
theorem DoneAt.of_block {w w' : World} {B n : Nat} {S : Nat → Bool} (h : DoneAt w B n S) (e : w'.heap[B]? = w.heap[B]?) : DoneAt w' B n S := by
  obtain ⟨m, D, ⟨es, clock, hb, r⟩, h1⟩ := h
  exact ⟨m, D, ⟨es, clock, e.trans hb, r⟩, h1⟩
theorem DoneAt.lt {w : World} {B n : Nat} {S : Nat → Bool} (h : DoneAt w B n S) : B < w.heap.size := by
  obtain ⟨m, D, h, _⟩ := h
  exact h.lt
theorem DoneAt.start (w : World) (n : Nat) : DoneAt (w.alloc (.map #[] 0)) w.heap.size n (fun _ => false) :=
  ⟨0, .map [], World.ownsMap_made _ _ _ _, rfl, by rw [unseen_none]; omega, fun x _ => rfl⟩

def joinRow (M A D n : Nat) : Nat → Value := fun k => if k = 0 then .slice (some ⟨M, 0, none⟩) n n else if k = 1 then .slice (some ⟨A, 0, none⟩) n n else .map (some D)

/-- The lists of those that need each task: a row of slices, each in a row of its own from block C on. -/
structure AftAt (C A n : Nat) (aft : Nat → List Nat) (av : Nat → Value) (w : World) : Prop where
  row : w.rowIs A 37 n av
  own : ∀ k, k < n → RowI C w (av k) (intsOf (aft k))
theorem AftAt.of_blocks {C A n : Nat} {aft : Nat → List Nat} {av : Nat → Value} {w w' : World} (h : AftAt C A n aft av w) (eA : w'.heap[A]? = w.heap[A]?) (eC : ∀ k, C ≤ k → k < w.heap.size → w'.heap[k]? = w.heap[k]?) : AftAt C A n aft av w' :=
  ⟨h.row.of_block eA, fun k hk => (h.own k hk).of_blocks (fun b e => eC b ((h.own k hk).low e).1 ((h.own k hk).low e).2)⟩

/-- A join of n tasks in block J: what is missing in block M, who comes after in block A, what is done in block D. -/
structure Jn (J M A D C n : Nat) (miss : Nat → Nat) (aft : Nat → List Nat) (S : Nat → Bool) (w : World) : Prop where
  row : w.rowIs J 109 3 (joinRow M A D n)
  miss : w.rowIs M 3 n (fun k => natV (miss k))
  aft : ∃ av, AftAt C A n aft av w
  done : DoneAt w D n S
  lt : J < C ∧ M < C ∧ A < C ∧ D < C
  ne : J ≠ M ∧ J ≠ A ∧ J ≠ D ∧ M ≠ A ∧ M ≠ D ∧ A ≠ D
  le : n ≤ 30

section
variable {J M A D C n : Nat} {miss : Nat → Nat} {aft : Nat → List Nat} {S : Nat → Bool} {w w' : World}
theorem Jn.of_blocks (h : Jn J M A D C n miss aft S w) (eJ : w'.heap[J]? = w.heap[J]?) (eM : w'.heap[M]? = w.heap[M]?) (eA : w'.heap[A]? = w.heap[A]?) (eD : w'.heap[D]? = w.heap[D]?)
    (eC : ∀ k, C ≤ k → k < w.heap.size → w'.heap[k]? = w.heap[k]?) : Jn J M A D C n miss aft S w' := by
  obtain ⟨av, ha⟩ := h.aft
  exact ⟨h.row.of_block eJ, h.miss.of_block eM, ⟨av, ha.of_blocks eA eC⟩, h.done.of_block eD, h.lt, h.ne, h.le⟩
theorem Jn.ltA (h : Jn J M A D C n miss aft S w) : A < w.heap.size := by
  obtain ⟨av, ha⟩ := h.aft
  exact ha.row.lt
theorem Jn.later (h : Jn J M A D C n miss aft S w) (hb : Below w.heap.size w w') : Jn J M A D C n miss aft S w' :=
  h.of_blocks (hb.block _ h.row.lt) (hb.block _ h.miss.lt) (hb.block _ h.ltA) (hb.block _ h.done.lt) (fun k _ hk => hb.block k hk)
theorem Jn.c0 (h : Jn J M A D C n miss aft S w) : w.cell? ⟨J, 0, none⟩ = some (.slice (some ⟨M, 0, none⟩) n n) := by
  have := h.row.cell (i := 0) (by omega)
  simpa [joinRow] using this
theorem Jn.c1 (h : Jn J M A D C n miss aft S w) : w.cell? ⟨J, 1, none⟩ = some (.slice (some ⟨A, 0, none⟩) n n) := by
  have := h.row.cell (i := 1) (by omega)
  simpa [joinRow] using this
theorem Jn.c2 (h : Jn J M A D C n miss aft S w) : w.cell? ⟨J, 2, none⟩ = some (.map (some D)) := by
  have := h.row.cell (i := 2) (by omega)
  simpa [joinRow] using this
theorem Jn.cM (h : Jn J M A D C n miss aft S w) {k : Nat} (hk : k < n) : w.cell? ⟨M, k, none⟩ = some (.int .i64 (miss k)) := h.miss.cell hk
end

/-- A join of the plan ts, of which the tasks of S are done. -/
def JnT (J M A D C : Nat) (ts : List (Int × List Int)) (S : Nat → Bool) (w : World) : Prop :=
  Jn J M A D C ts.length (missN ts S) (fun k => if S k then [] else aftTo ts ts.length k) S w

set_option maxHeartbeats 800000 in
theorem stateOf_any (J M A D C : Nat) (ts : List (Int × List Int)) (S : Nat → Bool) (k : Nat) (w : World) (h : JnT J M A D C ts S w) (hk : k < ts.length) :
    Calls Tryz.prog 42 #[.pointer (some ⟨J, 0, none⟩), .int .i64 k] w fun e w' => e = .returned (.int .i64 (stN ts S k)) ∧ Below w.heap.size w w' := by
  have h2 := Jn.later h ((Below.refl _ _).alloc (Nat.le_refl _) (.cells #[] 161))
  have hc2 := Jn.c2 h
  have hc0 := Jn.c0 h2
  have hcM := Jn.cM h2 hk
  obtain ⟨m, D', hown, _, _, hD⟩ := Jn.done h
  have hDk := hD k hk
  have hkey := key_nat (y := k) (by have := Jn.le h; omega)
  clear hD h2
  cases hS : S k
  · rw [hS] at hDk
    by_cases hz : missN ts S k = 0
    · rw [hz] at hcM
      have HE : Hid (stN ts S k = 1) := by unfold stN; rw [hS, hz]; rfl
      clear hS hz h
      go_enter Tryz.func42, Tryz.ntmps42
      go_wp2_with (at_lookup; refine wpList_lookup_own_unit _ rfl _ _ 107 rfl 3 161 keyed3 Tryz.underlying107 (zero48 _) D m D' rfl hown _ _ rfl hkey ?_; rw [hDk])
      go_ret
      exact ⟨by rw [HE.out]; rfl, (Below.refl _ _).alloc (Nat.le_refl _) _⟩
    · have hz2 : ((missN ts S k : Int) == 0) = false := by simp; omega
      have HE : Hid (stN ts S k = 0) := by unfold stN; rw [hS, if_neg hz]; rfl
      generalize missN ts S k = mi at *
      clear hS hz h
      go_enter Tryz.func42, Tryz.ntmps42
      go_wp2_with (at_lookup; refine wpList_lookup_own_unit _ rfl _ _ 107 rfl 3 161 keyed3 Tryz.underlying107 (zero48 _) D m D' rfl hown _ _ rfl hkey ?_; rw [hDk])
      go_ret
      exact ⟨by rw [HE.out]; rfl, (Below.refl _ _).alloc (Nat.le_refl _) _⟩
  · rw [hS] at hDk
    have HE : Hid (stN ts S k = 2) := by unfold stN; rw [hS]; rfl
    clear hS h
    go_enter Tryz.func42, Tryz.ntmps42
    go_wp2_with (at_lookup; refine wpList_lookup_own_unit _ rfl _ _ 107 rfl 3 161 keyed3 Tryz.underlying107 (zero48 _) D m D' rfl hown _ _ rfl hkey ?_; rw [hDk])
    go_ret
    exact ⟨by rw [HE.out]; rfl, (Below.refl _ _).alloc (Nat.le_refl _) _⟩

theorem state_bad (J M A D C : Nat) (ts : List (Int × List Int)) (S : Nat → Bool) (i : Int) (w : World) (h : JnT J M A D C ts S w) (hi : i < 0 ∨ (ts.length : Int) ≤ i) :
    Calls Tryz.prog 111 #[.pointer (some ⟨J, 0, none⟩), .int .i64 i] w fun e w' => e = .returned (.tuple #[.int .i64 0, errV 1]) ∧ w' = w := by
  have hc0 := Jn.c0 h
  clear h
  by_cases h1 : i < 0
  · go_enter Tryz.func111, Tryz.ntmps111
    go_wp2
    go_ret2
    exact ⟨rfl, rfl⟩
  · have h2 : (ts.length : Int) ≤ i := by omega
    go_enter Tryz.func111, Tryz.ntmps111
    go_wp2
    go_ret2
    exact ⟨rfl, rfl⟩

theorem state_good (J M A D C : Nat) (ts : List (Int × List Int)) (S : Nat → Bool) (k : Nat) (w : World) (h : JnT J M A D C ts S w) (hk : k < ts.length) :
    Calls Tryz.prog 111 #[.pointer (some ⟨J, 0, none⟩), .int .i64 k] w fun e w' => e = .returned (.tuple #[.int .i64 (stN ts S k), .nilIface]) ∧ Below w.heap.size w w' := by
  have hc0 := Jn.c0 h
  have hst := stateOf_any J M A D C ts S k w h hk
  have h1 : ¬ (k : Int) < 0 := by omega
  have h2 : ¬ (ts.length : Int) ≤ (k : Int) := by omega
  clear h
  generalize stN ts S k = st at *
  go_enter Tryz.func111, Tryz.ntmps111
  go_wp2_with (go_at_call 42; refine hst.mono ?_; clear hst; rintro e w' ⟨rfl, hb⟩)
  go_ret2
  exact ⟨rfl, hb⟩

theorem quiet_len_map {o : Oper} {a : Act} {w : World} {K : Act → Prop} {D clock : Nat} {es : Array MapEntry} (m : Operand) (ho : o.op = .call { callee := .builtin .len, args := #[m], argTypes := #[107] }) (hm : a.eval m = .map (some D))
    (hb : w.heap[D]? = some (.map es clock)) {E : Nat} (hE : Hid (es.size = E)) (h : K (a.put o.dst (.int .i64 E))) : o.quiet Tryz.prog a (fun w' => ∃ n, w' = w.drewN n) K := by
  refine ⟨_, fun w' hw => ?_, h⟩
  obtain ⟨n, rfl⟩ := hw
  have hE := hE.out
  subst hE
  have hb' : (w.drewN n).heap[D]? = some (.map es clock) := hb
  unfold Oper.quietAt
  simp [execOp, ho, resolve, invoke, builtin, hm, Builtin.len_, run_underlying Tryz.underlying107, MapKept.run_getObj_map hb', goInt, Result.andThen, Oper.quietUpon]

theorem left_any (J M A D C : Nat) (ts : List (Int × List Int)) (S : Nat → Bool) (w : World) (h : JnT J M A D C ts S w) :
    Calls Tryz.prog 32 #[.pointer (some ⟨J, 0, none⟩)] w fun e w' => e = .returned (.int .i64 (unseen S ts.length)) ∧ ∃ q, w' = w.drewN q := by
  have hc0 := Jn.c0 h
  have hc2 := Jn.c2 h
  obtain ⟨m, D', ⟨es, clock, hb, hF, hle, hD'⟩, hs, hm, _⟩ := Jn.done h
  have hsz : es.size = m := by
    rw [← hs, hD']
    exact (length_read es).symm
  have hn := Jn.le h
  have hun : ((unseen S ts.length : Nat) : Int) = (ts.length : Int) - (es.size : Int) := by omega
  rw [hun]
  have hes : es.size ≤ 30 := by omega
  clear h hF hD' hle hs hm hun hsz
  obtain ⟨E, hE⟩ : ∃ E, es.size = E := ⟨_, rfl⟩
  rw [hE] at hes ⊢
  have HE : Hid (es.size = E) := hE
  clear hE
  go_enter Tryz.func32, Tryz.ntmps32
  go_wp2
  refine wp_region_quiet_lit (by kernel_rfl) (by kernel_rfl) ?_
  repeat (go_big_quiet_step (fail))
  go_big_quiet_want
  refine quiet_len_map (.tmp 11) rfl rfl hb HE ?_
  go_big_quiet_on
  simp only [Act.put, List.setIfInBounds_toArray, List.set_cons_zero, List.set_cons_succ]
  repeat (go_big_quiet_step (fail))
  refine wpQuiet_nil ?_
  intro _ hw'
  obtain ⟨nq, rfl⟩ := hw'
  go_wp2
  go_ret
  exact ⟨rfl, _, rfl⟩
end Go.Proofs.YtandhiiaflhenaaGreatDoor
