/- Plain: a plan that is done step by step, by so many hands. No word of the program. Numbers in rows of their own; append of rows. What is left, in a row of its own: the contract of works; who is ready: the contracts of ready and its closure. -/
import Derived.Test.YtlfbdjeojgbniaaGreatDoorRcm05
import Derived.Test.YtlfbdjeojgbniaaGreatDoorRcm06
import Derived.Test.YtlfbdjeojgbniaaGreatDoorRcm01
import Derived.WalkKit
import Derived.WalkSpells
import Derived.Deep.LoopGhost
import Derived.Deep.Light
import Derived.Deep.OwnRows
import Derived.Shelf.Abstract
import Derived.OrdersHeld
import Derived.Deep.RegionLaw
import Derived.BigQuiet
import Derived.Deep.Draws
import Derived.Maps.AppendAt
import Derived.Laws.CopyOwn

namespace Go.Proofs.YtlfbdjeojgbniaaGreatDoor

/-- By what is left of each: is there work left? -/
def undB (L : Nat → Int) (y : Int) : Bool := decide (0 < L y.toNat)
/-- Work is left of it, and none of all that it needs. -/
def rdyB (ts : List (Int × List Int)) (L : Nat → Int) (k : Nat) : Bool := decide (0 < L k) && !(needsOf ts k).any (undB L)
/-- Of the first m tasks those that are ready. -/
def rdyTo (ts : List (Int × List Int)) (L : Nat → Int) (m : Nat) : List Nat := (List.range m).filter (rdyB ts L)
theorem rdyTo_succ (ts : List (Int × List Int)) (L : Nat → Int) (m : Nat) : rdyTo ts L (m + 1) = rdyTo ts L m ++ if rdyB ts L m then [m] else [] := by
  unfold rdyTo
  rw [List.range_succ, List.filter_append]
  cases h : rdyB ts L m <;> simp [h]
theorem mem_rdyTo {ts : List (Int × List Int)} {L : Nat → Int} {m k : Nat} : k ∈ rdyTo ts L m ↔ k < m ∧ rdyB ts L k = true := by simp [rdyTo]
theorem rdyTo_len (ts : List (Int × List Int)) (L : Nat → Int) (m : Nat) : (rdyTo ts L m).length ≤ m := by
  have := List.length_filter_le (rdyB ts L) (List.range m)
  simpa [rdyTo] using this
theorem rdyTo_nodup (ts : List (Int × List Int)) (L : Nat → Int) (m : Nat) : (rdyTo ts L m).Nodup := List.Pairwise.filter _ List.nodup_range

/-- One unit less for each of them, one by one. -/
def decs (L : Nat → Int) (l : List Nat) : Nat → Int := l.foldl (fun f x => upd f x (f x - 1)) L
theorem decs_snoc (L : Nat → Int) (l : List Nat) (x : Nat) : decs L (l ++ [x]) = upd (decs L l) x (decs L l x - 1) := by simp [decs]
theorem decs_at {l : List Nat} (hd : l.Nodup) (L : Nat → Int) (x : Nat) : decs L l x = if x ∈ l then L x - 1 else L x := by
  induction l generalizing L with
  | nil => simp [decs]
  | cons a l ih =>
    have e : decs L (a :: l) = decs (upd L a (L a - 1)) l := rfl
    rw [e, ih (List.nodup_cons.1 hd).2]
    by_cases h : x = a
    · subst h; simp [(List.nodup_cons.1 hd).1, upd]
    · simp [h, upd]

/-- The first m together. -/
def sumTo (L : Nat → Int) : Nat → Int
  | 0 => 0
  | k + 1 => sumTo L k + L k
theorem sumTo_past (L : Nat → Int) (x : Nat) (v : Int) (n : Nat) (h : n ≤ x) : sumTo (upd L x v) n = sumTo L n := by
  induction n with
  | zero => rfl
  | succ n ih => unfold sumTo; rw [ih (by omega), upd_ne _ _ (by omega)]
theorem sumTo_upd (L : Nat → Int) (x : Nat) (v : Int) (n : Nat) (h : x < n) : sumTo (upd L x v) n = sumTo L n - L x + v := by
  induction n with
  | zero => omega
  | succ n ih =>
    unfold sumTo
    by_cases e : x = n
    · subst e; rw [sumTo_past _ _ _ _ (Nat.le_refl _), upd_at]; omega
    · rw [ih (by omega), upd_ne _ _ (by omega)]; omega
theorem sumTo_decs (l : List Nat) (n : Nat) (h : ∀ x, x ∈ l → x < n) : ∀ L, sumTo (decs L l) n = sumTo L n - l.length := by
  induction l with
  | nil => intro L; simp [decs]
  | cons a l ih =>
    intro L
    have e : decs L (a :: l) = decs (upd L a (L a - 1)) l := rfl
    rw [e, ih (fun x hx => h x (List.mem_cons_of_mem _ hx)), sumTo_upd _ _ _ _ (h a (List.mem_cons_self ..))]
    simp only [List.length_cons]; omega
theorem sumTo_nonneg (L : Nat → Int) (h : ∀ x, 0 ≤ L x) (n : Nat) : 0 ≤ sumTo L n := by
  induction n with
  | zero => exact Int.le_refl _
  | succ n ih => unfold sumTo; have := h n; omega
theorem sumTo_zero (L : Nat → Int) (n : Nat) (h : ∀ x, x < n → L x = 0) : sumTo L n = 0 := by
  induction n with
  | zero => rfl
  | succ n ih => unfold sumTo; rw [ih (fun x hx => h x (by omega)), h n (by omega)]; rfl
theorem workTo_sum (ts : List (Int × List Int)) (n : Nat) : workTo ts n = sumTo (wkOf ts) n := by
  induction n with
  | zero => rfl
  | succ n ih => unfold workTo sumTo; rw [ih]

/-- Who gets work in a step. -/
def nowL (ts : List (Int × List Int)) (h : Nat) (L : Nat → Int) : List Nat := (rdyTo ts L ts.length).take h
/-- What is left ahead of a step. -/
def leftAt (ts : List (Int × List Int)) (h : Nat) : Nat → Nat → Int
  | 0 => wkOf ts
  | s + 1 => decs (leftAt ts h s) (nowL ts h (leftAt ts h s))
/-- Bits of a step: by hand. -/
def bitsOf (s : Nat) (l : List Nat) : List (Nat × Nat × Nat) := l.mapIdx (fun h i => (s, h, i))
/-- Bits ahead of a step. -/
def bitsTo (ts : List (Int × List Int)) (h : Nat) : Nat → List (Nat × Nat × Nat)
  | 0 => []
  | s + 1 => bitsTo ts h s ++ bitsOf s (nowL ts h (leftAt ts h s))
theorem bitsOf_length (s : Nat) (l : List Nat) : (bitsOf s l).length = l.length := by simp [bitsOf]
theorem bitsOf_snoc (s : Nat) (l : List Nat) (x : Nat) : bitsOf s (l ++ [x]) = bitsOf s l ++ [(s, l.length, x)] := by simp [bitsOf, List.mapIdx_concat]
theorem bitsOf_step {s : Nat} {l : List Nat} {b : Nat × Nat × Nat} (h : b ∈ bitsOf s l) : b.1 = s := by
  unfold bitsOf at h
  rw [List.mem_mapIdx] at h
  obtain ⟨_, _, rfl⟩ := h
  rfl
theorem nowL_nodup (ts : List (Int × List Int)) (h : Nat) (L : Nat → Int) : (nowL ts h L).Nodup := (rdyTo_nodup ts L ts.length).sublist (List.take_sublist _ _)
theorem nowL_mem {ts : List (Int × List Int)} {h : Nat} {L : Nat → Int} {x : Nat} (hx : x ∈ nowL ts h L) : x < ts.length ∧ rdyB ts L x = true := mem_rdyTo.1 (List.mem_of_mem_take hx)
theorem rdyB_pos {ts : List (Int × List Int)} {L : Nat → Int} {x : Nat} (h : rdyB ts L x = true) : 0 < L x := by
  unfold rdyB at h
  simp only [Bool.and_eq_true, decide_eq_true_eq] at h
  exact h.1
theorem nowL_len {ts : List (Int × List Int)} {h : Nat} {L : Nat → Int} : (nowL ts h L).length = min h (rdyTo ts L ts.length).length := by simp [nowL]
theorem nowL_lt {ts : List (Int × List Int)} {h : Nat} {L : Nat → Int} (hh : 1 ≤ h) (hn : rdyTo ts L ts.length ≠ []) : 0 < (nowL ts h L).length := by
  have := List.length_pos_iff.2 hn
  rw [nowL_len]; omega

/-- Works as they may be. -/
def Works (ts : List (Int × List Int)) : Prop := ts.length ≤ 30 ∧ ∀ x, x < ts.length → 1 ≤ wkOf ts x ∧ wkOf ts x ≤ 20
theorem wkOf_past {ts : List (Int × List Int)} {x : Nat} (h : ts.length ≤ x) : wkOf ts x = 0 := by
  unfold wkOf
  rw [List.getD_eq_getElem?_getD, List.getElem?_eq_none h]
  rfl
theorem leftAt_bound {ts : List (Int × List Int)} (hw : Works ts) (h s x : Nat) : 0 ≤ leftAt ts h s x ∧ leftAt ts h s x ≤ 20 := by
  induction s generalizing x with
  | zero =>
    by_cases hx : x < ts.length
    · have := hw.2 x hx
      show 0 ≤ wkOf ts x ∧ wkOf ts x ≤ 20
      omega
    · show 0 ≤ wkOf ts x ∧ wkOf ts x ≤ 20
      rw [wkOf_past (by omega)]; omega
  | succ s ih =>
    have h1 := ih x
    show 0 ≤ decs _ _ x ∧ decs _ _ x ≤ 20
    rw [decs_at (nowL_nodup _ _ _)]
    split
    · rename_i hm
      have := rdyB_pos (nowL_mem hm).2
      omega
    · exact h1
theorem sum_bits (ts : List (Int × List Int)) (h s : Nat) : sumTo (leftAt ts h s) ts.length + (bitsTo ts h s).length = workTo ts ts.length := by
  induction s with
  | zero => rw [workTo_sum]; simp [leftAt, bitsTo]
  | succ s ih =>
    show sumTo (decs _ _) _ + ((bitsTo ts h s ++ bitsOf s _).length : Nat) = _
    rw [sumTo_decs _ _ (fun x hx => (nowL_mem hx).1), List.length_append, bitsOf_length]
    omega
theorem Works.all {ts : List (Int × List Int)} (hw : Works ts) : 0 ≤ workTo ts ts.length ∧ workTo ts ts.length ≤ 600 := by
  have := workTo_bound hw.2 ts.length (Nat.le_refl _)
  have := hw.1
  omega
theorem bits_len {ts : List (Int × List Int)} (hw : Works ts) (h s : Nat) : (bitsTo ts h s).length ≤ 600 := by
  have h1 := sum_bits ts h s
  have h2 := sumTo_nonneg (leftAt ts h s) (fun x => (leftAt_bound hw h s x).1) ts.length
  have h3 := hw.all
  omega

/-- In each of the steps ahead there was work to do. -/
def Busy (ts : List (Int × List Int)) (h s : Nat) : Prop := ∀ k, k < s → rdyTo ts (leftAt ts h k) ts.length ≠ []
/-- Here it ends. -/
def Stops (ts : List (Int × List Int)) (h s : Nat) : Prop := Busy ts h s ∧ rdyTo ts (leftAt ts h s) ts.length = []
theorem Busy.zero (ts : List (Int × List Int)) (h : Nat) : Busy ts h 0 := fun k hk => by omega
theorem Busy.succ {ts : List (Int × List Int)} {h s : Nat} (hb : Busy ts h s) (hn : rdyTo ts (leftAt ts h s) ts.length ≠ []) : Busy ts h (s + 1) := fun k hk => by
  by_cases e : k = s
  · subst e; exact hn
  · exact hb k (by omega)
theorem Busy.init {ts : List (Int × List Int)} {h s : Nat} (hb : Busy ts h (s + 1)) : Busy ts h s := fun k hk => hb k (by omega)
theorem Busy.len {ts : List (Int × List Int)} {h s : Nat} (hh : 1 ≤ h) (hb : Busy ts h s) : s ≤ (bitsTo ts h s).length := by
  induction s with
  | zero => omega
  | succ s ih =>
    have := ih hb.init
    have := nowL_lt hh (hb s (by omega))
    show _ ≤ (bitsTo ts h s ++ bitsOf s _).length
    rw [List.length_append, bitsOf_length]
    omega
theorem Busy.le {ts : List (Int × List Int)} {h s : Nat} (hw : Works ts) (hh : 1 ≤ h) (hb : Busy ts h s) : s ≤ 600 := Nat.le_trans (hb.len hh) (bits_len hw h s)
theorem Stops.le {ts : List (Int × List Int)} {h s : Nat} (hw : Works ts) (hh : 1 ≤ h) (hs : Stops ts h s) : s ≤ 600 := hs.1.le hw hh
theorem Stops.det {ts : List (Int × List Int)} {h s s' : Nat} (hs : Stops ts h s) (hs' : Stops ts h s') : s = s' := by
  rcases Nat.lt_trichotomy s s' with h1 | h1 | h1
  · exact absurd hs.2 (hs'.1 s h1)
  · exact h1
  · exact absurd hs'.2 (hs.1 s' h1)
theorem stops_exists {ts : List (Int × List Int)} {h : Nat} (hw : Works ts) (hh : 1 ≤ h) : ∃ s, Stops ts h s := by
  have key : ∀ c s, Busy ts h s → 600 - s = c → ∃ s, Stops ts h s := by
    intro c
    induction c with
    | zero =>
      intro s hb hc
      by_cases e : rdyTo ts (leftAt ts h s) ts.length = []
      · exact ⟨s, hb, e⟩
      · have := (hb.succ e).le hw hh; omega
    | succ c ih =>
      intro s hb hc
      by_cases e : rdyTo ts (leftAt ts h s) ts.length = []
      · exact ⟨s, hb, e⟩
      · exact ih (s + 1) (hb.succ e) (by omega)
  exact key _ 0 (Busy.zero ts h) rfl
theorem Stops.later {ts : List (Int × List Int)} {h s : Nat} (hs : Stops ts h s) (k : Nat) : leftAt ts h (s + k) = leftAt ts h s ∧ bitsTo ts h (s + k) = bitsTo ts h s := by
  induction k with
  | zero => exact ⟨rfl, rfl⟩
  | succ k ih =>
    have e : nowL ts h (leftAt ts h (s + k)) = [] := by rw [ih.1]; unfold nowL; rw [hs.2]; simp
    constructor
    · show decs (leftAt ts h (s + k)) (nowL ts h (leftAt ts h (s + k))) = _
      rw [e]; exact ih.1
    · show bitsTo ts h (s + k) ++ bitsOf (s + k) (nowL ts h (leftAt ts h (s + k))) = _
      rw [e, ih.2]; simp [bitsOf]
theorem Stops.at_end {ts : List (Int × List Int)} {h s : Nat} (hs : Stops ts h s) {k : Nat} (hk : s ≤ k) : bitsTo ts h k = bitsTo ts h s := by
  have := (hs.later (k - s)).2
  rwa [show s + (k - s) = k by omega] at this

/-- The last bit's step tells how many there are. -/
theorem Busy.last {ts : List (Int × List Int)} {h s : Nat} (hh : 1 ≤ h) (hb : Busy ts h s) (hs : 0 < (bitsTo ts h s).length) : ((bitsTo ts h s).getD ((bitsTo ts h s).length - 1) (0, 0, 0)).1 + 1 = s := by
  cases s with
  | zero => simp [bitsTo] at hs
  | succ s =>
    have hp := nowL_lt hh (hb s (by omega))
    have e : bitsTo ts h (s + 1) = bitsTo ts h s ++ bitsOf s (nowL ts h (leftAt ts h s)) := rfl
    rw [e] at hs ⊢
    have hl : 0 < (bitsOf s (nowL ts h (leftAt ts h s))).length := by rw [bitsOf_length]; exact hp
    have hm : ∀ b, b ∈ bitsOf s (nowL ts h (leftAt ts h s)) → b.1 = s := fun b hb => bitsOf_step hb
    generalize bitsOf s (nowL ts h (leftAt ts h s)) = l at *
    have hk : (bitsTo ts h s ++ l).getD ((bitsTo ts h s ++ l).length - 1) (0, 0, 0) ∈ l := by
      rw [List.getD_eq_getElem?_getD, List.getElem?_append_right (by rw [List.length_append]; omega), List.getElem?_eq_getElem (by rw [List.length_append]; omega)]
      exact List.getElem_mem _
    rw [hm _ hk]
theorem Busy.none {ts : List (Int × List Int)} {h s : Nat} (hh : 1 ≤ h) (hb : Busy ts h s) (hs : (bitsTo ts h s).length = 0) : s = 0 := by
  have := hb.len hh; omega

/-- How many steps bits take: one more than the greatest. -/
def stepsOf (l : List (Nat × Nat × Nat)) : Nat := l.foldl (fun n b => max n (b.1 + 1)) 0
theorem stepsOf_snoc (l : List (Nat × Nat × Nat)) (b : Nat × Nat × Nat) : stepsOf (l ++ [b]) = max (stepsOf l) (b.1 + 1) := by simp [stepsOf]
theorem steps_same (s : Nat) (l : List (Nat × Nat × Nat)) (h : ∀ b, b ∈ l → b.1 = s) (n : Nat) : l.foldl (fun n b => max n (b.1 + 1)) n = if l = [] then n else max n (s + 1) := by
  induction l generalizing n with
  | nil => simp
  | cons b l ih =>
    rw [List.foldl_cons, ih (fun b hb => h b (List.mem_cons_of_mem _ hb)), h b (List.mem_cons_self ..)]
    split
    · simp
    · simp
theorem Busy.steps {ts : List (Int × List Int)} {h s : Nat} (hh : 1 ≤ h) (hb : Busy ts h s) : stepsOf (bitsTo ts h s) = s := by
  induction s with
  | zero => rfl
  | succ s ih =>
    have hp := nowL_lt hh (hb s (by omega))
    have e : bitsTo ts h (s + 1) = bitsTo ts h s ++ bitsOf s (nowL ts h (leftAt ts h s)) := rfl
    have ih := ih hb.init
    unfold stepsOf at ih ⊢
    rw [e, List.foldl_append, ih, steps_same s _ (fun b hb => bitsOf_step hb), if_neg (fun e => by have := bitsOf_length s (nowL ts h (leftAt ts h s)); rw [e] at this; simp at this; omega)]
    omega

/-- Where no ring is, and nobody is ready, nothing is left. -/
theorem rdy_none {ts : List (Int × List Int)} {L : Nat → Int} (hr : InRange ts) (hno : ∀ j, j < ts.length → ¬ Reach ts j j) (h0 : ∀ x, 0 ≤ L x) (h : rdyTo ts L ts.length = []) : ∀ x, x < ts.length → L x = 0 := by
  have key := no_ring_empty ts hno (fun x => x < ts.length ∧ 0 < L x) (fun x ⟨hx, hp⟩ => by
    refine ⟨hx, ?_⟩
    have hn : rdyB ts L x = false := by
      cases e : rdyB ts L x with
      | false => rfl
      | true =>
        have := mem_rdyTo.2 ⟨hx, e⟩
        rw [h] at this
        simp at this
    unfold rdyB at hn
    simp only [hp, decide_true, Bool.true_and, Bool.not_eq_false'] at hn
    obtain ⟨y, hy, hu⟩ := List.any_eq_true.1 hn
    have := hr x hx y hy
    refine ⟨y.toNat, ?_, by omega, by simpa [undB] using hu⟩
    unfold Need
    rw [show ((y.toNat : Nat) : Int) = y by omega]
    exact hy)
  intro x hx
  have := h0 x
  have := key x
  by_cases e : 0 < L x
  · exact absurd ⟨hx, e⟩ this
  · omega

/-- One hand: as many steps as there is work. -/
theorem Stops.alone {ts : List (Int × List Int)} {s : Nat} (hw : Works ts) (hr : InRange ts) (hno : ∀ j, j < ts.length → ¬ Reach ts j j) (hs : Stops ts 1 s) : (s : Int) = workTo ts ts.length := by
  have hl : ∀ s, Busy ts 1 s → (bitsTo ts 1 s).length = s := by
    intro s
    induction s with
    | zero => intro _; rfl
    | succ s ih =>
      intro hb
      have hp := nowL_lt (Nat.le_refl 1) (hb s (by omega))
      have hq := nowL_len (ts := ts) (h := 1) (L := leftAt ts 1 s)
      have := ih hb.init
      show (bitsTo ts 1 s ++ bitsOf s _).length = _
      rw [List.length_append, bitsOf_length]
      omega
  have h1 := sum_bits ts 1 s
  rw [sumTo_zero _ _ (rdy_none hr hno (fun x => (leftAt_bound hw 1 s x).1) hs.2), hl s hs.1] at h1
  omega
end Go.Proofs.YtlfbdjeojgbniaaGreatDoor

namespace Go.Proofs.YtlfbdjeojgbniaaGreatDoor
open Go.RowKit Go.Deep


/-- Numbers in a row of their own, from block b on. -/
def RowI (b : Nat) (w : World) (v : Value) (zs : List Int) : Prop := w.ownsRow b 3 1 v zs.length (zs.map (Value.int .i64))
theorem RowI.of_blocks {b : Nat} {w w' : World} {v : Value} {zs : List Int} (h : RowI b w v zs) (hk : ∀ k, v.ownBlock = some k → w'.heap[k]? = w.heap[k]?) : RowI b w' v zs := by
  rcases h.2 with ⟨rfl, hn⟩ | ⟨g, cap, cur, rfl, hb, hh, hr⟩
  · exact ⟨h.1, Or.inl ⟨rfl, hn⟩⟩
  · exact ⟨h.1, Or.inr ⟨g, cap, cur, rfl, hb, (hk g rfl).trans hh, hr⟩⟩
theorem RowI.mono {b b' : Nat} {w : World} {v : Value} {zs : List Int} (h : RowI b w v zs) (hb : b' ≤ b) : RowI b' w v zs := by
  rcases h.2 with hn | ⟨g, cap, cur, hv, hg, r⟩
  · exact ⟨h.1, Or.inl hn⟩
  · exact ⟨h.1, Or.inr ⟨g, cap, cur, hv, Nat.le_trans hb hg, r⟩⟩
theorem RowI.low {b : Nat} {w : World} {v : Value} {zs : List Int} (h : RowI b w v zs) {k : Nat} (hk : v.ownBlock = some k) : b ≤ k ∧ k < w.heap.size := World.ownsRow.lt h k hk
theorem RowI.cap {B : Nat} {w : World} {v : Value} {zs : List Int} (h : RowI B w v zs) : ∃ a c, v = .slice a zs.length c ∧ zs.length ≤ c := by
  rcases h.2 with ⟨rfl, hn⟩ | ⟨g, cap, cur, rfl, _, _, hc, _⟩
  · exact ⟨none, 0, by rw [hn], by omega⟩
  · exact ⟨_, _, rfl, hc⟩
theorem RowI.shape {B : Nat} {w : World} {v : Value} {zs : List Int} (h : RowI B w v zs) : ∃ a c, v = .slice a zs.length c := by
  obtain ⟨a, c, hv, _⟩ := h.cap
  exact ⟨a, c, hv⟩
theorem RowI.nil (b : Nat) (w : World) : RowI b w (.slice none 0 0) [] := World.ownsRow_nil _ _ _ _
theorem RowI.alloc {b : Nat} {w : World} {v : Value} {zs : List Int} (h : RowI b w v zs) (o : Obj) : RowI b (w.alloc o) v zs := h.of_blocks (fun _ e => Below.heap_alloc _ _ _ (h.low e).2)
theorem RowI.cell {b g n c : Nat} {w : World} {zs : List Int} (h : RowI b w (.slice (some ⟨g, 0, none⟩) n c) zs) {k : Nat} (hk : k < zs.length) : w.cell? ⟨g, k, none⟩ = some (.int .i64 (zs.getD k 0)) := by
  have := World.ownsRow.cells h (g := g) rfl k (.int .i64 (zs.getD k 0)) (by simp [List.getD_eq_getElem?_getD, List.getElem?_eq_getElem hk])
  rwa [Addr.add_lit, Nat.zero_add] at this
theorem RowI.full {b : Nat} {w : World} {v : Value} {zs : List Int} (h : RowI b w v zs) (hz : 0 < zs.length) : ∃ g c, v = .slice (some ⟨g, 0, none⟩) zs.length c ∧ b ≤ g ∧ g < w.heap.size ∧ zs.length ≤ c ∧ c ≤ maxLen := by
  rcases h.2 with ⟨_, h0⟩ | ⟨g, cap, cur, hv, hb, hh, hc, hm, _⟩
  · omega
  · exact ⟨g, cap, hv, hb, (Array.getElem?_eq_some_iff.1 hh).1, hc, hm⟩

/-- A slice that reads as these numbers, in a block that A allows. -/
def Rds (A : Nat → Prop) (w : World) (v : Value) (xs : List Int) : Prop :=
  ∃ a c, v = .slice a xs.length c ∧ xs.length ≤ c ∧ ∀ k, k < xs.length → ∃ b o, a = some ⟨b, o, none⟩ ∧ A b ∧ b < w.heap.size ∧ w.cell? ⟨b, o + k, none⟩ = some (.int .i64 (xs.getD k 0))
theorem Rds.mono {A A' : Nat → Prop} {w : World} {v : Value} {xs : List Int} (h : Rds A w v xs) (hA : ∀ b, A b → A' b) : Rds A' w v xs := by
  obtain ⟨a, c, hv, hl, h⟩ := h
  refine ⟨a, c, hv, hl, fun k hk => ?_⟩
  obtain ⟨b, o, ha, hb, hw⟩ := h k hk
  exact ⟨b, o, ha, hA b hb, hw⟩
theorem Rds.of_blocks {A : Nat → Prop} {w w' : World} {v : Value} {xs : List Int} (h : Rds A w v xs) (hs : w.heap.size ≤ w'.heap.size) (hk : ∀ b, A b → b < w.heap.size → w'.heap[b]? = w.heap[b]?) : Rds A w' v xs := by
  obtain ⟨a, c, hv, hl, h⟩ := h
  refine ⟨a, c, hv, hl, fun k hk' => ?_⟩
  obtain ⟨b, o, ha, hb, hw, hc⟩ := h k hk'
  exact ⟨b, o, ha, hb, by omega, (World.cell?_of_block (hk b hb hw)).trans hc⟩
theorem Rds.shape {A : Nat → Prop} {w : World} {v : Value} {xs : List Int} (h : Rds A w v xs) : ∃ a c, v = .slice a xs.length c := by
  obtain ⟨a, c, hv, _⟩ := h
  exact ⟨a, c, hv⟩
theorem RowI.rds {b : Nat} {w : World} {v : Value} {xs : List Int} (h : RowI b w v xs) : Rds (fun k => v.ownBlock = some k) w v xs := by
  obtain ⟨a, c, rfl, hc⟩ := h.cap
  refine ⟨a, c, rfl, hc, fun k hk => ?_⟩
  obtain ⟨g, c', hv, hg⟩ := h.full (by omega)
  simp only [Value.slice.injEq] at hv
  obtain ⟨rfl, _, rfl⟩ := hv
  exact ⟨g, 0, rfl, rfl, hg.2.1, by rw [Nat.zero_add]; exact h.cell hk⟩

theorem append_zero (ty : TypeId) (b : Option Addr) (n c : Nat) (a : Option Addr) (c' : Nat) (w : World) (h : n ≤ c) : (Builtin.append_ #[73, 73] ty #[.slice b n c, .slice a 0 c']).run Tryz.prog w = .ok (.slice b n c) w := by
  unfold Builtin.append_
  cases b with
  | none => 
    cases a with
    | none => go_simp
    | some a => go_simp
  | some b =>
    cases a with
    | none => go_simp
    | some a => go_simp
theorem run_append_rows (ty : TypeId) {B : Nat} {A : Nat → Prop} {v x : Value} {zs ys : List Int} {w : World} (hv : RowI B w v zs) (hx : Rds A w x ys) (hb : zs.length + ys.length ≤ 1000) (hB : B ≤ w.heap.size) :
    ∃ v' w', (Builtin.append_ #[73, 73] ty #[v, x]).run Tryz.prog w = .ok v' w' ∧ RowI B w' v' (zs ++ ys) ∧ w.grownBy w' v.ownBlock ∧ (v'.ownBlock = v.ownBlock ∨ v'.ownBlock = some w.heap.size) := by
  obtain ⟨a, c, rfl, hc, hx⟩ := hx
  by_cases hy : ys = []
  · subst hy
    obtain ⟨b, d, rfl, hd⟩ := hv.cap
    refine ⟨_, w, append_zero ty b _ d a c w hd, by rw [List.append_nil]; exact hv, ⟨rfl, rfl, rfl, Nat.le_refl _, fun _ _ _ => rfl⟩, Or.inl rfl⟩
  · have hpos : 0 < ys.length := List.length_pos_iff.2 hy
    obtain ⟨i3, hi3, hz0, hz1, hz2⟩ := info_parts Tryz.info3
    obtain ⟨g, o, rfl, _⟩ := hx 0 hpos
    have hcl : ∀ j u, (ys.map (Value.int .i64))[j]? = some u → w.cell? ((⟨g, o, none⟩ : Addr).add j) = some u := fun j u hu => by
      have hj : j < ys.length := by have := (List.getElem?_eq_some_iff.1 hu).1; simpa using this
      obtain ⟨g', o', e, _, _, hc⟩ := hx j hj
      simp only [Option.some.injEq, Addr.mk.injEq, and_true] at e
      obtain ⟨rfl, rfl⟩ := e
      rw [Addr.add_lit, hc]
      simpa [List.getD_eq_getElem?_getD, List.getElem?_eq_getElem hj] using hu
    obtain ⟨v', w', h1, h2, h3, h4, h5⟩ := run_append_own_at (P := Tryz.prog) w B 73 ty 3 i3 (.int .i64 0) 1 8 Tryz.underlying73 hi3 hz0 hz1 hz2 rfl (by decide) v zs.length (zs.map (Value.int .i64)) hv ⟨g, o, none⟩ ys.length c (ys.map (Value.int .i64)) (by simp) hcl (by intro u hu; obtain ⟨x, _, rfl⟩ := List.mem_map.1 hu; rfl) (by unfold maxLen; omega) (by omega) hB
    refine ⟨v', w', h1, ?_, h3, h5⟩
    show w'.ownsRow B 3 1 v' (zs ++ ys).length ((zs ++ ys).map (Value.int .i64))
    rw [List.length_append, List.map_append]
    exact h2
theorem wpList_append_rows {ops : Array Oper} {rest : List Oper} {o : Oper} {a : Act} {Q : Exit → Act → World → Prop} {w : World} (hgd : o.guard = none) (s x : Operand) (ho : o.op = .call { callee := .builtin .append, args := #[s, x], argTypes := #[73, 73] })
    (B : Nat) (A : Nat → Prop) (v xv : Value) (zs ys : List Int) (hs : a.eval s = v) (hx : a.eval x = xv) (hv : RowI B w v zs) (hxv : Rds A w xv ys) (hb : zs.length + ys.length ≤ 1000) (hB : B ≤ w.heap.size)
    (h : ∀ v' w', RowI B w' v' (zs ++ ys) → w.grownBy w' v.ownBlock → (v'.ownBlock = v.ownBlock ∨ v'.ownBlock = some w.heap.size) → wpList Tryz.prog ops Q rest (a.put o.dst v') w') : wpList Tryz.prog ops Q (o :: rest) a w := by
  refine wpList_plain hgd fun K hK => ?_
  obtain ⟨v', w', hr, h2, h3, h4⟩ := run_append_rows o.type hv hxv hb hB
  unfold Oper.wp execOp
  simp only [ho, resolve, invoke, builtin, Sem.run_bind, Sem.run_pure, Result.andThen_ok, List.map_toArray, List.map_cons, List.map_nil, hs, hx, hr]
  exact hK _ _ (h v' w' h2 h3 h4)
theorem step_append_rows {ops : Array Oper} {o : Oper} {a : Act} {w : World} {K : Act → World → Prop} {Q : Exit → Act → World → Prop} {E : Prop} (hgd : o.guard = none) (s x : Operand) (ho : o.op = .call { callee := .builtin .append, args := #[s, x], argTypes := #[73, 73] })
    (B : Nat) (A : Nat → Prop) (v xv : Value) (zs ys : List Int) (hs : a.eval s = v) (hx : a.eval x = xv) (hv : RowI B w v zs) (hxv : Rds A w xv ys) (hb : zs.length + ys.length ≤ 1000) (hB : B ≤ w.heap.size)
    (h : ∀ v' w', RowI B w' v' (zs ++ ys) → w.grownBy w' v.ownBlock → (v'.ownBlock = v.ownBlock ∨ v'.ownBlock = some w.heap.size) → K (a.put o.dst v') w') :
    if Region.wanted o (yielded ops a.tmps) = true then Oper.wp Tryz.prog o a w K Q else E := by
  have hw : Region.wanted o (yielded ops a.tmps) = true := by simp [Region.wanted, hgd]
  rw [if_pos hw]
  obtain ⟨v', w', hr, h2, h3, h4⟩ := run_append_rows o.type hv hxv hb hB
  unfold Oper.wp execOp
  simp only [ho, resolve, invoke, builtin, Sem.run_bind, Sem.run_pure, Result.andThen_ok, List.map_toArray, List.map_cons, List.map_nil, hs, hx, hr]
  exact h v' w' h2 h3 h4

/-- What is kept: all blocks but those of X, and new ones. -/
structure Kx (X : Nat → Prop) (w w' : World) : Prop where
  os : w'.os = w.os
  tape : w'.tape = w.tape
  output : w'.output = w.output
  size : w.heap.size ≤ w'.heap.size
  block : ∀ k, k < w.heap.size → ¬ X k → w'.heap[k]? = w.heap[k]?
theorem Kx.refl (X : Nat → Prop) (w : World) : Kx X w w := ⟨rfl, rfl, rfl, Nat.le_refl _, fun _ _ _ => rfl⟩
theorem Kx.trans {X Y : Nat → Prop} {a b c : World} (h : Kx X a b) (k : Kx Y b c) (hY : ∀ j, Y j → X j ∨ a.heap.size ≤ j) : Kx X a c :=
  ⟨k.os.trans h.os, k.tape.trans h.tape, k.output.trans h.output, Nat.le_trans h.size k.size, fun i hi hX => by
    refine (k.block i (Nat.lt_of_lt_of_le hi h.size) (fun e => ?_)).trans (h.block i hi hX)
    rcases hY i e with h1 | h1
    · exact hX h1
    · omega⟩
theorem Kx.later {X : Nat → Prop} {w w1 w2 : World} (h : Kx X w w1) (hb : Below w1.heap.size w1 w2) : Kx X w w2 :=
  h.trans (Y := fun _ => False) ⟨hb.os, hb.tape, hb.output, hb.size, fun k hk _ => hb.block k hk⟩ (fun _ e => e.elim)
theorem Below.kx {X : Nat → Prop} {w w' : World} (h : Below w.heap.size w w') : Kx X w w' := ⟨h.os, h.tape, h.output, h.size, fun k hk _ => h.block k hk⟩
theorem Kx.set {X : Nat → Prop} {w0 w : World} (h : Kx X w0 w) {M : Nat} (hM : X M ∨ w0.heap.size ≤ M) (j : Nat) (u : Value) : Kx X w0 (w.setCell ⟨M, j, none⟩ u) :=
  h.trans (Y := fun k => k = M) ⟨rfl, rfl, rfl, by simp, fun k _ hk => Below.heap_setCell _ _ _ _ (by show k ≠ M; exact hk)⟩ (fun j e => by rw [e]; exact hM)
theorem Kx.below {X : Nat → Prop} {B : Nat} {w w' : World} (h : Kx X w w') (hX : ∀ j, X j → B ≤ j) (hB : B ≤ w.heap.size) : Below B w w' :=
  ⟨h.os, h.tape, h.output, h.size, fun k hk => h.block k (by omega) (fun e => by have := hX k e; omega)⟩
theorem Rds.at {A : Nat → Prop} {w : World} {a : Option Addr} {n c : Nat} {xs : List Int} (h : Rds A w (.slice a n c) xs) {k : Nat} (hk : k < xs.length) : ∃ b o, a = some ⟨b, o, none⟩ ∧ A b ∧ b < w.heap.size ∧ w.cell? ⟨b, o + k, none⟩ = some (.int .i64 (xs.getD k 0)) := by
  obtain ⟨a2, c2, hv, _, h⟩ := h
  simp only [Value.slice.injEq] at hv
  obtain ⟨rfl, _, rfl⟩ := hv
  exact h k hk

end Go.Proofs.YtlfbdjeojgbniaaGreatDoor

namespace Go.Proofs.YtlfbdjeojgbniaaGreatDoor
open Go.RowKit Go.Deep

set_option maxRecDepth 100000 in
set_option maxHeartbeats 2000000 in
theorem works_any (v : Value) (ts : List (Int × List Int)) (w : World) (hp : PlanAt w v ts) (h30 : ts.length ≤ 30) :
    Calls Tryz.prog 81 #[v] w fun e w' => e = .returned (.slice (some ⟨w.heap.size, 0, none⟩) ts.length ts.length) ∧ w'.rowIs w.heap.size 3 ts.length (intRow (wkOf ts)) ∧ Below w.heap.size w w' := by
  obtain ⟨hl, a, c, rfl, hpc⟩ := hp
  have hmk := fun wx => run_make_row' (P := Tryz.prog) 73 3 (.int .i64 0) 8 Tryz.underlying73 Tryz.info3 rfl .i64 .i64 ts.length (by omega) (by omega) wx
  go_enter Tryz.func81, Tryz.ntmps81
  go_wp2
  clear hmk
  go_loopw [11] (fun s11 wr => ∃ m : Nat, m ≤ ts.length ∧ s11 = .int .i64 m ∧ Hid (wr.rowIs w.heap.size 3 ts.length (intRow (fun k => if k < m then wkOf ts k else 0))) ∧ Below w.heap.size w wr) (fun s11 _ => ts.length - (intOf s11).toNat)
  case atStart => exact ⟨0, Nat.zero_le _, rfl, (World.rowIs_made w (.int .i64 0) ts.length 3).congr (fun k _ => rfl), (Below.refl _ _).alloc (Nat.le_refl _) _⟩
  case round =>
    obtain ⟨m, hm, rfl, hrow, hB⟩ := hrel
    by_cases hml : m < ts.length
    · rcases hpc with rfl | ⟨b, o, rfl, hbl, hc⟩
      · simp at hml
      obtain ⟨hc1, nv, hc2, hin⟩ := hc m hml
      obtain ⟨a2, c2, rfl⟩ : ∃ a2 c2, nv = .slice a2 (needsOf ts m).length c2 := by
        obtain ⟨_, a2, c2, h, _⟩ := hin
        exact ⟨a2, c2, h⟩
      have hc1' := (hB.cell (p := ⟨b, o + m * 2, none⟩) hbl).trans hc1
      have hc2' := (hB.cell (p := ⟨b, o + m * 2 + 1, none⟩) hbl).trans hc2
      have HE : Hid (wkOf ts m = (ts.getD m (0, [])).1) := rfl
      clear hc hc1 hc2 hin
      generalize (ts.getD m (0, [])).1 = wk at *
      generalize (needsOf ts m).length = nl at *
      have hra := hrow.out.alloc (.cells #[.int .i64 wk, .slice a2 nl c2] 94)
      have hr0 := hrow.out
      have hfr := hra.frozen m
      have hce := hra.cell hml
      have HN : Hid (((wr.setCell ⟨w.heap.size, m, none⟩ (.int .i64 wk)).alloc (.cells #[.int .i64 wk, .slice a2 nl c2] 94)).rowIs w.heap.size 3 ts.length (intRow (fun k => if k < m + 1 then wkOf ts k else 0))) := by
        refine ((row_upd hr0).alloc _).congr (fun k hk => ?_)
        unfold intRow upd
        dsimp only
        by_cases e : k = m
        · subst e; rw [if_pos rfl, if_pos (by omega), HE.out]
        · rw [if_neg e]
          by_cases e2 : k < m
          · rw [if_pos e2, if_pos (by omega)]
          · rw [if_neg e2, if_neg (by omega)]
      have hB2 : Below w.heap.size w ((wr.setCell ⟨w.heap.size, m, none⟩ (.int .i64 wk)).alloc (.cells #[.int .i64 wk, .slice a2 nl c2] 94)) := (hB.setCell (p := ⟨w.heap.size, m, none⟩) (Nat.le_refl _) _).alloc (by simp; exact hB.size) _
      unfold intRow at hce
      have hlt := hrow.out.lt
      clear hra hrow hr0
      go_wp2
      go_roundw
      case rel => exact ⟨m + 1, by omega, by go_num, HN, hB2⟩
      case measure => simp [intOf]; omega
    · have hke : m = ts.length := by omega
      clear hpc
      have HR : Hid (wr.rowIs w.heap.size 3 ts.length (intRow (wkOf ts))) := hrow.out.congr (fun k hk => by unfold intRow; dsimp only; rw [if_pos (by omega)])
      clear hrow
      subst hke
      go_wp2
      go_ret
      exact ⟨rfl, HR.out, hB⟩

theorem enters20 : ∀ args w, (callFunc 115 args).run Tryz.prog w = .ok (.enter 115 args) w := enters_of Tryz.func115 (by kernel_rfl) rfl
theorem und_any (L : Nat → Int) (n N : Nat) (a : Addr) (y : Int) (w : World) (hc : w.cell? a = some (.slice (some ⟨N, 0, none⟩) n n)) (hrow : w.rowIs N 3 n (intRow L)) (_ : n ≤ 30) (h0 : 0 ≤ y) (h1 : y < n) :
    Calls Tryz.prog 115 (#[.int .i64 y] ++ #[.pointer (some a)]) w fun e w' => e = .returned (.bool (undB L y)) ∧ w' = w := by
  obtain ⟨k, rfl⟩ := Int.eq_ofNat_of_zero_le h0
  show Calls Tryz.prog 115 #[.int .i64 k, .pointer (some a)] w _
  have hk : k < n := by omega
  have hcell := hrow.cell hk
  have hlt := hrow.lt
  unfold intRow at hcell
  unfold undB
  rw [Int.toNat_natCast]
  generalize L k = x at *
  clear hrow
  by_cases hx : 0 < x
  all_goals
    go_enter Tryz.func115, Tryz.ntmps115
    go_wp2
    go_ret
    exact ⟨ret_bool (by simp [hx]), rfl⟩

theorem one_rds (w : World) (x : Int) : Rds (fun _ => True) (w.alloc (.cells #[.int .i64 x] 3)) (.slice (some ⟨w.heap.size, 0, none⟩) 1 1) [x] :=
  ⟨_, _, rfl, Nat.le_refl _, fun k hk => ⟨w.heap.size, 0, rfl, trivial, by simp, by
    have hk0 : k = 0 := by simp at hk; omega
    subst hk0
    unfold World.cell?
    dsimp only
    rw [blk_alloc_new]
    rfl⟩⟩
theorem RowI.later {b : Nat} {w w' : World} {v : Value} {zs : List Int} (h : RowI b w v zs) (hb : Below w.heap.size w w') : RowI b w' v zs := h.of_blocks (fun _ e => hb.block _ (h.low e).2)

set_option maxRecDepth 100000 in
set_option maxHeartbeats 2000000 in
theorem ready_any (v : Value) (ts : List (Int × List Int)) (L : Nat → Int) (N : Nat) (w : World) (hp : PlanAt w v ts) (hrow : w.rowIs N 3 ts.length (intRow L)) (hr : InRange ts) (h30 : ts.length ≤ 30) :
    Calls Tryz.prog 82 #[v, .slice (some ⟨N, 0, none⟩) ts.length ts.length] w fun e w' => (∃ rv, e = .returned rv ∧ RowI w.heap.size w' rv (intsOf (rdyTo ts L ts.length))) ∧ Below w.heap.size w w' := by
  have HP : Hid (PlanAt w v ts) := hp
  obtain ⟨hl, a, c, rfl, hpc⟩ := hp
  have hbw : Below w.heap.size w (w.alloc (.cells #[.slice (some ⟨N, 0, none⟩) ts.length ts.length] 73)) := (Below.refl _ _).alloc (Nat.le_refl _) _
  have hbox : (w.alloc (.cells #[.slice (some ⟨N, 0, none⟩) ts.length ts.length] 73)).cell? ⟨w.heap.size, 0, none⟩ = some (.slice (some ⟨N, 0, none⟩) ts.length ts.length) := by
    unfold World.cell?
    dsimp only
    rw [blk_alloc_new]
    rfl
  have hrw := hrow.alloc (.cells #[.slice (some ⟨N, 0, none⟩) ts.length ts.length] 73)
  have hsz : (w.alloc (.cells #[.slice (some ⟨N, 0, none⟩) ts.length ts.length] 73)).heap.size = w.heap.size + 1 := by simp
  have hN := hrow.lt
  clear hpc hrow
  go_enter Tryz.func82, Tryz.ntmps82
  go_wp2
  obtain ⟨W, hW⟩ : ∃ W, W = w.alloc (.cells #[.slice (some ⟨N, 0, none⟩) ts.length ts.length] 73) := ⟨_, rfl⟩
  obtain ⟨B, hB⟩ : ∃ B, B = w.heap.size := ⟨_, rfl⟩
  rw [← hW] at hbw hbox hrw hsz ⊢
  have HB : Hid (B = w.heap.size) := hB
  rw [← hB] at hbox ⊢
  have hBW : B < W.heap.size := by omega
  have HRW : Hid (W.rowIs N 3 ts.length (intRow L)) := hrw
  have HBX : Hid (W.cell? ⟨B, 0, none⟩ = some (.slice (some ⟨N, 0, none⟩) ts.length ts.length)) := hbox
  have HBW : Hid (Below w.heap.size w W) := hbw
  have HS : Hid (W.heap.size = w.heap.size + 1) := hsz
  clear hW hB hbw hrw hbox hsz
  go_loopw [6, 12] (fun s6 s12 wr => ∃ k : Nat, k ≤ ts.length ∧ s12 = .int .i64 k ∧ Hid (RowI W.heap.size wr s6 (intsOf (rdyTo ts L k))) ∧ Below W.heap.size W wr) (fun _ s12 _ => ts.length - (intOf s12).toNat)
  case atStart => exact ⟨0, Nat.zero_le _, rfl, RowI.nil _ _, Below.refl _ _⟩
  case round =>
    obtain ⟨k, hk, rfl, hR, hb⟩ := hrel
    obtain ⟨la, lc, rfl⟩ := hR.out.shape
    have hrow : wr.rowIs N 3 ts.length (intRow L) := HRW.out.of_block (hb.block _ (by have := HS.out; omega))
    have hbox : wr.cell? ⟨B, 0, none⟩ = some (.slice (some ⟨N, 0, none⟩) ts.length ts.length) := (hb.cell (p := ⟨B, 0, none⟩) hBW).trans HBX.out
    by_cases hkl : k < ts.length
    · have hpw := (HP.out.later HBW.out).later hb
      obtain ⟨_, a', c', hva, hpc⟩ := hpw
      obtain ⟨rfl, -, rfl⟩ : a = a' ∧ True ∧ c = c' := by simp at hva; exact ⟨hva.1, trivial, hva.2⟩
      clear hva
      rcases hpc with h | ⟨b, o, rfl, hbl, hc⟩
      · subst h; simp at hkl
      obtain ⟨hc1, nv, hc2, hin⟩ := hc k hkl
      obtain ⟨a2, c2, rfl⟩ : ∃ a2 c2, nv = .slice a2 (needsOf ts k).length c2 := by
        obtain ⟨_, a2, c2, h, _⟩ := hin
        exact ⟨a2, c2, h⟩
      clear hc
      have HT : Hid (rdyTo ts L (k + 1) = rdyTo ts L k ++ if rdyB ts L k then [k] else []) := rdyTo_succ ts L k
      have hba : Below wr.heap.size wr (wr.alloc (.cells #[.int .i64 (ts.getD k (0, [])).1, .slice a2 (needsOf ts k).length c2] 94)) := (Below.refl _ _).alloc (Nat.le_refl _) _
      have hin2 := hin.later hba
      have hrow2 := hrow.alloc (.cells #[.int .i64 (ts.getD k (0, [])).1, .slice a2 (needsOf ts k).length c2] 94)
      have hbox2 := (hba.cell (p := ⟨B, 0, none⟩) (by show B < _; have := hb.size; omega)).trans hbox
      have hund := fun y (h0 : 0 ≤ y) (h1 : y < (ts.length : Int)) => und_any L ts.length N ⟨B, 0, none⟩ y _ hbox2 hrow2 h30 h0 h1
      have hcf := containsFunc_any _ (needsOf ts k) 115 #[.pointer (some ⟨B, 0, none⟩)] (undB L) _ hin2 ⟨enters20, fun x hx => hund x (hr k hkl x hx).1 (hr k hkl x hx).2⟩
      have hu := hund (k : Int) (by omega) (by omega)
      have HB2 : Hid (Below wr.heap.size wr (wr.alloc (.cells #[.int .i64 (ts.getD k (0, [])).1, .slice a2 (needsOf ts k).length c2] 94))) := hba
      have hua : undB L (k : Int) = decide (0 < L k) := by unfold undB; rw [Int.toNat_natCast]
      rw [hua] at hu
      have hu : Calls Tryz.prog 115 #[.int .i64 k, .pointer (some ⟨B, 0, none⟩)] _ _ := hu
      have hsb := hb.size
      have hrb : rdyB ts L k = (decide (0 < L k) && !(needsOf ts k).any (undB L)) := rfl
      have hlen : (intsOf (rdyTo ts L k)).length ≤ 30 := by rw [intsOf_length]; have := rdyTo_len ts L k; omega
      have HR : Hid (∀ wx, Below wr.heap.size wr wx → RowI W.heap.size wx (.slice la (intsOf (rdyTo ts L k)).length lc) (intsOf (rdyTo ts L k))) := fun wx hx => hR.out.later hx
      have HRN : Hid (rdyB ts L k = false → intsOf (rdyTo ts L (k + 1)) = intsOf (rdyTo ts L k)) := fun e => by rw [HT.out, e]; simp
      have HRY : Hid (rdyB ts L k = true → intsOf (rdyTo ts L (k + 1)) = intsOf (rdyTo ts L k) ++ [(k : Int)]) := fun e => by rw [HT.out, e]; simp [intsOf]
      rw [hrb] at HRN HRY
      clear hR HT hund hrow hrow2 hbox hbox2 hin hin2 hba hrb hua
      generalize (ts.getD k (0, [])).1 = wk at *
      generalize (needsOf ts k).any (undB L) = ab at *
      generalize (needsOf ts k).length = nl at *
      generalize hxs : intsOf (rdyTo ts L k) = l at *
      clear hxs
      cases hd : decide (0 < L k)
      · rw [hd] at HRN hu
        have e := HRN.out (by simp)
        have HE : Hid (intsOf (rdyTo ts L (k + 1)) = l) := e
        clear e HRN HRY hd hcf
        go_wp2_with (first | (go_at_call 115; refine hu.mono ?_; clear hu; rintro e w' ⟨rfl, rfl⟩))
        go_roundw
        case rel => exact ⟨k + 1, by omega, by go_num, by show RowI _ _ _ _; rw [HE.out]; exact HR.out _ HB2.out, hb.trans (HB2.out.mono hsb)⟩
        case measure => simp [intOf]; omega
      · rw [hd] at HRN HRY hu
        cases ab
        · have e := HRY.out (by simp)
          have HE : Hid (intsOf (rdyTo ts L (k + 1)) = l ++ [(k : Int)]) := e
          clear e HRN HRY hd
          have hoa := (HR.out _ HB2.out).alloc (.cells #[.int .i64 k] 3)
          have hba2 : Below W.heap.size W ((wr.alloc (.cells #[.int .i64 wk, .slice a2 nl c2] 94)).alloc (.cells #[.int .i64 k] 3)) := (hb.trans (HB2.out.mono hsb)).alloc (by simp; omega) _
          have HO : Hid (Rds (fun _ => True) ((wr.alloc (.cells #[.int .i64 wk, .slice a2 nl c2] 94)).alloc (.cells #[.int .i64 k] 3)) (.slice (some ⟨wr.heap.size + 1, 0, none⟩) 1 1) [(k : Int)]) := by
            have := one_rds (wr.alloc (.cells #[.int .i64 wk, .slice a2 nl c2] 94)) k
            rw [nblk_alloc] at this
            exact this
          go_wp2_with (first | (go_at_call 115; refine hu.mono ?_; clear hu; rintro e w' ⟨rfl, rfl⟩) | (go_at_call 111; refine hcf.mono ?_; clear hcf; rintro e w' ⟨rfl, rfl⟩) | (at_builtin; refine wpList_append_rows rfl (.tmp 27) (.tmp 29) rfl W.heap.size (fun _ => True) (.slice la l.length lc) (.slice (some ⟨wr.heap.size + 1, 0, none⟩) 1 1) l [(k : Int)] rfl rfl hoa HO.out (by simp; omega) (by simp; omega) ?_; intro v2 w2 hown2 hgr2 hat2))
          have hb2 : Below W.heap.size W w2 := hba2.grown hgr2 (by simp; omega) (fun j e => (hoa.low e).1)
          have HN : Hid (RowI W.heap.size w2 v2 (intsOf (rdyTo ts L (k + 1)))) := by show RowI _ _ _ _; rw [HE.out]; exact hown2
          clear hown2 hgr2 hat2 hoa HO HR hba2
          go_wp2
          go_roundw
          case rel => exact ⟨k + 1, by omega, by go_num, HN, hb2⟩
          case measure => simp [intOf]; omega
        · have e := HRN.out (by simp)
          have HE : Hid (intsOf (rdyTo ts L (k + 1)) = l) := e
          clear e HRN HRY hd
          go_wp2_with (first | (go_at_call 115; refine hu.mono ?_; clear hu; rintro e w' ⟨rfl, rfl⟩) | (go_at_call 111; refine hcf.mono ?_; clear hcf; rintro e w' ⟨rfl, rfl⟩))
          go_roundw
          case rel => exact ⟨k + 1, by omega, by go_num, by show RowI _ _ _ _; rw [HE.out]; exact HR.out _ HB2.out, hb.trans (HB2.out.mono hsb)⟩
          case measure => simp [intOf]; omega
    · have hke : k = ts.length := by omega
      have HE : Hid (RowI w.heap.size wr (.slice la (intsOf (rdyTo ts L k)).length lc) (intsOf (rdyTo ts L ts.length))) := by
        have := hR.out.mono (b' := w.heap.size) (by have := HS.out; omega)
        rw [hke] at this ⊢; exact this
      have hbe : Below w.heap.size w wr := HBW.out.trans (hb.mono (by have := HS.out; omega))
      clear hR hke
      go_wp2
      go_ret
      exact ⟨⟨_, rfl, HE.out⟩, hbe⟩
end Go.Proofs.YtlfbdjeojgbniaaGreatDoor
