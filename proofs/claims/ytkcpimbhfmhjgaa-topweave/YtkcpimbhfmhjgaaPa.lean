/- Plain: a plan that is done step by step, by so many hands. No word of the program. -/
import Derived.Test.YtkcpimbhfmhjgaaOrdr
import Derived.Test.YtkcpimbhfmhjgaaDepa
namespace Go.Proofs.Ytkcpimbhfmhjgaa

/-- By what is left of each: is there work left? -/
def undB (L : Nat → Int) (y : Int) : Bool := decide (0 < L y.toNat)
/-- Work is left of it, and none of all that it needs. -/
def rdyB (ts : List (Int × List Int)) (L : Nat → Int) (k : Nat) : Bool := decide (0 < L k) && !(needsOf ts k).any (undB L)
/-- Of the first m tasks those that are ready. -/
def rdyTo (ts : List (Int × List Int)) (L : Nat → Int) (m : Nat) : List Nat := (List.range m).filter (rdyB ts L)
theorem rdyTo_succ (ts : List (Int × List Int)) (L : Nat → Int) (m : Nat) : rdyTo ts L (m + 1) = rdyTo ts L m ++ if rdyB ts L m then [m] else [] := by
  unfold rdyTo
  rw [List.range_succ, List.filter_append]
  cases h : rdyB ts L m <;> simp [h]
theorem mem_rdyTo {ts : List (Int × List Int)} {L : Nat → Int} {m k : Nat} : k ∈ rdyTo ts L m ↔ k < m ∧ rdyB ts L k = true := by simp [rdyTo]
theorem rdyTo_len (ts : List (Int × List Int)) (L : Nat → Int) (m : Nat) : (rdyTo ts L m).length ≤ m := by
  have := List.length_filter_le (rdyB ts L) (List.range m)
  simpa [rdyTo] using this
theorem rdyTo_nodup (ts : List (Int × List Int)) (L : Nat → Int) (m : Nat) : (rdyTo ts L m).Nodup := List.Pairwise.filter _ List.nodup_range

/-- One unit less for each of them, one by one. -/
def decs (L : Nat → Int) (l : List Nat) : Nat → Int := l.foldl (fun f x => upd f x (f x - 1)) L
theorem decs_snoc (L : Nat → Int) (l : List Nat) (x : Nat) : decs L (l ++ [x]) = upd (decs L l) x (decs L l x - 1) := by simp [decs]
theorem decs_at {l : List Nat} (hd : l.Nodup) (L : Nat → Int) (x : Nat) : decs L l x = if x ∈ l then L x - 1 else L x := by
  induction l generalizing L with
  | nil => simp [decs]
  | cons a l ih =>
    have e : decs L (a :: l) = decs (upd L a (L a - 1)) l := rfl
    rw [e, ih (List.nodup_cons.1 hd).2]
    by_cases h : x = a
    · subst h; simp [(List.nodup_cons.1 hd).1, upd]
    · simp [h, upd]

/-- The first m together. -/
def sumTo (L : Nat → Int) : Nat → Int
  | 0 => 0
  | k + 1 => sumTo L k + L k
theorem sumTo_past (L : Nat → Int) (x : Nat) (v : Int) (n : Nat) (h : n ≤ x) : sumTo (upd L x v) n = sumTo L n := by
  induction n with
  | zero => rfl
  | succ n ih => unfold sumTo; rw [ih (by omega), upd_ne _ _ (by omega)]
theorem sumTo_upd (L : Nat → Int) (x : Nat) (v : Int) (n : Nat) (h : x < n) : sumTo (upd L x v) n = sumTo L n - L x + v := by
  induction n with
  | zero => omega
  | succ n ih =>
    unfold sumTo
    by_cases e : x = n
    · subst e; rw [sumTo_past _ _ _ _ (Nat.le_refl _), upd_at]; omega
    · rw [ih (by omega), upd_ne _ _ (by omega)]; omega
theorem sumTo_decs (l : List Nat) (n : Nat) (h : ∀ x, x ∈ l → x < n) : ∀ L, sumTo (decs L l) n = sumTo L n - l.length := by
  induction l with
  | nil => intro L; simp [decs]
  | cons a l ih =>
    intro L
    have e : decs L (a :: l) = decs (upd L a (L a - 1)) l := rfl
    rw [e, ih (fun x hx => h x (List.mem_cons_of_mem _ hx)), sumTo_upd _ _ _ _ (h a (List.mem_cons_self ..))]
    simp only [List.length_cons]; omega
theorem sumTo_nonneg (L : Nat → Int) (h : ∀ x, 0 ≤ L x) (n : Nat) : 0 ≤ sumTo L n := by
  induction n with
  | zero => exact Int.le_refl _
  | succ n ih => unfold sumTo; have := h n; omega
theorem sumTo_zero (L : Nat → Int) (n : Nat) (h : ∀ x, x < n → L x = 0) : sumTo L n = 0 := by
  induction n with
  | zero => rfl
  | succ n ih => unfold sumTo; rw [ih (fun x hx => h x (by omega)), h n (by omega)]; rfl
theorem workTo_sum (ts : List (Int × List Int)) (n : Nat) : workTo ts n = sumTo (wkOf ts) n := by
  induction n with
  | zero => rfl
  | succ n ih => unfold workTo sumTo; rw [ih]

/-- Who gets work in a step. -/
def nowL (ts : List (Int × List Int)) (h : Nat) (L : Nat → Int) : List Nat := (rdyTo ts L ts.length).take h
/-- What is left ahead of a step. -/
def leftAt (ts : List (Int × List Int)) (h : Nat) : Nat → Nat → Int
  | 0 => wkOf ts
  | s + 1 => decs (leftAt ts h s) (nowL ts h (leftAt ts h s))
/-- Bits of a step: by hand. -/
def bitsOf (s : Nat) (l : List Nat) : List (Nat × Nat × Nat) := l.mapIdx (fun h i => (s, h, i))
/-- Bits ahead of a step. -/
def bitsTo (ts : List (Int × List Int)) (h : Nat) : Nat → List (Nat × Nat × Nat)
  | 0 => []
  | s + 1 => bitsTo ts h s ++ bitsOf s (nowL ts h (leftAt ts h s))
theorem bitsOf_length (s : Nat) (l : List Nat) : (bitsOf s l).length = l.length := by simp [bitsOf]
theorem bitsOf_snoc (s : Nat) (l : List Nat) (x : Nat) : bitsOf s (l ++ [x]) = bitsOf s l ++ [(s, l.length, x)] := by simp [bitsOf, List.mapIdx_concat]
theorem bitsOf_step {s : Nat} {l : List Nat} {b : Nat × Nat × Nat} (h : b ∈ bitsOf s l) : b.1 = s := by
  unfold bitsOf at h
  rw [List.mem_mapIdx] at h
  obtain ⟨_, _, rfl⟩ := h
  rfl
theorem nowL_nodup (ts : List (Int × List Int)) (h : Nat) (L : Nat → Int) : (nowL ts h L).Nodup := (rdyTo_nodup ts L ts.length).sublist (List.take_sublist _ _)
theorem nowL_mem {ts : List (Int × List Int)} {h : Nat} {L : Nat → Int} {x : Nat} (hx : x ∈ nowL ts h L) : x < ts.length ∧ rdyB ts L x = true := mem_rdyTo.1 (List.mem_of_mem_take hx)
theorem rdyB_pos {ts : List (Int × List Int)} {L : Nat → Int} {x : Nat} (h : rdyB ts L x = true) : 0 < L x := by
  unfold rdyB at h
  simp only [Bool.and_eq_true, decide_eq_true_eq] at h
  exact h.1
theorem nowL_len {ts : List (Int × List Int)} {h : Nat} {L : Nat → Int} : (nowL ts h L).length = min h (rdyTo ts L ts.length).length := by simp [nowL]
theorem nowL_lt {ts : List (Int × List Int)} {h : Nat} {L : Nat → Int} (hh : 1 ≤ h) (hn : rdyTo ts L ts.length ≠ []) : 0 < (nowL ts h L).length := by
  have := List.length_pos_iff.2 hn
  rw [nowL_len]; omega

/-- Works as they may be. -/
def Works (ts : List (Int × List Int)) : Prop := ts.length ≤ 30 ∧ ∀ x, x < ts.length → 1 ≤ wkOf ts x ∧ wkOf ts x ≤ 20
theorem wkOf_past {ts : List (Int × List Int)} {x : Nat} (h : ts.length ≤ x) : wkOf ts x = 0 := by
  unfold wkOf
  rw [List.getD_eq_getElem?_getD, List.getElem?_eq_none h]
  rfl
theorem leftAt_bound {ts : List (Int × List Int)} (hw : Works ts) (h s x : Nat) : 0 ≤ leftAt ts h s x ∧ leftAt ts h s x ≤ 20 := by
  induction s generalizing x with
  | zero =>
    by_cases hx : x < ts.length
    · have := hw.2 x hx
      show 0 ≤ wkOf ts x ∧ wkOf ts x ≤ 20
      omega
    · show 0 ≤ wkOf ts x ∧ wkOf ts x ≤ 20
      rw [wkOf_past (by omega)]; omega
  | succ s ih =>
    have h1 := ih x
    show 0 ≤ decs _ _ x ∧ decs _ _ x ≤ 20
    rw [decs_at (nowL_nodup _ _ _)]
    split
    · rename_i hm
      have := rdyB_pos (nowL_mem hm).2
      omega
    · exact h1
theorem sum_bits (ts : List (Int × List Int)) (h s : Nat) : sumTo (leftAt ts h s) ts.length + (bitsTo ts h s).length = workTo ts ts.length := by
  induction s with
  | zero => rw [workTo_sum]; simp [leftAt, bitsTo]
  | succ s ih =>
    show sumTo (decs _ _) _ + ((bitsTo ts h s ++ bitsOf s _).length : Nat) = _
    rw [sumTo_decs _ _ (fun x hx => (nowL_mem hx).1), List.length_append, bitsOf_length]
    omega
theorem Works.all {ts : List (Int × List Int)} (hw : Works ts) : 0 ≤ workTo ts ts.length ∧ workTo ts ts.length ≤ 600 := by
  have := workTo_bound hw.2 ts.length (Nat.le_refl _)
  have := hw.1
  omega
theorem bits_len {ts : List (Int × List Int)} (hw : Works ts) (h s : Nat) : (bitsTo ts h s).length ≤ 600 := by
  have h1 := sum_bits ts h s
  have h2 := sumTo_nonneg (leftAt ts h s) (fun x => (leftAt_bound hw h s x).1) ts.length
  have h3 := hw.all
  omega

/-- In each of the steps ahead there was work to do. -/
def Busy (ts : List (Int × List Int)) (h s : Nat) : Prop := ∀ k, k < s → rdyTo ts (leftAt ts h k) ts.length ≠ []
/-- Here it ends. -/
def Stops (ts : List (Int × List Int)) (h s : Nat) : Prop := Busy ts h s ∧ rdyTo ts (leftAt ts h s) ts.length = []
theorem Busy.zero (ts : List (Int × List Int)) (h : Nat) : Busy ts h 0 := fun k hk => by omega
theorem Busy.succ {ts : List (Int × List Int)} {h s : Nat} (hb : Busy ts h s) (hn : rdyTo ts (leftAt ts h s) ts.length ≠ []) : Busy ts h (s + 1) := fun k hk => by
  by_cases e : k = s
  · subst e; exact hn
  · exact hb k (by omega)
theorem Busy.init {ts : List (Int × List Int)} {h s : Nat} (hb : Busy ts h (s + 1)) : Busy ts h s := fun k hk => hb k (by omega)
theorem Busy.len {ts : List (Int × List Int)} {h s : Nat} (hh : 1 ≤ h) (hb : Busy ts h s) : s ≤ (bitsTo ts h s).length := by
  induction s with
  | zero => omega
  | succ s ih =>
    have := ih hb.init
    have := nowL_lt hh (hb s (by omega))
    show _ ≤ (bitsTo ts h s ++ bitsOf s _).length
    rw [List.length_append, bitsOf_length]
    omega
theorem Busy.le {ts : List (Int × List Int)} {h s : Nat} (hw : Works ts) (hh : 1 ≤ h) (hb : Busy ts h s) : s ≤ 600 := Nat.le_trans (hb.len hh) (bits_len hw h s)
theorem Stops.le {ts : List (Int × List Int)} {h s : Nat} (hw : Works ts) (hh : 1 ≤ h) (hs : Stops ts h s) : s ≤ 600 := hs.1.le hw hh
theorem Stops.det {ts : List (Int × List Int)} {h s s' : Nat} (hs : Stops ts h s) (hs' : Stops ts h s') : s = s' := by
  rcases Nat.lt_trichotomy s s' with h1 | h1 | h1
  · exact absurd hs.2 (hs'.1 s h1)
  · exact h1
  · exact absurd hs'.2 (hs.1 s' h1)
theorem stops_exists {ts : List (Int × List Int)} {h : Nat} (hw : Works ts) (hh : 1 ≤ h) : ∃ s, Stops ts h s := by
  have key : ∀ c s, Busy ts h s → 600 - s = c → ∃ s, Stops ts h s := by
    intro c
    induction c with
    | zero =>
      intro s hb hc
      by_cases e : rdyTo ts (leftAt ts h s) ts.length = []
      · exact ⟨s, hb, e⟩
      · have := (hb.succ e).le hw hh; omega
    | succ c ih =>
      intro s hb hc
      by_cases e : rdyTo ts (leftAt ts h s) ts.length = []
      · exact ⟨s, hb, e⟩
      · exact ih (s + 1) (hb.succ e) (by omega)
  exact key _ 0 (Busy.zero ts h) rfl
theorem Stops.later {ts : List (Int × List Int)} {h s : Nat} (hs : Stops ts h s) (k : Nat) : leftAt ts h (s + k) = leftAt ts h s ∧ bitsTo ts h (s + k) = bitsTo ts h s := by
  induction k with
  | zero => exact ⟨rfl, rfl⟩
  | succ k ih =>
    have e : nowL ts h (leftAt ts h (s + k)) = [] := by rw [ih.1]; unfold nowL; rw [hs.2]; simp
    constructor
    · show decs (leftAt ts h (s + k)) (nowL ts h (leftAt ts h (s + k))) = _
      rw [e]; exact ih.1
    · show bitsTo ts h (s + k) ++ bitsOf (s + k) (nowL ts h (leftAt ts h (s + k))) = _
      rw [e, ih.2]; simp [bitsOf]
theorem Stops.at_end {ts : List (Int × List Int)} {h s : Nat} (hs : Stops ts h s) {k : Nat} (hk : s ≤ k) : bitsTo ts h k = bitsTo ts h s := by
  have := (hs.later (k - s)).2
  rwa [show s + (k - s) = k by omega] at this

/-- The last bit's step tells how many there are. -/
theorem Busy.last {ts : List (Int × List Int)} {h s : Nat} (hh : 1 ≤ h) (hb : Busy ts h s) (hs : 0 < (bitsTo ts h s).length) : ((bitsTo ts h s).getD ((bitsTo ts h s).length - 1) (0, 0, 0)).1 + 1 = s := by
  cases s with
  | zero => simp [bitsTo] at hs
  | succ s =>
    have hp := nowL_lt hh (hb s (by omega))
    have e : bitsTo ts h (s + 1) = bitsTo ts h s ++ bitsOf s (nowL ts h (leftAt ts h s)) := rfl
    rw [e] at hs ⊢
    have hl : 0 < (bitsOf s (nowL ts h (leftAt ts h s))).length := by rw [bitsOf_length]; exact hp
    have hm : ∀ b, b ∈ bitsOf s (nowL ts h (leftAt ts h s)) → b.1 = s := fun b hb => bitsOf_step hb
    generalize bitsOf s (nowL ts h (leftAt ts h s)) = l at *
    have hk : (bitsTo ts h s ++ l).getD ((bitsTo ts h s ++ l).length - 1) (0, 0, 0) ∈ l := by
      rw [List.getD_eq_getElem?_getD, List.getElem?_append_right (by rw [List.length_append]; omega), List.getElem?_eq_getElem (by rw [List.length_append]; omega)]
      exact List.getElem_mem _
    rw [hm _ hk]
theorem Busy.none {ts : List (Int × List Int)} {h s : Nat} (hh : 1 ≤ h) (hb : Busy ts h s) (hs : (bitsTo ts h s).length = 0) : s = 0 := by
  have := hb.len hh; omega

/-- How many steps bits take: one more than the greatest. -/
def stepsOf (l : List (Nat × Nat × Nat)) : Nat := l.foldl (fun n b => max n (b.1 + 1)) 0
theorem stepsOf_snoc (l : List (Nat × Nat × Nat)) (b : Nat × Nat × Nat) : stepsOf (l ++ [b]) = max (stepsOf l) (b.1 + 1) := by simp [stepsOf]
theorem steps_same (s : Nat) (l : List (Nat × Nat × Nat)) (h : ∀ b, b ∈ l → b.1 = s) (n : Nat) : l.foldl (fun n b => max n (b.1 + 1)) n = if l = [] then n else max n (s + 1) := by
  induction l generalizing n with
  | nil => simp
  | cons b l ih =>
    rw [List.foldl_cons, ih (fun b hb => h b (List.mem_cons_of_mem _ hb)), h b (List.mem_cons_self ..)]
    split
    · simp
    · simp
theorem Busy.steps {ts : List (Int × List Int)} {h s : Nat} (hh : 1 ≤ h) (hb : Busy ts h s) : stepsOf (bitsTo ts h s) = s := by
  induction s with
  | zero => rfl
  | succ s ih =>
    have hp := nowL_lt hh (hb s (by omega))
    have e : bitsTo ts h (s + 1) = bitsTo ts h s ++ bitsOf s (nowL ts h (leftAt ts h s)) := rfl
    have ih := ih hb.init
    unfold stepsOf at ih ⊢
    rw [e, List.foldl_append, ih, steps_same s _ (fun b hb => bitsOf_step hb), if_neg (fun e => by have := bitsOf_length s (nowL ts h (leftAt ts h s)); rw [e] at this; simp at this; omega)]
    omega

/-- Where no ring is, and nobody is ready, nothing is left. -/
theorem rdy_none {ts : List (Int × List Int)} {L : Nat → Int} (hr : InRange ts) (hno : ∀ j, j < ts.length → ¬ Reach ts j j) (h0 : ∀ x, 0 ≤ L x) (h : rdyTo ts L ts.length = []) : ∀ x, x < ts.length → L x = 0 := by
  have key := no_ring_empty ts hno (fun x => x < ts.length ∧ 0 < L x) (fun x ⟨hx, hp⟩ => by
    refine ⟨hx, ?_⟩
    have hn : rdyB ts L x = false := by
      cases e : rdyB ts L x with
      | false => rfl
      | true =>
        have := mem_rdyTo.2 ⟨hx, e⟩
        rw [h] at this
        simp at this
    unfold rdyB at hn
    simp only [hp, decide_true, Bool.true_and, Bool.not_eq_false'] at hn
    obtain ⟨y, hy, hu⟩ := List.any_eq_true.1 hn
    have := hr x hx y hy
    refine ⟨y.toNat, ?_, by omega, by simpa [undB] using hu⟩
    unfold Need
    rw [show ((y.toNat : Nat) : Int) = y by omega]
    exact hy)
  intro x hx
  have := h0 x
  have := key x
  by_cases e : 0 < L x
  · exact absurd ⟨hx, e⟩ this
  · omega

/-- One hand: as many steps as there is work. -/
theorem Stops.alone {ts : List (Int × List Int)} {s : Nat} (hw : Works ts) (hr : InRange ts) (hno : ∀ j, j < ts.length → ¬ Reach ts j j) (hs : Stops ts 1 s) : (s : Int) = workTo ts ts.length := by
  have hl : ∀ s, Busy ts 1 s → (bitsTo ts 1 s).length = s := by
    intro s
    induction s with
    | zero => intro _; rfl
    | succ s ih =>
      intro hb
      have hp := nowL_lt (Nat.le_refl 1) (hb s (by omega))
      have hq := nowL_len (ts := ts) (h := 1) (L := leftAt ts 1 s)
      have := ih hb.init
      show (bitsTo ts 1 s ++ bitsOf s _).length = _
      rw [List.length_append, bitsOf_length]
      omega
  have h1 := sum_bits ts 1 s
  rw [sumTo_zero _ _ (rdy_none hr hno (fun x => (leftAt_bound hw 1 s x).1) hs.2), hl s hs.1] at h1
  omega
end Go.Proofs.Ytkcpimbhfmhjgaa
