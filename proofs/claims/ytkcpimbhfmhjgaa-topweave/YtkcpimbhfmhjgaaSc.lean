/- Plain: tasks that are done unit by unit, by so many hands, nobody idle without need: how long that is (Graham, Brent). No word of the program. -/
import Derived.Test.YtkcpimbhfmhjgaaPa
import Derived.Test.YtkcpimbhfmhjgaaDepa
namespace Go.Proofs.Ytkcpimbhfmhjgaa

/-- What is left at each time, and who gets a unit then: only who is ready, no more than there are hands; and if fewer, all who are ready. -/
structure Sched (ts : List (Int × List Int)) (h : Nat) (L : Nat → Nat → Int) (run : Nat → List Nat) : Prop where
  zero : ∀ x, L 0 x = wkOf ts x
  step : ∀ t x, L (t + 1) x = if x ∈ run t then L t x - 1 else L t x
  rdy : ∀ t x, x ∈ run t → x < ts.length ∧ rdyB ts (L t) x = true
  nd : ∀ t, (run t).Nodup
  len : ∀ t, (run t).length ≤ h
  full : ∀ t, (run t).length < h → ∀ x, x < ts.length → rdyB ts (L t) x = true → x ∈ run t

/-- How many units were done ahead of a time. -/
def unitsTo (run : Nat → List Nat) : Nat → Nat
  | 0 => 0
  | t + 1 => unitsTo run t + (run t).length
/-- How many times ahead had less to do than there are hands. -/
def slackTo (run : Nat → List Nat) (h : Nat) : Nat → Nat
  | 0 => 0
  | t + 1 => slackTo run h t + if (run t).length < h then 1 else 0

/-- It ends there: nothing is left, and ahead of it something was. -/
structure Over (ts : List (Int × List Int)) (L : Nat → Nat → Int) (e : Nat) : Prop where
  none : ∀ x, x < ts.length → L e x = 0
  some : ∀ t, t < e → ∃ x, x < ts.length ∧ L t x ≠ 0

section
variable {ts : List (Int × List Int)} {h : Nat} {L : Nat → Nat → Int} {run : Nat → List Nat}

theorem Sched.bound (hS : Sched ts h L run) (hw : Works ts) (t x : Nat) : 0 ≤ L t x ∧ L t x ≤ 20 := by
  induction t generalizing x with
  | zero =>
    rw [hS.zero]
    by_cases hx : x < ts.length
    · have := hw.2 x hx; omega
    · rw [wkOf_past (by omega)]; omega
  | succ t ih =>
    have h1 := ih x
    rw [hS.step]
    split
    · rename_i hm
      have := rdyB_pos (hS.rdy t x hm).2
      omega
    · exact h1
theorem sumTo_marks (M : Nat → Int) (l : List Nat) (n : Nat) (hd : l.Nodup) (hl : ∀ x, x ∈ l → x < n) : sumTo (fun x => if x ∈ l then M x - 1 else M x) n = sumTo M n - l.length := by
  have e : (fun x => if x ∈ l then M x - 1 else M x) = decs M l := by
    funext x
    exact (decs_at hd M x).symm
  rw [e, sumTo_decs l n hl]
theorem Sched.units (hS : Sched ts h L run) (t : Nat) : sumTo (L t) ts.length + unitsTo run t = workTo ts ts.length := by
  induction t with
  | zero =>
    have e : L 0 = wkOf ts := funext hS.zero
    rw [workTo_sum, e]
    simp [unitsTo]
  | succ t ih =>
    have e : L (t + 1) = fun x => if x ∈ run t then L t x - 1 else L t x := funext (hS.step t)
    rw [e, sumTo_marks _ _ _ (hS.nd t) (fun x hx => (hS.rdy t x hx).1)]
    show _ + ((unitsTo run t + (run t).length : Nat) : Int) = _
    omega
theorem Sched.most (hS : Sched ts h L run) (t : Nat) : unitsTo run t ≤ t * h := by
  induction t with
  | zero => simp [unitsTo]
  | succ t ih =>
    have := hS.len t
    show unitsTo run t + (run t).length ≤ _
    rw [Nat.add_mul, Nat.one_mul]
    omega
theorem Sched.fall1 (hS : Sched ts h L run) (t x : Nat) : L t x - 1 ≤ L (t + 1) x ∧ L (t + 1) x ≤ L t x := by
  rw [hS.step]
  split <;> omega
theorem Sched.fall (hS : Sched ts h L run) (t x d : Nat) : L t x - d ≤ L (t + d) x ∧ L (t + d) x ≤ L t x := by
  induction d with
  | zero => simp
  | succ d ih =>
    have := hS.fall1 (t + d) x
    rw [← Nat.add_assoc]
    omega
/-- Who needs one that is not done has not begun, and does not begin then. -/
theorem Sched.waits (hS : Sched ts h L run) {k x : Nat} (hn : Need ts k x) : ∀ t, 0 < L t x → L t k = wkOf ts k ∧ L (t + 1) k = wkOf ts k := by
  have hstay : ∀ t, 0 < L t x → L (t + 1) k = L t k := by
    intro t hx
    rw [hS.step, if_neg]
    intro hm
    have := (hS.rdy t k hm).2
    unfold rdyB at this
    simp only [Bool.and_eq_true, Bool.not_eq_true', List.any_eq_false] at this
    have := this.2 _ hn
    unfold undB at this
    rw [Int.toNat_natCast] at this
    simp at this
    omega
  intro t
  induction t with
  | zero =>
    intro hx
    have h0 := hS.zero k
    exact ⟨h0, by rw [hstay 0 hx]; exact h0⟩
  | succ t ih =>
    intro hx
    have h0 := hS.fall1 t x
    have h1 := (ih (by omega)).2
    exact ⟨h1, by rw [hstay _ hx]; exact h1⟩
theorem Sched.tail_below (hS : Sched ts h L run) {e : Nat} {R T : Nat → Int} (hd : Deep ts R T) (he : ∀ x, x < ts.length → L e x = 0) :
    ∀ (c : Nat) x, x < ts.length → (T x).toNat = c → ∀ t, t ≤ e → 0 < L t x → L t x + (T x - wkOf ts x) ≤ (e : Int) - t := by
  intro c
  induction c using Nat.strongRecOn with
  | _ c ih =>
    intro x hx hc t ht hp
    have hend : ∀ y, y < ts.length → ∀ t, t ≤ e → L t y ≤ (e : Int) - t := fun y hy t ht => by
      have := hS.fall t y (e - t)
      rw [show t + (e - t) = e by omega, he y hy] at this
      omega
    rcases hd.teq x hx with h1 | ⟨k, hk, hn, h1⟩
    · have := hend x hx t ht
      omega
    · have hwx := (hd.wk x hx).1
      have hwk := (hd.wk k hk).1
      have htk := hd.twk k hk
      obtain ⟨m, hm⟩ := Int.eq_ofNat_of_zero_le (show 0 ≤ L t x by omega)
      have hf := hS.fall t x (m - 1)
      have hx1 : 0 < L (t + (m - 1)) x := by omega
      have hw := (hS.waits hn _ hx1).2
      rw [show t + (m - 1) + 1 = t + m by omega] at hw
      have hle : t + m ≤ e := by have := hend x hx t ht; omega
      have := ih (T k).toNat (by omega) k hk rfl (t + m) hle (by omega)
      omega
/-- While something is left somebody gets a unit. -/
theorem Sched.busy (hS : Sched ts h L run) (hw : Works ts) (hr : InRange ts) (hno : ∀ j, j < ts.length → ¬ Reach ts j j) (hh : 1 ≤ h) {t x : Nat} (hx : x < ts.length) (hp : L t x ≠ 0) : 0 < (run t).length := by
  by_cases e : (run t).length = 0
  · have hz := rdy_none (L := L t) hr hno (fun y => (hS.bound hw t y).1) (by
      cases hl : rdyTo ts (L t) ts.length with
      | nil => rfl
      | cons y r =>
        have hm : y ∈ rdyTo ts (L t) ts.length := by rw [hl]; exact List.mem_cons_self ..
        have h1 := mem_rdyTo.1 hm
        have := hS.full t (by omega) y h1.1 h1.2
        rw [List.eq_nil_of_length_eq_zero e] at this
        simp at this)
    exact absurd (hz x hx) hp
  · omega
theorem Sched.short (hS : Sched ts h L run) {R T : Nat → Int} (hw : Works ts) (hr : InRange ts) (hd : Deep ts R T) {e : Nat} (he : ∀ t, t < e → ∃ x, x < ts.length ∧ L t x ≠ 0) (t : Nat) (ht : t ≤ e) (hb : ∀ s, s < t → 0 < (run s).length) :
    (slackTo run h t : Int) ≤ maxTo T ts.length ∧ ∃ P : Nat → Int, (∀ x, x < ts.length → L t x ≤ P x) ∧ (∀ k, k < ts.length → ∀ y, Need ts k y → L t y + P k ≤ P y) ∧ ∀ x, x < ts.length → 0 < L t x → P x ≤ maxTo T ts.length - slackTo run h t := by
  induction t with
  | zero =>
    refine ⟨by have := maxTo_nonneg T ts.length; simpa [slackTo] using this, T, fun x hx => by rw [hS.zero]; exact hd.twk x hx, fun k hk y hy => by rw [hS.zero]; exact hd.tup k hk y hy, fun x hx _ => ?_⟩
    have := le_maxTo T hx
    simpa [slackTo] using this
  | succ t ih =>
    obtain ⟨h0, P, h1, h2, h3⟩ := ih (by omega) (fun s hs => hb s (by omega))
    by_cases hsh : (run t).length < h
    · have hsc : slackTo run h (t + 1) = slackTo run h t + 1 := by show slackTo run h t + _ = _; rw [if_pos hsh]
      obtain ⟨x0, hx0, hp0⟩ := he t (by omega)
      refine ⟨?_, fun x => if x ∈ run t then P x - 1 else P x, fun x hx => ?_, fun k hk y hy => ?_, fun x hx hp => ?_⟩
      · have := (hS.bound hw t x0).1
        have := h1 x0 hx0
        have := h3 x0 hx0 (by omega)
        rw [hsc]; omega
      · have := h1 x hx
        rw [hS.step]
        dsimp only
        split <;> omega
      · have hc := h2 k hk y hy
        rw [hS.step]
        dsimp only
        split <;> split <;> omega
      · have hst := hS.fall1 t x
        have hb3 := h3 x hx (by omega)
        rw [hsc]
        dsimp only
        by_cases hm : x ∈ run t
        · rw [if_pos hm]; omega
        · rw [if_neg hm]
          have hnr : rdyB ts (L t) x = false := by
            cases e : rdyB ts (L t) x with
            | false => rfl
            | true => exact absurd (hS.full t hsh x hx e) hm
          unfold rdyB at hnr
          have hpx : 0 < L t x := by omega
          simp only [hpx, decide_true, Bool.true_and, Bool.not_eq_false'] at hnr
          obtain ⟨y, hy, hu⟩ := List.any_eq_true.1 hnr
          have hyr := hr x hx y hy
          have hneed : Need ts x y.toNat := by
            unfold Need
            rw [show ((y.toNat : Nat) : Int) = y by omega]
            exact hy
          have hpy : 0 < L t y.toNat := by simpa [undB] using hu
          have := h2 x hx _ hneed
          have := h3 y.toNat (by omega) hpy
          omega
    · have hsc : slackTo run h (t + 1) = slackTo run h t := by show slackTo run h t + _ = _; rw [if_neg hsh]; rfl
      rw [hsc]
      refine ⟨h0, P, fun x hx => ?_, fun k hk y hy => ?_, fun x hx hp => ?_⟩
      · have := hS.fall1 t x; have := h1 x hx; omega
      · have := hS.fall1 t y; have := h2 k hk y hy; omega
      · have := hS.fall1 t x; exact h3 x hx (by omega)
theorem many_units {h : Nat} {run : Nat → List Nat} (hh : 1 ≤ h) (t : Nat) (hb : ∀ s, s < t → 0 < (run s).length) : t * h ≤ unitsTo run t + (h - 1) * slackTo run h t := by
  induction t with
  | zero => simp
  | succ t ih =>
    have h1 := ih (fun s hs => hb s (by omega))
    have h2 := hb t (by omega)
    show _ ≤ unitsTo run t + (run t).length + (h - 1) * (slackTo run h t + _)
    rw [Nat.add_mul, Nat.one_mul]
    split
    · rw [Nat.mul_add, Nat.mul_one]; omega
    · rw [Nat.add_zero]; omega

/-- How long it is: three bounds. -/
theorem Sched.long (hS : Sched ts h L run) {R T : Nat → Int} (hw : Works ts) (hr : InRange ts) (hno : ∀ j, j < ts.length → ¬ Reach ts j j) (hh : 1 ≤ h) (hd : Deep ts R T) {e : Nat} (ho : Over ts L e) :
    (unitsTo run e : Int) = workTo ts ts.length ∧ workTo ts ts.length ≤ (e : Int) * h ∧ maxTo T ts.length ≤ e ∧ (e : Int) * h ≤ workTo ts ts.length + ((h : Int) - 1) * maxTo T ts.length := by
  have hb : ∀ s, s < e → 0 < (run s).length := fun s hs => by
    obtain ⟨x, hx, hp⟩ := ho.some s hs
    exact hS.busy hw hr hno hh hx hp
  have h1 : (unitsTo run e : Int) = workTo ts ts.length := by
    have := hS.units e
    rw [sumTo_zero _ _ ho.none] at this
    omega
  have h2 := hS.most e
  have h2' : ((unitsTo run e : Nat) : Int) ≤ ((e * h : Nat) : Int) := by exact_mod_cast h2
  rw [Int.natCast_mul] at h2'
  refine ⟨h1, by omega, ?_, ?_⟩
  · refine maxTo_le T _ _ (by omega) (fun x hx => ?_)
    have hwx := (hd.wk x hx).1
    have h3 := hS.tail_below hd ho.none _ x hx rfl 0 (by omega) (by rw [hS.zero]; omega)
    rw [hS.zero] at h3
    omega
  · have h3 := (hS.short hw hr hd ho.some e (Nat.le_refl _) hb).1
    have h4 : ((h : Int) - 1) * slackTo run h e ≤ ((h : Int) - 1) * maxTo T ts.length := Int.mul_le_mul_of_nonneg_left h3 (by omega)
    have h5 : (((h - 1 : Nat) : Nat) : Int) = (h : Int) - 1 := by omega
    have h6 : ((e * h : Nat) : Int) ≤ ((unitsTo run e + (h - 1) * slackTo run h e : Nat) : Int) := by exact_mod_cast many_units hh e hb
    rw [Int.natCast_mul, Int.natCast_add, Int.natCast_mul, h5] at h6
    omega
end

/-- A run step by step is such a one. -/
theorem leftAt_sched (ts : List (Int × List Int)) (h : Nat) : Sched ts h (leftAt ts h) (fun t => nowL ts h (leftAt ts h t)) where
  zero := fun _ => rfl
  step := fun t x => by
    show decs _ _ x = _
    exact decs_at (nowL_nodup _ _ _) _ _
  rdy := fun _ _ hx => nowL_mem hx
  nd := fun _ => nowL_nodup _ _ _
  len := fun _ => by rw [nowL_len]; omega
  full := fun t hl x hx hr => by
    have hl : (nowL ts h (leftAt ts h t)).length < h := hl
    rw [nowL_len] at hl
    show x ∈ nowL ts h (leftAt ts h t)
    unfold nowL
    rw [List.take_of_length_le (by omega)]
    exact mem_rdyTo.2 ⟨hx, hr⟩
theorem Stops.over {ts : List (Int × List Int)} {h s : Nat} (hw : Works ts) (hr : InRange ts) (hno : ∀ j, j < ts.length → ¬ Reach ts j j) (hs : Stops ts h s) : Over ts (leftAt ts h) s where
  none := rdy_none hr hno (fun x => (leftAt_bound hw h s x).1) hs.2
  some := fun t ht => by
    obtain ⟨x, hx⟩ := List.exists_mem_of_ne_nil _ (hs.1 t ht)
    have := rdyB_pos (mem_rdyTo.1 hx).2
    exact ⟨x, (mem_rdyTo.1 hx).1, by omega⟩
theorem bits_units (ts : List (Int × List Int)) (h s : Nat) : (bitsTo ts h s).length = unitsTo (fun t => nowL ts h (leftAt ts h t)) s := by
  induction s with
  | zero => rfl
  | succ s ih =>
    show (bitsTo ts h s ++ bitsOf s _).length = unitsTo _ s + _
    rw [List.length_append, bitsOf_length, ih]
end Go.Proofs.Ytkcpimbhfmhjgaa
