/- Plain: what a run by an order keeps, hand by hand and task by task: from when on each hand is free, when each task is done. No word of the program. -/
import Derived.Test.YtkcpimbhfmhjgaaLst
namespace Go.Proofs.Ytkcpimbhfmhjgaa

/-- Of each hand, from when on it is free. -/
def freeOf (out : List Sty) : Nat → Int := out.foldl (fun F s => upd F s.1 s.2.2.2) (fun _ => 0)
/-- Of each task, when it is done; 0: nobody has taken it. -/
def doneOf (out : List Sty) : Nat → Int := out.foldl (fun F s => upd F s.2.1 s.2.2.2) (fun _ => 0)
theorem freeOf_nil : freeOf [] = fun _ => 0 := rfl
theorem doneOf_nil : doneOf [] = fun _ => 0 := rfl
theorem freeOf_snoc (out : List Sty) (s : Sty) : freeOf (out ++ [s]) = upd (freeOf out) s.1 s.2.2.2 := by simp [freeOf]
theorem doneOf_snoc (out : List Sty) (s : Sty) : doneOf (out ++ [s]) = upd (doneOf out) s.2.1 s.2.2.2 := by simp [doneOf]
theorem snoc_rec {α : Type} {P : List α → Prop} (h0 : P []) (h1 : ∀ l a, P l → P (l ++ [a])) (l : List α) : P l := by
  have : ∀ l : List α, P l.reverse := by
    intro l
    induction l with
    | nil => exact h0
    | cons a l ih => rw [List.reverse_cons]; exact h1 _ _ ih
  have := this l.reverse
  rwa [List.reverse_reverse] at this

theorem busy_free (out : List Sty) (hp : out.Pairwise (fun a b => a.1 = b.1 → a.2.2.2 ≤ b.2.2.1)) (hf : ∀ s, s ∈ out → s.2.2.1 ≤ s.2.2.2) (t k : Nat) : busyB out t k = decide ((t : Int) < freeOf out k) := by
  revert hp hf
  refine snoc_rec (P := fun out => out.Pairwise (fun a b => a.1 = b.1 → a.2.2.2 ≤ b.2.2.1) → (∀ s, s ∈ out → s.2.2.1 ≤ s.2.2.2) → busyB out t k = decide ((t : Int) < freeOf out k)) ?_ ?_ out
  · intro _ _; rw [freeOf_nil]; simp [busyB]
  · intro l a ih hp hf
    rw [List.pairwise_append] at hp
    have hi := ih hp.1 (fun s hs => hf s (List.mem_append.2 (Or.inl hs)))
    have ha := hf a (List.mem_append.2 (Or.inr (List.mem_singleton.2 rfl)))
    have e : busyB (l ++ [a]) t k = (busyB l t k || (decide (a.1 = k) && decide (t < a.2.2.2))) := by simp [busyB]
    rw [e, freeOf_snoc]
    by_cases hk : k = a.1
    · subst hk
      rw [upd_at]
      by_cases ht : t < a.2.2.2
      · simp [ht]
      · have hb : busyB l t a.1 = false := by
          unfold busyB
          rw [List.any_eq_false]
          intro s hs
          have := hp.2.2 s hs a (List.mem_singleton.2 rfl)
          simp only [Bool.and_eq_true, decide_eq_true_eq, not_and]
          intro e
          have := this e
          omega
        rw [hb]
        simp [ht]
    · rw [upd_ne _ _ hk, hi]
      have : ¬ a.1 = k := fun e => hk e.symm
      simp [this]

/-- Is it there, and when is it done. -/
theorem took_done (out : List Sty) (hf : ∀ s, s ∈ out → 1 ≤ s.2.2.2) (x : Nat) : tookB out x = decide (doneOf out x ≠ 0) ∧ 0 ≤ doneOf out x := by
  revert hf
  refine snoc_rec (P := fun out => (∀ s, s ∈ out → 1 ≤ s.2.2.2) → (tookB out x = decide (doneOf out x ≠ 0) ∧ 0 ≤ doneOf out x)) ?_ ?_ out
  · intro _; rw [doneOf_nil]; simp [tookB]
  · intro l a ih hf
    have hi := ih (fun s hs => hf s (List.mem_append.2 (Or.inl hs)))
    have ha := hf a (List.mem_append.2 (Or.inr (List.mem_singleton.2 rfl)))
    have e : tookB (l ++ [a]) x = (tookB l x || decide (a.2.1 = x)) := by simp [tookB]
    rw [e, doneOf_snoc]
    by_cases hk : x = a.2.1
    · subst hk
      rw [upd_at]
      refine ⟨?_, by omega⟩
      have : a.2.2.2 ≠ 0 := by omega
      simp [this]
    · rw [upd_ne _ _ hk, hi.1]
      have : ¬ a.2.1 = x := fun e => hk e.symm
      exact ⟨by simp [this], hi.2⟩
theorem done_done (out : List Sty) (hn : (out.map (fun s => s.2.1)).Nodup) (hf : ∀ s, s ∈ out → 1 ≤ s.2.2.2) (t x : Nat) : doneB out t x = !decide (doneOf out x = 0 ∨ (t : Int) < doneOf out x) := by
  revert hn hf
  refine snoc_rec (P := fun out => (out.map (fun s => s.2.1)).Nodup → (∀ s, s ∈ out → 1 ≤ s.2.2.2) → doneB out t x = !decide (doneOf out x = 0 ∨ (t : Int) < doneOf out x)) ?_ ?_ out
  · intro _ _; rw [doneOf_nil]; simp [doneB]
  · intro l a ih hn hf
    rw [List.map_append, List.nodup_append] at hn
    have hi := ih hn.1 (fun s hs => hf s (List.mem_append.2 (Or.inl hs)))
    have ha := hf a (List.mem_append.2 (Or.inr (List.mem_singleton.2 rfl)))
    have e : doneB (l ++ [a]) t x = (doneB l t x || (decide (a.2.1 = x) && decide (a.2.2.2 ≤ t))) := by simp [doneB]
    rw [e, doneOf_snoc]
    by_cases hk : x = a.2.1
    · subst hk
      rw [upd_at]
      have hb : doneB l t a.2.1 = false := by
        unfold doneB
        rw [List.any_eq_false]
        intro s hs
        have := hn.2.2 s.2.1 (List.mem_map.2 ⟨s, hs, rfl⟩) a.2.1 (by simp)
        simp [this]
      rw [hb]
      have h0 : ¬ ((a.2.2.2 : Nat) : Int) = 0 := by omega
      by_cases ht : a.2.2.2 ≤ t
      · have : ¬ t < a.2.2.2 := by omega
        simp [ht, this]; omega
      · have : t < a.2.2.2 := by omega
        simp [ht, this]
    · rw [upd_ne _ _ hk, hi]
      have : ¬ a.2.1 = x := fun e => hk e.symm
      simp [this]

/-- Not done by then, as the program asks it. -/
def undD (E : Nat → Int) (t : Nat) (y : Int) : Bool := decide (E y.toNat = 0) || decide ((t : Int) < E y.toNat)
/-- Ready, as the program asks it. -/
def rdyD (ts : List (Int × List Int)) (E : Nat → Int) (t x : Nat) : Bool := decide (E x = 0) && !(needsOf ts x).any (undD E t)
/-- The first that is ready; -1, if none is. -/
def firstD (ts : List (Int × List Int)) (E : Nat → Int) (t : Nat) (ord : List Nat) : Int := match ord.find? (rdyD ts E t) with | some x => x | none => -1
theorem rdy_same {ts : List (Int × List Int)} {h b : Nat} {out : List Sty} (hw : Works ts) (hL : LaidS ts h b out) (t x : Nat) : rdyD ts (doneOf out) t x = rdyS ts out t x := by
  have hf : ∀ s, s ∈ out → 1 ≤ s.2.2.2 := fun s hs => by
    have h1 := hL.ok s hs
    have h2 := wkN_eq hw h1.2.1
    omega
  have h1 := (took_done out hf x).1
  unfold rdyD rdyS
  rw [h1]
  have e : (needsOf ts x).all (fun y => doneB out t y.toNat) = !(needsOf ts x).any (undD (doneOf out) t) := by
    rw [List.not_any_eq_all_not]
    congr 1
    funext y
    rw [done_done out hL.once hf]
    unfold undD
    rw [Bool.decide_or]
  rw [e]
  by_cases h0 : doneOf out x = 0 <;> simp [h0]
theorem first_same {ts : List (Int × List Int)} {h b : Nat} {out : List Sty} (hw : Works ts) (hL : LaidS ts h b out) (t : Nat) (ord : List Nat) : ord.find? (rdyD ts (doneOf out) t) = taskAt ts out t ord := by
  unfold taskAt
  congr 1
  funext x
  exact rdy_same hw hL t x
theorem LaidS.busy {ts : List (Int × List Int)} {h b : Nat} {out : List Sty} (hL : LaidS ts h b out) (t k : Nat) : busyB out t k = decide ((t : Int) < freeOf out k) :=
  busy_free out hL.apart (fun s hs => by have := hL.ok s hs; omega) t k
theorem LaidS.len {ts : List (Int × List Int)} {h b : Nat} {out : List Sty} (hL : LaidS ts h b out) : out.length ≤ ts.length := by
  have := nodup_lt_len hL.once (n := ts.length) (fun y hy => by
    obtain ⟨s, hs, rfl⟩ := List.mem_map.1 hy
    exact (hL.ok s hs).2.1)
  simpa using this
theorem LaidS.later {ts : List (Int × List Int)} {h b b' : Nat} {out : List Sty} (hL : LaidS ts h b out) (hb : b ≤ b') : LaidS ts h b' out :=
  ⟨fun s hs => by have := hL.ok s hs; exact ⟨this.1, this.2.1, by omega, this.2.2.2⟩, hL.once, hL.apart, hL.need⟩

/-- Within a time: hands below k are busy; what is still taken from here on is what there is behind it. -/
structure Filling (ts : List (Int × List Int)) (h : Nat) (ord : List Nat) (t k : Nat) (out : List Sty) : Prop where
  laid : LaidS ts h (t + 1) out
  busy : ∀ j, j < k → busyB out t j = true
  goes : fillN ts h ord t (ts.length - out.length) out = outAt ts h ord (t + 1)
section
variable {ts : List (Int × List Int)} {h : Nat} {ord : List Nat}
theorem fill_fuel (ho : ∀ x, x ∈ ord → x < ts.length) (t : Nat) : ∀ f out, LaidS ts h (t + 1) out → ts.length ≤ out.length + f → fillN ts h ord t f out = fillN ts h ord t (ts.length - out.length) out := by
  intro f
  induction f with
  | zero =>
    intro out _ hf
    rw [show ts.length - out.length = 0 by omega]
  | succ f ih =>
    intro out hL hf
    cases hs : takeAt ts h ord t out with
    | none =>
      have e : ∀ g, fillN ts h ord t g out = out := fun g => by
        cases g with
        | zero => rfl
        | succ g => unfold fillN; rw [hs]
      rw [e, e]
    | some s =>
      have hlt : out.length < ts.length := Nat.lt_of_not_le fun hle => by
        rw [take_full ho hL hle] at hs; cases hs
      obtain ⟨n, hn⟩ : ∃ n, ts.length - out.length = n + 1 := ⟨ts.length - out.length - 1, by omega⟩
      rw [hn]
      unfold fillN
      rw [hs]
      dsimp only
      rw [ih _ (hL.take ho hs) (by rw [List.length_append]; simp; omega)]
      congr 1
      rw [List.length_append]
      simp
      omega
theorem Filling.start (ho : ∀ x, x ∈ ord → x < ts.length) (ho' : ∀ x, x < ts.length → x ∈ ord) (hr : InRange ts) (t : Nat) : Filling ts h ord t 0 (outAt ts h ord t) := by
  have hL := (outAt_laid (h := h) ho ho' hr t).1.later (Nat.le_succ t)
  exact ⟨hL, fun j hj => by omega, (fill_fuel ho t ts.length _ hL (by omega)).symm⟩
theorem Filling.skip {t k : Nat} {out : List Sty} (hF : Filling ts h ord t k out) (hb : (t : Int) < freeOf out k) : Filling ts h ord t (k + 1) out :=
  ⟨hF.laid, fun j hj => by
    by_cases e : j = k
    · subst e; rw [hF.laid.busy]; simpa using hb
    · exact hF.busy j (by omega), hF.goes⟩
theorem Filling.hand {t k : Nat} {out : List Sty} (hF : Filling ts h ord t k out) (hk : k < h) (hb : ¬ (t : Int) < freeOf out k) : handAt out t h = some k := by
  have hbk : busyB out t k = false := by rw [hF.laid.busy]; simpa using hb
  unfold handAt
  rw [List.find?_range_eq_some]
  exact ⟨by simp [hbk], List.mem_range.2 hk, fun j hj => by simp [hF.busy j hj]⟩
theorem Filling.none_at {t k : Nat} {out : List Sty} (hF : Filling ts h ord t k out) (hn : takeAt ts h ord t out = none) : outAt ts h ord (t + 1) = out := by
  rw [← hF.goes]
  cases ts.length - out.length with
  | zero => rfl
  | succ g => unfold fillN; rw [hn]
/-- No more hands. -/
theorem Filling.over {t k : Nat} {out : List Sty} (hF : Filling ts h ord t k out) (hk : h ≤ k) : outAt ts h ord (t + 1) = out := by
  refine hF.none_at ?_
  have : handAt out t h = none := by
    unfold handAt
    rw [List.find?_eq_none]
    intro j hj
    have := List.mem_range.1 hj
    simp [hF.busy j (by omega)]
  unfold takeAt
  rw [this]
/-- No more tasks. -/
theorem Filling.stop {t k : Nat} {out : List Sty} (hF : Filling ts h ord t k out) (hn : taskAt ts out t ord = none) : outAt ts h ord (t + 1) = out := by
  refine hF.none_at ?_
  unfold takeAt
  rw [hn]
  split
  · rename_i h2; cases h2
  · rfl
theorem Filling.take (hw : Works ts) (ho : ∀ x, x ∈ ord → x < ts.length) {t k x : Nat} {out : List Sty} (hF : Filling ts h ord t k out) (hk : k < h) (hb : ¬ (t : Int) < freeOf out k) (hx : taskAt ts out t ord = some x) :
    Filling ts h ord t (k + 1) (out ++ [(k, x, t, t + wkN ts x)]) ∧ out.length < ts.length ∧ x < ts.length := by
  have hs : takeAt ts h ord t out = some (k, x, t, t + wkN ts x) := by
    unfold takeAt
    rw [hF.hand hk hb, hx]
  have hxo : x ∈ ord := List.mem_of_find?_eq_some hx
  have hxl := ho x hxo
  have hlt : out.length < ts.length := Nat.lt_of_not_le fun hle => by
    rw [take_full ho hF.laid hle] at hs; cases hs
  have hw1 := (wkN_eq hw hxl).2
  refine ⟨⟨hF.laid.take ho hs, fun j hj => ?_, ?_⟩, hlt, hxl⟩
  · by_cases e : j = k
    · subst e
      exact List.any_eq_true.2 ⟨_, List.mem_append.2 (Or.inr (List.mem_singleton.2 rfl)), by simp; omega⟩
    · have := hF.busy j (by omega)
      unfold busyB at this ⊢
      rw [List.any_append, this]
      rfl
  · rw [← hF.goes]
    obtain ⟨n, hn⟩ : ∃ n, ts.length - out.length = n + 1 := ⟨ts.length - out.length - 1, by omega⟩
    rw [hn]
    conv => rhs; unfold fillN
    rw [hs]
    dsimp only
    congr 1
    rw [List.length_append]
    simp
    omega
/-- While one is not taken yet, it is not late. -/
theorem outAt_late (hw : Works ts) (hr : InRange ts) (hno : ∀ j, j < ts.length → ¬ Reach ts j j) (hh : 1 ≤ h) (ho : EachO ts.length ord) {t : Nat} (hl : (outAt ts h ord t).length < ts.length) : t < 600 := by
  refine Nat.lt_of_not_le fun hle => ?_
  have := outAt_all hw hr hno hh ho.2.2 ho.all (t := t) (by have := hw.all; omega)
  omega
end
end Go.Proofs.Ytkcpimbhfmhjgaa
