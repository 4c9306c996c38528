/- Plain: tasks that are taken by an order, time by time. No word of the program. -/
import Derived.Test.YtkgdhfdahafaoaaLa
namespace Go.Proofs.Ytkgdhfdahafaoaa

/-- A stay: its hand, its task, from when on, till when. -/
abbrev Sty : Type := Nat × Nat × Nat × Nat
def busyB (out : List Sty) (t k : Nat) : Bool := out.any (fun s => decide (s.1 = k) && decide (t < s.2.2.2))
def tookB (out : List Sty) (x : Nat) : Bool := out.any (fun s => decide (s.2.1 = x))
def doneB (out : List Sty) (t x : Nat) : Bool := out.any (fun s => decide (s.2.1 = x) && decide (s.2.2.2 ≤ t))
/-- Nobody has taken it, and all that it needs are done by then. -/
def rdyS (ts : List (Int × List Int)) (out : List Sty) (t x : Nat) : Bool := !tookB out x && (needsOf ts x).all (fun y => doneB out t y.toNat)
/-- The free hand of the least number. -/
def handAt (out : List Sty) (t h : Nat) : Option Nat := (List.range h).find? (fun k => !busyB out t k)
/-- The ready one that stands first in the order. -/
def taskAt (ts : List (Int × List Int)) (out : List Sty) (t : Nat) (ord : List Nat) : Option Nat := ord.find? (rdyS ts out t)
def takeAt (ts : List (Int × List Int)) (h : Nat) (ord : List Nat) (t : Nat) (out : List Sty) : Option Sty :=
  match handAt out t h, taskAt ts out t ord with
  | some k, some x => some (k, x, t, t + wkN ts x)
  | _, _ => none
def fillN (ts : List (Int × List Int)) (h : Nat) (ord : List Nat) (t : Nat) : Nat → List Sty → List Sty
  | 0, out => out
  | f + 1, out => match takeAt ts h ord t out with
    | some s => fillN ts h ord t f (out ++ [s])
    | none => out
/-- What was taken ahead of a time. -/
def outAt (ts : List (Int × List Int)) (h : Nat) (ord : List Nat) : Nat → List Sty
  | 0 => []
  | t + 1 => fillN ts h ord t ts.length (outAt ts h ord t)

/-- All is as it may be, and begins ahead of b. -/
structure LaidS (ts : List (Int × List Int)) (h b : Nat) (out : List Sty) : Prop where
  ok : ∀ s, s ∈ out → s.1 < h ∧ s.2.1 < ts.length ∧ s.2.2.1 < b ∧ s.2.2.2 = s.2.2.1 + wkN ts s.2.1
  once : (out.map (fun s => s.2.1)).Nodup
  apart : out.Pairwise (fun a b => a.1 = b.1 → a.2.2.2 ≤ b.2.2.1)
  need : ∀ s, s ∈ out → ∀ y, Need ts s.2.1 y → ∃ s', s' ∈ out ∧ s'.2.1 = y ∧ s'.2.2.2 ≤ s.2.2.1
/-- At a time nobody is idle without need. -/
def Keen (ts : List (Int × List Int)) (h u : Nat) (out : List Sty) : Prop :=
  (∀ k, k < h → ∃ s, s ∈ out ∧ s.1 = k ∧ s.2.2.1 ≤ u ∧ u < s.2.2.2) ∨
  ∀ x, x < ts.length → (∃ s, s ∈ out ∧ s.2.1 = x ∧ s.2.2.1 ≤ u) ∨ ∃ y, Need ts x y ∧ ∀ s, s ∈ out → s.2.1 = y → u < s.2.2.2

theorem takeAt_some {ts : List (Int × List Int)} {h : Nat} {ord : List Nat} {t : Nat} {out : List Sty} {s : Sty} (hs : takeAt ts h ord t out = some s) :
    ∃ k x, s = (k, x, t, t + wkN ts x) ∧ k < h ∧ busyB out t k = false ∧ x ∈ ord ∧ rdyS ts out t x = true := by
  unfold takeAt at hs
  split at hs
  · rename_i k x hk hx
    have h1 := List.mem_of_find?_eq_some hk
    have h2 := List.find?_some hk
    have h3 := List.mem_of_find?_eq_some hx
    have h4 := List.find?_some hx
    simp only [Option.some.injEq] at hs
    exact ⟨k, x, hs.symm, List.mem_range.1 h1, by simpa using h2, h3, h4⟩
  · simp at hs
theorem busyB_false {out : List Sty} {t k : Nat} (h : busyB out t k = false) {s : Sty} (hs : s ∈ out) (hk : s.1 = k) : s.2.2.2 ≤ t := by
  unfold busyB at h
  rw [List.any_eq_false] at h
  have := h s hs
  simp [hk] at this
  exact this
theorem tookB_false {out : List Sty} {x : Nat} (h : tookB out x = false) {s : Sty} (hs : s ∈ out) : s.2.1 ≠ x := by
  unfold tookB at h
  rw [List.any_eq_false] at h
  have := h s hs
  simpa using this
theorem doneB_true {out : List Sty} {t x : Nat} (h : doneB out t x = true) : ∃ s, s ∈ out ∧ s.2.1 = x ∧ s.2.2.2 ≤ t := by
  unfold doneB at h
  obtain ⟨s, hs, h1⟩ := List.any_eq_true.1 h
  simp at h1
  exact ⟨s, hs, h1.1, h1.2⟩

section
variable {ts : List (Int × List Int)} {h : Nat} {ord : List Nat}

theorem LaidS.take (ho : ∀ x, x ∈ ord → x < ts.length) {t : Nat} {out : List Sty} {s : Sty} (hL : LaidS ts h (t + 1) out) (hs : takeAt ts h ord t out = some s) : LaidS ts h (t + 1) (out ++ [s]) := by
  obtain ⟨k, x, rfl, hk, hb, hx, hr⟩ := takeAt_some hs
  unfold rdyS at hr
  simp only [Bool.and_eq_true, Bool.not_eq_true', List.all_eq_true] at hr
  refine ⟨fun s hs => ?_, ?_, ?_, fun s hs y hy => ?_⟩
  · rcases List.mem_append.1 hs with hs | hs
    · exact hL.ok s hs
    · obtain rfl := List.mem_singleton.1 hs
      exact ⟨hk, ho x hx, Nat.lt_succ_self t, rfl⟩
  · rw [List.map_append, List.nodup_append]
    refine ⟨hL.once, by simp, fun a ha b hb' => ?_⟩
    obtain ⟨s', hs', e'⟩ := List.mem_map.1 ha
    have hb2 : b = x := by simpa using hb'
    rw [hb2, ← e']
    exact tookB_false hr.1 hs'
  · rw [List.pairwise_append]
    refine ⟨hL.apart, by simp, fun a ha b hb' => ?_⟩
    obtain rfl := List.mem_singleton.1 hb'
    exact fun e => busyB_false hb ha e
  · rcases List.mem_append.1 hs with hs | hs
    · obtain ⟨s', h1, h2⟩ := hL.need s hs y hy
      exact ⟨s', List.mem_append.2 (Or.inl h1), h2⟩
    · obtain rfl := List.mem_singleton.1 hs
      have := hr.2 _ hy
      rw [Int.toNat_natCast] at this
      obtain ⟨s', h1, h2, h3⟩ := doneB_true this
      exact ⟨s', List.mem_append.2 (Or.inl h1), h2, h3⟩
theorem Keen.more {u : Nat} {out : List Sty} {s : Sty} (hK : Keen ts h u out) (hs : u < s.2.2.1) (hs2 : s.2.2.1 ≤ s.2.2.2) : Keen ts h u (out ++ [s]) := by
  rcases hK with hK | hK
  · refine Or.inl fun k hk => ?_
    obtain ⟨s', h1, h2⟩ := hK k hk
    exact ⟨s', List.mem_append.2 (Or.inl h1), h2⟩
  · refine Or.inr fun x hx => ?_
    rcases hK x hx with ⟨s', h1, h2⟩ | ⟨y, hy, h1⟩
    · exact Or.inl ⟨s', List.mem_append.2 (Or.inl h1), h2⟩
    · refine Or.inr ⟨y, hy, fun s' hs' e => ?_⟩
      rcases List.mem_append.1 hs' with hs' | hs'
      · exact h1 s' hs' e
      · obtain rfl := List.mem_singleton.1 hs'
        omega
theorem take_none (ho : ∀ x, x < ts.length → x ∈ ord) (hr : InRange ts) {t : Nat} {out : List Sty} (hL : LaidS ts h (t + 1) out) (hn : takeAt ts h ord t out = none) : Keen ts h t out := by
  unfold takeAt at hn
  split at hn
  · simp at hn
  · rename_i hnn
    cases hk : handAt out t h with
    | none =>
      refine Or.inl fun k hk' => ?_
      unfold handAt at hk
      have h1 := List.find?_eq_none.1 hk k (List.mem_range.2 hk')
      have h2 : busyB out t k = true := by simpa using h1
      unfold busyB at h2
      obtain ⟨s, hs, h3⟩ := List.any_eq_true.1 h2
      simp at h3
      have := (hL.ok s hs).2.2.1
      exact ⟨s, hs, h3.1, by omega, h3.2⟩
    | some k =>
      cases hx : taskAt ts out t ord with
      | some x => exact absurd hx (by intro _; exact hnn k x hk hx)
      | none =>
        refine Or.inr fun x hx' => ?_
        unfold taskAt at hx
        have h1 := List.find?_eq_none.1 hx x (ho x hx')
        unfold rdyS at h1
        by_cases ht : tookB out x = true
        · unfold tookB at ht
          obtain ⟨s, hs, h3⟩ := List.any_eq_true.1 ht
          simp at h3
          have := (hL.ok s hs).2.2.1
          exact Or.inl ⟨s, hs, h3, by omega⟩
        · have ht' : tookB out x = false := by simpa using ht
          rw [ht'] at h1
          have h2 : ¬ ∀ y, y ∈ needsOf ts x → doneB out t y.toNat = true := fun e => h1 (by simpa using e)
          have h3 : ∃ y, y ∈ needsOf ts x ∧ doneB out t y.toNat = false := by
            refine Classical.byContradiction fun e => h2 fun y hy => ?_
            cases hd : doneB out t y.toNat with
            | true => rfl
            | false => exact absurd ⟨y, hy, hd⟩ e
          obtain ⟨y, hy, hd⟩ := h3
          have hyr := hr x hx' y hy
          refine Or.inr ⟨y.toNat, ?_, fun s hs e => ?_⟩
          · unfold Need
            rw [show ((y.toNat : Nat) : Int) = y by omega]
            exact hy
          · unfold doneB at hd
            rw [List.any_eq_false] at hd
            have := hd s hs
            simp [e] at this
            exact this
theorem took_all {t : Nat} {out : List Sty} (hL : LaidS ts h t out) (hn : ts.length ≤ out.length) : ∀ x, x < ts.length → tookB out x = true := by
  intro x hx
  have hm := nodup_all hL.once (n := ts.length) (fun y hy => by
    obtain ⟨s, hs, rfl⟩ := List.mem_map.1 hy
    exact (hL.ok s hs).2.1) (by rw [List.length_map]; exact hn) x hx
  obtain ⟨s, hs, e⟩ := List.mem_map.1 hm
  exact List.any_eq_true.2 ⟨s, hs, by simpa using e⟩
theorem take_full (ho : ∀ x, x ∈ ord → x < ts.length) {t b : Nat} {out : List Sty} (hL : LaidS ts h b out) (hn : ts.length ≤ out.length) : takeAt ts h ord t out = none := by
  cases hs : takeAt ts h ord t out with
  | none => rfl
  | some s =>
    obtain ⟨k, x, _, _, _, hx, hr⟩ := takeAt_some hs
    unfold rdyS at hr
    rw [took_all hL hn x (ho x hx)] at hr
    simp at hr
theorem fill_laid (ho : ∀ x, x ∈ ord → x < ts.length) (ho' : ∀ x, x < ts.length → x ∈ ord) (hr : InRange ts) (t : Nat) : ∀ f out, LaidS ts h (t + 1) out → (∀ u, u < t → Keen ts h u out) → ts.length ≤ out.length + f →
    LaidS ts h (t + 1) (fillN ts h ord t f out) ∧ ∀ u, u < t + 1 → Keen ts h u (fillN ts h ord t f out) := by
  intro f
  induction f with
  | zero =>
    intro out hL hK hf
    refine ⟨hL, fun u hu => ?_⟩
    by_cases e : u = t
    · subst e
      show Keen ts h u out
      exact take_none ho' hr hL (take_full ho hL (by omega))
    · exact hK u (by omega)
  | succ f ih =>
    intro out hL hK hf
    unfold fillN
    cases hs : takeAt ts h ord t out with
    | none =>
      refine ⟨hL, fun u hu => ?_⟩
      by_cases e : u = t
      · subst e; exact take_none ho' hr hL hs
      · exact hK u (by omega)
    | some s =>
      obtain ⟨k, x, rfl, _⟩ := takeAt_some hs
      exact ih _ (hL.take ho hs) (fun u hu => (hK u hu).more hu (by show t ≤ t + _; omega)) (by rw [List.length_append]; simp; omega)
theorem outAt_laid (ho : ∀ x, x ∈ ord → x < ts.length) (ho' : ∀ x, x < ts.length → x ∈ ord) (hr : InRange ts) (t : Nat) : LaidS ts h t (outAt ts h ord t) ∧ ∀ u, u < t → Keen ts h u (outAt ts h ord t) := by
  induction t with
  | zero => exact ⟨⟨fun s hs => (List.not_mem_nil hs).elim, List.nodup_nil, List.Pairwise.nil, fun s hs => (List.not_mem_nil hs).elim⟩, fun u hu => by omega⟩
  | succ t ih =>
    obtain ⟨hL, hK⟩ := ih
    exact fill_laid ho ho' hr t ts.length _ ⟨fun s hs => by have := hL.ok s hs; omega, hL.once, hL.apart, hL.need⟩ hK (by omega)

/-- Where one is not taken yet, at each time ahead somebody was at work. -/
theorem keen_busy (hh : 1 ≤ h) (hr : InRange ts) (hno : ∀ j, j < ts.length → ¬ Reach ts j j) {u : Nat} {out : List Sty} (hK : Keen ts h u out) {x : Nat} (hx : x < ts.length) (hn : ∀ s, s ∈ out → s.2.1 ≠ x) : ∃ s, s ∈ out ∧ s.2.2.1 ≤ u ∧ u < s.2.2.2 := by
  rcases hK with hK | hK
  · obtain ⟨s, h1, _, h2⟩ := hK 0 (by omega)
    exact ⟨s, h1, h2⟩
  · refine Classical.byContradiction fun e => ?_
    have key := no_ring_empty ts hno (fun z => z < ts.length ∧ ∀ s, s ∈ out → s.2.1 = z → u < s.2.2.1) (fun z ⟨hz, hz2⟩ => by
      refine ⟨hz, ?_⟩
      rcases hK z hz with ⟨s, h1, h2, h3⟩ | ⟨y, hy, h1⟩
      · have := hz2 s h1 h2; omega
      · have hyr := hr z hz _ hy
        refine ⟨y, hy, by omega, fun s hs es => ?_⟩
        have h2 := h1 s hs es
        refine Nat.lt_of_not_le fun h3 => e ⟨s, hs, h3, h2⟩)
    exact key x ⟨hx, fun s hs es => absurd es (hn s hs)⟩
theorem sum_sub (f : Nat → Nat) (n : Nat) : ∀ (l : List Nat), l.Nodup → (∀ x, x ∈ l → x < n) → ((l.map f).sum : Int) ≤ sumTo (fun x => (f x : Int)) n := by
  have key : ∀ (l : List Nat) (g : Nat → Int), (∀ x, 0 ≤ g x) → l.Nodup → (∀ x, x ∈ l → x < n) → (l.map g).sum ≤ sumTo g n := by
    intro l
    induction l with
    | nil => intro g hg _ _; simpa using sumTo_nonneg g hg n
    | cons a l ih =>
      intro g hg hd hl
      have hd' := List.nodup_cons.1 hd
      have h1 := ih (upd g a 0) (fun x => by unfold upd; split; omega; exact hg x) hd'.2 (fun x hx => hl x (List.mem_cons_of_mem _ hx))
      rw [sumTo_upd g a 0 n (hl a (List.mem_cons_self ..))] at h1
      have e : l.map (upd g a 0) = l.map g := List.map_congr_left (fun x hx => upd_ne g 0 (fun e => hd'.1 (e ▸ hx)))
      rw [e] at h1
      simp only [List.map_cons, List.sum_cons]
      omega
  intro l hd hl
  have := key l (fun x => (f x : Int)) (fun x => by omega) hd hl
  have e : ((l.map f).sum : Int) = (l.map (fun x => (f x : Int))).sum := by
    clear this hd hl
    induction l with
    | nil => rfl
    | cons a l ih => simp only [List.map_cons, List.sum_cons, Int.natCast_add, ih]
  rw [e]; exact this
/-- Behind so many times all are taken. -/
theorem outAt_all (hw : Works ts) (hr : InRange ts) (hno : ∀ j, j < ts.length → ¬ Reach ts j j) (hh : 1 ≤ h) (ho : ∀ x, x ∈ ord → x < ts.length) (ho' : ∀ x, x < ts.length → x ∈ ord) {t : Nat} (ht : workTo ts ts.length ≤ t) : (outAt ts h ord t).length = ts.length := by
  obtain ⟨hL, hK⟩ := outAt_laid (h := h) ho ho' hr t
  have hle : (outAt ts h ord t).length ≤ ts.length := by
    have := nodup_lt_len hL.once (n := ts.length) (fun y hy => by
      obtain ⟨s, hs, rfl⟩ := List.mem_map.1 hy
      exact (hL.ok s hs).2.1)
    simpa using this
  refine Nat.le_antisymm hle ?_
  refine Nat.le_of_not_lt fun hlt => ?_
  have hex : ∃ x, x < ts.length ∧ ∀ s, s ∈ outAt ts h ord t → s.2.1 ≠ x := by
    refine Classical.byContradiction fun e => ?_
    have := nodup_sub_len (l := List.range ts.length) (m := (outAt ts h ord t).map (fun s => s.2.1)) List.nodup_range (fun x hx => by
      refine Classical.byContradiction fun e2 => e ⟨x, List.mem_range.1 hx, fun s hs es => e2 (List.mem_map.2 ⟨s, hs, es⟩)⟩)
    simp at this
    omega
  obtain ⟨x, hx, hn⟩ := hex
  have hcov : ∀ u, u < t → ∃ s, s ∈ outAt ts h ord t ∧ s.2.2.1 ≤ u ∧ u < s.2.2.2 := fun u hu => keen_busy hh hr hno (hK u hu) hx hn
  have h1 : t ≤ ((outAt ts h ord t).map (fun s => wkN ts s.2.1)).sum := by
    have := nodup_sub_len (l := List.range t) (m := (outAt ts h ord t).flatMap (fun s => List.range' s.2.2.1 (wkN ts s.2.1))) List.nodup_range (fun u hu => by
      obtain ⟨s, hs, h1, h2⟩ := hcov u (List.mem_range.1 hu)
      have := (hL.ok s hs).2.2.2
      exact List.mem_flatMap.2 ⟨s, hs, List.mem_range'_1.2 ⟨h1, by omega⟩⟩)
    rw [List.length_range, List.length_flatMap] at this
    simpa using this
  have hnd : (x :: (outAt ts h ord t).map (fun s => s.2.1)).Nodup := List.nodup_cons.2 ⟨fun e => by
    obtain ⟨s, hs, es⟩ := List.mem_map.1 e
    exact hn s hs es, hL.once⟩
  have h2 := sum_sub (wkN ts) ts.length _ hnd (fun y hy => by
    rcases List.mem_cons.1 hy with rfl | hy
    · exact hx
    · obtain ⟨s, hs, rfl⟩ := List.mem_map.1 hy
      exact (hL.ok s hs).2.1)
  rw [List.map_cons, List.sum_cons, List.map_map] at h2
  have h3 : sumTo (fun x => ((wkN ts x : Nat) : Int)) ts.length = workTo ts ts.length := by
    rw [workTo_sum]
    have : ∀ m, m ≤ ts.length → sumTo (fun x => ((wkN ts x : Nat) : Int)) m = sumTo (wkOf ts) m := by
      intro m
      induction m with
      | zero => intro _; rfl
      | succ m ih => intro hm; unfold sumTo; rw [ih (by omega), (wkN_eq hw (by omega)).1]
    exact this _ (Nat.le_refl _)
  have h4 := (wkN_eq hw hx).2
  have h5 : (outAt ts h ord t).map (wkN ts ∘ fun s => s.2.1) = (outAt ts h ord t).map (fun s => wkN ts s.2.1) := rfl
  rw [h3, h5] at h2
  omega
theorem outAt_stays (ho : ∀ x, x ∈ ord → x < ts.length) (ho' : ∀ x, x < ts.length → x ∈ ord) (hr : InRange ts) {t : Nat} (hf : (outAt ts h ord t).length = ts.length) (d : Nat) : outAt ts h ord (t + d) = outAt ts h ord t := by
  induction d with
  | zero => rfl
  | succ d ih =>
    show fillN ts h ord (t + d) ts.length (outAt ts h ord (t + d)) = _
    rw [ih]
    have hn := take_full ho (t := t + d) (outAt_laid (h := h) ho ho' hr t).1 (by omega)
    cases hl : ts.length with
    | zero => rfl
    | succ n => unfold fillN; rw [hn]
end
end Go.Proofs.Ytkgdhfdahafaoaa
