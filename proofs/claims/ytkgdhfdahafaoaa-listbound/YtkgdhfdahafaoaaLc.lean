/- Plain: what was taken by an order, time by time, is a play; how long it is. No word of the program. -/
import Derived.Test.YtkgdhfdahafaoaaLb
namespace Go.Proofs.Ytkgdhfdahafaoaa

theorem map_once {α : Type} (f : α → Nat) {l : List α} (h : (l.map f).Nodup) {a b : α} (ha : a ∈ l) (hb : b ∈ l) (e : f a = f b) : a = b := by
  induction l with
  | nil => cases ha
  | cons c l ih =>
    rw [List.map_cons, List.nodup_cons] at h
    rcases List.mem_cons.1 ha with h1 | h1 <;> rcases List.mem_cons.1 hb with h2 | h2
    · rw [h1, h2]
    · subst h1; exact absurd (List.mem_map.2 ⟨b, h2, e.symm⟩) h.1
    · subst h2; exact absurd (List.mem_map.2 ⟨a, h1, e⟩) h.1
    · exact ih h.2 h1 h2
theorem pair_either {α : Type} {R : α → α → Prop} {l : List α} (h : l.Pairwise R) {a b : α} (ha : a ∈ l) (hb : b ∈ l) (e : a ≠ b) : R a b ∨ R b a := by
  induction l with
  | nil => cases ha
  | cons c l ih =>
    rw [List.pairwise_cons] at h
    rcases List.mem_cons.1 ha with h1 | h1 <;> rcases List.mem_cons.1 hb with h2 | h2
    · exact absurd (h1.trans h2.symm) e
    · subst h1; exact Or.inl (h.1 b h2)
    · subst h2; exact Or.inr (h.1 a h1)
    · exact ih h.2 h1 h2

/-- A task's stay. -/
def stayOf (out : List Sty) (x : Nat) : Sty := (out.find? (fun s => decide (s.2.1 = x))).getD (0, 0, 0, 0)
theorem stayOf_mem {out : List Sty} {x : Nat} (h : tookB out x = true) : stayOf out x ∈ out ∧ (stayOf out x).2.1 = x := by
  unfold stayOf
  cases hf : out.find? (fun s => decide (s.2.1 = x)) with
  | none =>
    obtain ⟨s, hs, h1⟩ := List.any_eq_true.1 h
    exact absurd h1 (List.find?_eq_none.1 hf s hs)
  | some s =>
    have h1 := List.mem_of_find?_eq_some hf
    have h2 := List.find?_some hf
    exact ⟨h1, by simpa using h2⟩
theorem LaidS.stay {ts : List (Int × List Int)} {h t : Nat} {out : List Sty} (hL : LaidS ts h t out) {s : Sty} (hs : s ∈ out) : stayOf out s.2.1 = s := by
  have h1 := stayOf_mem (out := out) (x := s.2.1) (List.any_eq_true.2 ⟨s, hs, by simp⟩)
  exact map_once (fun s : Sty => s.2.1) hL.once h1.1 hs h1.2

theorem LaidS.plays {ts : List (Int × List Int)} {h t : Nat} {out : List Sty} (hr : InRange ts) (hL : LaidS ts h t out) (hK : ∀ u, u < t → Keen ts h u out) (hf : out.length = ts.length) :
    Plays ts h (fun x => (stayOf out x).1) (fun x => (stayOf out x).2.2.1) := by
  have hm : ∀ x, x < ts.length → stayOf out x ∈ out ∧ (stayOf out x).2.1 = x := fun x hx => stayOf_mem (took_all hL (by omega) x hx)
  have hfin : ∀ x, x < ts.length → (stayOf out x).2.2.2 = (stayOf out x).2.2.1 + wkN ts x := fun x hx => by
    have := (hL.ok _ (hm x hx).1).2.2.2
    rw [(hm x hx).2] at this
    exact this
  refine ⟨fun x hx => (hL.ok _ (hm x hx).1).1, fun x y hx hy hne e => ?_, fun x hx y hy => ?_, fun x hx u hu hn k hk => ?_⟩
  · have hne' : stayOf out x ≠ stayOf out y := fun e2 => hne (by rw [← (hm x hx).2, ← (hm y hy).2, e2])
    have h1 := hfin x hx
    have h2 := hfin y hy
    rcases pair_either hL.apart (hm x hx).1 (hm y hy).1 hne' with h3 | h3
    · have := h3 e; omega
    · have := h3 e.symm; omega
  · have hyl : y < ts.length := by have := hr x hx _ hy; omega
    have hx2 := (hm x hx).2
    obtain ⟨s', h1, h2, h3⟩ := hL.need _ (hm x hx).1 y (by rw [hx2]; exact hy)
    have h4 := hL.stay h1
    rw [h2] at h4
    have h5 := hfin y hyl
    rw [← h5, h4]
    exact h3
  · have hu' : u < (stayOf out x).2.2.1 := hu
    have hlt := (hL.ok _ (hm x hx).1).2.2.1
    rcases hK u (by omega) with hK | hK
    · obtain ⟨s, h1, h2, h3, h4⟩ := hK k hk
      have h5 := hL.stay h1
      have h6 := hL.ok s h1
      refine ⟨s.2.1, h6.2.1, ?_, ?_, ?_⟩
      · show (stayOf out s.2.1).1 = k
        rw [h5]; exact h2
      · show (stayOf out s.2.1).2.2.1 ≤ u
        rw [h5]; exact h3
      · show u < (stayOf out s.2.1).2.2.1 + wkN ts s.2.1
        rw [h5, ← h6.2.2.2]; exact h4
    · exfalso
      rcases hK x hx with ⟨s, h1, h2, h3⟩ | ⟨y, hy, h1⟩
      · have h4 := hL.stay h1
        rw [h2] at h4
        rw [h4] at hu'
        omega
      · have hyl : y < ts.length := by have := hr x hx _ hy; omega
        have h2 := h1 _ (hm y hyl).1 (hm y hyl).2
        have h3 := hn y hy
        have h4 := hfin y hyl
        omega

/-- When the last one is done; 0 of none. -/
def endsOf (out : List Sty) : Nat := out.foldl (fun n s => max n s.2.2.2) 0
theorem endsOf_snoc (out : List Sty) (s : Sty) : endsOf (out ++ [s]) = max (endsOf out) s.2.2.2 := by simp [endsOf]
theorem foldl_ends (l : List Sty) : ∀ n, n ≤ l.foldl (fun n s => max n s.2.2.2) n ∧ (∀ s, s ∈ l → s.2.2.2 ≤ l.foldl (fun n s => max n s.2.2.2) n) ∧ (l.foldl (fun n s => max n s.2.2.2) n = n ∨ ∃ s, s ∈ l ∧ l.foldl (fun n s => max n s.2.2.2) n = s.2.2.2) := by
  induction l with
  | nil => intro n; exact ⟨Nat.le_refl _, fun s hs => (List.not_mem_nil hs).elim, Or.inl rfl⟩
  | cons a l ih =>
    intro n
    obtain ⟨h1, h2, h3⟩ := ih (max n a.2.2.2)
    rw [List.foldl_cons]
    refine ⟨by omega, fun s hs => ?_, ?_⟩
    · rcases List.mem_cons.1 hs with rfl | hs
      · omega
      · exact h2 s hs
    · rcases h3 with h3 | ⟨s, hs, h3⟩
      · by_cases e : n ≤ a.2.2.2
        · exact Or.inr ⟨a, List.mem_cons_self .., by omega⟩
        · exact Or.inl (by omega)
      · exact Or.inr ⟨s, List.mem_cons_of_mem _ hs, h3⟩
theorem LaidS.ends {ts : List (Int × List Int)} {h t : Nat} {out : List Sty} (hL : LaidS ts h t out) (hf : out.length = ts.length) : EndsAt ts (fun x => (stayOf out x).2.2.1) (endsOf out) := by
  obtain ⟨_, h2, h3⟩ := foldl_ends out 0
  refine ⟨fun x hx => ?_, ?_⟩
  · have hm := stayOf_mem (took_all hL (by omega) x hx)
    have := (hL.ok _ hm.1).2.2.2
    rw [hm.2] at this
    have := h2 _ hm.1
    show (stayOf out x).2.2.1 + wkN ts x ≤ endsOf out
    unfold endsOf
    omega
  · rcases h3 with h3 | ⟨s, hs, h3⟩
    · exact Or.inl h3
    · refine Or.inr ⟨s.2.1, (hL.ok s hs).2.1, ?_⟩
      show endsOf out = (stayOf out s.2.1).2.2.1 + wkN ts s.2.1
      rw [hL.stay hs, ← (hL.ok s hs).2.2.2]
      exact h3

/-- An order that names each task once. -/
def EachO (n : Nat) (ord : List Nat) : Prop := ord.length = n ∧ ord.Nodup ∧ ∀ x, x ∈ ord → x < n
theorem EachO.all {n : Nat} {ord : List Nat} (h : EachO n ord) : ∀ x, x < n → x ∈ ord := nodup_all h.2.1 h.2.2 (by rw [h.1]; exact Nat.le_refl _)

/-- What is taken by an order, to the end. -/
def listOut (ts : List (Int × List Int)) (h : Nat) (ord : List Nat) : List Sty := outAt ts h ord 601
section
variable {ts : List (Int × List Int)} {h : Nat} {ord : List Nat}
theorem list_full (hw : Works ts) (hr : InRange ts) (hno : ∀ j, j < ts.length → ¬ Reach ts j j) (hh : 1 ≤ h) (ho : EachO ts.length ord) : (listOut ts h ord).length = ts.length :=
  outAt_all hw hr hno hh ho.2.2 ho.all (by have := hw.all; omega)
theorem list_at (hw : Works ts) (hr : InRange ts) (hno : ∀ j, j < ts.length → ¬ Reach ts j j) (hh : 1 ≤ h) (ho : EachO ts.length ord) {t : Nat} (hf : (outAt ts h ord t).length = ts.length) : outAt ts h ord t = listOut ts h ord := by
  have h600 := outAt_all hw hr hno hh ho.2.2 ho.all (t := 601) (by have := hw.all; omega)
  by_cases e : t ≤ 601
  · have := outAt_stays ho.2.2 ho.all hr hf (601 - t)
    rw [show t + (601 - t) = 601 by omega] at this
    exact this.symm
  · have := outAt_stays ho.2.2 ho.all hr h600 (t - 601)
    rw [show 601 + (t - 601) = t by omega] at this
    exact this
/-- By any order: as many units as there is work; not below the work by the hands, nor the span; not above both. -/
theorem list_long {R T : Nat → Int} (hw : Works ts) (hr : InRange ts) (hno : ∀ j, j < ts.length → ¬ Reach ts j j) (hh : 1 ≤ h) (hd : Deep ts R T) (ho : EachO ts.length ord) :
    workTo ts ts.length ≤ (endsOf (listOut ts h ord) : Int) * h ∧ maxTo T ts.length ≤ endsOf (listOut ts h ord) ∧ (endsOf (listOut ts h ord) : Int) * h ≤ workTo ts ts.length + ((h : Int) - 1) * maxTo T ts.length := by
  obtain ⟨hL, hK⟩ := outAt_laid (h := h) ho.2.2 ho.all hr 601
  have hf := list_full hw hr hno hh ho
  exact ((hL.plays hr hK hf).sched hw hr |>.long hw hr hno hh hd ((hL.ends hf).over hw)).2
/-- With one hand more, by the same order, at most twice as long. -/
theorem list_anomaly {R T : Nat → Int} (hw : Works ts) (hr : InRange ts) (hno : ∀ j, j < ts.length → ¬ Reach ts j j) (hh : 1 ≤ h) (h6 : h ≤ 6) (hd : Deep ts R T) (ho : EachO ts.length ord) : endsOf (listOut ts (h + 1) ord) ≤ 2 * endsOf (listOut ts h ord) := by
  obtain ⟨hL, hK⟩ := outAt_laid (h := h) ho.2.2 ho.all hr 601
  obtain ⟨hL', hK'⟩ := outAt_laid (h := h + 1) ho.2.2 ho.all hr 601
  have hf := list_full hw hr hno hh ho
  have hf' := list_full (h := h + 1) hw hr hno (by omega) ho
  exact anomaly hw hr hno hh h6 hd (hL.plays hr hK hf) (hL.ends hf) (hL'.plays hr hK' hf') (hL'.ends hf')
end
end Go.Proofs.Ytkgdhfdahafaoaa
