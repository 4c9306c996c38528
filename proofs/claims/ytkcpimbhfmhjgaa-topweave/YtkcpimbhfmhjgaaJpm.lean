/- Plain: what the program keeps of bits and stays, task by task and moment by moment; it tells the same faults. No word of the program. Maps that judge keeps: moments that were seen, parts of tasks; the contracts of below, again and with. -/
import Derived.Test.YtkcpimbhfmhjgaaJab
import Derived.Test.YtkcpimbhfmhjgaaPln
import Derived.Maps.OwnSet
import Derived.Maps.AppendAt
import Derived.DeepKeys4
import Derived.MapViews

namespace Go.Proofs.Ytkcpimbhfmhjgaa

/-- A part of a task: how much work, from a step on, to below another one. -/
abbrev Prt : Type := Int × Int × Int
/-- With one more unit of work in a step. -/
def withP (a : Prt) (s : Int) : Prt := if a.1 = 0 then (1, s, s + 1) else (a.1 + 1, min a.2.1 s, max a.2.2 (s + 1))
/-- Of a task, what was seen of it in bits. -/
def partB (l : List BitZ) (x : Int) : Prt := l.foldl (fun a b => if b.2.2 = x then withP a b.1 else a) (0, 0, 0)
theorem partB_nil (x : Int) : partB [] x = (0, 0, 0) := rfl
theorem partB_snoc (l : List BitZ) (b : BitZ) (x : Int) : partB (l ++ [b]) x = if b.2.2 = x then withP (partB l x) b.1 else partB l x := by
  unfold partB
  rw [List.foldl_append]
  rfl
theorem withP_work (a : Prt) (s : Int) : (withP a s).1 = a.1 + 1 := by
  unfold withP
  split
  · rename_i h; rw [h]; rfl
  · rfl

/-- What the part of a task says of its bits. -/
structure PartIs (l : List BitZ) (x : Int) (a : Prt) : Prop where
  work : a.1 = manyB l x
  low : ∀ b, b ∈ l → b.2.2 = x → a.2.1 ≤ b.1 ∧ b.1 < a.2.2
  first : 0 < manyB l x → ∃ b, b ∈ l ∧ b.2.2 = x ∧ b.1 = a.2.1
  last : 0 < manyB l x → ∃ b, b ∈ l ∧ b.2.2 = x ∧ b.1 + 1 = a.2.2
theorem manyB_zero {l : List BitZ} {x : Int} (h : manyB l x = 0) : ∀ b, b ∈ l → b.2.2 ≠ x := by
  intro b hb e
  unfold manyB at h
  rw [List.countP_eq_zero] at h
  have := h b hb
  simp [e] at this
theorem part_is (l : List BitZ) (x : Int) : PartIs l x (partB l x) := by
  have key : ∀ r : List BitZ, PartIs r.reverse x (partB r.reverse x) := by
    intro r
    induction r with
    | nil => exact ⟨rfl, fun b hb => by simp at hb, fun h => by simp [manyB] at h, fun h => by simp [manyB] at h⟩
    | cons b r ih =>
      rw [List.reverse_cons]
      generalize r.reverse = l at ih
      rw [partB_snoc]
      by_cases e : b.2.2 = x
      · rw [if_pos e]
        have hm : manyB (l ++ [b]) x = manyB l x + 1 := by rw [manyB_append, manyB_one, if_pos e]
        refine ⟨?_, ?_, ?_, ?_⟩
        · rw [withP_work, ih.work, hm]; omega
        · intro c hc ec
          unfold withP
          split
          · rename_i h0
            have h0' : manyB l x = 0 := by have := ih.work; omega
            rcases List.mem_append.1 hc with h | h
            · exact absurd ec (manyB_zero h0' c h)
            · have : c = b := by simpa using h
              subst this
              dsimp only; omega
          · dsimp only
            rcases List.mem_append.1 hc with h | h
            · have := ih.low c h ec; omega
            · have : c = b := by simpa using h
              subst this
              omega
        · intro _
          unfold withP
          split
          · exact ⟨b, by simp, e, rfl⟩
          · rename_i h0
            dsimp only
            obtain ⟨c, hc, ec, h⟩ := ih.first (by have := ih.work; omega)
            by_cases hle : (partB l x).2.1 ≤ b.1
            · exact ⟨c, List.mem_append.2 (Or.inl hc), ec, by omega⟩
            · exact ⟨b, by simp, e, by omega⟩
        · intro _
          unfold withP
          split
          · exact ⟨b, by simp, e, rfl⟩
          · rename_i h0
            dsimp only
            obtain ⟨c, hc, ec, h⟩ := ih.last (by have := ih.work; omega)
            by_cases hle : b.1 + 1 ≤ (partB l x).2.2
            · exact ⟨c, List.mem_append.2 (Or.inl hc), ec, by omega⟩
            · exact ⟨b, by simp, e, by omega⟩
      · rw [if_neg e]
        have hm : manyB (l ++ [b]) x = manyB l x := by rw [manyB_append, manyB_one, if_neg e]; rfl
        refine ⟨by rw [hm]; exact ih.work, ?_, ?_, ?_⟩
        · intro c hc ec
          rcases List.mem_append.1 hc with h | h
          · exact ih.low c h ec
          · have : c = b := by simpa using h
            subst this
            exact absurd ec e
        · intro h
          rw [hm] at h
          obtain ⟨c, hc, r⟩ := ih.first h
          exact ⟨c, List.mem_append.2 (Or.inl hc), r⟩
        · intro h
          rw [hm] at h
          obtain ⟨c, hc, r⟩ := ih.last h
          exact ⟨c, List.mem_append.2 (Or.inl hc), r⟩
  have := key l.reverse
  rwa [List.reverse_reverse] at this

/-- Some task's part has less than its work. -/
def lackP (ts : List (Int × List Int)) (f : Int → Prt) : Bool := (List.range ts.length).any (fun (x : Nat) => decide ((f (x : Int)).1 < wkOf ts x))
/-- Some task's part begins ahead of the end of one that it needs. -/
def earlyP (ts : List (Int × List Int)) (f : Int → Prt) : Bool := (List.range ts.length).any (fun (x : Nat) => (needsOf ts x).any (fun y => decide ((f (x : Int)).2.1 < (f y).2.2)))
def partsErr (ts : List (Int × List Int)) (f : Int → Prt) : Int := if lackP ts f = true then 5 else if earlyP ts f = true then 6 else 0

theorem bits_parts {ts : List (Int × List Int)} {h : Nat} {l : List BitZ} (hw : Works ts) (hr : InRange ts) (h0 : firstErr (bitErr ts h) [] l = 0) : bitsErr ts h l = partsErr ts (partB l) := by
  have hf : ∀ b, b ∈ l → 0 ≤ b.1 ∧ b.1 ≤ 10000 ∧ 0 ≤ b.2.1 ∧ b.2.1 < h ∧ 0 ≤ b.2.2 ∧ b.2.2 < ts.length := by
    intro b hb
    rw [firstErr_zero] at h0
    obtain ⟨k, hk, rfl⟩ := List.getElem_of_mem hb
    have := h0 k hk
    rw [List.nil_append] at this
    exact outB_false.1 (bitErr_zero.1 this).1
  have e1 : lackP ts (partB l) = lackB ts l := by
    unfold lackP lackB
    congr 1
    funext x
    rw [(part_is l x).work]
  unfold bitsErr partsErr
  rw [if_pos h0, e1]
  cases hl : lackB ts l with
  | true => rfl
  | false =>
    have hm : ∀ x : Nat, x < ts.length → 0 < manyB l (x : Int) := by
      intro x hx
      unfold lackB at hl
      rw [List.any_eq_false] at hl
      have h1 := hl x (List.mem_range.2 hx)
      have h2 := (hw.2 x hx).1
      simp at h1
      omega
    have e2 : earlyP ts (partB l) = earlyB ts l := by
      rw [Bool.eq_iff_iff]
      unfold earlyP earlyB
      constructor
      · intro e
        obtain ⟨x, hx, e⟩ := List.any_eq_true.1 e
        obtain ⟨y, hy, e⟩ := List.any_eq_true.1 e
        have hx := List.mem_range.1 hx
        have e := of_decide_eq_true e
        have hyr := hr x hx y hy
        obtain ⟨b, hb, eb, h1⟩ := (part_is l (x : Int)).first (hm x hx)
        obtain ⟨c, hc, ec, h2⟩ := (part_is l y).last (by have := hm y.toNat (by omega); rwa [Int.toNat_of_nonneg hyr.1] at this)
        refine List.any_eq_true.2 ⟨b, hb, List.any_eq_true.2 ⟨y, by rw [eb, Int.toNat_natCast]; exact hy, decide_eq_true ?_⟩⟩
        have := lastB_ge hc
        rw [ec] at this
        omega
      · intro e
        obtain ⟨b, hb, e⟩ := List.any_eq_true.1 e
        obtain ⟨y, hy, e⟩ := List.any_eq_true.1 e
        have e := of_decide_eq_true e
        have hbr := hf b hb
        have hbx : ((b.2.2.toNat : Nat) : Int) = b.2.2 := Int.toNat_of_nonneg hbr.2.2.2.2.1
        have hyr := hr b.2.2.toNat (by omega) y hy
        have h1 := ((part_is l b.2.2).low b hb rfl).1
        refine List.any_eq_true.2 ⟨b.2.2.toNat, List.mem_range.2 (by omega), List.any_eq_true.2 ⟨y, hy, decide_eq_true ?_⟩⟩
        rw [hbx]
        rcases lastB_at l y with h2 | ⟨c, hc, ec, h2⟩
        · obtain ⟨c, hc, ec, h3⟩ := (part_is l y).last (by have := hm y.toNat (by omega); rwa [Int.toNat_of_nonneg hyr.1] at this)
          have := (hf c hc).1
          omega
        · have := ((part_is l y).low c hc ec).2
          omega
    rw [e2]
/-- When no fault is told, the part's end is behind the last step. -/
theorem part_last {ts : List (Int × List Int)} {h : Nat} {l : List BitZ} (hw : Works ts) (ok : BitsOk ts h l) {x : Nat} (hx : x < ts.length) : (partB l (x : Int)).2.2 - 1 = lastB l (x : Int) := by
  have hm : 0 < manyB l (x : Int) := by have := ok.full x hx; have := (hw.2 x hx).1; omega
  obtain ⟨c, hc, ec, h3⟩ := (part_is l (x : Int)).last hm
  have h1 := lastB_ge hc
  rw [ec] at h1
  have h4 := (ok.rng c hc).1
  rcases lastB_at l (x : Int) with h2 | ⟨d, hd, ed, h2⟩
  · omega
  · have := ((part_is l (x : Int)).low d hd ed).2
    omega

/-- Of a task, what was seen of it in stays: the last of them. -/
def partS (l : List StyZ) (x : Int) : Option Prt := l.foldl (fun a s => if s.2.1 = x then some (s.2.2.2 - s.2.2.1, s.2.2.1, s.2.2.2) else a) none
theorem partS_snoc (l : List StyZ) (s : StyZ) (x : Int) : partS (l ++ [s]) x = if s.2.1 = x then some (s.2.2.2 - s.2.2.1, s.2.2.1, s.2.2.2) else partS l x := by
  unfold partS
  rw [List.foldl_append]
  rfl
theorem partS_is (l : List StyZ) (x : Int) : (partS l x = none ∧ ∀ s, s ∈ l → s.2.1 ≠ x) ∨ ∃ s, s ∈ l ∧ s.2.1 = x ∧ partS l x = some (s.2.2.2 - s.2.2.1, s.2.2.1, s.2.2.2) := by
  have key : ∀ r : List StyZ, (partS r.reverse x = none ∧ ∀ s, s ∈ r.reverse → s.2.1 ≠ x) ∨ ∃ s, s ∈ r.reverse ∧ s.2.1 = x ∧ partS r.reverse x = some (s.2.2.2 - s.2.2.1, s.2.2.1, s.2.2.2) := by
    intro r
    induction r with
    | nil => exact Or.inl ⟨rfl, fun s hs => by simp at hs⟩
    | cons b r ih =>
      rw [List.reverse_cons]
      generalize r.reverse = l at ih
      rw [partS_snoc]
      by_cases e : b.2.1 = x
      · rw [if_pos e]
        exact Or.inr ⟨b, by simp, e, rfl⟩
      · rw [if_neg e]
        rcases ih with ⟨h1, h2⟩ | ⟨s, hs, r⟩
        · refine Or.inl ⟨h1, fun s hs => ?_⟩
          rcases List.mem_append.1 hs with h | h
          · exact h2 s h
          · have : s = b := by simpa using h
            subst this; exact e
        · exact Or.inr ⟨s, List.mem_append.2 (Or.inl hs), r⟩
  have := key l.reverse
  rwa [List.reverse_reverse] at this
theorem partS_some (l : List StyZ) (x : Int) : (partS l x).isSome = l.any (fun s => decide (s.2.1 = x)) := by
  rcases partS_is l x with ⟨h1, h2⟩ | ⟨s, hs, e, h⟩
  · rw [h1]
    symm
    show l.any _ = false
    rw [List.any_eq_false]
    intro s hs
    simpa using h2 s hs
  · rw [h]
    symm
    exact List.any_eq_true.2 ⟨s, hs, decide_eq_true e⟩

/-- By one hand, in a step, some stay. -/
def seenS (l : List StyZ) (a b : Int) : Bool := l.any (fun s => decide (s.1 = a) && decide (s.2.2.1 ≤ b) && decide (b < s.2.2.2))
/-- A stay's hand is had already in some step of it, or its task: so it meets one ahead. -/
theorem hits_seen {ts : List (Int × List Int)} {h : Nat} {l : List StyZ} {s : StyZ} (hw : Works ts) (hl : ∀ a, a ∈ l → outS ts.length h a = false ∧ a.2.2.2 - a.2.2.1 = wkOf ts a.2.1.toNat) (hs : outS ts.length h s = false) (hsl : s.2.2.2 - s.2.2.1 = wkOf ts s.2.1.toNat) :
    l.any (fun a => hitS a s) = true ↔ (partS l s.2.1).isSome = true ∨ ∃ b, s.2.2.1 ≤ b ∧ b < s.2.2.2 ∧ seenS l s.1 b = true := by
  have hs' := outS_false.1 hs
  have hs1 := (hw.2 s.2.1.toNat (by omega)).1
  rw [partS_some]
  constructor
  · intro e
    obtain ⟨a, ha, e⟩ := List.any_eq_true.1 e
    unfold hitS at e
    simp only [Bool.or_eq_true, Bool.and_eq_true, decide_eq_true_eq] at e
    have ha' := outS_false.1 (hl a ha).1
    have ha1 := (hw.2 a.2.1.toNat (by omega)).1
    have hal := (hl a ha).2
    rcases e with e | ⟨⟨e1, e2⟩, e3⟩
    · exact Or.inl (List.any_eq_true.2 ⟨a, ha, decide_eq_true e⟩)
    · right
      by_cases hlt : a.2.2.1 ≤ s.2.2.1
      · refine ⟨s.2.2.1, by omega, by omega, List.any_eq_true.2 ⟨a, ha, ?_⟩⟩
        simp only [Bool.and_eq_true, decide_eq_true_eq]
        exact ⟨⟨e1, hlt⟩, e3⟩
      · refine ⟨a.2.2.1, by omega, by omega, List.any_eq_true.2 ⟨a, ha, ?_⟩⟩
        simp only [Bool.and_eq_true, decide_eq_true_eq]
        exact ⟨⟨e1, by omega⟩, by omega⟩
  · rintro (e | ⟨b, h1, h2, e⟩)
    · obtain ⟨a, ha, e⟩ := List.any_eq_true.1 e
      refine List.any_eq_true.2 ⟨a, ha, ?_⟩
      unfold hitS
      simp only [Bool.or_eq_true, decide_eq_true_eq]
      exact Or.inl (of_decide_eq_true e)
    · unfold seenS at e
      obtain ⟨a, ha, e⟩ := List.any_eq_true.1 e
      simp only [Bool.and_eq_true, decide_eq_true_eq] at e
      refine List.any_eq_true.2 ⟨a, ha, ?_⟩
      unfold hitS
      simp only [Bool.or_eq_true, Bool.and_eq_true, decide_eq_true_eq]
      exact Or.inr ⟨⟨e.1.1, by omega⟩, by omega⟩

theorem stays_parts {ts : List (Int × List Int)} {h : Nat} {l : List StyZ} (hw : Works ts) (hr : InRange ts) (h0 : firstErr (stayErr ts h) [] l = 0) : staysErr ts h l = partsErr ts (fun x => (partS l x).getD (0, 0, 0)) := by
  have hk : ∀ k (hk : k < l.length), outS ts.length h l[k] = false ∧ l[k].2.2.2 - l[k].2.2.1 = wkOf ts l[k].2.1.toNat ∧ ∀ a, a ∈ l.take k → hitS a l[k] = false := by
    intro k hk
    rw [firstErr_zero] at h0
    have := h0 k hk
    rw [List.nil_append] at this
    exact stayErr_zero.1 this
  have hf : ∀ s, s ∈ l → outS ts.length h s = false ∧ s.2.2.2 - s.2.2.1 = wkOf ts s.2.1.toNat := by
    intro b hb
    obtain ⟨k, hk', rfl⟩ := List.getElem_of_mem hb
    exact ⟨(hk k hk').1, (hk k hk').2.1⟩
  have hap : l.Pairwise (fun a s => a.2.1 ≠ s.2.1) := by
    rw [List.pairwise_iff_getElem]
    intro i j hi hj hij
    exact (hitS_false.1 ((hk j hj).2.2 _ (by rw [List.mem_take_iff_getElem]; exact ⟨i, by omega, rfl⟩))).1
  have hnd : (l.map (fun s => s.2.1.toNat)).Nodup := by
    rw [List.Nodup, List.pairwise_map]
    refine List.Pairwise.imp_of_mem (fun {a b} ha hb hab => ?_) hap
    have := outS_false.1 (hf a ha).1
    have := outS_false.1 (hf b hb).1
    omega
  have hlt : ∀ x, x ∈ l.map (fun s => s.2.1.toNat) → x < ts.length := by
    intro x hx
    obtain ⟨s, hs, rfl⟩ := List.mem_map.1 hx
    have := outS_false.1 (hf s hs).1
    omega
  have hpart : ∀ s, s ∈ l → (partS l s.2.1).getD (0, 0, 0) = (s.2.2.2 - s.2.2.1, s.2.2.1, s.2.2.2) := by
    intro s hs
    rcases partS_is l s.2.1 with ⟨_, h2⟩ | ⟨a, ha, e, h⟩
    · exact absurd rfl (h2 s hs)
    · rw [h]
      have : a = s := by
        obtain ⟨i, hi, rfl⟩ := List.getElem_of_mem ha
        obtain ⟨j, hj, rfl⟩ := List.getElem_of_mem hs
        rw [List.pairwise_iff_getElem] at hap
        rcases Nat.lt_trichotomy i j with h | h | h
        · exact absurd e (hap i j hi hj h)
        · subst h; rfl
        · exact absurd e.symm (hap j i hj hi h)
      rw [this]; rfl
  have e1 : lackP ts (fun x => (partS l x).getD (0, 0, 0)) = decide (l.length < ts.length) := by
    rw [Bool.eq_iff_iff]
    unfold lackP
    rw [decide_eq_true_eq]
    constructor
    · intro e
      obtain ⟨x, hx, e⟩ := List.any_eq_true.1 e
      have hx := List.mem_range.1 hx
      have e := of_decide_eq_true e
      have hlen := nodup_lt_len hnd hlt
      rw [List.length_map] at hlen
      refine Classical.byContradiction fun hge => ?_
      have hin := nodup_all hnd hlt (by rw [List.length_map]; omega) x hx
      obtain ⟨s, hs, rfl⟩ := List.mem_map.1 hin
      have h1 := outS_false.1 (hf s hs).1
      have e : ((partS l ((s.2.1.toNat : Nat) : Int)).getD (0, 0, 0)).1 < wkOf ts s.2.1.toNat := e
      rw [Int.toNat_of_nonneg h1.2.2.1, hpart s hs] at e
      have := (hf s hs).2
      dsimp only at e
      omega
    · intro e
      have : ∃ x, x < ts.length ∧ x ∉ l.map (fun s => s.2.1.toNat) := by
        refine Classical.byContradiction fun hno => ?_
        have hall : ∀ x, x ∈ List.range ts.length → x ∈ l.map (fun s => s.2.1.toNat) := fun x hx => Classical.byContradiction fun hn => hno ⟨x, List.mem_range.1 hx, hn⟩
        have := nodup_sub_len (List.nodup_range (n := ts.length)) hall
        rw [List.length_range, List.length_map] at this
        omega
      obtain ⟨x, hx, hn⟩ := this
      refine List.any_eq_true.2 ⟨x, List.mem_range.2 hx, decide_eq_true ?_⟩
      show ((partS l (x : Int)).getD (0, 0, 0)).1 < wkOf ts x
      rcases partS_is l (x : Int) with ⟨h1, _⟩ | ⟨s, hs, e, _⟩
      · rw [h1]
        have := (hw.2 x hx).1
        show (0 : Int) < _
        omega
      · exact absurd (List.mem_map.2 ⟨s, hs, by rw [e]; rfl⟩) hn
  unfold staysErr partsErr
  rw [if_pos h0, e1]
  by_cases hlen : l.length < ts.length
  · rw [if_pos hlen, decide_eq_true hlen]; rfl
  · rw [if_neg hlen, decide_eq_false hlen]
    have e2 : earlyP ts (fun x => (partS l x).getD (0, 0, 0)) = earlyS ts l := by
      have hhas : ∀ x : Nat, x < ts.length → ∃ s, s ∈ l ∧ s.2.1 = (x : Int) := by
        intro x hx
        have hin := nodup_all hnd hlt (by rw [List.length_map]; omega) x hx
        obtain ⟨s, hs, e⟩ := List.mem_map.1 hin
        have h1 := outS_false.1 (hf s hs).1
        exact ⟨s, hs, by omega⟩
      rw [Bool.eq_iff_iff]
      unfold earlyP earlyS
      constructor
      · intro e
        obtain ⟨x, hx, e⟩ := List.any_eq_true.1 e
        obtain ⟨y, hy, e⟩ := List.any_eq_true.1 e
        have hx := List.mem_range.1 hx
        have e := of_decide_eq_true e
        have hyr := hr x hx y hy
        obtain ⟨s, hs, es⟩ := hhas x hx
        obtain ⟨a, ha, ea⟩ := hhas y.toNat (by omega)
        have ea' : a.2.1 = y := by omega
        have e : ((partS l (x : Int)).getD (0, 0, 0)).2.1 < ((partS l y).getD (0, 0, 0)).2.2 := e
        rw [← es, hpart s hs, ← ea', hpart a ha] at e
        dsimp only at e
        refine List.any_eq_true.2 ⟨s, hs, List.any_eq_true.2 ⟨a, ha, ?_⟩⟩
        simp only [Bool.and_eq_true, decide_eq_true_eq]
        exact ⟨by rw [ea', es, Int.toNat_natCast]; exact hy, e⟩
      · intro e
        obtain ⟨s, hs, e⟩ := List.any_eq_true.1 e
        obtain ⟨a, ha, e⟩ := List.any_eq_true.1 e
        simp only [Bool.and_eq_true, decide_eq_true_eq] at e
        have h1 := outS_false.1 (hf s hs).1
        refine List.any_eq_true.2 ⟨s.2.1.toNat, List.mem_range.2 (by omega), List.any_eq_true.2 ⟨a.2.1, e.1, decide_eq_true ?_⟩⟩
        show ((partS l ((s.2.1.toNat : Nat) : Int)).getD (0, 0, 0)).2.1 < ((partS l a.2.1).getD (0, 0, 0)).2.2
        rw [Int.toNat_of_nonneg h1.2.2.1, hpart s hs, hpart a ha]
        exact e.2
    rw [e2]
    simp

/-- A first fault at a place, none ahead. -/
theorem firstErr_at {α : Type} {E : List α → α → Int} {l : List α} {k : Nat} (hk : k < l.length) (h0 : firstErr E [] (l.take k) = 0) (he : E (l.take k) l[k] ≠ 0) : firstErr E [] l = E (l.take k) l[k] := by
  have key : ∀ (r l0 : List α) (k : Nat) (hk : k < r.length), firstErr E l0 (r.take k) = 0 → E (l0 ++ r.take k) r[k] ≠ 0 → firstErr E l0 r = E (l0 ++ r.take k) r[k] := by
    intro r
    induction r with
    | nil => intro l0 k hk; simp at hk
    | cons b r ih =>
      intro l0 k hk h0 he
      cases k with
      | zero =>
        simp only [List.take_zero, List.append_nil, List.getElem_cons_zero] at he ⊢
        unfold firstErr
        rw [if_neg he]
      | succ k =>
        rw [List.take_succ_cons] at h0
        unfold firstErr at h0 ⊢
        by_cases hb : E l0 b = 0
        · rw [if_pos hb] at h0 ⊢
          have := ih (l0 ++ [b]) k (by simpa using hk) h0 (by simpa using he)
          rw [this]
          simp
        · rw [if_neg hb] at h0
          exact absurd h0 hb
  have := key l [] k hk h0 (by rw [List.nil_append]; exact he)
  rwa [List.nil_append] at this
theorem firstErr_next {α : Type} {E : List α → α → Int} {l : List α} {k : Nat} (hk : k < l.length) (h0 : firstErr E [] (l.take k) = 0) (he : E (l.take k) l[k] = 0) : firstErr E [] (l.take (k + 1)) = 0 := by
  rw [firstErr_zero] at h0 ⊢
  intro j hj
  rw [List.nil_append]
  rw [List.length_take] at hj
  by_cases e : j = k
  · subst e
    rw [List.take_take, Nat.min_eq_left (by omega), List.getElem_take]
    exact he
  · have := h0 j (by rw [List.length_take]; omega)
    rw [List.nil_append, List.take_take, Nat.min_eq_left (by omega), List.getElem_take] at this
    rw [List.take_take, Nat.min_eq_left (by omega), List.getElem_take]
    exact this
end Go.Proofs.Ytkcpimbhfmhjgaa

namespace Go.Proofs.Ytkcpimbhfmhjgaa
open Go.RowKit Go.Deep Go.Maps

theorem laidOut : laidOutB Try.prog = true := by kernel_rfl
theorem row72 : (95 : TypeId) < Try.prog.types.size := of_decide_eq_true (by kernel_rfl)
theorem keyAt72 : Try.prog.keyTypeAt 2 95 = true := by kernel_rfl
theorem law72 : WideMaps.KeyLaw Try.prog 95 := deep_law_laid (P := Try.prog) (k := 95) (m := 2) laidOut (Nat.le_of_ble_eq_true rfl) row72 keyAt72 (by rw [Try.underlying95])
theorem keyed72 : Keyed Try.prog 95 := Keyed.of_law law72
theorem keyedJ : Keyed Try.prog 3 := int_keyed Try.underlying3
theorem zero91 (w : World) : (zeroValue 118).run Try.prog w = .ok (.agg #[]) w := by kernel_rfl
theorem zero57 (w : World) : (zeroValue 72).run Try.prog w = .ok (.agg #[.int .i64 0, .int .i64 0, .int .i64 0]) w := by kernel_rfl

/-- A moment: who, and in which step. -/
def momV (a b : Int) : Value := .agg #[.int .i64 a, .int .i64 b]
theorem keyT72 : Try.prog.keyType 95 = true := by kernel_rfl
theorem cells72 : Try.prog.cellsOf 95 = 2 := by kernel_rfl
theorem cells3 : Try.prog.cellsOf 3 = 1 := by kernel_rfl
theorem sizeT : ∃ m, Try.prog.types.size + 1 = m + 1 + 1 := ⟨Try.prog.types.size - 1, by have := row72; have h : (95 : Nat) < Try.prog.types.size := this; omega⟩
theorem mom_key {a b : Int} (ha : (Lit.int .i64 a).wf = true) (hb : (Lit.int .i64 b).wf = true) : keyOf Try.prog 95 (momV a b) = some (.string (keyBytes [.int .i64 a, .int .i64 b])) := by
  obtain ⟨m, hm⟩ := sizeT
  unfold keyOf momV
  rw [Try.underlying95, hm]
  simp [keyT72, Value.formed, Try.underlying95, cells72, Program.keyLits, Try.underlying3, cells3, Value.cells, ha, hb]

def momL (a b : Int) : Lit := .string (keyBytes [.int .i64 a, .int .i64 b])
theorem mom_inj {a b c d : Int} (ha : (Lit.int .i64 a).wf = true) (hb : (Lit.int .i64 b).wf = true) (hc : (Lit.int .i64 c).wf = true) (hd : (Lit.int .i64 d).wf = true) (h : momL a b = momL c d) : a = c ∧ b = d := by
  have h1 := mom_key ha hb
  have h2 := mom_key hc hd
  have e : momV a b = momV c d := keyed72.inj h1 (by rw [h2]; exact congrArg some h.symm)
  simp only [momV, Value.agg.injEq, Array.mk.injEq, List.cons.injEq, Value.int.injEq, true_and, and_true] at e
  exact e
/-- Block B is the set of these moments, of at most so many. -/
def SeenM (w : World) (B n : Nat) (S : Int → Int → Bool) : Prop :=
  ∃ D, w.ownsMap Try.prog 95 (unitElem (H := Unit)) B n D ∧ ∀ a b : Int, (Lit.int .i64 a).wf = true → (Lit.int .i64 b).wf = true → Maps.has D (momL a b) = S a b
theorem SeenM.start (w : World) : SeenM (w.alloc (.map #[] 0)) w.heap.size 0 (fun _ _ => false) :=
  ⟨.map [], World.ownsMap_made _ _ _ _, fun a b _ _ => by simp [Maps.has]⟩
theorem SeenM.lt {w : World} {B n : Nat} {S : Int → Int → Bool} (h : SeenM w B n S) : B < w.heap.size := by
  obtain ⟨D, h, _⟩ := h
  exact h.lt
theorem SeenM.kept {w w' : World} {B n : Nat} {S : Int → Int → Bool} {row : Option Nat} (h : SeenM w B n S) (hg : w.grownBy w' row) (hne : some B ≠ row) : SeenM w' B n S := by
  obtain ⟨D, h, h2⟩ := h
  exact ⟨D, h.kept hg hne, h2⟩
theorem SeenM.congr {w : World} {B n : Nat} {S S' : Int → Int → Bool} (h : SeenM w B n S) (e : ∀ a b, S a b = S' a b) : SeenM w B n S' := by
  obtain ⟨D, h, h2⟩ := h
  exact ⟨D, h, fun a b ha hb => (h2 a b ha hb).trans (e a b)⟩
theorem SeenM.mono {w : World} {B n m : Nat} {S : Int → Int → Bool} (h : SeenM w B n S) (e : n ≤ m) : SeenM w B m S := by
  obtain ⟨D, h, h2⟩ := h
  exact ⟨D, h.mono e, h2⟩
theorem SeenM.of_block {w w' : World} {B n : Nat} {S : Int → Int → Bool} (h : SeenM w B n S) (hk : w'.heap[B]? = w.heap[B]?) : SeenM w' B n S := by
  obtain ⟨D, ⟨es, clock, hb, r⟩, h2⟩ := h
  exact ⟨D, ⟨es, clock, hk.trans hb, r⟩, h2⟩
theorem SeenM.ne {w : World} {B n : Nat} {S : Int → Int → Bool} (h : SeenM w B n S) {a : Addr} {u : Value} (hc : w.cell? a = some u) : some a.block ≠ some B := by
  intro e
  obtain ⟨D, ⟨es, clock, hb, _⟩, _⟩ := h
  rw [← Option.some.inj e] at hb
  simp [World.cell?, hb] at hc

theorem below_any (n bound : Int) (w : World) : Calls Try.prog 28 #[.int .i64 n, .int .i64 bound] w fun e w' => e = .returned (.bool (inRange n bound)) ∧ w' = w := by
  by_cases h1 : 0 ≤ n
  · by_cases h2 : n < bound
    · go_enter Try.func28, Try.ntmps28
      go_wp2
      go_ret
      exact ⟨by simp [inRange, h1, h2], rfl⟩
    · go_enter Try.func28, Try.ntmps28
      go_wp2
      go_ret
      exact ⟨by simp [inRange, h1, h2], rfl⟩
  · go_enter Try.func28, Try.ntmps28
    go_wp2
    go_ret
    exact ⟨by rw [show inRange n bound = false by simp [inRange]; omega]; rfl, rfl⟩

set_option maxRecDepth 100000 in
set_option maxHeartbeats 2000000 in
theorem again_any (B n : Nat) (S : Int → Int → Bool) (a b : Int) (w : World) (hn : n ≤ 1000000000000000) (ha : (Lit.int .i64 a).wf = true) (hb : (Lit.int .i64 b).wf = true) (hs : SeenM w B n S) :
    Calls Try.prog 47 #[.map (some B), .agg #[.int .i64 a, .int .i64 b]] w fun e w' => e = .returned (.bool (S a b)) ∧ SeenM w' B (n + 1) (fun x y => S x y || (decide (x = a) && decide (y = b))) ∧ w.grownBy w' (some B) := by
  have HS : Hid (SeenM w B n S) := hs
  obtain ⟨D, hown, hD⟩ := hs
  have hDx := hD a b ha hb
  have HD : Hid (∀ a b : Int, (Lit.int .i64 a).wf = true → (Lit.int .i64 b).wf = true → Maps.has D (momL a b) = S a b) := hD
  have hkey : keyOf Try.prog 95 (.agg #[.int .i64 a, .int .i64 b]) = some (momL a b) := mom_key ha hb
  have hml : n < maxLen := by unfold maxLen; omega
  have hown1 := hown.alloc (.cells #[.int .i64 a, .int .i64 b] 95)
  have hown2 := hown1.alloc (.cells #[] 118)
  have hsz := HS.out.lt
  have HN : Hid (∀ w1 : World, w1.ownsMap Try.prog 95 (unitElem (H := Unit)) B (n + 1) (D.put (momL a b) (.agg [])) → SeenM w1 B (n + 1) (fun x y => S x y || (decide (x = a) && decide (y = b)))) := by
    intro w1 h
    refine ⟨_, h, fun x y hx hy => ?_⟩
    by_cases e : x = a ∧ y = b
    · obtain ⟨rfl, rfl⟩ := e
      rw [Maps.has_put_same hown.isMap (by trivial)]; simp
    · rw [Maps.has_put_other (fun h => e (mom_inj hx hy ha hb h)), HD.out x y hx hy]
      by_cases e1 : x = a
      · have e2 : ¬ y = b := fun e2 => e ⟨e1, e2⟩
        simp [e1, e2]
      · simp [e1]
  have HG : Hid (w.grownBy ((w.alloc (.cells #[.int .i64 a, .int .i64 b] 95)).alloc (.cells #[] 118)) (some B)) := (World.grownBy_alloc _ _ _).trans (World.grownBy_alloc _ _ _)
  clear hD
  generalize S a b = was at *
  go_enter Try.func47, Try.ntmps47
  go_wp2_with (first | (at_lookup; refine wpList_lookup_own_unit _ rfl _ _ 69 rfl 95 118 keyed72 Try.underlying69 (zero91 _) B n D rfl hown1 _ _ rfl hkey ?_; rw [hDx]) | (at_mapUpdate; refine wpList_mapUpdate_own _ rfl _ _ _ 69 rfl 95 118 keyed72 Try.underlying69 (unitElem (H := Unit)) B n D rfl hown2 hml _ _ _ rfl rfl hkey (.agg []) [] unitElem_mk ?_; intro w1 hown3 hgrow1))
  go_ret
  exact ⟨rfl, HN.out _ hown3, HG.out.trans hgrow1⟩
end Go.Proofs.Ytkcpimbhfmhjgaa
