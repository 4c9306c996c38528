/- Plain: stays that may be so are, bit by bit, bits that may be so; with one less they are too few. No word of the program. -/
import Derived.Test.YtkgdhfdahafaoaaDoorJb
namespace Go.Proofs.YtkgdhfdahafaoaaDoor

/-- The bits of a stay, one by one. -/
def bitsOfS (s : StyZ) : List BitZ := (List.range (s.2.2.2 - s.2.2.1).toNat).map (fun (i : Nat) => (s.2.2.1 + (i : Int), s.1, s.2.1))
def bitsOfAll (l : List StyZ) : List BitZ := l.flatMap bitsOfS
theorem mem_bitsOfS {s : StyZ} {b : BitZ} : b ∈ bitsOfS s ↔ s.2.2.1 ≤ b.1 ∧ b.1 < s.2.2.2 ∧ b.2.1 = s.1 ∧ b.2.2 = s.2.1 := by
  unfold bitsOfS
  rw [List.mem_map]
  constructor
  · rintro ⟨i, hi, rfl⟩
    have := List.mem_range.1 hi
    dsimp only
    refine ⟨by omega, by omega, rfl, rfl⟩
  · rintro ⟨h1, h2, h3, h4⟩
    refine ⟨(b.1 - s.2.2.1).toNat, List.mem_range.2 (by omega), ?_⟩
    obtain ⟨b1, b2, b3⟩ := b
    dsimp only at *
    rw [h3, h4]
    congr 1
    omega
theorem bitsOfS_apart (s : StyZ) : (bitsOfS s).Pairwise (fun a b => a.1 = b.1 → a.2.1 ≠ b.2.1 ∧ a.2.2 ≠ b.2.2) := by
  unfold bitsOfS
  rw [List.pairwise_map]
  refine List.Pairwise.imp ?_ (List.nodup_range (n := (s.2.2.2 - s.2.2.1).toNat))
  intro i j hij e
  exfalso
  dsimp only at e
  omega
theorem many_one (s : StyZ) (x : Int) : manyB (bitsOfS s) x = if s.2.1 = x then (s.2.2.2 - s.2.2.1).toNat else 0 := by
  unfold manyB bitsOfS
  rw [List.countP_map]
  by_cases h : s.2.1 = x
  · rw [if_pos h]
    have : (List.range (s.2.2.2 - s.2.2.1).toNat).countP ((fun b : BitZ => decide (b.2.2 = x)) ∘ fun i : Nat => (s.2.2.1 + (i : Int), s.1, s.2.1)) = (List.range (s.2.2.2 - s.2.2.1).toNat).length := by
      rw [List.countP_eq_length]
      intro i _
      simp [h]
    rw [this, List.length_range]
  · rw [if_neg h]
    rw [List.countP_eq_zero]
    intro i _
    simp [h]
theorem bitsOfAll_cons (s : StyZ) (l : List StyZ) : bitsOfAll (s :: l) = bitsOfS s ++ bitsOfAll l := by simp [bitsOfAll]
theorem mem_bitsOfAll {l : List StyZ} {b : BitZ} : b ∈ bitsOfAll l ↔ ∃ s, s ∈ l ∧ b ∈ bitsOfS s := by simp [bitsOfAll]
theorem many_none {l : List StyZ} {x : Int} (h : ∀ s, s ∈ l → s.2.1 ≠ x) : manyB (bitsOfAll l) x = 0 := by
  induction l with
  | nil => rfl
  | cons s l ih =>
    rw [bitsOfAll_cons, manyB_append, ih (fun s' hs => h s' (List.mem_cons_of_mem _ hs)), many_one, if_neg (h s (List.mem_cons_self ..))]
theorem many_all {l : List StyZ} (hn : (l.map (fun s => s.2.1)).Nodup) {s : StyZ} (hs : s ∈ l) : manyB (bitsOfAll l) s.2.1 = (s.2.2.2 - s.2.2.1).toNat := by
  induction l with
  | nil => cases hs
  | cons a l ih =>
    rw [List.map_cons, List.nodup_cons] at hn
    rw [bitsOfAll_cons, manyB_append, many_one]
    rcases List.mem_cons.1 hs with h | h
    · subst h
      rw [if_pos rfl, many_none (fun s' hs' e => hn.1 (List.mem_map.2 ⟨s', hs', e⟩)), Nat.add_zero]
    · rw [if_neg (fun e => hn.1 (List.mem_map.2 ⟨s, h, e.symm⟩)), Nat.zero_add, ih hn.2 h]
theorem bitsOfAll_apart {l : List StyZ} (h : l.Pairwise (fun a s => a.2.1 ≠ s.2.1 ∧ (a.1 = s.1 → s.2.2.2 ≤ a.2.2.1 ∨ a.2.2.2 ≤ s.2.2.1))) : (bitsOfAll l).Pairwise (fun a b => a.1 = b.1 → a.2.1 ≠ b.2.1 ∧ a.2.2 ≠ b.2.2) := by
  induction l with
  | nil => exact List.Pairwise.nil
  | cons s l ih =>
    rw [List.pairwise_cons] at h
    rw [bitsOfAll_cons, List.pairwise_append]
    refine ⟨bitsOfS_apart s, ih h.2, fun a ha b hb e => ?_⟩
    obtain ⟨s', hs', hb'⟩ := mem_bitsOfAll.1 hb
    have h1 := mem_bitsOfS.1 ha
    have h2 := mem_bitsOfS.1 hb'
    have h3 := h.1 s' hs'
    refine ⟨fun e2 => ?_, fun e2 => h3.1 (by rw [← h1.2.2.2, ← h2.2.2.2]; exact e2)⟩
    have := h3.2 (by rw [← h1.2.2.1, ← h2.2.2.1]; exact e2)
    omega
theorem map_onceZ {l : List StyZ} (h : (l.map (fun s => s.2.1)).Nodup) {a b : StyZ} (ha : a ∈ l) (hb : b ∈ l) (e : a.2.1 = b.2.1) : a = b := by
  induction l with
  | nil => cases ha
  | cons c l ih =>
    rw [List.map_cons, List.nodup_cons] at h
    rcases List.mem_cons.1 ha with h1 | h1 <;> rcases List.mem_cons.1 hb with h2 | h2
    · rw [h1, h2]
    · subst h1; exact absurd (List.mem_map.2 ⟨b, h2, e.symm⟩) h.1
    · subst h2; exact absurd (List.mem_map.2 ⟨a, h1, e⟩) h.1
    · exact ih h.2 h1 h2
/-- Each task stands among stays that may be so, once. -/
theorem StaysOk.once {ts : List (Int × List Int)} {h : Nat} {l : List StyZ} (ok : StaysOk ts h l) : (l.map (fun s => s.2.1)).Nodup := by
  rw [List.Nodup, List.pairwise_map]
  exact ok.apart.imp (fun h => h.1)
theorem StaysOk.len {ts : List (Int × List Int)} {h : Nat} {l : List StyZ} (ok : StaysOk ts h l) : l.length = ts.length := by
  have h1 : (l.map (fun s => s.2.1.toNat)).Nodup := by
    rw [List.Nodup, List.pairwise_map]
    refine List.Pairwise.imp_of_mem (fun {a b} ha hb hab => ?_) ok.apart
    have := ok.rng a ha
    have := ok.rng b hb
    have := hab.1
    omega
  have h2 := nodup_lt_len h1 (n := ts.length) (fun x hx => by
    obtain ⟨s, hs, rfl⟩ := List.mem_map.1 hx
    have := ok.rng s hs
    omega)
  rw [List.length_map] at h2
  have := ok.all
  omega
theorem StaysOk.has {ts : List (Int × List Int)} {h : Nat} {l : List StyZ} (ok : StaysOk ts h l) {x : Nat} (hx : x < ts.length) : ∃ s, s ∈ l ∧ s.2.1 = (x : Int) := by
  have h1 : (l.map (fun s => s.2.1.toNat)).Nodup := by
    rw [List.Nodup, List.pairwise_map]
    refine List.Pairwise.imp_of_mem (fun {a b} ha hb hab => ?_) ok.apart
    have := ok.rng a ha
    have := ok.rng b hb
    have := hab.1
    omega
  have h2 := nodup_all h1 (n := ts.length) (fun x hx => by
    obtain ⟨s, hs, rfl⟩ := List.mem_map.1 hx
    have := ok.rng s hs
    omega) (by rw [List.length_map]; exact ok.all) x hx
  obtain ⟨s, hs, e⟩ := List.mem_map.1 h2
  have := ok.rng s hs
  exact ⟨s, hs, by omega⟩
/-- Stays are bits. -/
theorem StaysOk.bits {ts : List (Int × List Int)} {h : Nat} {l : List StyZ} (hw : Works ts) (ok : StaysOk ts h l) : BitsOk ts h (bitsOfAll l) := by
  refine ⟨fun b hb => ?_, bitsOfAll_apart ok.apart, fun x hx => ?_, fun b hb a ha hn => ?_⟩
  · obtain ⟨s, hs, hb'⟩ := mem_bitsOfAll.1 hb
    have h1 := mem_bitsOfS.1 hb'
    have h2 := ok.rng s hs
    rw [h1.2.2.1, h1.2.2.2]
    omega
  · obtain ⟨s, hs, e⟩ := ok.has hx
    have h1 := many_all ok.once hs
    rw [e] at h1
    rw [h1]
    have h2 := ok.long s hs
    rw [e, Int.toNat_natCast] at h2
    have h3 := hw.2 x hx
    omega
  · obtain ⟨s, hs, hb'⟩ := mem_bitsOfAll.1 hb
    obtain ⟨s', hs', ha'⟩ := mem_bitsOfAll.1 ha
    have h1 := mem_bitsOfS.1 hb'
    have h2 := mem_bitsOfS.1 ha'
    have h3 := ok.behind s hs s' hs' (by rw [← h2.2.2.2, ← h1.2.2.2]; exact hn)
    omega
/-- The last bit of each is where it ends. -/
theorem StaysOk.last {ts : List (Int × List Int)} {h : Nat} {l : List StyZ} (hw : Works ts) (ok : StaysOk ts h l) {s : StyZ} (hs : s ∈ l) : lastB (bitsOfAll l) s.2.1 = s.2.2.2 - 1 := by
  have hr := ok.rng s hs
  have hl := ok.long s hs
  have hx := hw.2 s.2.1.toNat (by omega)
  have hin : (s.2.2.2 - 1, s.1, s.2.1) ∈ bitsOfAll l := mem_bitsOfAll.2 ⟨s, hs, mem_bitsOfS.2 ⟨by dsimp only; omega, by dsimp only; omega, rfl, rfl⟩⟩
  have h1 := lastB_ge hin
  dsimp only at h1
  rcases lastB_at (bitsOfAll l) s.2.1 with h2 | ⟨b, hb, e, h2⟩
  · omega
  · obtain ⟨s', hs', hb'⟩ := mem_bitsOfAll.1 hb
    have h3 := mem_bitsOfS.1 hb'
    have h4 : s' = s := by
      have := map_onceZ ok.once hs' hs (by rw [← h3.2.2.2]; exact e)
      exact this
    subst h4
    omega
/-- Some of them, in their order: of no fault one by one. -/
theorem BitsOk.some {ts : List (Int × List Int)} {h : Nat} {l r : List BitZ} (ok : BitsOk ts h l) (hs : r.Sublist l) : firstErr (bitErr ts h) [] r = 0 := by
  rw [firstErr_zero]
  intro k hk
  rw [List.nil_append]
  have hm := hs.mem (List.getElem_mem hk)
  have hb := ok.rng _ hm
  refine bitErr_zero.2 ⟨outB_false.2 hb, fun a ha => ?_, ?_⟩
  · rw [List.mem_take_iff_getElem] at ha
    obtain ⟨i, hi, rfl⟩ := ha
    exact hitB_false.2 (List.pairwise_iff_getElem.1 (ok.apart.sublist hs) i k (by omega) hk (by omega))
  · have h1 := ok.full r[k].2.2.toNat (by omega)
    rw [show ((r[k].2.2.toNat : Nat) : Int) = r[k].2.2 by omega] at h1
    have e : r.take (k + 1) = r.take k ++ [r[k]] := List.take_succ_eq_append_getElem hk
    have h2 : (r.take (k + 1)).Sublist l := (List.take_sublist _ _).trans hs
    have h3 : manyB (r.take (k + 1)) r[k].2.2 ≤ manyB l r[k].2.2 := h2.countP_le
    rw [e, manyB_append, manyB_one, if_pos rfl] at h3
    omega
/-- With one less they are too few. -/
theorem BitsOk.less {ts : List (Int × List Int)} {h : Nat} {l : List BitZ} (ok : BitsOk ts h l) {k : Nat} (hk : k < l.length) : bitsErr ts h (l.take k ++ l.drop (k + 1)) = 5 := by
  have e : l = l.take k ++ (l[k] :: l.drop (k + 1)) := by rw [List.getElem_cons_drop, List.take_append_drop]
  have hsub : (l.take k ++ l.drop (k + 1)).Sublist l := by
    have : (l.take k ++ l.drop (k + 1)).Sublist (l.take k ++ (l[k] :: l.drop (k + 1))) := List.Sublist.append (List.Sublist.refl _) (List.sublist_cons_self _ _)
    rwa [← e] at this
  have hb := ok.rng _ (List.getElem_mem hk)
  have h1 := ok.full l[k].2.2.toNat (by omega)
  rw [show ((l[k].2.2.toNat : Nat) : Int) = l[k].2.2 by omega] at h1
  have h2' : ∀ x, manyB l x = manyB (l.take k) x + manyB (l[k] :: l.drop (k + 1)) x := fun x => by rw [← manyB_append, ← e]
  have h2 := h2' l[k].2.2
  rw [show l[k] :: l.drop (k + 1) = [l[k]] ++ l.drop (k + 1) from rfl, manyB_append, manyB_one, if_pos rfl] at h2
  have hlack : lackB ts (l.take k ++ l.drop (k + 1)) = true := by
    unfold lackB
    refine List.any_eq_true.2 ⟨l[k].2.2.toNat, List.mem_range.2 (by omega), ?_⟩
    rw [decide_eq_true_eq, show ((l[k].2.2.toNat : Nat) : Int) = l[k].2.2 by omega, manyB_append]
    omega
  unfold bitsErr
  rw [if_pos (ok.some hsub), if_pos hlack]
end Go.Proofs.YtkgdhfdahafaoaaDoor
