/- Plain: the tasks of a plan that live, without the others, make a plan. No word of the program. -/
import Derived.Test.YtkbcjhmcbfppkaaGrpa
import Derived.Test.YtkbcjhmcbfppkaaP
namespace Go.Proofs.Ytkbcjhmcbfppkaa

/-- How many of the first k are so. -/
def cnt (L : Nat → Bool) : Nat → Nat
  | 0 => 0
  | k + 1 => cnt L k + if L k then 1 else 0
theorem cnt_le (L : Nat → Bool) (k : Nat) : cnt L k ≤ k := by
  induction k with
  | zero => exact Nat.le_refl _
  | succ k ih => unfold cnt; split <;> omega
theorem cnt_mono (L : Nat → Bool) {j k : Nat} (h : j ≤ k) : cnt L j ≤ cnt L k := by
  induction k with
  | zero =>
    have e : j = 0 := by omega
    rw [e]
    exact Nat.le_refl _
  | succ k ih =>
    by_cases e : j = k + 1
    · rw [e]; exact Nat.le_refl _
    · have h1 := ih (by omega)
      have h2 : cnt L k ≤ cnt L (k + 1) := Nat.le_add_right _ _
      omega
theorem cnt_lt {L : Nat → Bool} {j k : Nat} (hL : L j = true) (h : j < k) : cnt L j < cnt L k := by
  have h1 := cnt_mono L (j := j + 1) (k := k) h
  have h2 : cnt L (j + 1) = cnt L j + 1 := by rw [cnt, hL]; rfl
  omega
/-- Those that are so, in their order. -/
def origs (L : Nat → Bool) (n : Nat) : List Nat := (List.range n).filter L
theorem origs_succ (L : Nat → Bool) (n : Nat) : origs L (n + 1) = origs L n ++ if L n then [n] else [] := by
  unfold origs
  rw [List.range_succ, List.filter_append]
  cases h : L n <;> simp [h]
theorem origs_length (L : Nat → Bool) (n : Nat) : (origs L n).length = cnt L n := by
  induction n with
  | zero => rfl
  | succ n ih =>
    rw [origs_succ, List.length_append, ih, cnt]
    cases L n <;> rfl
theorem origs_at {L : Nat → Bool} {n k : Nat} (hk : k < n) (hL : L k = true) : (origs L n)[cnt L k]? = some k := by
  induction n with
  | zero => omega
  | succ n ih =>
    rw [origs_succ]
    by_cases e : k = n
    · subst e
      rw [List.getElem?_append_right (by rw [origs_length]; exact Nat.le_refl _), origs_length, Nat.sub_self, hL]
      rfl
    · rw [List.getElem?_append_left (by rw [origs_length]; exact cnt_lt hL (by omega))]
      exact ih (by omega)
theorem origs_mem {L : Nat → Bool} {n a k : Nat} (h : (origs L n)[a]? = some k) : k < n ∧ L k = true ∧ cnt L k = a := by
  have hm := List.mem_of_getElem? h
  have h1 := List.mem_filter.1 hm
  have hk := List.mem_range.1 h1.1
  refine ⟨hk, h1.2, ?_⟩
  have h2 := origs_at hk h1.2
  have hnd : (origs L n).Nodup := List.Pairwise.filter _ List.nodup_range
  have hl1 := (List.getElem?_eq_some_iff.1 h).1
  have hl2 := (List.getElem?_eq_some_iff.1 h2).1
  exact (List.getElem_inj hnd).1 ((List.getElem?_eq_some_iff.1 h2).2.trans (List.getElem?_eq_some_iff.1 h).2.symm)
/-- The plan of those that live: what they need is told by their new places. -/
def subTs (ts : List (Int × List Int)) (L : Nat → Bool) : List (Int × List Int) := (origs L ts.length).map (fun k => ((ts.getD k (0, [])).1, (needsOf ts k).map (fun y => ((cnt L y.toNat : Nat) : Int))))
theorem subTs_length (ts : List (Int × List Int)) (L : Nat → Bool) : (subTs ts L).length = cnt L ts.length := by simp [subTs, origs_length]
theorem subTs_at {ts : List (Int × List Int)} {L : Nat → Bool} {a k : Nat} (h : (origs L ts.length)[a]? = some k) : (subTs ts L).getD a (0, []) = ((ts.getD k (0, [])).1, (needsOf ts k).map (fun y => ((cnt L y.toNat : Nat) : Int))) := by
  unfold subTs
  rw [List.getD_eq_getElem?_getD, List.getElem?_map, h]
  rfl
theorem sub_orig {ts : List (Int × List Int)} {L : Nat → Bool} {a : Nat} (h : a < (subTs ts L).length) : ∃ k, (origs L ts.length)[a]? = some k := by
  rw [subTs_length, ← origs_length] at h
  exact ⟨_, List.getElem?_eq_getElem h⟩
/-- Whom one of them needs was needed. -/
theorem sub_need {ts : List (Int × List Int)} {L : Nat → Bool} (hr : InRange ts) (hcl : ∀ k, k < ts.length → L k = true → ∀ n, Need ts k n → L n = true) {a b k : Nat} (hk : (origs L ts.length)[a]? = some k) (h : Need (subTs ts L) a b) : ∃ m, (origs L ts.length)[b]? = some m ∧ Need ts k m := by
  obtain ⟨h1, h2, -⟩ := origs_mem hk
  unfold Need needsOf at h
  rw [subTs_at hk] at h
  obtain ⟨y, hy, e⟩ := List.mem_map.1 h
  have hy2 := hr k h1 y hy
  have hn : Need ts k y.toNat := by unfold Need; rw [Int.toNat_of_nonneg hy2.1]; exact hy
  have hL := hcl k h1 h2 _ hn
  have hb : cnt L y.toNat = b := by omega
  refine ⟨y.toNat, ?_, hn⟩
  rw [← hb]
  exact origs_at (by omega) hL
theorem sub_reach {ts : List (Int × List Int)} {L : Nat → Bool} (hr : InRange ts) (hcl : ∀ k, k < ts.length → L k = true → ∀ n, Need ts k n → L n = true) {a b k : Nat} (hk : (origs L ts.length)[a]? = some k) (h : Reach (subTs ts L) a b) : ∃ m, (origs L ts.length)[b]? = some m ∧ Reach ts k m := by
  refine Reach.ind (motive := fun b _ => ∃ m, (origs L ts.length)[b]? = some m ∧ Reach ts k m) (fun h => ?_) (fun _ hn ih => ?_) h
  · obtain ⟨m, h1, h2⟩ := sub_need hr hcl hk h
    exact ⟨m, h1, Reach.one h2⟩
  · obtain ⟨m, h1, h2⟩ := ih
    obtain ⟨m2, h3, h4⟩ := sub_need hr hcl h1 hn
    exact ⟨m2, h3, h2.more h4⟩
theorem pairwise_rising {zs : List Int} (h : zs.Pairwise (· < ·)) : rising zs = true := by
  induction zs with
  | nil => rfl
  | cons a r ih =>
    cases r with
    | nil => rfl
    | cons b r =>
      have h1 := List.pairwise_cons.1 h
      unfold rising
      rw [ih h1.2]
      simp [h1.1 b (List.mem_cons_self ..)]
/-- They make a plan that is right. -/
theorem sub_check {ts : List (Int × List Int)} {L : Nat → Bool} (hc : CheckIs ts 0 0) (hcl : ∀ k, k < ts.length → L k = true → ∀ n, Need ts k n → L n = true) : CheckIs (subTs ts L) 0 0 := by
  obtain ⟨-, h30, herr, hno⟩ := hc.ok rfl
  have hg := hc.good
  refine Or.inr (Or.inr (Or.inr ⟨?_, fun a ha => ?_, fun a ha hR => ?_, rfl, rfl⟩))
  · rw [subTs_length]; exact Nat.le_trans (cnt_le _ _) h30
  · obtain ⟨k, hk⟩ := sub_orig ha
    obtain ⟨h1, h2, -⟩ := origs_mem hk
    have he := herr k h1
    unfold errOf at he ⊢
    unfold taskErr at he ⊢
    have hwk : ¬ ((ts.getD k (0, [])).1 < 1 ∨ 20 < (ts.getD k (0, [])).1) := fun e => by rw [if_pos e] at he; omega
    have hnd : needsOf (subTs ts L) a = (needsOf ts k).map (fun y => ((cnt L y.toNat : Nat) : Int)) := by unfold needsOf; rw [subTs_at hk]; rfl
    rw [hnd, subTs_at hk]
    rw [if_neg hwk]
    have hin : ((needsOf ts k).map (fun y => ((cnt L y.toNat : Nat) : Int))).any (fun n => !inRange n ((subTs ts L).length : Nat)) = false := by
      rw [List.any_eq_false]
      intro z hz
      obtain ⟨y, hy, rfl⟩ := List.mem_map.1 hz
      have hy2 := hg.rng k h1 y hy
      have hn : Need ts k y.toNat := by unfold Need; rw [Int.toNat_of_nonneg hy2.1]; exact hy
      have := cnt_lt (hcl k h1 h2 _ hn) (k := ts.length) (by omega)
      rw [subTs_length]
      unfold inRange
      simp
      omega
    rw [hin]
    have hri : rising ((needsOf ts k).map (fun y => ((cnt L y.toNat : Nat) : Int))) = true := by
      refine pairwise_rising (List.pairwise_map.2 ?_)
      refine (List.Pairwise.and_mem.1 (hg.up k h1)).imp ?_
      rintro x y ⟨hx, hy, hxy⟩
      have hx2 := hg.rng k h1 x hx
      have hy2 := hg.rng k h1 y hy
      have hn : Need ts k x.toNat := by unfold Need; rw [Int.toNat_of_nonneg hx2.1]; exact hx
      have := cnt_lt (hcl k h1 h2 _ hn) (k := y.toNat) (by omega)
      omega
    simp [hri]
  · obtain ⟨k, hk⟩ := sub_orig ha
    obtain ⟨m, h1, h2⟩ := sub_reach hg.rng hcl hk hR
    rw [hk] at h1
    obtain rfl : k = m := Option.some.inj h1
    exact hno k (origs_mem hk).1 h2
end Go.Proofs.Ytkbcjhmcbfppkaa
