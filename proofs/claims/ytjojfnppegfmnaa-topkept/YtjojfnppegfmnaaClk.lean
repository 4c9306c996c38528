/- Plain: each once; where each stands. The contracts of bits.Mul64, bits.Mul, slices.Repeat. -/
import Derived.Test.YtjojfnppegfmnaaCli
import Derived.Laws.CopyOwn
import Derived.Laws.Bits64b
namespace Go.Proofs.Ytjojfnppegfmnaa
open Go.RowKit Go.Deep

/-- An order that names each once. -/
def EachZ (n : Nat) (zs : List Int) : Prop := zs.length = n ∧ zs.Nodup ∧ ∀ x, x ∈ zs → 0 ≤ x ∧ x < n
def natsOf (zs : List Int) : List Nat := zs.map Int.toNat
theorem natsOf_length (zs : List Int) : (natsOf zs).length = zs.length := by simp [natsOf]
theorem natsOf_getD (zs : List Int) (k : Nat) : (natsOf zs).getD k 0 = (zs.getD k 0).toNat := by
  unfold natsOf
  rw [List.getD_eq_getElem?_getD, List.getElem?_map, List.getD_eq_getElem?_getD]
  cases zs[k]? <;> rfl
theorem natsOf_ints {zs : List Int} (h : ∀ x, x ∈ zs → 0 ≤ x) : intsOf (natsOf zs) = zs := by
  unfold intsOf natsOf
  rw [List.map_map]
  conv => rhs; rw [← List.map_id zs]
  refine List.map_congr_left fun x hx => ?_
  show ((x.toNat : Nat) : Int) = x
  exact Int.toNat_of_nonneg (h x hx)
/-- What names no task, or one again. -/
def badZ (n : Nat) (zs : List Int) (k : Nat) : Prop := zs.getD k 0 < 0 ∨ (n : Int) ≤ zs.getD k 0 ∨ zs.getD k 0 ∈ zs.take k
theorem each_not {n k : Nat} {zs : List Int} (hk : k < zs.length) (hb : badZ n zs k) : ¬ EachZ n zs := by
  rintro ⟨_, hd, hx⟩
  have hm := hx _ (getD_memC 0 hk)
  rcases hb with h | h | h
  · omega
  · omega
  · obtain ⟨i, hi, he⟩ := List.mem_take_iff_getElem.1 h
    have h1 : i < k := by omega
    have h2 := List.pairwise_iff_getElem.1 hd i k (by omega) hk h1
    refine h2 ?_
    rw [he, List.getD_eq_getElem?_getD, List.getElem?_eq_getElem hk]
    rfl
theorem each_of {n : Nat} {zs : List Int} (hl : zs.length = n) (h : ∀ k, k < n → ¬ badZ n zs k) : EachZ n zs := by
  refine ⟨hl, List.pairwise_iff_getElem.2 fun i j hi hj hij e => ?_, fun x hx => ?_⟩
  · refine h j (by omega) (Or.inr (Or.inr ?_))
    rw [List.getD_eq_getElem?_getD, List.getElem?_eq_getElem hj]
    show zs[j] ∈ _
    rw [← e]
    exact List.mem_take_iff_getElem.2 ⟨i, by omega, rfl⟩
  · obtain ⟨j, hj, rfl⟩ := List.getElem_of_mem hx
    have := h j (by omega)
    unfold badZ at this
    rw [List.getD_eq_getElem?_getD, List.getElem?_eq_getElem hj] at this
    have e : (some zs[j]).getD 0 = zs[j] := rfl
    rw [e] at this
    omega
/-- A tells of each task where it stands, -1: nowhere. -/
def PosR (n : Nat) (l : List Int) (A : Nat → Int) : Prop := ∀ i, i < n → (∃ j : Nat, j < l.length ∧ l.getD j 0 = (i : Int) ∧ A i = (j : Int)) ∨ (¬ (i : Int) ∈ l ∧ A i = -1)
theorem PosR.nil (n : Nat) : PosR n [] (fun _ => -1) := fun _ _ => Or.inr ⟨by simp, rfl⟩
theorem PosR.snoc {n : Nat} {l : List Int} {A : Nat → Int} (h : PosR n l A) (x : Nat) : PosR n (l ++ [(x : Int)]) (fun i => if i = x then (l.length : Int) else A i) := by
  intro i hi
  by_cases e : i = x
  · subst e
    exact Or.inl ⟨l.length, by simp, by simp, by simp⟩
  · rcases h i hi with ⟨j, hj, h1, h2⟩ | ⟨h1, h2⟩
    · refine Or.inl ⟨j, by simp; omega, ?_, by simp only [if_neg e]; exact h2⟩
      rw [getD_snoc l _ 0 j hj]; exact h1
    · refine Or.inr ⟨fun hm => ?_, by simp only [if_neg e]; exact h2⟩
      rcases List.mem_append.1 hm with hm | hm
      · exact h1 hm
      · have := List.mem_singleton.1 hm; omega
theorem PosR.neg {n : Nat} {l : List Int} {A : Nat → Int} (h : PosR n l A) {i : Nat} (hi : i < n) : 0 ≤ A i ↔ (i : Int) ∈ l := by
  rcases h i hi with ⟨j, hj, h1, h2⟩ | ⟨h1, h2⟩
  · exact ⟨fun _ => by rw [← h1]; exact getD_memC 0 hj, fun _ => by omega⟩
  · exact ⟨fun h => by omega, fun h => absurd h h1⟩
theorem mem_natsOf {zs : List Int} (h0 : ∀ x, x ∈ zs → 0 ≤ x) {y : Nat} : y ∈ natsOf zs ↔ (y : Int) ∈ zs := by
  unfold natsOf
  constructor
  · intro h
    obtain ⟨x, hx, he⟩ := List.mem_map.1 h
    have := h0 x hx
    have : (y : Int) = x := by omega
    rw [this]; exact hx
  · intro h
    exact List.mem_map.2 ⟨_, h, by simp⟩
theorem natsOf_take (zs : List Int) (m : Nat) : (natsOf zs).take m = natsOf (zs.take m) := by unfold natsOf; rw [List.map_take]
theorem nodup_full : ∀ (n : Nat) (l : List Nat), l.Nodup → (∀ x, x ∈ l → x < n) → l.length = n → ∀ x, x < n → x ∈ l := by
  intro n
  induction n with
  | zero => intro l _ _ _ x hx; omega
  | succ n ih =>
    intro l hd hx hl
    have hn : n ∈ l := by
      apply Classical.byContradiction
      intro hc
      have hlt : ∀ x, x ∈ l → x < n := fun x h => by
        have := hx x h
        have : x ≠ n := fun e => hc (e ▸ h)
        omega
      cases l with
      | nil => simp at hl
      | cons a r =>
        have hd2 := List.nodup_cons.1 hd
        have := ih r hd2.2 (fun x h => hlt x (List.mem_cons_of_mem _ h)) (by simpa using hl) a (hlt a (List.mem_cons_self ..))
        exact hd2.1 this
    intro x hxn
    by_cases e : x = n
    · rw [e]; exact hn
    · have hd2 := List.Nodup.erase n hd
      have hm : ∀ y, y ∈ l.erase n ↔ y ≠ n ∧ y ∈ l := fun y => List.Nodup.mem_erase_iff hd
      have := ih (l.erase n) hd2 (fun y hy => by
        have h1 := (hm y).1 hy
        have h2 := hx y h1.2
        have := h1.1
        omega) (by rw [List.length_erase_of_mem hn]; omega) x (by omega)
      exact ((hm x).1 this).2
theorem EachZ.nats {n : Nat} {zs : List Int} (h : EachZ n zs) : (natsOf zs).length = n ∧ (natsOf zs).Nodup ∧ (∀ x, x ∈ natsOf zs → x < n) ∧ ∀ x, x < n → x ∈ natsOf zs := by
  have h1 : (natsOf zs).length = n := by rw [natsOf_length]; exact h.1
  have h2 : (natsOf zs).Nodup := by
    unfold natsOf
    refine List.pairwise_map.2 (List.Pairwise.imp_of_mem (fun {a b} ha hb hne => ?_) h.2.1)
    have := h.2.2 a ha
    have := h.2.2 b hb
    omega
  have h3 : ∀ x, x ∈ natsOf zs → x < n := fun x hx => by
    have := (mem_natsOf (fun y hy => (h.2.2 y hy).1)).1 hx
    have := h.2.2 _ this
    omega
  exact ⟨h1, h2, h3, nodup_full n _ h2 h3 h1⟩
/-- Nobody stands ahead of one that it needs. -/
theorem behind_iff {ts : List (Int × List Int)} {zs : List Int} {A : Nat → Int} (hE : EachZ ts.length zs) (hA : PosR ts.length zs A) (hr : InRange ts) (hno : ∀ j, j < ts.length → ¬ Reach ts j j) :
    Behind ts (natsOf zs) ↔ ∀ i, i < ts.length → ∀ y, y ∈ needsOf ts i → ¬ A i < A y.toNat := by
  have hpos : ∀ i, i < ts.length → ∃ j : Nat, j < zs.length ∧ zs.getD j 0 = (i : Int) ∧ A i = (j : Int) := fun i hi => by
    rcases hA i hi with h | ⟨h, _⟩
    · exact h
    · exact absurd ((mem_natsOf (fun y hy => (hE.2.2 y hy).1)).1 (hE.nats.2.2.2 i hi)) h
  have hinj : ∀ j k, j < zs.length → k < zs.length → zs.getD j 0 = zs.getD k 0 → j = k := fun j k hj hk he => by
    rw [List.getD_eq_getElem?_getD, List.getElem?_eq_getElem hj, List.getD_eq_getElem?_getD, List.getElem?_eq_getElem hk] at he
    have hp := List.pairwise_iff_getElem.1 hE.2.1
    rcases Nat.lt_trichotomy j k with h | h | h
    · exact absurd he (hp j k hj hk h)
    · exact h
    · exact absurd he.symm (hp k j hk hj h)
  constructor
  · intro hB i hi y hy hlt
    obtain ⟨m, hm, h1, h2⟩ := hpos i hi
    have hyr := hr i hi y hy
    have hn : Need ts ((natsOf zs).getD m 0) y.toNat := by
      rw [natsOf_getD, h1, Int.toNat_natCast]
      unfold Need
      rw [Int.toNat_of_nonneg hyr.1]
      exact hy
    have hmem := hB m (by rw [natsOf_length]; exact hm) y.toNat hn
    rw [natsOf_take] at hmem
    have := (mem_natsOf (fun x hx => (hE.2.2 x (List.mem_of_mem_take hx)).1)).1 hmem
    obtain ⟨j, hj, he⟩ := List.mem_take_iff_getElem.1 this
    obtain ⟨k, hk, h3, h4⟩ := hpos y.toNat (by omega)
    have hjk : j = k := hinj j k (by omega) hk (by rw [h3, List.getD_eq_getElem?_getD, List.getElem?_eq_getElem (by omega)]; exact he)
    omega
  · intro h m hm y hy
    rw [natsOf_length] at hm
    rw [natsOf_getD] at hy
    have hx := hE.2.2 _ (getD_memC 0 hm)
    obtain ⟨i, hi⟩ := Int.eq_ofNat_of_zero_le hx.1
    have hil : i < ts.length := by omega
    rw [hi, Int.toNat_natCast] at hy
    have hyr := hr i hil _ hy
    have hle := h i hil _ hy
    rw [Int.toNat_natCast] at hle
    obtain ⟨k, hk, h3, h4⟩ := hpos y (by omega)
    obtain ⟨m', hm', h5, h6⟩ := hpos i hil
    have hmm : m' = m := hinj m' m hm' hm (by rw [h5, ← hi])
    subst hmm
    have hne : k ≠ m' := fun e => by
      subst e
      have : (y : Int) = (i : Int) := by rw [← h3, ← h5]
      have : y = i := by omega
      subst this
      exact hno y hil (Reach.one hy)
    rw [natsOf_take]
    refine (mem_natsOf (fun x hx => (hE.2.2 x (List.mem_of_mem_take hx)).1)).2 (List.mem_take_iff_getElem.2 ⟨k, by omega, ?_⟩)
    rw [List.getD_eq_getElem?_getD, List.getElem?_eq_getElem hk] at h3
    exact h3

theorem mask_small (a : Nat) (ha : a < 4294967296) : bits .and .u64 (a : Int) 4294967295 = (a : Int) := by
  have h := bits_and_u64_nat a 4294967295 (by omega) (by omega)
  have e : a &&& 4294967295 = a := by
    have := Nat.and_two_pow_sub_one_eq_mod a 32
    rw [show 2 ^ 32 - 1 = 4294967295 from rfl] at this
    rw [this]
    omega
  rw [e] at h
  exact h
set_option maxRecDepth 100000 in
set_option maxHeartbeats 1000000 in
theorem mul64_any (n : Nat) (w : World) (hn : n ≤ 30) :
    Calls Try.prog 66 #[.int .u64 1, .int .u64 (n : Int)] w fun e w' => e = .returned (.tuple #[.int .u64 0, .int .u64 (n : Int)]) ∧ w' = w := by
  have hm := mask_small n (by omega)
  have hm1 : bits .and .u64 1 4294967295 = 1 := by decide
  have hm0 : bits .and .u64 0 4294967295 = 0 := by decide
  have hd : (n : Int) / 4294967296 = 0 := by omega
  go_enter Try.func66, Try.ntmps66
  go_wp2
  go_ret2
  exact ⟨rfl, rfl⟩
end Go.Proofs.Ytjojfnppegfmnaa
