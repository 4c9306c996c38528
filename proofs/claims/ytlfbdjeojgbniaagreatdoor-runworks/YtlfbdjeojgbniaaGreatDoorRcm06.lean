/- Plain: works, ranks, tails, the longest way of a plan, as they are reckoned along an order; what they are. No word of the program. From a plan that Check passes, and its order, to what ranks and tails ask. The contracts of slices.Index and slices.Contains at []int, and depth.greatest. A row of numbers in memory; bounds of ranks. -/
import Derived.Test.YtlfbdjeojgbniaaGreatDoorRcm01
import Derived.Test.YtlfbdjeojgbniaaGreatDoorRcm05
import Derived.RegionTactic
import Derived.BigRegion

namespace Go.Proofs.YtlfbdjeojgbniaaGreatDoor

/-- What the x-th task's work is. -/
def wkOf (ts : List (Int × List Int)) (x : Nat) : Int := (ts.getD x (0, [])).1
/-- The k-th that x needs. -/
def nd (ts : List (Int × List Int)) (x k : Nat) : Nat := ((needsOf ts x).getD k 0).toNat
def upd (f : Nat → Int) (x : Nat) (v : Int) : Nat → Int := fun y => if y = x then v else f y
theorem upd_at (f : Nat → Int) (x : Nat) (v : Int) : upd f x v x = v := by simp [upd]
theorem upd_ne (f : Nat → Int) {x y : Nat} (v : Int) (h : y ≠ x) : upd f x v y = f y := by simp [upd, h]
theorem upd_self (f : Nat → Int) (x : Nat) : upd f x (f x) = f := by
  funext y
  by_cases h : y = x
  · subst h; simp [upd]
  · simp [upd, h]

/-- The works of the first k tasks together. -/
def workTo (ts : List (Int × List Int)) : Nat → Int
  | 0 => 0
  | k + 1 => workTo ts k + wkOf ts k

/-- The greatest of the first k; 0 of none. -/
def maxTo (T : Nat → Int) : Nat → Int
  | 0 => 0
  | k + 1 => max (maxTo T k) (T k)
theorem maxTo_nonneg (T : Nat → Int) (n : Nat) : 0 ≤ maxTo T n := by
  induction n with
  | zero => exact Int.le_refl _
  | succ n ih => unfold maxTo; omega
theorem le_maxTo (T : Nat → Int) {n x : Nat} (h : x < n) : T x ≤ maxTo T n := by
  induction n with
  | zero => omega
  | succ n ih =>
    unfold maxTo
    by_cases e : x = n
    · subst e; omega
    · have := ih (by omega); omega
theorem maxTo_le (T : Nat → Int) (n : Nat) (b : Int) (h0 : 0 ≤ b) (h : ∀ x, x < n → T x ≤ b) : maxTo T n ≤ b := by
  induction n with
  | zero => exact h0
  | succ n ih =>
    unfold maxTo
    have := ih (fun x hx => h x (by omega))
    have := h n (by omega)
    omega
theorem maxTo_at (T : Nat → Int) (n : Nat) (h : 0 < maxTo T n) : ∃ x, x < n ∧ T x = maxTo T n := by
  induction n with
  | zero => simp [maxTo] at h
  | succ n ih =>
    unfold maxTo at h ⊢
    by_cases e : maxTo T n ≤ T n
    · exact ⟨n, by omega, by omega⟩
    · obtain ⟨x, hx, hT⟩ := ih (by omega)
      exact ⟨x, by omega, by omega⟩

/-- Ranks, while the needs of x are gone over: k of them are done. -/
def rankIn (ts : List (Int × List Int)) (x : Nat) (R : Nat → Int) : Nat → Nat → Int
  | 0 => R
  | k + 1 => upd (rankIn ts x R k) x (max (rankIn ts x R k x) (rankIn ts x R k (nd ts x k) + wkOf ts (nd ts x k)))
/-- Ranks, when m tasks of the order are done. -/
def rankAll (ts : List (Int × List Int)) (ord : List Nat) : Nat → Nat → Int
  | 0 => fun _ => 0
  | m + 1 => rankIn ts (ord.getD m 0) (rankAll ts ord m) (needsOf ts (ord.getD m 0)).length
/-- Tails, while the needs of x are gone over. -/
def tailIn (ts : List (Int × List Int)) (x : Nat) (T : Nat → Int) : Nat → Nat → Int
  | 0 => upd T x (T x + wkOf ts x)
  | k + 1 => upd (tailIn ts x T k) (nd ts x k) (max (tailIn ts x T k (nd ts x k)) (tailIn ts x T k x))
/-- Tails, when the m last tasks of the order are done. -/
def tailAll (ts : List (Int × List Int)) (ord : List Nat) : Nat → Nat → Int
  | 0 => fun _ => 0
  | m + 1 => tailIn ts (ord.getD (ord.length - 1 - m) 0) (tailAll ts ord m) (needsOf ts (ord.getD (ord.length - 1 - m) 0)).length

/-- A plan that Check passes, and its order. -/
structure Ready (ts : List (Int × List Int)) (ord : List Nat) : Prop where
  len : ord.length = ts.length
  small : ts.length ≤ 30
  wk : ∀ x, x < ts.length → 1 ≤ wkOf ts x ∧ wkOf ts x ≤ 20
  rng : InRange ts
  lt : ∀ m, m < ord.length → ord.getD m 0 < ts.length
  new : ∀ m, m < ord.length → ord.getD m 0 ∉ ord.take m
  nds : ∀ m, m < ord.length → ∀ y, Need ts (ord.getD m 0) y → y ∈ ord.take m
  all : ∀ x, x < ts.length → x ∈ ord

theorem need_lt {ts : List (Int × List Int)} (hr : InRange ts) {x y : Nat} (hx : x < ts.length) (h : Need ts x y) : y < ts.length := by
  have := hr x hx _ h; omega
theorem need_of_nd {ts : List (Int × List Int)} (hr : InRange ts) {x k : Nat} (hx : x < ts.length) (hk : k < (needsOf ts x).length) : Need ts x (nd ts x k) := (need_at hr hx hk).2.1
theorem nd_of_need {ts : List (Int × List Int)} {x y : Nat} (h : Need ts x y) : ∃ k, k < (needsOf ts x).length ∧ nd ts x k = y := by
  obtain ⟨j, hj, he⟩ := List.getElem_of_mem h
  refine ⟨j, hj, ?_⟩
  unfold nd
  rw [List.getD_eq_getElem?_getD, List.getElem?_eq_getElem hj]
  simp [he]

theorem take_succ_mem {ord : List Nat} {m x : Nat} (hm : m < ord.length) : x ∈ ord.take (m + 1) ↔ x ∈ ord.take m ∨ x = ord.getD m 0 := by
  rw [List.take_succ_eq_append_getElem hm, List.getD_eq_getElem?_getD, List.getElem?_eq_getElem hm, List.mem_append, List.mem_singleton]
  rfl

structure RankInv (ts : List (Int × List Int)) (ord : List Nat) (m : Nat) (R : Nat → Int) : Prop where
  zero : ∀ x, x ∉ ord.take m → R x = 0
  low : ∀ x, 0 ≤ R x ∧ R x ≤ 20 * m
  up : ∀ x, x ∈ ord.take m → ∀ y, Need ts x y → R y + wkOf ts y ≤ R x
  eq : ∀ x, x ∈ ord.take m → R x = 0 ∨ ∃ y, Need ts x y ∧ R x = R y + wkOf ts y

structure RankMid (ts : List (Int × List Int)) (x m k : Nat) (R R' : Nat → Int) : Prop where
  other : ∀ y, y ≠ x → R' y = R y
  low : 0 ≤ R' x ∧ R' x ≤ 20 * (m + 1)
  up : ∀ j, j < k → R (nd ts x j) + wkOf ts (nd ts x j) ≤ R' x
  eq : R' x = 0 ∨ ∃ j, j < k ∧ R' x = R (nd ts x j) + wkOf ts (nd ts x j)

theorem rank_mid {ts : List (Int × List Int)} {ord : List Nat} {m : Nat} (hd : Ready ts ord) (hm : m < ord.length) (h : RankInv ts ord m (rankAll ts ord m)) :
    ∀ k, k ≤ (needsOf ts (ord.getD m 0)).length → RankMid ts (ord.getD m 0) m k (rankAll ts ord m) (rankIn ts (ord.getD m 0) (rankAll ts ord m) k) := by
  intro k
  have hx := hd.lt m hm
  have hnew := hd.new m hm
  have hnds := hd.nds m hm
  generalize ord.getD m 0 = x at *
  induction k with
  | zero =>
    intro _
    have h0 := h.zero x hnew
    exact ⟨fun y _ => rfl, by unfold rankIn; rw [h0]; omega, fun j hj => by omega, Or.inl h0⟩
  | succ k ih =>
    intro hk
    have hi := ih (by omega)
    have hn := need_of_nd hd.rng hx (show k < (needsOf ts x).length by omega)
    have hne : nd ts x k ≠ x := fun e => hnew (by have := hnds _ hn; rwa [e] at this)
    have hw := hd.wk _ (need_lt hd.rng hx hn)
    have hl := h.low (nd ts x k)
    have ho := hi.other _ hne
    have hxl := hi.low
    have e : rankIn ts x (rankAll ts ord m) (k + 1) x = max (rankIn ts x (rankAll ts ord m) k x) (rankAll ts ord m (nd ts x k) + wkOf ts (nd ts x k)) := by
      rw [rankIn, upd_at, ho]
    refine ⟨fun y hy => ?_, ?_, fun j hj => ?_, ?_⟩
    · rw [rankIn, upd_ne _ _ hy]; exact hi.other y hy
    · rw [e]; omega
    · rw [e]
      by_cases ej : j = k
      · subst ej; omega
      · have := hi.up j (by omega); omega
    · rw [e]
      by_cases hc : rankIn ts x (rankAll ts ord m) k x ≤ rankAll ts ord m (nd ts x k) + wkOf ts (nd ts x k)
      · exact Or.inr ⟨k, by omega, by omega⟩
      · rcases hi.eq with h1 | ⟨j, hj, h1⟩
        · exact Or.inl (by omega)
        · exact Or.inr ⟨j, by omega, by omega⟩

theorem rank_inv {ts : List (Int × List Int)} {ord : List Nat} (hd : Ready ts ord) : ∀ m, m ≤ ord.length → RankInv ts ord m (rankAll ts ord m) := by
  intro m
  induction m with
  | zero => exact fun _ => ⟨fun x _ => rfl, fun x => ⟨Int.le_refl _, by unfold rankAll; omega⟩, fun x hx => by simp at hx, fun x hx => by simp at hx⟩
  | succ m ih =>
    intro hm
    have hI := ih (by omega)
    have hM := rank_mid hd (by omega) hI _ (Nat.le_refl _)
    have hx := hd.lt m (by omega)
    have hnew := hd.new m (by omega)
    have hnds := hd.nds m (by omega)
    have hmem : ∀ z, z ∈ ord.take (m + 1) ↔ z ∈ ord.take m ∨ z = ord.getD m 0 := fun z => take_succ_mem (by omega)
    show RankInv ts ord (m + 1) (rankIn ts (ord.getD m 0) (rankAll ts ord m) (needsOf ts (ord.getD m 0)).length)
    generalize rankIn ts (ord.getD m 0) (rankAll ts ord m) (needsOf ts (ord.getD m 0)).length = R' at *
    generalize rankAll ts ord m = R at *
    generalize ord.getD m 0 = x at *
    have old : ∀ z, z ∈ ord.take m → R' z = R z := fun z hz => hM.other z (fun e => hnew (e ▸ hz))
    refine ⟨fun z hz => ?_, fun z => ?_, fun z hz y hy => ?_, fun z hz => ?_⟩
    · have hz' : ¬ (z ∈ ord.take m ∨ z = x) := fun h => hz ((hmem z).2 h)
      have h1 : z ≠ x := fun e => hz' (Or.inr e)
      rw [hM.other z h1]; exact hI.zero z (fun h => hz' (Or.inl h))
    · by_cases e : z = x
      · subst e; have := hM.low; omega
      · rw [hM.other z e]; have := hI.low z; omega
    · rcases (hmem z).1 hz with hz | rfl
      · have hym : y ∈ ord.take m := by
          -- y is needed by one that is done: it is done, or its rank could not be below
          obtain ⟨j, hj, he⟩ := List.getElem_of_mem hz
          have hjl : j < ord.length := by rw [List.length_take] at hj; omega
          have hjm : j < m := by rw [List.length_take] at hj; omega
          have he2 : ord.getD j 0 = z := by
            rw [List.getD_eq_getElem?_getD, List.getElem?_eq_getElem hjl]
            simpa using he
          have := hd.nds j hjl y (by rw [he2]; exact hy)
          exact (List.take_subset_take_left ord (by omega)) this
        rw [old z hz, old y hym]; exact hI.up z hz y hy
      · have hym := hnds y hy
        rw [old y hym]
        obtain ⟨k, hk, rfl⟩ := nd_of_need hy
        exact hM.up k hk
    · rcases (hmem z).1 hz with hz | rfl
      · rcases hI.eq z hz with h1 | ⟨y, hy, h1⟩
        · exact Or.inl (by rw [old z hz]; exact h1)
        · refine Or.inr ⟨y, hy, ?_⟩
          have hym : y ∈ ord.take m := by
            obtain ⟨j, hj, he⟩ := List.getElem_of_mem hz
            have hjl : j < ord.length := by rw [List.length_take] at hj; omega
            have hjm : j < m := by rw [List.length_take] at hj; omega
            have he2 : ord.getD j 0 = z := by
              rw [List.getD_eq_getElem?_getD, List.getElem?_eq_getElem hjl]
              simpa using he
            have := hd.nds j hjl y (by rw [he2]; exact hy)
            exact (List.take_subset_take_left ord (by omega)) this
          rw [old z hz, old y hym]; exact h1
      · rcases hM.eq with h1 | ⟨j, hj, h1⟩
        · exact Or.inl h1
        · have hn := need_of_nd hd.rng hx hj
          exact Or.inr ⟨_, hn, by rw [old _ (hnds _ hn)]; exact h1⟩

/-- The works of those that are done, from the end on. -/
def baseOf (ts : List (Int × List Int)) (S : List Nat) (x : Nat) : Int := if x ∈ S then wkOf ts x else 0
structure TailInv (ts : List (Int × List Int)) (S : List Nat) (m : Nat) (T : Nat → Int) : Prop where
  low : ∀ x, 0 ≤ T x ∧ T x ≤ 20 * m
  base : ∀ x, baseOf ts S x ≤ T x
  up : ∀ k, k ∈ S → ∀ y, Need ts k y → baseOf ts S y + T k ≤ T y
  eq : ∀ x, T x = baseOf ts S x ∨ ∃ k, k ∈ S ∧ Need ts k x ∧ T x = baseOf ts S x + T k

structure TailMid (ts : List (Int × List Int)) (x k : Nat) (T T' : Nat → Int) : Prop where
  own : T' x = T x + wkOf ts x
  other : ∀ y, y ≠ x → (∀ j, j < k → nd ts x j ≠ y) → T' y = T y
  at_ : ∀ y, y ≠ x → (∃ j, j < k ∧ nd ts x j = y) → T' y = max (T y) (T x + wkOf ts x)

theorem tail_mid {ts : List (Int × List Int)} {x : Nat} {T : Nat → Int} (hself : ∀ j, j < (needsOf ts x).length → nd ts x j ≠ x) :
    ∀ k, k ≤ (needsOf ts x).length → TailMid ts x k T (tailIn ts x T k) := by
  intro k
  induction k with
  | zero => exact fun _ => ⟨upd_at _ _ _, fun y hy _ => upd_ne _ _ hy, fun y _ ⟨j, hj, _⟩ => by omega⟩
  | succ k ih =>
    intro hk
    have hi := ih (by omega)
    have hne := hself k (by omega)
    refine ⟨?_, fun y hy hno => ?_, fun y hy ⟨j, hj, he⟩ => ?_⟩
    · rw [tailIn, upd_ne _ _ (Ne.symm hne)]; exact hi.own
    · rw [tailIn, upd_ne _ _ (fun e => hno k (by omega) e.symm)]; exact hi.other y hy (fun j hj => hno j (by omega))
    · by_cases e : nd ts x k = y
      · subst e
        rw [tailIn, upd_at, hi.own]
        by_cases hs : ∃ j, j < k ∧ nd ts x j = nd ts x k
        · rw [hi.at_ _ hy hs]; omega
        · rw [hi.other _ hy (fun j hj he => hs ⟨j, hj, he⟩)]
      · have hjk : j < k := by
          rcases Nat.lt_or_eq_of_le (Nat.le_of_lt_succ hj) with h | h
          · exact h
          · subst h; exact absurd he e
        rw [tailIn, upd_ne _ _ (fun h => e h.symm)]
        exact hi.at_ y hy ⟨j, hjk, he⟩

theorem getD_eq {ord : List Nat} {m : Nat} (h : m < ord.length) : ord.getD m 0 = ord[m] := by
  rw [List.getD_eq_getElem?_getD, List.getElem?_eq_getElem h]; rfl

theorem Ready.apart {ts : List (Int × List Int)} {ord : List Nat} (hd : Ready ts ord) {i j : Nat} (hi : i < j) (hj : j < ord.length) : ord.getD i 0 ≠ ord.getD j 0 := by
  intro e
  refine hd.new j hj ?_
  rw [← e, getD_eq (by omega), List.mem_take_iff_getElem]
  exact ⟨i, by omega, rfl⟩

theorem Ready.not_later {ts : List (Int × List Int)} {ord : List Nat} (hd : Ready ts ord) {m y : Nat} (hy : y ∈ ord.take m) : y ∉ ord.drop m := by
  intro h
  obtain ⟨i, hi, he⟩ := List.getElem_of_mem hy
  obtain ⟨j, hj, he2⟩ := List.getElem_of_mem h
  rw [List.length_take] at hi
  rw [List.length_drop] at hj
  have h1 : ord.getD i 0 = y := by rw [getD_eq (by omega)]; simpa using he
  have h2 : ord.getD (m + j) 0 = y := by rw [getD_eq (by omega)]; simpa using he2
  exact hd.apart (i := i) (j := m + j) (by omega) (by omega) (h1.trans h2.symm)

theorem tail_inv {ts : List (Int × List Int)} {ord : List Nat} (hd : Ready ts ord) : ∀ m, m ≤ ord.length → TailInv ts (ord.drop (ord.length - m)) m (tailAll ts ord m) := by
  intro m
  induction m with
  | zero =>
    intro _
    rw [Nat.sub_zero, List.drop_length]
    exact ⟨fun x => ⟨Int.le_refl _, by unfold tailAll; omega⟩, fun x => by simp [baseOf, tailAll], fun k hk => by simp at hk, fun x => Or.inl (by simp [baseOf, tailAll])⟩
  | succ m ih =>
    intro hm
    have hI := ih (by omega)
    have hp : ord.length - 1 - m < ord.length := by omega
    have hx := hd.lt _ hp
    have hnds := hd.nds _ hp
    have hnew := hd.new _ hp
    have hdrop : ord.drop (ord.length - (m + 1)) = ord.getD (ord.length - 1 - m) 0 :: ord.drop (ord.length - m) := by
      rw [getD_eq hp, show ord.length - (m + 1) = ord.length - 1 - m by omega, List.drop_eq_getElem_cons hp, show ord.length - 1 - m + 1 = ord.length - m by omega]
    have hnl : ∀ y, y ∈ ord.take (ord.length - 1 - m) → y ∉ ord.drop (ord.length - m) := fun y hy => hd.not_later ((List.take_subset_take_left ord (by omega)) hy)
    have hxs : ord.getD (ord.length - 1 - m) 0 ∉ ord.drop (ord.length - m) := by
      refine hd.not_later ?_
      rw [getD_eq hp, List.mem_take_iff_getElem]
      exact ⟨ord.length - 1 - m, by omega, rfl⟩
    have hself : ∀ j, j < (needsOf ts (ord.getD (ord.length - 1 - m) 0)).length → nd ts (ord.getD (ord.length - 1 - m) 0) j ≠ ord.getD (ord.length - 1 - m) 0 := fun j hj e => by
      have := hnds _ (need_of_nd hd.rng hx hj)
      rw [e] at this
      exact hnew this
    have hM := tail_mid (T := tailAll ts ord m) hself _ (Nat.le_refl _)
    have hw := hd.wk _ hx
    rw [hdrop]
    show TailInv ts _ (m + 1) (tailIn ts (ord.getD (ord.length - 1 - m) 0) (tailAll ts ord m) (needsOf ts (ord.getD (ord.length - 1 - m) 0)).length)
    generalize tailIn ts (ord.getD (ord.length - 1 - m) 0) (tailAll ts ord m) (needsOf ts (ord.getD (ord.length - 1 - m) 0)).length = T' at *
    generalize tailAll ts ord m = T at *
    generalize ord.drop (ord.length - m) = S at *
    generalize ord.getD (ord.length - 1 - m) 0 = x at *
    have hnx : ∀ y, Need ts x y → y ≠ x ∧ y ∉ S := fun y hy => ⟨fun e => hnew (e ▸ hnds y hy), hnl y (hnds y hy)⟩
    have isNd : ∀ y, Need ts x y → ∃ j, j < (needsOf ts x).length ∧ nd ts x j = y := fun y hy => nd_of_need hy
    have notNd : ∀ y, ¬ Need ts x y → ∀ j, j < (needsOf ts x).length → nd ts x j ≠ y := fun y hy j hj e => hy (e ▸ need_of_nd hd.rng hx hj)
    have hb0 : baseOf ts S x = 0 := by simp [baseOf, hxs]
    have hb1 : baseOf ts (x :: S) x = wkOf ts x := by simp [baseOf]
    have hb2 : ∀ y, y ≠ x → baseOf ts (x :: S) y = baseOf ts S y := fun y hy => by simp [baseOf, hy]
    have ge : ∀ y, y ≠ x → T y ≤ T' y := fun y hy => by
      by_cases h : Need ts x y
      · rw [hM.at_ y hy (isNd y h)]; omega
      · rw [hM.other y hy (notNd y h)]; exact Int.le_refl _
    have inS : ∀ k, k ∈ S → T' k = T k := fun k hk => hM.other k (fun e => hxs (e ▸ hk)) (fun j hj e => (hnx _ (need_of_nd hd.rng hx hj)).2 (by rw [e]; exact hk))
    refine ⟨fun y => ?_, fun y => ?_, fun k hk y hy => ?_, fun y => ?_⟩
    · by_cases e : y = x
      · subst e; rw [hM.own]; have := hI.low y; omega
      · have h1 := hI.low y
        have h2 := hI.low x
        by_cases h : Need ts x y
        · rw [hM.at_ y e (isNd y h)]; omega
        · rw [hM.other y e (notNd y h)]; omega
    · by_cases e : y = x
      · subst e; rw [hM.own, hb1]; have := hI.low y; omega
      · rw [hb2 y e]; have := hI.base y; have := ge y e; omega
    · rcases List.mem_cons.1 hk with rfl | hk
      · obtain ⟨h1, h2⟩ := hnx y hy
        rw [hb2 y h1, show baseOf ts S y = 0 by simp [baseOf, h2], hM.own, hM.at_ y h1 (isNd y hy)]; omega
      · rw [inS k hk]
        have := hI.up k hk y hy
        by_cases e : y = x
        · subst e; rw [hM.own, hb1]; omega
        · rw [hb2 y e]; have := ge y e; omega
    · by_cases e : y = x
      · subst e
        rw [hM.own, hb1]
        rcases hI.eq y with h1 | ⟨k, hk, hn, h1⟩
        · exact Or.inl (by omega)
        · exact Or.inr ⟨k, by simp [hk], hn, by rw [inS k hk]; omega⟩
      · rw [hb2 y e]
        have keep : T' y = T y → T' y = baseOf ts S y ∨ ∃ k, k ∈ x :: S ∧ Need ts k y ∧ T' y = baseOf ts S y + T' k := fun h => by
          rcases hI.eq y with h1 | ⟨k, hk, hn, h1⟩
          · exact Or.inl (by omega)
          · exact Or.inr ⟨k, by simp [hk], hn, by rw [inS k hk]; omega⟩
        by_cases h : Need ts x y
        · have hat := hM.at_ y e (isNd y h)
          by_cases hc : T x + wkOf ts x ≤ T y
          · exact keep (by omega)
          · refine Or.inr ⟨x, by simp, h, ?_⟩
            rw [show baseOf ts S y = 0 by simp [baseOf, (hnx y h).2], hM.own]; omega
        · exact keep (hM.other y e (notNd y h))

/-- What ranks and tails of a plan are. -/
structure Deep (ts : List (Int × List Int)) (R T : Nat → Int) : Prop where
  wk : ∀ x, x < ts.length → 1 ≤ wkOf ts x ∧ wkOf ts x ≤ 20
  rng : InRange ts
  rlow : ∀ x, 0 ≤ R x ∧ R x ≤ 600
  rup : ∀ x, x < ts.length → ∀ y, Need ts x y → R y + wkOf ts y ≤ R x
  req : ∀ x, x < ts.length → R x = 0 ∨ ∃ y, Need ts x y ∧ R x = R y + wkOf ts y
  tlow : ∀ x, 0 ≤ T x ∧ T x ≤ 600
  twk : ∀ x, x < ts.length → wkOf ts x ≤ T x
  tup : ∀ k, k < ts.length → ∀ y, Need ts k y → wkOf ts y + T k ≤ T y
  teq : ∀ x, x < ts.length → T x = wkOf ts x ∨ ∃ k, k < ts.length ∧ Need ts k x ∧ T x = wkOf ts x + T k

def ranksOf (ts : List (Int × List Int)) (ord : List Nat) : Nat → Int := rankAll ts ord ord.length
def tailsOf (ts : List (Int × List Int)) (ord : List Nat) : Nat → Int := tailAll ts ord ord.length

theorem Ready.mem_lt {ts : List (Int × List Int)} {ord : List Nat} (hd : Ready ts ord) {x : Nat} (h : x ∈ ord) : x < ts.length := by
  obtain ⟨i, hi, he⟩ := List.getElem_of_mem h
  have := hd.lt i hi
  rwa [getD_eq hi, he] at this

theorem Ready.deep {ts : List (Int × List Int)} {ord : List Nat} (hd : Ready ts ord) : Deep ts (ranksOf ts ord) (tailsOf ts ord) := by
  have hR := rank_inv hd _ (Nat.le_refl _)
  have hT := tail_inv hd _ (Nat.le_refl _)
  rw [Nat.sub_self, List.drop_zero] at hT
  have hl := hd.len
  have hs := hd.small
  have hb : ∀ x, x < ts.length → baseOf ts ord x = wkOf ts x := fun x hx => by simp [baseOf, hd.all x hx]
  refine ⟨hd.wk, hd.rng, fun x => ?_, fun x hx y hy => ?_, fun x hx => ?_, fun x => ?_, fun x hx => ?_, fun k hk y hy => ?_, fun x hx => ?_⟩
  · have := hR.low x; unfold ranksOf; omega
  · exact hR.up x (by rw [List.take_length]; exact hd.all x hx) y hy
  · exact hR.eq x (by rw [List.take_length]; exact hd.all x hx)
  · have := hT.low x; unfold tailsOf; omega
  · have := hT.base x; rw [hb x hx] at this; exact this
  · have := hT.up k (hd.all k hk) y hy
    rw [hb y (need_lt hd.rng hk hy)] at this
    exact this
  · rcases hT.eq x with h | ⟨k, hk, hn, h⟩
    · exact Or.inl (by rw [hb x hx] at h; exact h)
    · exact Or.inr ⟨k, hd.mem_lt hk, hn, by rw [hb x hx] at h; exact h⟩

theorem Deep.both {ts : List (Int × List Int)} {R T : Nat → Int} (h : Deep ts R T) : ∀ x, x < ts.length → R x + T x ≤ maxTo T ts.length := by
  have key : ∀ c x, x < ts.length → (R x).toNat = c → R x + T x ≤ maxTo T ts.length := by
    intro c
    induction c using Nat.strongRecOn with
    | _ c ih =>
      intro x hx hc
      rcases h.req x hx with h0 | ⟨y, hy, he⟩
      · have := le_maxTo T hx; omega
      · have hyl := need_lt h.rng hx hy
        have hw := h.wk y hyl
        have h1 := h.rlow y
        have h2 := ih (R y).toNat (by omega) y hyl rfl
        have h3 := h.tup x hx y hy
        omega
  exact fun x hx => key _ x hx rfl

/-- The least number below n that is so; -1, if none is. -/
def LeastIs (n : Nat) (P : Nat → Bool) (r : Int) : Prop := (∃ k : Nat, k < n ∧ (∀ j, j < k → P j = false) ∧ P k = true ∧ r = k) ∨ ((∀ j, j < n → P j = false) ∧ r = -1)
theorem LeastIs.det {n : Nat} {P : Nat → Bool} {r r' : Int} (h : LeastIs n P r) (h' : LeastIs n P r') : r = r' := by
  rcases h with ⟨k, h1, h2, h3, rfl⟩ | ⟨h, rfl⟩
  · rcases h' with ⟨k', g1, g2, g3, rfl⟩ | ⟨g, rfl⟩
    · rcases Nat.lt_trichotomy k k' with e | e | e
      · rw [g2 k e] at h3; cases h3
      · rw [e]
      · rw [h2 k' e] at g3; cases g3
    · rw [g k h1] at h3; cases h3
  · rcases h' with ⟨k', g1, g2, g3, rfl⟩ | ⟨g, rfl⟩
    · rw [h k' g1] at g3; cases g3
    · rfl

/-- Which task may be the next of a longest way. -/
def goesOn (ts : List (Int × List Int)) (T : Nat → Int) : Option Nat → Nat → Bool
  | none, k => decide (T k = maxTo T ts.length)
  | some x, k => decide (T k = T x - wkOf ts x) && (needsOf ts k).contains (x : Int)
/-- A longest way so far. -/
def Ways (ts : List (Int × List Int)) (T : Nat → Int) (l : List Nat) : Prop := ∀ m, m < l.length → LeastIs ts.length (goesOn ts T (l.take m).getLast?) (l.getD m 0 : Nat)
/-- A longest way, whole. -/
def WayIs (ts : List (Int × List Int)) (T : Nat → Int) (l : List Nat) : Prop := Ways ts T l ∧ LeastIs ts.length (goesOn ts T l.getLast?) (-1)
theorem Ways.nil (ts : List (Int × List Int)) (T : Nat → Int) : Ways ts T [] := fun m hm => by simp at hm
theorem Ways.snoc {ts : List (Int × List Int)} {T : Nat → Int} {l : List Nat} {y : Nat} (h : Ways ts T l) (hn : LeastIs ts.length (goesOn ts T l.getLast?) (y : Nat)) : Ways ts T (l ++ [y]) := by
  intro m hm
  simp at hm
  by_cases e : m = l.length
  · subst e; simpa using hn
  · have hlt : m < l.length := by omega
    have := h m hlt
    rw [List.take_append_of_le_length (by omega), show (l ++ [y]).getD m 0 = l.getD m 0 by simp [List.getElem?_append_left hlt]]
    exact this

theorem WayIs.det {ts : List (Int × List Int)} {T : Nat → Int} {a b : List Nat} (h : WayIs ts T a) (h' : WayIs ts T b) : a = b := by
  have key : ∀ m, m ≤ a.length → m ≤ b.length → a.take m = b.take m := by
    intro m
    induction m with
    | zero => intro _ _; rfl
    | succ m ih =>
      intro ha hb
      have e := ih (by omega) (by omega)
      have h1 := h.1 m (by omega)
      have h2 := h'.1 m (by omega)
      rw [e] at h1
      have e2 := h1.det h2
      have e3 : a.getD m 0 = b.getD m 0 := by omega
      rw [getD_eq (by omega), getD_eq (by omega)] at e3
      rw [List.take_succ_eq_append_getElem (by omega), List.take_succ_eq_append_getElem (by omega), e, e3]
  have short : ∀ {c d : List Nat}, WayIs ts T c → WayIs ts T d → c.length < d.length → (∀ m, m ≤ c.length → m ≤ d.length → c.take m = d.take m) → False := by
    intro c d hc hd hl hk
    have e := hk c.length (Nat.le_refl _) (by omega)
    rw [List.take_length] at e
    have h1 := hd.1 c.length hl
    rw [← e] at h1
    have := h1.det hc.2
    omega
  rcases Nat.lt_trichotomy a.length b.length with e | e | e
  · exact (short h h' e key).elim
  · have := key a.length (Nat.le_refl _) (by omega)
    rw [List.take_length, e, List.take_length] at this
    exact this
  · exact (short h' h e (fun m h1 h2 => (key m h2 h1).symm)).elim

theorem LeastIs.pos {n : Nat} {P : Nat → Bool} {r : Int} (h : LeastIs n P r) (hr : 0 ≤ r) : ∃ k : Nat, r = k ∧ k < n ∧ P k = true := by
  rcases h with ⟨k, h1, _, h3, rfl⟩ | ⟨_, rfl⟩
  · exact ⟨k, rfl, h1, h3⟩
  · omega
theorem LeastIs.neg {n : Nat} {P : Nat → Bool} {r : Int} (h : LeastIs n P r) (hr : ¬ 0 ≤ r) : r = -1 ∧ ∀ j, j < n → P j = false := by
  rcases h with ⟨k, h1, _, h3, rfl⟩ | ⟨h, rfl⟩
  · omega
  · exact ⟨rfl, h⟩

/-- What is left of a way: all of it at its beginning; else what is behind the last one. -/
def leftOf (ts : List (Int × List Int)) (T : Nat → Int) : Option Nat → Int
  | none => maxTo T ts.length
  | some x => T x - wkOf ts x

theorem goesOn_left {ts : List (Int × List Int)} {T : Nat → Int} {o : Option Nat} {k : Nat} (h : goesOn ts T o k = true) : T k = leftOf ts T o := by
  cases o with
  | none => simpa [goesOn, leftOf] using h
  | some x => simp [goesOn, leftOf] at h ⊢; exact h.1

/-- While something is left, there is a next one. -/
theorem Deep.goes {ts : List (Int × List Int)} {R T : Nat → Int} (h : Deep ts R T) (o : Option Nat) (ho : ∀ x, o = some x → x < ts.length) (hl : 0 < leftOf ts T o) : ∃ k, k < ts.length ∧ goesOn ts T o k = true := by
  cases o with
  | none =>
    obtain ⟨k, hk, he⟩ := maxTo_at T ts.length hl
    exact ⟨k, hk, by simp [goesOn, he]⟩
  | some x =>
    simp only [leftOf] at hl
    rcases h.teq x (ho x rfl) with e | ⟨k, hk, hn, e⟩
    · omega
    · refine ⟨k, hk, ?_⟩
      unfold Need at hn
      simp [goesOn, hn]; omega
/-- When nothing is left, there is none. -/
theorem Deep.ends {ts : List (Int × List Int)} {R T : Nat → Int} (h : Deep ts R T) (o : Option Nat) (hl : leftOf ts T o ≤ 0) (k : Nat) (hk : k < ts.length) : goesOn ts T o k = false := by
  cases hg : goesOn ts T o k with
  | false => rfl
  | true =>
    have e := goesOn_left hg
    have h1 := h.twk k hk
    have h2 := h.wk k hk
    omega

/-- The works along a way: of its first m tasks. -/
def wayTo (ts : List (Int × List Int)) (l : List Nat) : Nat → Int
  | 0 => 0
  | m + 1 => wayTo ts l m + wkOf ts (l.getD m 0)
theorem wayTo_left {ts : List (Int × List Int)} {T : Nat → Int} {l : List Nat} (h : Ways ts T l) : ∀ m, m ≤ l.length → wayTo ts l m + leftOf ts T (l.take m).getLast? = maxTo T ts.length := by
  intro m
  induction m with
  | zero => intro _; simp [wayTo, leftOf]
  | succ m ih =>
    intro hm
    have hi := ih (by omega)
    obtain ⟨k, hk, _, hg⟩ := (h m (by omega)).pos (by omega)
    have hkk : l.getD m 0 = k := by omega
    have e := goesOn_left hg
    have hlast : (l.take (m + 1)).getLast? = some (l.getD m 0) := by
      rw [List.take_succ_eq_append_getElem (by omega), List.getLast?_append, getD_eq (by omega)]; rfl
    rw [hlast]
    unfold wayTo
    simp only [leftOf]
    rw [hkk]
    omega

theorem WayIs.sum {ts : List (Int × List Int)} {R T : Nat → Int} {l : List Nat} (hd : Deep ts R T) (h : WayIs ts T l) : wayTo ts l l.length = maxTo T ts.length := by
  have hs := wayTo_left h.1 l.length (Nat.le_refl _)
  rw [List.take_length] at hs
  have hno := (h.2.neg (by omega)).2
  have h0 : ∀ x, l.getLast? = some x → x < ts.length := fun x hx => by
    have hne : l ≠ [] := fun e => by subst e; simp at hx
    have hlen : 0 < l.length := List.length_pos_iff.2 hne
    obtain ⟨k, hk, hkl, _⟩ := (h.1 (l.length - 1) (by omega)).pos (by omega)
    have : l.getD (l.length - 1) 0 = x := by
      rw [getD_eq (by omega)]
      rw [List.getLast?_eq_getElem?, List.getElem?_eq_getElem (by omega)] at hx
      exact Option.some.inj hx
    omega
  have hle : leftOf ts T l.getLast? ≤ 0 := by
    refine Int.not_lt.1 (fun hc => ?_)
    obtain ⟨k, hk, hg⟩ := hd.goes _ h0 hc
    rw [hno k hk] at hg; cases hg
  have hge : 0 ≤ leftOf ts T l.getLast? := by
    cases hL : l.getLast? with
    | none => exact maxTo_nonneg _ _
    | some x => have := hd.twk x (h0 x hL); simp only [leftOf]; omega
  omega

/-- Along a way each is a task, and needs the one ahead. -/
theorem Ways.at_ {ts : List (Int × List Int)} {T : Nat → Int} {l : List Nat} (h : Ways ts T l) {m : Nat} (hm : m < l.length) : l.getD m 0 < ts.length ∧ (0 < m → Need ts (l.getD m 0) (l.getD (m - 1) 0)) := by
  obtain ⟨k, hk, hkl, hg⟩ := (h m hm).pos (by omega)
  have hkk : l.getD m 0 = k := by omega
  refine ⟨by omega, fun h0 => ?_⟩
  have hlast : (l.take m).getLast? = some (l.getD (m - 1) 0) := by
    obtain ⟨j, rfl⟩ : ∃ j, m = j + 1 := ⟨m - 1, by omega⟩
    rw [List.take_succ_eq_append_getElem (by omega), List.getLast?_append, Nat.add_sub_cancel, getD_eq (by omega)]; rfl
  rw [hlast] at hg
  simp only [goesOn, Bool.and_eq_true, List.contains_eq_mem, decide_eq_true_eq] at hg
  rw [hkk]
  exact hg.2

theorem workTo_bound {ts : List (Int × List Int)} (h : ∀ x, x < ts.length → 1 ≤ wkOf ts x ∧ wkOf ts x ≤ 20) : ∀ k, k ≤ ts.length → 0 ≤ workTo ts k ∧ workTo ts k ≤ 20 * k := by
  intro k
  induction k with
  | zero => intro _; simp [workTo]
  | succ k ih =>
    intro hk
    have := ih (by omega)
    have := h k (by omega)
    unfold workTo
    omega
end Go.Proofs.YtlfbdjeojgbniaaGreatDoor

namespace Go.Proofs.YtlfbdjeojgbniaaGreatDoor
open Go.RowKit

theorem CheckIs.det {ts : List (Int × List Int)} {p q p' q' : Int} (h : CheckIs ts p q) (h' : CheckIs ts p' q') : p = p' ∧ q = q' := by
  cases h using CheckIs.elim with
  | full hf =>
    cases h' using CheckIs.elim with
    | full => exact ⟨rfl, rfl⟩
    | task k hk => omega
    | ring k hk => omega
    | none hk => omega
  | task k h30 hk hz hne =>
    cases h' using CheckIs.elim with
    | full => omega
    | task k2 _ hk2 hz2 hne2 =>
      have : k = k2 := by
        rcases Nat.lt_trichotomy k k2 with h | h | h
        · exact absurd (hz2 k h) hne
        · exact h
        · exact absurd (hz k2 h) hne2
      subst this; exact ⟨rfl, rfl⟩
    | ring k2 _ hall => exact absurd (hall k hk) hne
    | none _ hall => exact absurd (hall k hk) hne
  | ring k h30 hall hk hf hr =>
    cases h' using CheckIs.elim with
    | full => omega
    | task k2 _ hk2 _ hne2 => exact absurd (hall k2 hk2) hne2
    | ring k2 _ _ hk2 hf2 hr2 =>
      have : k = k2 := by
        rcases Nat.lt_trichotomy k k2 with h | h | h
        · exact absurd hr (hf2 k h)
        · exact h
        · exact absurd hr2 (hf k2 h)
      subst this; exact ⟨rfl, rfl⟩
    | none _ _ hno => exact absurd hr (hno k hk)
  | none h30 hall hno =>
    cases h' using CheckIs.elim with
    | full => omega
    | task k2 _ hk2 _ hne2 => exact absurd (hall k2 hk2) hne2
    | ring k2 _ _ hk2 _ hr2 => exact absurd hr2 (hno k2 hk2)
    | none => exact ⟨rfl, rfl⟩

theorem NextIs.free {ts : List (Int × List Int)} {T : Nat → Bool} {k : Nat} (h : NextIs ts T (k : Nat)) : k < ts.length ∧ T k = false ∧ ∀ y, y ∈ needsOf ts k → T y.toNat = true := by
  generalize hr : ((k : Nat) : Int) = r at h
  cases h using NextIs.elim with
  | some j hj _ hf =>
    have : k = j := by omega
    subst this
    unfold freeB at hf
    simp only [Bool.and_eq_true, Bool.not_eq_true'] at hf
    refine ⟨hj, hf.1, fun y hy => ?_⟩
    have := List.any_eq_false.1 hf.2 y hy
    simpa using this
  | none => omega

theorem wkOf_right {ts : List (Int × List Int)} {x : Nat} (h : errOf ts x = 0) : 1 ≤ wkOf ts x ∧ wkOf ts x ≤ 20 := by
  unfold errOf taskErr at h
  unfold wkOf
  split at h
  · simp at h
  · omega

theorem has_mem (l : List Nat) (x : Nat) : has l x = true ↔ x ∈ l := by simp [has]

theorem Ready.of {ts : List (Int × List Int)} {ord : List Nat} (hc : CheckIs ts 0 0) (ho : OrdIs ts ord) : Ready ts ord := by
  obtain ⟨_, h30, herr, hno⟩ := hc.ok rfl
  have hr := inRange_of herr
  refine ⟨ho.length hr hno, h30, fun x hx => wkOf_right (herr x hx), hr, fun m hm => ?_, fun m hm h => ?_, fun m hm y hy => ?_, fun x hx => (has_mem _ _).1 (ho.all hr hno x hx)⟩
  · exact (ho.1 m hm).free.1
  · have h1 := (ho.1 m hm).free.2.1
    have h2 := (has_mem _ _).2 h
    rw [h1] at h2; cases h2
  · have := (ho.1 m hm).free.2.2 _ hy
    rw [Int.toNat_natCast] at this
    exact (has_mem _ _).1 this

theorem order_back (v : Value) (ts : List (Int × List Int)) (w : World) (hp : PlanAt w v ts) :
    Calls Tryz.prog 180 #[v] w fun e w' => ((∃ p q, q ≠ 0 ∧ CheckIs ts p q ∧ e = .returned (.tuple #[.slice none 0 0, errV q])) ∨ (CheckIs ts 0 0 ∧ ∃ ord ov, e = .returned (.tuple #[ov, .nilIface]) ∧ OrdIs ts ord ∧ IntsAt w' ov (intsOf ord))) ∧ Below w.heap.size w w' := by
  refine (order_any v ts w hp).mono ?_
  rintro e w' ⟨⟨p, q, hc, h⟩, hb⟩
  refine ⟨?_, hb⟩
  rcases h with ⟨hq, rfl⟩ | ⟨rfl, h⟩
  · exact Or.inl ⟨p, q, hq, hc, rfl⟩
  · obtain ⟨rfl, _⟩ := hc.ok rfl
    exact Or.inr ⟨hc, h⟩

end Go.Proofs.YtlfbdjeojgbniaaGreatDoor

namespace Go.Proofs.YtlfbdjeojgbniaaGreatDoor
open Go.RowKit Go.Deep

theorem take_succ_none (x : Int) (zs : List Int) (k : Nat) (hlt : k < zs.length) (hno : x ∉ zs.take k) (h : zs.getD k 0 ≠ x) : x ∉ zs.take (k + 1) := by
  intro hx
  rw [List.take_succ_eq_append_getElem hlt] at hx
  have he : zs.getD k 0 = zs[k] := by rw [List.getD_eq_getElem?_getD, List.getElem?_eq_getElem hlt]; rfl
  rcases List.mem_append.1 hx with hx | hx
  · exact hno hx
  · exact h (by rw [he]; exact (List.mem_singleton.1 hx).symm)
theorem mem_at {x : Int} {zs : List Int} {k : Nat} (hlt : k < zs.length) (h : zs.getD k 0 = x) : x ∈ zs := by
  rw [List.getD_eq_getElem?_getD, List.getElem?_eq_getElem hlt] at h
  rw [← h]; exact List.getElem_mem hlt

def memB (zs : List Int) (x : Int) : Bool := decide (x ∈ zs)

/-- Where x stands first; -1, if nowhere. -/
def firstOf (zs : List Int) (x : Int) (r : Int) : Prop := LeastIs zs.length (fun k => decide (zs.getD k 0 = x)) r
theorem firstOf_mem {zs : List Int} {x r : Int} (h : firstOf zs x r) : decide (0 ≤ r) = memB zs x := by
  rcases h with ⟨k, h1, _, h3, rfl⟩ | ⟨h, rfl⟩
  · have : x ∈ zs := mem_at h1 (by simpa using h3)
    simp [memB, this]
  · have : x ∉ zs := fun hx => by
      obtain ⟨j, hj, he⟩ := List.getElem_of_mem hx
      have := h j hj
      simp [hj, he] at this
    simp [memB, this]

theorem max_if (m t : Int) : (if m < t then t else m) = max m t := by
  split <;> omega

/-- The list of the first n values of a function. -/
def listOf (T : Nat → Int) (n : Nat) : List Int := (List.range n).map T
theorem listOf_length (T : Nat → Int) (n : Nat) : (listOf T n).length = n := by simp [listOf]
theorem listOf_getD (T : Nat → Int) {n k : Nat} (h : k < n) : (listOf T n).getD k 0 = T k := by simp [listOf, h]

set_option maxHeartbeats 800000 in
theorem greatest_any (v : Value) (T : Nat → Int) (n : Nat) (w : World) (hz : IntsAt w v (listOf T n)) :
    Calls Tryz.prog 154 #[v] w fun e w' => e = .returned (.int .i64 (maxTo T n)) ∧ w' = w := by
  obtain ⟨hl, a, c, rfl, hz⟩ := hz
  rw [listOf_length] at hl hz ⊢
  go_enter Tryz.func154, Tryz.ntmps154
  go_wp2
  go_loop [3, 8] (fun m i => ∃ k : Nat, k ≤ n ∧ i = .int .i64 k ∧ m = .int .i64 (maxTo T k)) (fun _ i => n - (intOf i).toNat)
  case atStart => exact ⟨0, Nat.zero_le _, rfl, rfl⟩
  case round =>
    obtain ⟨k, hk, rfl, rfl⟩ := hrel
    by_cases hkl : k < n
    · rcases hz with hz | ⟨b, o, rfl, hbl, hc⟩
      · have := congrArg List.length hz
        rw [listOf_length] at this
        simp at this; omega
      have hck := hc k hkl
      rw [listOf_getD T hkl] at hck
      clear hc
      have HE : Hid (maxTo T (k + 1) = max (maxTo T k) (T k)) := rfl
      generalize maxTo T k = m at *
      generalize T k = t at *
      go_wp2
      go_round
      case rel => exact ⟨k + 1, by omega, by go_num, by rw [HE.out, max_if]⟩
      case measure => simp [intOf]; omega
    · clear hz
      go_wp2
      go_ret
      have : k = n := by omega
      subst this
      exact ⟨rfl, rfl⟩
end Go.Proofs.YtlfbdjeojgbniaaGreatDoor

namespace Go.Proofs.YtlfbdjeojgbniaaGreatDoor
open Go.RowKit Go.Deep

def intRow (f : Nat → Int) : Nat → Value := fun k => .int .i64 (f k)

theorem row_upd {w : World} {b n x : Nat} {f : Nat → Int} {v : Int} (h : w.rowIs b 3 n (intRow f)) : (w.setCell ⟨b, x, none⟩ (.int .i64 v)).rowIs b 3 n (intRow (upd f x v)) :=
  (h.set x _).congr (fun k _ => by unfold intRow upd; split <;> rfl)
theorem row_ints {w : World} {b n c : Nat} {f : Nat → Int} (h : w.rowIs b 3 n (intRow f)) (hn : n * 8 ≤ 140737488351232) : IntsAt w (.slice (some ⟨b, 0, none⟩) n c) (listOf f n) := by
  refine ⟨by rw [listOf_length]; exact hn, _, _, by rw [listOf_length], Or.inr ⟨b, 0, rfl, h.lt, fun k hk => ?_⟩⟩
  rw [listOf_length] at hk
  rw [Nat.zero_add, h.cell hk, listOf_getD f hk]; rfl

theorem rank_bound {ts : List (Int × List Int)} {ord : List Nat} {m k : Nat} (hd : Ready ts ord) (hm : m < ord.length) (hk : k ≤ (needsOf ts (ord.getD m 0)).length) :
    ∀ y, 0 ≤ rankIn ts (ord.getD m 0) (rankAll ts ord m) k y ∧ rankIn ts (ord.getD m 0) (rankAll ts ord m) k y ≤ 620 := by
  intro y
  have hI := rank_inv hd m (by omega)
  have hM := rank_mid hd hm hI k hk
  have h30 := hd.small
  have hl := hd.len
  by_cases e : y = ord.getD m 0
  · subst e; have := hM.low; omega
  · rw [hM.other y e]; have := hI.low y; omega

end Go.Proofs.YtlfbdjeojgbniaaGreatDoor
