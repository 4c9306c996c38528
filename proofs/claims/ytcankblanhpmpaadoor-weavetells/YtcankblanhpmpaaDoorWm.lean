/- Plain: what the plan of a weave is: its works, what its tasks need; it is right; its work and span are those of the text. No word of the program. -/
import Derived.Test.YtcankblanhpmpaaDoorWa
import Derived.Test.YtcankblanhpmpaaDoorDk
namespace Go.Proofs.YtcankblanhpmpaaDoor

/-- The numbers of a weave, as they stand in the text. -/
def Tree.leaves : Tree → List (List UInt8)
  | .num ds => [ds]
  | .seq a b => a.leaves ++ b.leaves
  | .par a b => a.leaves ++ b.leaves
theorem Tree.leaves_length (t : Tree) : t.leaves.length = t.count := by
  induction t with
  | num ds => rfl
  | seq a b iha ihb => simp [Tree.leaves, Tree.count, iha, ihb]
  | par a b iha ihb => simp [Tree.leaves, Tree.count, iha, ihb]
def sumL : List Int → Int
  | [] => 0
  | x :: r => x + sumL r
theorem sumL_append (a b : List Int) : sumL (a ++ b) = sumL a + sumL b := by
  induction a with
  | nil => simp [sumL]
  | cons x r ih => simp [sumL, ih]; omega
theorem Tree.work_sum (V : List UInt8 → Int) (t : Tree) : t.work V = sumL (t.leaves.map V) := by
  induction t with
  | num ds => simp [Tree.work, Tree.leaves, sumL]
  | seq a b iha ihb => simp [Tree.work, Tree.leaves, sumL_append, iha, ihb]
  | par a b iha ihb => simp [Tree.work, Tree.leaves, sumL_append, iha, ihb]

def worksOf (ts : List (Int × List Int)) : List Int := ts.map (·.1)
theorem setN_works (zs : List Int) (ts : List (Int × List Int)) (x : Nat) : worksOf (setN zs ts x) = worksOf ts := by
  apply List.ext_getElem?
  intro i
  unfold worksOf setN
  rw [List.getElem?_map, List.getElem?_map, List.getElem?_set]
  by_cases h : x = i
  · subst h
    by_cases hl : x < ts.length
    · simp [hl]
    · simp [hl]
  · simp [h]
theorem setAll_works (fs : List Nat) (zs : List Int) (ts : List (Int × List Int)) : worksOf (setAll fs zs ts) = worksOf ts := by
  induction fs generalizing ts with
  | nil => rfl
  | cons f r ih => show worksOf (setAll r zs (setN zs ts f)) = _; rw [ih, setN_works]
theorem Tree.lay_works (V : List UInt8 → Int) (t : Tree) : ∀ ts, worksOf (t.lay V ts) = worksOf ts ++ t.leaves.map V := by
  induction t with
  | num ds => intro ts; simp [Tree.lay, worksOf, Tree.leaves]
  | seq a b iha ihb => intro ts; simp only [Tree.lay, Tree.leaves, setAll_works]; rw [ihb, iha]; simp
  | par a b iha ihb => intro ts; simp only [Tree.lay, Tree.leaves]; rw [ihb, iha]; simp
theorem wkOf_works (ts : List (Int × List Int)) (x : Nat) : wkOf ts x = (worksOf ts).getD x 0 := by
  unfold wkOf worksOf
  simp only [List.getD_eq_getElem?_getD, List.getElem?_map]
  cases ts[x]? <;> rfl
theorem workTo_works (ts : List (Int × List Int)) : workTo ts ts.length = sumL (worksOf ts) := by
  have key : ∀ k, k ≤ ts.length → workTo ts k = sumL ((worksOf ts).take k) := by
    intro k
    induction k with
    | zero => intro _; simp [workTo, sumL]
    | succ k ih =>
      intro hk
      have hl : k < (worksOf ts).length := by simp [worksOf]; omega
      unfold workTo
      rw [ih (by omega), List.take_succ_eq_append_getElem hl, sumL_append, wkOf_works, List.getD_eq_getElem?_getD, List.getElem?_eq_getElem hl]
      simp [sumL]
  rw [key _ (Nat.le_refl _), List.take_of_length_le (by simp [worksOf])]
theorem Tree.lay_work (V : List UInt8 → Int) (t : Tree) : workTo (t.lay V []) (t.lay V []).length = t.work V := by
  rw [workTo_works, t.lay_works, t.work_sum]
  simp [worksOf]

/-- What the x-th task needs, in a weave that is laid from n on. -/
def nds (n : Nat) : Tree → Nat → List Int
  | .num _, _ => []
  | .seq a b, x => if x < n + a.count then nds n a x else if x ∈ b.first (n + a.count) then ofNats (a.last n) else nds (n + a.count) b x
  | .par a b, x => if x < n + a.count then nds n a x else nds (n + a.count) b x
theorem Tree.lay_nds (V : List UInt8 → Int) (t : Tree) : ∀ ts x, ts.length ≤ x → x < ts.length + t.count → needsOf (t.lay V ts) x = nds ts.length t x := by
  induction t with
  | num ds =>
    intro ts x h1 h2
    simp only [Tree.count] at h2
    obtain rfl : x = ts.length := by omega
    simp [needsOf, Tree.lay, nds]
  | seq a b iha ihb =>
    intro ts x h1 h2
    simp only [Tree.count] at h2
    unfold needsOf
    simp only [Tree.lay, nds]
    rw [setAll_getD _ _ _ _ (by rw [b.lay_length, a.lay_length]; omega)]
    by_cases hx : x < ts.length + a.count
    · rw [if_pos hx, if_neg (fun h => by have := b.first_range _ _ h; omega), b.lay_old V _ _ (by rw [a.lay_length]; omega)]
      exact iha ts x h1 hx
    · rw [if_neg hx]
      split
      · rfl
      · have := ihb (a.lay V ts) x (by rw [a.lay_length]; omega) (by rw [a.lay_length]; omega)
        rw [a.lay_length] at this
        exact this
  | par a b iha ihb =>
    intro ts x h1 h2
    simp only [Tree.count] at h2
    unfold needsOf
    simp only [Tree.lay, nds]
    by_cases hx : x < ts.length + a.count
    · rw [if_pos hx, b.lay_old V _ _ (by rw [a.lay_length]; omega)]
      exact iha ts x h1 hx
    · rw [if_neg hx]
      have := ihb (a.lay V ts) x (by rw [a.lay_length]; omega) (by rw [a.lay_length]; omega)
      rw [a.lay_length] at this
      exact this

theorem mem_ofNats {l : List Nat} {y : Int} : y ∈ ofNats l ↔ ∃ k, k ∈ l ∧ y = (k : Nat) := by
  simp only [ofNats, List.mem_map]
  constructor
  · rintro ⟨k, hk, rfl⟩; exact ⟨k, hk, rfl⟩
  · rintro ⟨k, hk, rfl⟩; exact ⟨k, hk, rfl⟩
/-- Tasks need such as stand ahead of them, in the weave itself, and none that comes last. -/
theorem nds_range (t : Tree) : ∀ n x y, n ≤ x → x < n + t.count → y ∈ nds n t x → ∃ k : Nat, y = k ∧ n ≤ k ∧ k < x ∧ k ∉ t.last n := by
  induction t with
  | num ds => intro n x y _ _ h; simp [nds] at h
  | seq a b iha ihb =>
    intro n x y h1 h2 h
    simp only [Tree.count] at h2
    simp only [nds] at h
    simp only [Tree.last]
    by_cases hx : x < n + a.count
    · rw [if_pos hx] at h
      obtain ⟨k, rfl, g1, g2, _⟩ := iha n x y h1 hx h
      exact ⟨k, rfl, g1, g2, fun hl => by have := b.last_range _ _ hl; omega⟩
    · rw [if_neg hx] at h
      by_cases hf : x ∈ b.first (n + a.count)
      · rw [if_pos hf] at h
        obtain ⟨k, hk, rfl⟩ := mem_ofNats.1 h
        have := a.last_range _ _ hk
        exact ⟨k, rfl, by omega, by omega, fun hl => by have := b.last_range _ _ hl; omega⟩
      · rw [if_neg hf] at h
        obtain ⟨k, rfl, g1, g2, g3⟩ := ihb _ x y (by omega) (by omega) h
        exact ⟨k, rfl, by omega, g2, g3⟩
  | par a b iha ihb =>
    intro n x y h1 h2 h
    simp only [Tree.count] at h2
    simp only [nds] at h
    simp only [Tree.last, List.mem_append, not_or]
    by_cases hx : x < n + a.count
    · rw [if_pos hx] at h
      obtain ⟨k, rfl, g1, g2, g3⟩ := iha n x y h1 hx h
      exact ⟨k, rfl, g1, g2, g3, fun hl => by have := b.last_range _ _ hl; omega⟩
    · rw [if_neg hx] at h
      obtain ⟨k, rfl, g1, g2, g3⟩ := ihb _ x y (by omega) (by omega) h
      exact ⟨k, rfl, by omega, g2, fun hl => by have := a.last_range _ _ hl; omega, g3⟩

/-- Each number is above the one ahead of it. -/
theorem rising_append {a b : List Int} (ha : rising a = true) (hb : rising b = true) (h : ∀ x, x ∈ a → ∀ y, y ∈ b → x < y) : rising (a ++ b) = true := by
  induction a with
  | nil => exact hb
  | cons x r ih =>
    cases r with
    | nil =>
      cases b with
      | nil => exact ha
      | cons y s =>
        simp only [List.cons_append, List.nil_append, rising, Bool.and_eq_true, decide_eq_true_eq]
        exact ⟨h x (by simp) y (by simp), hb⟩
    | cons z r =>
      simp only [rising, Bool.and_eq_true, decide_eq_true_eq] at ha
      have := ih ha.2 (fun u hu => h u (by simp at hu ⊢; exact Or.inr hu))
      simp only [List.cons_append, rising, Bool.and_eq_true, decide_eq_true_eq]
      exact ⟨ha.1, this⟩
theorem Tree.last_rising (t : Tree) : ∀ n, rising (ofNats (t.last n)) = true := by
  induction t with
  | num ds => intro n; rfl
  | seq a b _ ihb => intro n; exact ihb _
  | par a b iha ihb =>
    intro n
    simp only [Tree.last, ofNats, List.map_append]
    refine rising_append (iha n) (ihb _) (fun x hx y hy => ?_)
    obtain ⟨k, hk, rfl⟩ := mem_ofNats.1 hx
    obtain ⟨j, hj, rfl⟩ := mem_ofNats.1 hy
    have := a.last_range _ _ hk
    have := b.last_range _ _ hj
    omega
theorem nds_rising (t : Tree) : ∀ n x, rising (nds n t x) = true := by
  induction t with
  | num ds => intro n x; rfl
  | seq a b iha ihb =>
    intro n x
    simp only [nds]
    split
    · exact iha n x
    · split
      · exact a.last_rising n
      · exact ihb _ x
  | par a b iha ihb =>
    intro n x
    simp only [nds]
    split
    · exact iha n x
    · exact ihb _ x

/-- The plan of a weave whose numbers are right is right. -/
theorem Tree.check (V : List UInt8 → Int) (t : Tree) (hc : t.count ≤ 30) (hv : ∀ ds, ds ∈ t.leaves → 1 ≤ V ds ∧ V ds ≤ 20) : CheckIs (t.lay V []) 0 0 := by
  have hlen : (t.lay V []).length = t.count := by rw [t.lay_length]; simp
  have hnd : ∀ x, x < t.count → needsOf (t.lay V []) x = nds 0 t x := fun x hx => t.lay_nds V [] x (Nat.zero_le _) (by simpa using hx)
  have hwk : ∀ x, x < t.count → 1 ≤ wkOf (t.lay V []) x ∧ wkOf (t.lay V []) x ≤ 20 := fun x hx => by
    rw [wkOf_works, t.lay_works]
    have hl : x < t.leaves.length := by rw [t.leaves_length]; exact hx
    simp only [worksOf, List.map_nil, List.nil_append, List.getD_eq_getElem?_getD, List.getElem?_map, List.getElem?_eq_getElem hl, Option.map_some, Option.getD_some]
    exact hv _ (List.getElem_mem hl)
  refine CheckIs.none (by omega) (fun j hj => ?_) (fun j hj hr => ?_)
  · rw [hlen] at hj
    unfold errOf taskErr
    have := hwk j hj
    unfold wkOf at this
    rw [if_neg (by omega), hnd j hj]
    have hany : ((nds 0 t j).any fun n => !inRange n ((t.lay V []).length : Nat)) = false := by
      rw [List.any_eq_false]
      intro y hy
      obtain ⟨k, rfl, _, g2, _⟩ := nds_range t 0 j y (Nat.zero_le _) (by omega) hy
      simp [inRange]; omega
    rw [hany]
    simp [nds_rising]
  · have key : ∀ {x y}, x < t.count → Reach (t.lay V []) x y → y < x := by
      intro x y hx hr
      have hn : ∀ {a b}, a < t.count → Need (t.lay V []) a b → b < a := fun {a b} ha hn => by
        unfold Need at hn
        rw [hnd a ha] at hn
        obtain ⟨k, e, _, g2, _⟩ := nds_range t 0 a _ (Nat.zero_le _) (by omega) hn
        omega
      induction hr using Reach.ind with
      | one h => exact hn hx h
      | more _ h ih => have := hn (by omega) h; omega
    have := key (by omega) hr
    omega

/-- A part of a plan is a weave: what comes first in it needs E, the others what the weave says; who is no part of it needs none of it but what comes last. -/
structure Emb (V : List UInt8 → Int) (L : List (Int × List Int)) (n : Nat) (u : Tree) (E : List Int) : Prop where
  nd : ∀ x, n ≤ x → x < n + u.count → needsOf L x = if x ∈ u.first n then E else nds n u x
  wk : ∀ j, j < u.count → wkOf L (n + j) = (u.leaves.map V).getD j 0
  out : ∀ k x, (k < n ∨ n + u.count ≤ k) → n ≤ x → x < n + u.count → Need L k x → x ∈ u.last n
  lo : ∀ y, y ∈ E → y < n
  len : n + u.count ≤ L.length

theorem getD_app_left (a b : List Int) {j : Nat} (h : j < a.length) : (a ++ b).getD j 0 = a.getD j 0 := by simp [List.getElem?_append_left h]
theorem getD_app_right (a b : List Int) (j : Nat) : (a ++ b).getD (a.length + j) 0 = b.getD j 0 := by simp [List.getElem?_append_right]

/-- Whoever is a part of it needs E, or what is in it. -/
theorem Emb.inside {V : List UInt8 → Int} {L : List (Int × List Int)} {n : Nat} {u : Tree} {E : List Int} (h : Emb V L n u E) {k y : Nat} (h1 : n ≤ k) (h2 : k < n + u.count) (hn : Need L k y) : y < n ∨ (n ≤ y ∧ y < k ∧ y ∉ u.last n) := by
  unfold Need at hn
  rw [h.nd k h1 h2] at hn
  split at hn
  · have := h.lo _ hn; exact Or.inl (by omega)
  · obtain ⟨j, e, g1, g2, g3⟩ := nds_range u n k _ h1 h2 hn
    obtain rfl : y = j := by omega
    exact Or.inr ⟨g1, g2, g3⟩

theorem Emb.seqA {V : List UInt8 → Int} {L : List (Int × List Int)} {n : Nat} {a b : Tree} {E : List Int} (h : Emb V L n (.seq a b) E) : Emb V L n a E where
  nd := fun x h1 h2 => by
    rw [h.nd x h1 (by simp only [Tree.count]; omega)]
    simp only [Tree.first, nds]
    by_cases hf : x ∈ a.first n
    · simp [hf]
    · simp [hf, h2]
  wk := fun j hj => by
    rw [h.wk j (by simp only [Tree.count]; omega)]
    simp only [Tree.leaves, List.map_append]
    rw [getD_app_left _ _ (by rw [List.length_map, a.leaves_length]; exact hj)]
  out := fun k x hk h1 h2 hn => by
    have hc : (Tree.seq a b).count = a.count + b.count := rfl
    by_cases hkb : n + a.count ≤ k ∧ k < n + a.count + b.count
    · unfold Need at hn
      rw [h.nd k (by omega) (by omega)] at hn
      rw [if_neg (fun hf => by have := a.first_range n k hf; omega)] at hn
      simp only [nds] at hn
      rw [if_neg (by omega)] at hn
      split at hn
      · obtain ⟨j, hj, e⟩ := mem_ofNats.1 hn
        obtain rfl : x = j := by omega
        exact hj
      · obtain ⟨j, e, g1, _⟩ := nds_range b (n + a.count) k _ (by omega) (by omega) hn
        omega
    · have := h.out k x (by omega) h1 (by omega) hn
      have := b.last_range _ _ this
      omega
  lo := h.lo
  len := by have := h.len; simp only [Tree.count] at this; omega
theorem Emb.seqB {V : List UInt8 → Int} {L : List (Int × List Int)} {n : Nat} {a b : Tree} {E : List Int} (h : Emb V L n (.seq a b) E) : Emb V L (n + a.count) b (ofNats (a.last n)) where
  nd := fun x h1 h2 => by
    rw [h.nd x (by omega) (by simp only [Tree.count]; omega), if_neg (fun hf => by have := a.first_range n x hf; omega)]
    simp only [nds]
    rw [if_neg (by omega)]
  wk := fun j hj => by
    have := h.wk (a.count + j) (by simp only [Tree.count]; omega)
    rw [← Nat.add_assoc] at this
    rw [this]
    simp only [Tree.leaves, List.map_append]
    have := getD_app_right (a.leaves.map V) (b.leaves.map V) j
    rw [List.length_map, a.leaves_length] at this
    exact this
  out := fun k x hk h1 h2 hn => by
    have hc : (Tree.seq a b).count = a.count + b.count := rfl
    by_cases hka : n ≤ k ∧ k < n + a.count
    · rcases h.seqA.inside hka.1 hka.2 hn with g | ⟨g1, g2, _⟩
      · omega
      · omega
    · exact h.out k x (by omega) (by omega) (by omega) hn
  lo := fun y hy => by
    obtain ⟨k, hk, rfl⟩ := mem_ofNats.1 hy
    have := a.last_range _ _ hk
    omega
  len := by have := h.len; simp only [Tree.count] at this; omega
theorem Emb.parA {V : List UInt8 → Int} {L : List (Int × List Int)} {n : Nat} {a b : Tree} {E : List Int} (h : Emb V L n (.par a b) E) : Emb V L n a E where
  nd := fun x h1 h2 => by
    rw [h.nd x h1 (by simp only [Tree.count]; omega)]
    simp only [Tree.first, nds, List.mem_append]
    rw [if_pos h2]
    by_cases hf : x ∈ a.first n
    · rw [if_pos (Or.inl hf), if_pos hf]
    · rw [if_neg (fun hc => hc.elim hf (fun hb => by have := b.first_range _ _ hb; omega)), if_neg hf]
  wk := fun j hj => by
    rw [h.wk j (by simp only [Tree.count]; omega)]
    simp only [Tree.leaves, List.map_append]
    rw [getD_app_left _ _ (by rw [List.length_map, a.leaves_length]; exact hj)]
  out := fun k x hk h1 h2 hn => by
    have hc : (Tree.par a b).count = a.count + b.count := rfl
    by_cases hkb : n + a.count ≤ k ∧ k < n + a.count + b.count
    · unfold Need at hn
      rw [h.nd k (by omega) (by omega)] at hn
      split at hn
      · have := h.lo _ hn; omega
      · simp only [nds] at hn
        rw [if_neg (by omega)] at hn
        obtain ⟨j, e, g1, _⟩ := nds_range b (n + a.count) k _ (by omega) (by omega) hn
        omega
    · have := h.out k x (by omega) h1 (by omega) hn
      simp only [Tree.last, List.mem_append] at this
      rcases this with g | g
      · exact g
      · have := b.last_range _ _ g; omega
  lo := h.lo
  len := by have := h.len; simp only [Tree.count] at this; omega
theorem Emb.parB {V : List UInt8 → Int} {L : List (Int × List Int)} {n : Nat} {a b : Tree} {E : List Int} (h : Emb V L n (.par a b) E) : Emb V L (n + a.count) b E where
  nd := fun x h1 h2 => by
    rw [h.nd x (by omega) (by simp only [Tree.count]; omega)]
    simp only [Tree.first, nds, List.mem_append]
    rw [if_neg (show ¬ x < n + a.count by omega)]
    by_cases hf : x ∈ b.first (n + a.count)
    · rw [if_pos (Or.inr hf), if_pos hf]
    · rw [if_neg (fun hc => hc.elim (fun ha => by have := a.first_range _ _ ha; omega) hf), if_neg hf]
  wk := fun j hj => by
    have := h.wk (a.count + j) (by simp only [Tree.count]; omega)
    rw [← Nat.add_assoc] at this
    rw [this]
    simp only [Tree.leaves, List.map_append]
    have := getD_app_right (a.leaves.map V) (b.leaves.map V) j
    rw [List.length_map, a.leaves_length] at this
    exact this
  out := fun k x hk h1 h2 hn => by
    have hc : (Tree.par a b).count = a.count + b.count := rfl
    by_cases hka : n ≤ k ∧ k < n + a.count
    · rcases h.parA.inside hka.1 hka.2 hn with g | ⟨g1, g2, _⟩
      · omega
      · omega
    · have := h.out k x (by omega) (by omega) (by omega) hn
      simp only [Tree.last, List.mem_append] at this
      rcases this with g | g
      · have := a.last_range _ _ g; omega
      · exact g
  lo := fun y hy => by have := h.lo y hy; omega
  len := by have := h.len; simp only [Tree.count] at this; omega

/-- Tails in a part of a plan that is a weave: behind what comes last the longest way is C. -/
theorem Emb.tails {V : List UInt8 → Int} {L : List (Int × List Int)} {R T : Nat → Int} (hd : Deep L R T) : ∀ (u : Tree) (n : Nat) (E : List Int) (C : Int), Emb V L n u E → 0 ≤ C → (∀ ds, ds ∈ u.leaves → 1 ≤ V ds) →
    (∀ x, x ∈ u.last n → (∀ k, Need L k x → T k ≤ C) ∧ (C = 0 ∨ ∃ k, k < L.length ∧ Need L k x ∧ T k = C)) →
    (∀ x, n ≤ x → x < n + u.count → T x ≤ u.span V + C) ∧ (∃ x, x ∈ u.first n ∧ T x = u.span V + C) := by
  intro u
  induction u with
  | num ds =>
    intro n E C h hC hv hl
    obtain ⟨h1, h2⟩ := hl n (by simp [Tree.last])
    have hlt : n < L.length := by have := h.len; simp only [Tree.count] at this; omega
    have hw : wkOf L n = V ds := by have := h.wk 0 (by simp [Tree.count]); simpa [Tree.leaves] using this
    have he : T n = V ds + C := by
      have hle : T n ≤ V ds + C := by
        rcases hd.teq n hlt with e | ⟨k, _, hn, e⟩
        · omega
        · have := h1 k hn; omega
      have hge : V ds + C ≤ T n := by
        rcases h2 with rfl | ⟨k, hk, hn, e⟩
        · have := hd.twk n hlt; omega
        · have := hd.tup k hk n hn; omega
      omega
    refine ⟨fun x g1 g2 => ?_, n, by simp [Tree.first], by simp only [Tree.span]; exact he⟩
    simp only [Tree.count] at g2
    obtain rfl : x = n := by omega
    simp only [Tree.span]; omega
  | seq a b iha ihb =>
    intro n E C h hC hv hl
    have hb := ihb (n + a.count) _ C h.seqB hC (fun ds hds => hv ds (by simp [Tree.leaves, hds])) hl
    obtain ⟨hb1, m, hm, hmT⟩ := hb
    have hmr := b.first_range _ _ hm
    have hsb : 0 ≤ b.span V + C := by rw [← hmT]; exact (hd.tlow m).1
    have ha := iha n E (b.span V + C) h.seqA hsb (fun ds hds => hv ds (by simp [Tree.leaves, hds])) (fun x hx => by
      have hxr := a.last_range _ _ hx
      have hlen := h.len
      simp only [Tree.count] at hlen
      refine ⟨fun k hn => ?_, Or.inr ⟨m, by omega, ?_, hmT⟩⟩
      · by_cases hkb : n + a.count ≤ k ∧ k < n + a.count + b.count
        · exact hb1 k hkb.1 hkb.2
        · by_cases hka : n ≤ k ∧ k < n + a.count
          · rcases h.seqA.inside hka.1 hka.2 hn with g | ⟨_, _, g⟩
            · omega
            · exact absurd hx g
          · have := h.out k x (by simp only [Tree.count]; omega) (by omega) (by simp only [Tree.count]; omega) hn
            have := b.last_range _ _ this
            omega
      · unfold Need
        rw [h.seqB.nd m hmr.1 hmr.2, if_pos hm]
        exact mem_ofNats.2 ⟨x, hx, rfl⟩)
    obtain ⟨ha1, q, hq, hqT⟩ := ha
    refine ⟨fun x g1 g2 => ?_, q, hq, by simp only [Tree.span]; omega⟩
    simp only [Tree.count] at g2
    simp only [Tree.span]
    by_cases hx : x < n + a.count
    · have := ha1 x g1 hx; omega
    · have := hb1 x (by omega) (by omega)
      have hsa : 0 ≤ a.span V := by
        have hp : ∀ (v : Tree), (∀ ds, ds ∈ v.leaves → 1 ≤ V ds) → 0 ≤ v.span V := by
          intro v
          induction v with
          | num ds => intro h; have := h ds (by simp [Tree.leaves]); simp only [Tree.span]; omega
          | seq a b iha ihb => intro h; have := iha (fun ds hds => h ds (by simp [Tree.leaves, hds])); have := ihb (fun ds hds => h ds (by simp [Tree.leaves, hds])); simp only [Tree.span]; omega
          | par a b iha ihb => intro h; have := iha (fun ds hds => h ds (by simp [Tree.leaves, hds])); simp only [Tree.span]; omega
        exact hp a (fun ds hds => hv ds (by simp [Tree.leaves, hds]))
      omega
  | par a b iha ihb =>
    intro n E C h hC hv hl
    obtain ⟨ha1, p, hp, hpT⟩ := iha n E C h.parA hC (fun ds hds => hv ds (by simp [Tree.leaves, hds])) (fun x hx => hl x (by simp [Tree.last, hx]))
    obtain ⟨hb1, q, hq, hqT⟩ := ihb (n + a.count) E C h.parB hC (fun ds hds => hv ds (by simp [Tree.leaves, hds])) (fun x hx => hl x (by simp [Tree.last, hx]))
    refine ⟨fun x g1 g2 => ?_, ?_⟩
    · simp only [Tree.count] at g2
      simp only [Tree.span]
      by_cases hx : x < n + a.count
      · have := ha1 x g1 hx; omega
      · have := hb1 x (by omega) (by omega); omega
    · simp only [Tree.span, Tree.first, List.mem_append]
      by_cases hc : a.span V ≤ b.span V
      · exact ⟨q, Or.inr hq, by omega⟩
      · exact ⟨p, Or.inl hp, by omega⟩

/-- How long a weave is at least: as its text says. -/
theorem Tree.lay_span (V : List UInt8 → Int) (t : Tree) {R T : Nat → Int} (hd : Deep (t.lay V []) R T) (hv : ∀ ds, ds ∈ t.leaves → 1 ≤ V ds) : maxTo T (t.lay V []).length = t.span V := by
  have hlen : (t.lay V []).length = t.count := by rw [t.lay_length]; simp
  have hE : Emb V (t.lay V []) 0 t [] := {
    nd := fun x h1 h2 => by
      have e := t.lay_nds V [] x (Nat.zero_le _) (by simpa using h2)
      split
      · rename_i hf; exact t.first_free V [] x hf
      · exact e
    wk := fun j hj => by
      rw [Nat.zero_add, wkOf_works, t.lay_works]
      simp [worksOf]
    out := fun k x hk h1 h2 hn => by
      unfold Need needsOf at hn
      rw [List.getD_eq_getElem?_getD, List.getElem?_eq_none (by omega)] at hn
      simp at hn
    lo := fun y hy => by simp at hy
    len := by omega }
  obtain ⟨h1, m, hm, hmT⟩ := Emb.tails hd t 0 [] 0 hE (Int.le_refl _) hv (fun x hx => ⟨fun k hn => by
    by_cases hk : k < t.count
    · rcases hE.inside (Nat.zero_le _) (by omega) hn with g | ⟨_, _, g⟩
      · omega
      · exact absurd hx g
    · unfold Need needsOf at hn
      rw [List.getD_eq_getElem?_getD, List.getElem?_eq_none (by omega)] at hn
      simp at hn, Or.inl rfl⟩)
  have hmr := t.first_range _ _ hm
  have hle := maxTo_le T (t.lay V []).length (t.span V) (by have := (hd.tlow m).1; omega) (fun x hx => by have := h1 x (Nat.zero_le _) (by omega); omega)
  have hge := le_maxTo T (n := (t.lay V []).length) (x := m) (by omega)
  omega
end Go.Proofs.YtcankblanhpmpaaDoor
