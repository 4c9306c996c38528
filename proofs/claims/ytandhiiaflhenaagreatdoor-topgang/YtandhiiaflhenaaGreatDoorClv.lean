/- Plain: each once; where each stands. The contracts of bits.Mul64, bits.Mul, slices.Repeat. The contracts of bits.Mul, slices.Repeat of one number, places. The contracts of checkOrder and Along. The contracts of Along, and of the sameness of cells. cells.All once more: what it hands back lies in memory of its own. -/
import Derived.Test.YtandhiiaflhenaaGreatDoorCly
import Derived.Laws.CopyOwn
import Derived.Laws.Bits64b
import Derived.Deep.RegionLaw

namespace Go.Proofs.YtandhiiaflhenaaGreatDoor
open Go.RowKit Go.Deep

/-- An order that names each once. -/
def EachZ (n : Nat) (zs : List Int) : Prop := zs.length = n ∧ zs.Nodup ∧ ∀ x, x ∈ zs → 0 ≤ x ∧ x < n
def natsOf (zs : List Int) : List Nat := zs.map Int.toNat
theorem natsOf_length (zs : List Int) : (natsOf zs).length = zs.length := by simp [natsOf]
theorem natsOf_getD (zs : List Int) (k : Nat) : (natsOf zs).getD k 0 = (zs.getD k 0).toNat := by
  unfold natsOf
  rw [List.getD_eq_getElem?_getD, List.getElem?_map, List.getD_eq_getElem?_getD]
  cases zs[k]? <;> rfl
theorem natsOf_ints {zs : List Int} (h : ∀ x, x ∈ zs → 0 ≤ x) : intsOf (natsOf zs) = zs := by
  unfold intsOf natsOf
  rw [List.map_map]
  conv => rhs; rw [← List.map_id zs]
  refine List.map_congr_left fun x hx => ?_
  show ((x.toNat : Nat) : Int) = x
  exact Int.toNat_of_nonneg (h x hx)
/-- What names no task, or one again. -/
def badZ (n : Nat) (zs : List Int) (k : Nat) : Prop := zs.getD k 0 < 0 ∨ (n : Int) ≤ zs.getD k 0 ∨ zs.getD k 0 ∈ zs.take k
theorem each_not {n k : Nat} {zs : List Int} (hk : k < zs.length) (hb : badZ n zs k) : ¬ EachZ n zs := by
  rintro ⟨_, hd, hx⟩
  have hm := hx _ (getD_memC 0 hk)
  rcases hb with h | h | h
  · omega
  · omega
  · obtain ⟨i, hi, he⟩ := List.mem_take_iff_getElem.1 h
    have h1 : i < k := by omega
    have h2 := List.pairwise_iff_getElem.1 hd i k (by omega) hk h1
    refine h2 ?_
    rw [he, List.getD_eq_getElem?_getD, List.getElem?_eq_getElem hk]
    rfl
theorem each_of {n : Nat} {zs : List Int} (hl : zs.length = n) (h : ∀ k, k < n → ¬ badZ n zs k) : EachZ n zs := by
  refine ⟨hl, List.pairwise_iff_getElem.2 fun i j hi hj hij e => ?_, fun x hx => ?_⟩
  · refine h j (by omega) (Or.inr (Or.inr ?_))
    rw [List.getD_eq_getElem?_getD, List.getElem?_eq_getElem hj]
    show zs[j] ∈ _
    rw [← e]
    exact List.mem_take_iff_getElem.2 ⟨i, by omega, rfl⟩
  · obtain ⟨j, hj, rfl⟩ := List.getElem_of_mem hx
    have := h j (by omega)
    unfold badZ at this
    rw [List.getD_eq_getElem?_getD, List.getElem?_eq_getElem hj] at this
    have e : (some zs[j]).getD 0 = zs[j] := rfl
    rw [e] at this
    omega
/-- A tells of each task where it stands, -1: nowhere. -/
def PosR (n : Nat) (l : List Int) (A : Nat → Int) : Prop := ∀ i, i < n → (∃ j : Nat, j < l.length ∧ l.getD j 0 = (i : Int) ∧ A i = (j : Int)) ∨ (¬ (i : Int) ∈ l ∧ A i = -1)
theorem PosR.nil (n : Nat) : PosR n [] (fun _ => -1) := fun _ _ => Or.inr ⟨by simp, rfl⟩
theorem PosR.snoc {n : Nat} {l : List Int} {A : Nat → Int} (h : PosR n l A) (x : Nat) : PosR n (l ++ [(x : Int)]) (fun i => if i = x then (l.length : Int) else A i) := by
  intro i hi
  by_cases e : i = x
  · subst e
    exact Or.inl ⟨l.length, by simp, by simp, by simp⟩
  · rcases h i hi with ⟨j, hj, h1, h2⟩ | ⟨h1, h2⟩
    · refine Or.inl ⟨j, by simp; omega, ?_, by simp only [if_neg e]; exact h2⟩
      rw [getD_snoc l _ 0 j hj]; exact h1
    · refine Or.inr ⟨fun hm => ?_, by simp only [if_neg e]; exact h2⟩
      rcases List.mem_append.1 hm with hm | hm
      · exact h1 hm
      · have := List.mem_singleton.1 hm; omega
theorem PosR.neg {n : Nat} {l : List Int} {A : Nat → Int} (h : PosR n l A) {i : Nat} (hi : i < n) : 0 ≤ A i ↔ (i : Int) ∈ l := by
  rcases h i hi with ⟨j, hj, h1, h2⟩ | ⟨h1, h2⟩
  · exact ⟨fun _ => by rw [← h1]; exact getD_memC 0 hj, fun _ => by omega⟩
  · exact ⟨fun h => by omega, fun h => absurd h h1⟩
theorem mem_natsOf {zs : List Int} (h0 : ∀ x, x ∈ zs → 0 ≤ x) {y : Nat} : y ∈ natsOf zs ↔ (y : Int) ∈ zs := by
  unfold natsOf
  constructor
  · intro h
    obtain ⟨x, hx, he⟩ := List.mem_map.1 h
    have := h0 x hx
    have : (y : Int) = x := by omega
    rw [this]; exact hx
  · intro h
    exact List.mem_map.2 ⟨_, h, by simp⟩
theorem natsOf_take (zs : List Int) (m : Nat) : (natsOf zs).take m = natsOf (zs.take m) := by unfold natsOf; rw [List.map_take]
theorem nodup_full : ∀ (n : Nat) (l : List Nat), l.Nodup → (∀ x, x ∈ l → x < n) → l.length = n → ∀ x, x < n → x ∈ l := by
  intro n
  induction n with
  | zero => intro l _ _ _ x hx; omega
  | succ n ih =>
    intro l hd hx hl
    have hn : n ∈ l := by
      apply Classical.byContradiction
      intro hc
      have hlt : ∀ x, x ∈ l → x < n := fun x h => by
        have := hx x h
        have : x ≠ n := fun e => hc (e ▸ h)
        omega
      cases l with
      | nil => simp at hl
      | cons a r =>
        have hd2 := List.nodup_cons.1 hd
        have := ih r hd2.2 (fun x h => hlt x (List.mem_cons_of_mem _ h)) (by simpa using hl) a (hlt a (List.mem_cons_self ..))
        exact hd2.1 this
    intro x hxn
    by_cases e : x = n
    · rw [e]; exact hn
    · have hd2 := List.Nodup.erase n hd
      have hm : ∀ y, y ∈ l.erase n ↔ y ≠ n ∧ y ∈ l := fun y => List.Nodup.mem_erase_iff hd
      have := ih (l.erase n) hd2 (fun y hy => by
        have h1 := (hm y).1 hy
        have h2 := hx y h1.2
        have := h1.1
        omega) (by rw [List.length_erase_of_mem hn]; omega) x (by omega)
      exact ((hm x).1 this).2
theorem EachZ.nats {n : Nat} {zs : List Int} (h : EachZ n zs) : (natsOf zs).length = n ∧ (natsOf zs).Nodup ∧ (∀ x, x ∈ natsOf zs → x < n) ∧ ∀ x, x < n → x ∈ natsOf zs := by
  have h1 : (natsOf zs).length = n := by rw [natsOf_length]; exact h.1
  have h2 : (natsOf zs).Nodup := by
    unfold natsOf
    refine List.pairwise_map.2 (List.Pairwise.imp_of_mem (fun {a b} ha hb hne => ?_) h.2.1)
    have := h.2.2 a ha
    have := h.2.2 b hb
    omega
  have h3 : ∀ x, x ∈ natsOf zs → x < n := fun x hx => by
    have := (mem_natsOf (fun y hy => (h.2.2 y hy).1)).1 hx
    have := h.2.2 _ this
    omega
  exact ⟨h1, h2, h3, nodup_full n _ h2 h3 h1⟩
/-- Nobody stands ahead of one that it needs. -/
theorem behind_iff {ts : List (Int × List Int)} {zs : List Int} {A : Nat → Int} (hE : EachZ ts.length zs) (hA : PosR ts.length zs A) (hr : InRange ts) (hno : ∀ j, j < ts.length → ¬ Reach ts j j) :
    Behind ts (natsOf zs) ↔ ∀ i, i < ts.length → ∀ y, y ∈ needsOf ts i → ¬ A i < A y.toNat := by
  have hpos : ∀ i, i < ts.length → ∃ j : Nat, j < zs.length ∧ zs.getD j 0 = (i : Int) ∧ A i = (j : Int) := fun i hi => by
    rcases hA i hi with h | ⟨h, _⟩
    · exact h
    · exact absurd ((mem_natsOf (fun y hy => (hE.2.2 y hy).1)).1 (hE.nats.2.2.2 i hi)) h
  have hinj : ∀ j k, j < zs.length → k < zs.length → zs.getD j 0 = zs.getD k 0 → j = k := fun j k hj hk he => by
    rw [List.getD_eq_getElem?_getD, List.getElem?_eq_getElem hj, List.getD_eq_getElem?_getD, List.getElem?_eq_getElem hk] at he
    have hp := List.pairwise_iff_getElem.1 hE.2.1
    rcases Nat.lt_trichotomy j k with h | h | h
    · exact absurd he (hp j k hj hk h)
    · exact h
    · exact absurd he.symm (hp k j hk hj h)
  constructor
  · intro hB i hi y hy hlt
    obtain ⟨m, hm, h1, h2⟩ := hpos i hi
    have hyr := hr i hi y hy
    have hn : Need ts ((natsOf zs).getD m 0) y.toNat := by
      rw [natsOf_getD, h1, Int.toNat_natCast]
      unfold Need
      rw [Int.toNat_of_nonneg hyr.1]
      exact hy
    have hmem := hB m (by rw [natsOf_length]; exact hm) y.toNat hn
    rw [natsOf_take] at hmem
    have := (mem_natsOf (fun x hx => (hE.2.2 x (List.mem_of_mem_take hx)).1)).1 hmem
    obtain ⟨j, hj, he⟩ := List.mem_take_iff_getElem.1 this
    obtain ⟨k, hk, h3, h4⟩ := hpos y.toNat (by omega)
    have hjk : j = k := hinj j k (by omega) hk (by rw [h3, List.getD_eq_getElem?_getD, List.getElem?_eq_getElem (by omega)]; exact he)
    omega
  · intro h m hm y hy
    rw [natsOf_length] at hm
    rw [natsOf_getD] at hy
    have hx := hE.2.2 _ (getD_memC 0 hm)
    obtain ⟨i, hi⟩ := Int.eq_ofNat_of_zero_le hx.1
    have hil : i < ts.length := by omega
    rw [hi, Int.toNat_natCast] at hy
    have hyr := hr i hil _ hy
    have hle := h i hil _ hy
    rw [Int.toNat_natCast] at hle
    obtain ⟨k, hk, h3, h4⟩ := hpos y (by omega)
    obtain ⟨m', hm', h5, h6⟩ := hpos i hil
    have hmm : m' = m := hinj m' m hm' hm (by rw [h5, ← hi])
    subst hmm
    have hne : k ≠ m' := fun e => by
      subst e
      have : (y : Int) = (i : Int) := by rw [← h3, ← h5]
      have : y = i := by omega
      subst this
      exact hno y hil (Reach.one hy)
    rw [natsOf_take]
    refine (mem_natsOf (fun x hx => (hE.2.2 x (List.mem_of_mem_take hx)).1)).2 (List.mem_take_iff_getElem.2 ⟨k, by omega, ?_⟩)
    rw [List.getD_eq_getElem?_getD, List.getElem?_eq_getElem hk] at h3
    exact h3

theorem mask_small (a : Nat) (ha : a < 4294967296) : bits .and .u64 (a : Int) 4294967295 = (a : Int) := by
  have h := bits_and_u64_nat a 4294967295 (by omega) (by omega)
  have e : a &&& 4294967295 = a := by
    have := Nat.and_two_pow_sub_one_eq_mod a 32
    rw [show 2 ^ 32 - 1 = 4294967295 from rfl] at this
    rw [this]
    omega
  rw [e] at h
  exact h
set_option maxRecDepth 100000 in
set_option maxHeartbeats 1000000 in
theorem mul64_any (n : Nat) (w : World) (hn : n ≤ 30) :
    Calls Tryz.prog 128 #[.int .u64 1, .int .u64 (n : Int)] w fun e w' => e = .returned (.tuple #[.int .u64 0, .int .u64 (n : Int)]) ∧ w' = w := by
  have hm := mask_small n (by omega)
  have hm1 : bits .and .u64 1 4294967295 = 1 := by decide
  have hm0 : bits .and .u64 0 4294967295 = 0 := by decide
  have hd : (n : Int) / 4294967296 = 0 := by omega
  go_enter Tryz.func128, Tryz.ntmps128
  go_wp2
  go_ret2
  exact ⟨rfl, rfl⟩
end Go.Proofs.YtandhiiaflhenaaGreatDoor

namespace Go.Proofs.YtandhiiaflhenaaGreatDoor
open Go.RowKit Go.Deep

set_option maxRecDepth 100000 in
theorem mul_any (n : Nat) (w : World) (hn : n ≤ 30) :
    Calls Tryz.prog 117 #[.int .u64 1, .int .u64 (n : Int)] w fun e w' => e = .returned (.tuple #[.int .u64 0, .int .u64 (n : Int)]) ∧ w' = w := by
  have hm := mul64_any n w hn
  go_enter Tryz.func117, Tryz.ntmps117
  go_wp2_with (go_at_call 128; refine hm.mono ?_; rintro e w2 ⟨rfl, rfl⟩)
  go_ret2
  exact ⟨rfl, rfl⟩
/-- A row half filled. -/
def halfL (n m : Nat) : List Value := List.replicate m (.int .i64 (-1)) ++ List.replicate (n - m) (.int .i64 0)
theorem halfL_length {n m : Nat} (h : m ≤ n) : (halfL n m).length = n := by simp [halfL]; omega
theorem halfL_splice {n m c : Nat} (h : m + c ≤ n) : splice (halfL n m) m (List.replicate c (.int .i64 (-1))) = halfL n (m + c) := by
  unfold splice halfL
  rw [List.take_left' (by simp), List.length_replicate, List.drop_append, List.drop_eq_nil_of_le (by simp), List.nil_append, List.length_replicate, List.drop_replicate, ← List.append_assoc, List.replicate_append_replicate]
  congr 2
  omega
theorem halfL_zero (n : Nat) : halfL n 0 = List.replicate n (.int .i64 0) := by simp [halfL]
theorem halfL_full (n : Nat) : halfL n n = List.replicate n (.int .i64 (-1)) := by simp [halfL]
theorem madeCells_zero (n : Nat) : madeCells #[.int .i64 0] n = (halfL n 0).toArray := by
  rw [halfL_zero]
  refine Array.ext_getElem? fun i => ?_
  by_cases hi : i < n
  · simp [madeCells, hi, Nat.mod_one]
  · simp [madeCells, hi]
theorem Tryz.size3 : (Tryz.prog.info? 3).map (·.size) = some 1 := by kernel_rfl

set_option maxRecDepth 100000 in
set_option maxHeartbeats 2000000 in
theorem repeat_any (n b : Nat) (w : World) (hn : n ≤ 30) (hc : w.cell? ⟨b, 0, none⟩ = some (.int .i64 (-1))) (hb : b < w.heap.size) :
    Calls Tryz.prog 93 #[.slice (some ⟨b, 0, none⟩) 1 1, .int .i64 (n : Int)] w fun e w' => e = .returned (.slice (some ⟨w.heap.size, 0, none⟩) n n) ∧ w'.rowIs w.heap.size 3 n (fun _ => .int .i64 (-1)) ∧ Below w.heap.size w w' := by
  have hmu := mul_any n w hn
  have hmk := fun wx => run_make_row' (P := Tryz.prog) 37 3 (.int .i64 0) 8 Tryz.underlying37 Tryz.info3 rfl .i64 .i64 n (by omega) (by omega) wx
  have hblk : (w.alloc (.cells (madeCells #[.int .i64 0] n) 3)).heap[w.heap.size]? = some (.cells (halfL n 0).toArray 3 (0, 0)) := by
    rw [← madeCells_zero]
    exact blk_alloc_new w _
  have hbA : Below w.heap.size w (w.alloc (.cells (madeCells #[.int .i64 0] n) 3)) := (Below.refl _ _).alloc (Nat.le_refl _) _
  have hcA := (hbA.cell (p := ⟨b, 0, none⟩) hb).trans hc
  obtain ⟨c0, hc0⟩ : ∃ c0, c0 = Nat.min 1 n := ⟨_, rfl⟩
  have hc01 : c0 ≤ 1 ∧ c0 ≤ n := by rw [hc0]; exact ⟨Nat.min_le_left _ _, Nat.min_le_right _ _⟩
  have HSR : Hid (∀ j v, (List.replicate c0 (Value.int .i64 (-1)))[j]? = some v → (w.alloc (.cells (madeCells #[.int .i64 0] n) 3)).cell? ((⟨b, 0, none⟩ : Addr).add j) = some v) := fun j v hj => by
    have hjl : j < c0 := by have := (List.getElem?_eq_some_iff.1 hj).1; simpa using this
    obtain rfl : j = 0 := by omega
    rw [List.getElem?_replicate, if_pos hjl] at hj
    rw [add_lit, Nat.zero_add, hcA]
    exact hj
  have HB : Hid (Below w.heap.size w (w.alloc (.cells (madeCells #[.int .i64 0] n) 3))) := hbA
  have HC0 : Hid (c0 = Nat.min 1 n) := hc0
  have HK : Hid ((w.alloc (.cells (madeCells #[.int .i64 0] n) 3)).heap[w.heap.size]? = some (.cells (halfL n 0).toArray 3 (0, 0))) := hblk
  clear hc hb hcA hblk hbA hc0
  go_enter Tryz.func93, Tryz.ntmps93
  go_wp2_with (first | (go_at_call 117; refine hmu.mono ?_; clear hmu; rintro e w ⟨rfl, rfl⟩) | (refine wpList_copy_splice rfl (.tmp 31) (.tmp 32) 37 37 rfl 3 Tryz.underlying37 Tryz.size3 (some ⟨w.heap.size, 0, none⟩) (some ⟨b, 0, none⟩) n n 1 1 rfl rfl w.heap.size 0 (halfL n 0) 3 HK.out (List.replicate c0 (.int .i64 (-1))) (by rw [List.length_replicate]; exact HC0.out) (fun _ => ⟨rfl, _, rfl, HSR.out⟩) (by rw [List.length_replicate, halfL_length (Nat.zero_le _)]; omega) (fun v hv => by rw [List.eq_of_mem_replicate hv]; rfl) w.heap.size w HB.out (Nat.le_refl _) ?_; intro w2 HG2 hB2; have HG3 : Hid (w2.heap[w.heap.size]? = some (.cells (halfL n c0).toArray 3 (0, 0))) := (by have h := HG2.out; rw [halfL_splice (n := n) (m := 0) (c := c0) (by omega), Nat.zero_add] at h; exact h); rw [List.length_replicate]; clear HG2))
  have hc1 : n = 0 ∨ 1 ≤ c0 := by
    have := HC0.out
    rcases Nat.eq_zero_or_pos n with h | h
    · exact Or.inl h
    · right; rw [this]; exact Nat.le_min.2 ⟨Nat.le_refl _, h⟩
  clear hmk HSR HK HC0 HB
  go_loopw [8] (fun s8 wr => ∃ m : Nat, m ≤ n ∧ (n = 0 ∨ 1 ≤ m) ∧ s8 = .int .i64 m ∧ Hid (wr.heap[w.heap.size]? = some (.cells (halfL n m).toArray 3 (0, 0))) ∧ Below w.heap.size w wr) (fun s8 _ => n - (intOf s8).toNat)
  case atStart => exact ⟨c0, hc01.2, hc1, rfl, HG3, hB2⟩
  case round =>
    clear HG3 hB2 hc1 hc01
    obtain ⟨m, hm, hm1, rfl, hK, hb⟩ := hrel
    by_cases hmn : m < n
    · obtain ⟨c, hc⟩ : ∃ c, c = Nat.min m (n - m) := ⟨_, rfl⟩
      have hcm : c ≤ m ∧ c ≤ n - m ∧ 1 ≤ c := by
        rw [hc]
        exact ⟨Nat.min_le_left _ _, Nat.min_le_right _ _, Nat.le_min.2 ⟨by omega, by omega⟩⟩
      have HC : Hid (c = Nat.min m (n - m)) := hc
      have HKD : Hid (wr.drew.heap[w.heap.size]? = some (.cells (halfL n m).toArray 3 (0, 0))) := hK.out
      have HBD : Hid (Below w.heap.size w wr.drew) := ⟨hb.os, hb.tape, hb.output, hb.size, hb.block⟩
      have HSR : Hid (∀ j v, (List.replicate c (Value.int .i64 (-1)))[j]? = some v → wr.drew.cell? ((⟨w.heap.size, 0, none⟩ : Addr).add j) = some v) := fun j v hj => by
        have hjl : j < c := by have := (List.getElem?_eq_some_iff.1 hj).1; simpa using this
        rw [List.getElem?_replicate, if_pos hjl] at hj
        rw [add_lit, Nat.zero_add]
        show wr.cell? _ = _
        unfold World.cell?
        dsimp only
        rw [hK.out]
        simp [halfL, List.getElem?_append_left, show j < m by omega]
        exact Option.some.inj hj
      have hne : ¬ n = m := by omega
      obtain ⟨w4, hw4⟩ : ∃ w4, w4 = wr.drew.setRow w.heap.size ((halfL n m).toArray.toList.take m ++ List.replicate c (Value.int .i64 (-1)) ++ (halfL n m).toArray.toList.drop (m + (List.replicate c (Value.int .i64 (-1))).length)).toArray := ⟨_, rfl⟩
      have hcp := run_copy_row (P := Tryz.prog) wr.drew 37 37 3 3 w.heap.size m (n - m) (n - m) ⟨w.heap.size, 0, none⟩ m n (halfL n m).toArray 3 (List.replicate c (.int .i64 (-1))) Tryz.underlying37 Tryz.size3 HKD.out (by rw [List.length_replicate]; exact HC.out) HSR.out (by rw [List.length_replicate]; simp [halfL_length (show m ≤ n by omega)]; omega) (fun v hv => by rw [List.eq_of_mem_replicate hv]; rfl)
      rw [← hw4, List.length_replicate] at hcp
      have HK4 : Hid (w4.heap[w.heap.size]? = some (.cells (halfL n (m + c)).toArray 3 (0, 0))) := by
        show _ = _
        rw [hw4, setRow_heap wr.drew w.heap.size _ _ 3 _ HKD.out]
        have := halfL_splice (n := n) (m := m) (c := c) (by omega)
        unfold splice at this
        rw [← List.append_assoc] at this
        rw [← this]
      have HB4 : Hid (Below w.heap.size w w4) := by rw [hw4]; exact below_setRow HBD.out (Nat.le_refl _) _
      clear hc hw4 HSR HKD HBD HC hK hb
      go_wp2
      go_region
      all_goals go_wp2
      all_goals go_roundw
      case rel => exact ⟨m + c, by omega, Or.inr (by omega), by go_num, HK4, HB4⟩
      case measure => simp [intOf]; omega
    · have hme : m = n := by omega
      subst hme
      have HR : Hid (wr.rowIs w.heap.size 3 m (fun _ => .int .i64 (-1))) := by
        refine ⟨_, hK.out, by simp [halfL], fun i hi => ?_⟩
        simp [halfL, hi]
      clear hK
      go_wp2
      go_ret
      exact ⟨rfl, HR.out, hb⟩

def posRow (A : Nat → Int) : Nat → Value := fun k => .int .i64 (A k)
/-- What places hands back. -/
def PlacesOut (n : Nat) (zs : List Int) (e : Ending) (w' : World) : Prop :=
  (¬ EachZ n zs ∧ e = .returned (.tuple #[.slice none 0 0, .bool false])) ∨ (EachZ n zs ∧ ∃ A g, e = .returned (.tuple #[.slice (some ⟨g, 0, none⟩) n n, .bool true]) ∧ w'.rowIs g 3 n (posRow A) ∧ PosR n zs A)

set_option maxRecDepth 100000 in
set_option maxHeartbeats 2000000 in
theorem places_any (v : Value) (zs : List Int) (n : Nat) (w : World) (hz : IntsAt w v zs) (hn : n ≤ 30) :
    Calls Tryz.prog 55 #[v, .int .i64 (n : Int)] w fun e w' => PlacesOut n zs e w' ∧ Below w.heap.size w w' := by
  obtain ⟨hl, a, c, rfl, hz⟩ := hz
  by_cases hln : zs.length = n
  · subst hln
    have hb1 : Below w.heap.size w (w.alloc (.cells #[.int .i64 (-1)] 3)) := (Below.refl _ _).alloc (Nat.le_refl _) _
    have hc1 : (w.alloc (.cells #[.int .i64 (-1)] 3)).cell? ⟨w.heap.size, 0, none⟩ = some (.int .i64 (-1)) := by
      unfold World.cell?
      dsimp only
      rw [blk_alloc_new]
      rfl
    have hrp := repeat_any zs.length w.heap.size _ hn hc1 (by simp)
    have hsz : (w.alloc (.cells #[.int .i64 (-1)] 3)).heap.size = w.heap.size + 1 := by simp
    rw [hsz] at hrp
    have HB1 : Hid (Below w.heap.size w (w.alloc (.cells #[.int .i64 (-1)] 3))) := hb1
    clear hb1 hc1 hsz
    go_enter Tryz.func55, Tryz.ntmps55
    go_wp2_with (go_at_call 93; refine hrp.mono ?_; clear hrp; rintro e w1 ⟨rfl, hrow, hb2⟩; have HR1 : Hid (w1.rowIs (w.heap.size + 1) 3 zs.length (posRow (fun _ => -1))) := hrow; have HB2 : Hid (Below w.heap.size w w1) := HB1.out.trans (hb2.mono (by omega)); clear hrow hb2)
    go_loopw [18] (fun s18 wr => ∃ (k : Nat) (A : Nat → Int), k ≤ zs.length ∧ s18 = .int .i64 k ∧ Hid (wr.rowIs (w.heap.size + 1) 3 zs.length (posRow A)) ∧ Hid (PosR zs.length (zs.take k) A) ∧ Hid (∀ j, j < k → ¬ badZ zs.length zs j) ∧ Below w.heap.size w wr) (fun s18 _ => zs.length - (intOf s18).toNat)
    case atStart => exact ⟨0, _, Nat.zero_le _, rfl, HR1, PosR.nil _, fun j hj => by omega, HB2.out⟩
    case round =>
      clear HR1 HB2 HB1
      obtain ⟨k, A, hk, rfl, hR, hP, hno, hb⟩ := hrel
      by_cases hkl : k < zs.length
      · rcases hz with rfl | ⟨b, o, rfl, hbl, hc⟩
        · simp at hkl
        have hck := (hb.cell (p := ⟨b, o + k, none⟩) hbl).trans (hc k hkl)
        have HBD : Hid (badZ zs.length zs k ↔ zs.getD k 0 < 0 ∨ (zs.length : Int) ≤ zs.getD k 0 ∨ zs.getD k 0 ∈ zs.take k) := Iff.rfl
        have HNE : Hid (badZ zs.length zs k → ¬ EachZ zs.length zs) := fun h => each_not hkl h
        have HTK : Hid (zs.take (k + 1) = zs.take k ++ [zs.getD k 0]) := by
          show _ = _
          rw [List.take_succ_eq_append_getElem hkl, List.getD_eq_getElem?_getD, List.getElem?_eq_getElem hkl]
          rfl
        clear hc
        generalize zs.getD k 0 = x at *
        by_cases hx0 : x < 0
        · have HE : Hid (PlacesOut zs.length zs (.returned (.tuple #[.slice none 0 0, .bool false])) wr) := Or.inl ⟨HNE.out (HBD.out.2 (Or.inl hx0)), rfl⟩
          clear hR hP hno
          go_wp2
          go_ret2
          exact ⟨HE.out, hb⟩
        · obtain ⟨y, rfl⟩ := Int.eq_ofNat_of_zero_le (show 0 ≤ x by omega)
          by_cases hxn : (y : Int) < (zs.length : Int)
          · have hyl : y < zs.length := by omega
            have hcy := hR.out.cell hyl
            have hfy := hR.out.frozen y
            unfold posRow at hcy
            by_cases hA : 0 ≤ A y
            · have HE : Hid (PlacesOut zs.length zs (.returned (.tuple #[.slice none 0 0, .bool false])) wr) := Or.inl ⟨HNE.out (HBD.out.2 (Or.inr (Or.inr ((hP.out.neg hyl).1 hA)))), rfl⟩
              generalize A y = z at *
              clear hR hP hno
              go_wp2
              go_ret2
              exact ⟨HE.out, hb⟩
            · have HR2 : Hid ((wr.setCell ⟨w.heap.size + 1, y, none⟩ (.int .i64 (k : Int))).rowIs (w.heap.size + 1) 3 zs.length (posRow (fun i => if i = y then ((zs.take k).length : Int) else A i))) := by
                refine (hR.out.set y (.int .i64 (k : Int))).congr (fun j _ => ?_)
                unfold posRow
                dsimp only
                by_cases e : j = y
                · rw [if_pos e, if_pos e, List.length_take, Nat.min_eq_left (by omega)]
                · rw [if_neg e, if_neg e]
              have HP2 : Hid (PosR zs.length (zs.take (k + 1)) (fun i => if i = y then ((zs.take k).length : Int) else A i)) := by
                show PosR _ _ _
                rw [HTK.out]
                exact hP.out.snoc y
              have HN2 : Hid (∀ j, j < k + 1 → ¬ badZ zs.length zs j) := fun j hj => by
                by_cases e : j = k
                · subst e
                  intro h
                  rcases HBD.out.1 h with h | h | h
                  · omega
                  · omega
                  · exact hA ((hP.out.neg hyl).2 h)
                · exact hno.out j (by omega)
              have hB2 : Below w.heap.size w (wr.setCell ⟨w.heap.size + 1, y, none⟩ (.int .i64 (k : Int))) := hb.setCell (p := ⟨w.heap.size + 1, y, none⟩) (by show _ ≤ w.heap.size + 1; omega) _
              generalize A y = z at *
              clear hR hP hno HTK HNE HBD
              go_wp2
              go_roundw
              case rel => exact ⟨k + 1, _, by omega, by go_num, HR2, HP2, HN2, hB2⟩
              case measure => simp [intOf]; omega
          · have HE : Hid (PlacesOut zs.length zs (.returned (.tuple #[.slice none 0 0, .bool false])) wr) := Or.inl ⟨HNE.out (HBD.out.2 (Or.inr (Or.inl (by omega)))), rfl⟩
            clear hR hP hno
            go_wp2
            go_ret2
            exact ⟨HE.out, hb⟩
      · have hke : k = zs.length := by omega
        have HE : Hid (PlacesOut zs.length zs (.returned (.tuple #[.slice (some ⟨w.heap.size + 1, 0, none⟩) zs.length zs.length, .bool true])) wr) := Or.inr ⟨each_of rfl (fun j hj => hno.out j (by omega)), A, _, rfl, hR.out, by
          have := hP.out
          rw [List.take_of_length_le (by omega)] at this
          exact this⟩
        clear hR hP hno hz hke
        go_wp2
        go_ret2
        exact ⟨HE.out, hb⟩
  · have hi : ((zs.length : Int) == (n : Int)) = false := by simp; omega
    have HE : Hid (∀ w', PlacesOut n zs (.returned (.tuple #[.slice none 0 0, .bool false])) w') := fun _ => Or.inl ⟨fun h => hln h.1, rfl⟩
    clear hz hln
    go_enter Tryz.func55, Tryz.ntmps55
    go_wp2
    go_ret2
    exact ⟨HE.out _, Below.refl _ _⟩
end Go.Proofs.YtandhiiaflhenaaGreatDoor

namespace Go.Proofs.YtandhiiaflhenaaGreatDoor
open Go.RowKit Go.Deep

open Classical in
/-- What is wrong with an order of a plan that is right. -/
noncomputable def ordErr (ts : List (Int × List Int)) (zs : List Int) : Int := if EachZ ts.length zs then (if Behind ts (natsOf zs) then 0 else 6) else 3
theorem ordErr_shape {ts : List (Int × List Int)} {zs : List Int} (h : ¬ EachZ ts.length zs) : ordErr ts zs = 3 := if_neg h
theorem ordErr_state {ts : List (Int × List Int)} {zs : List Int} (h : EachZ ts.length zs) (h2 : ¬ Behind ts (natsOf zs)) : ordErr ts zs = 6 := by unfold ordErr; rw [if_pos h, if_neg h2]
theorem ordErr_ok {ts : List (Int × List Int)} {zs : List Int} (h : EachZ ts.length zs) (h2 : Behind ts (natsOf zs)) : ordErr ts zs = 0 := by unfold ordErr; rw [if_pos h, if_pos h2]
theorem ordErr_zero {ts : List (Int × List Int)} {zs : List Int} (h : ordErr ts zs = 0) : EachZ ts.length zs ∧ Behind ts (natsOf zs) := by
  unfold ordErr at h
  split at h
  · rename_i h1
    split at h
    · rename_i h2; exact ⟨h1, h2⟩
    · omega
  · omega

set_option maxHeartbeats 800000 in
theorem indexFunc_state (v : Value) (zs : List Int) (g : Nat) (lb : Array Value) (J : Nat → World → Prop) (Qt : World → Prop) (w : World) (hz : IntsAt w v zs) (eg : ∀ args w, (callFunc g args).run Tryz.prog w = .ok (.enter g args) w) (h0 : J 0 w)
    (hJ : ∀ k w', J k w' → IntsAt w' v zs)
    (hs : ∀ k w', k < zs.length → J k w' → Calls Tryz.prog g (#[.int .i64 (zs.getD k 0)] ++ lb) w' fun e w'' => (e = .returned (.bool true) ∧ Qt w'') ∨ (e = .returned (.bool false) ∧ J (k + 1) w'')) :
    Calls Tryz.prog 94 #[v, .func (.func g) #[] lb] w fun e w' => (∃ r : Nat, e = .returned (.int .i64 r) ∧ Qt w') ∨ (e = .returned (.int .i64 (-1)) ∧ J zs.length w') := by
  have HJ : Hid (∀ k w', J k w' → IntsAt w' v zs) := hJ
  have HS : Hid (∀ k w', k < zs.length → J k w' → Calls Tryz.prog g (#[.int .i64 (zs.getD k 0)] ++ lb) w' fun e w'' => (e = .returned (.bool true) ∧ Qt w'') ∨ (e = .returned (.bool false) ∧ J (k + 1) w'')) := hs
  have H0 : Hid (J 0 w) := h0
  clear hJ hs h0
  obtain ⟨hl, a, c, rfl, hz⟩ := hz
  clear hz
  go_enter Tryz.func94, Tryz.ntmps94
  go_wp2
  go_loopw [8] (fun i wr => ∃ k : Nat, k ≤ zs.length ∧ i = .int .i64 k ∧ Hid (J k wr)) (fun i _ => zs.length - (intOf i).toNat)
  case atStart => exact ⟨0, Nat.zero_le _, rfl, H0⟩
  case round =>
    obtain ⟨k, hk, rfl, hj⟩ := hrel
    by_cases hlt : k < zs.length
    · obtain ⟨_, a', c', he, hz⟩ := HJ.out k wr hj.out
      simp only [Value.slice.injEq] at he
      obtain ⟨rfl, _, rfl⟩ := he
      have hcall := HS.out k wr hlt hj.out
      rcases hz with rfl | ⟨b, o, rfl, hbl, hc⟩
      · simp at hlt
      have hck := hc k hlt
      clear hc
      generalize zs.getD k 0 = y at *
      go_wp2_with (fail)
      refine hcall.mono ?_
      rintro e w' (⟨rfl, hq⟩ | ⟨rfl, hj'⟩)
      · go_wp2
        go_ret
        exact Or.inl ⟨k, rfl, hq⟩
      · have HJ' : Hid (J (k + 1) w') := hj'
        clear hj'
        go_wp2
        go_roundw
        case rel => exact ⟨k + 1, by omega, by go_num, HJ'⟩
        case measure => simp [intOf]; omega
    · have hke : k = zs.length := by omega
      subst hke
      go_wp2
      go_ret
      exact Or.inr ⟨rfl, hj.out⟩

theorem containsFunc_state (v : Value) (zs : List Int) (g : Nat) (lb : Array Value) (J : Nat → World → Prop) (Qt : World → Prop) (w : World) (hz : IntsAt w v zs) (eg : ∀ args w, (callFunc g args).run Tryz.prog w = .ok (.enter g args) w) (h0 : J 0 w)
    (hJ : ∀ k w', J k w' → IntsAt w' v zs)
    (hs : ∀ k w', k < zs.length → J k w' → Calls Tryz.prog g (#[.int .i64 (zs.getD k 0)] ++ lb) w' fun e w'' => (e = .returned (.bool true) ∧ Qt w'') ∨ (e = .returned (.bool false) ∧ J (k + 1) w'')) :
    Calls Tryz.prog 56 #[v, .func (.func g) #[] lb] w fun e w' => (e = .returned (.bool true) ∧ Qt w') ∨ (e = .returned (.bool false) ∧ J zs.length w') := by
  have hcall := indexFunc_state v zs g lb J Qt w hz eg h0 hJ hs
  clear hs hJ h0 hz
  go_enter Tryz.func56, Tryz.ntmps56
  go_wp2_with fail
  refine hcall.mono ?_
  rintro e w' (⟨r, rfl, hq⟩ | ⟨rfl, hj⟩)
  · have hr : (0 : Int) ≤ (r : Int) := by omega
    go_wp2
    go_ret
    exact Or.inl ⟨ret_bool (by simp), hq⟩
  · go_wp2
    go_ret
    exact Or.inr ⟨rfl, hj⟩
/-- ContainsFunc with a function that only reads, and may draw. -/
theorem containsFunc_reads (v : Value) (zs : List Int) (g : Nat) (lb : Array Value) (p : Int → Bool) (w : World) (hz : IntsAt w v zs) (eg : ∀ args w, (callFunc g args).run Tryz.prog w = .ok (.enter g args) w)
    (hp : ∀ x, x ∈ zs → ∀ w', Below w.heap.size w w' → Calls Tryz.prog g (#[.int .i64 x] ++ lb) w' fun e w2 => e = .returned (.bool (p x)) ∧ Below w'.heap.size w' w2) :
    Calls Tryz.prog 56 #[v, .func (.func g) #[] lb] w fun e w' => e = .returned (.bool (zs.any p)) ∧ Below w.heap.size w w' := by
  refine (containsFunc_state v zs g lb (fun j w' => (∀ x, x ∈ zs.take j → p x = false) ∧ Below w.heap.size w w') (fun w' => zs.any p = true ∧ Below w.heap.size w w') w hz eg ⟨fun x hx => by simp at hx, Below.refl _ _⟩ (fun k w' h => hz.later h.2) (fun k w' hk h => ?_)).mono ?_
  · have hm : zs.getD k 0 ∈ zs := by rw [List.getD_eq_getElem?_getD, List.getElem?_eq_getElem hk]; exact List.getElem_mem hk
    refine (hp _ hm w' h.2).mono ?_
    rintro e w2 ⟨rfl, hb⟩
    have hb2 := h.2.trans (hb.mono h.2.size)
    cases hq : p (zs.getD k 0)
    · exact Or.inr ⟨rfl, take_succ_all p zs k hk h.1 hq, hb2⟩
    · exact Or.inl ⟨rfl, List.any_eq_true.2 ⟨_, hm, hq⟩, hb2⟩
  · rintro e w' (⟨rfl, h1, h2⟩ | ⟨rfl, h1, h2⟩)
    · exact ⟨by rw [h1], h2⟩
    · refine ⟨ret_bool (Eq.symm ?_), h2⟩
      rw [List.any_eq_false]
      intro x hx
      have := h1 x (by rw [List.take_of_length_le (Nat.le_refl _)]; exact hx)
      simp [this]

theorem entersO : ∀ args w, (callFunc 57 args).run Tryz.prog w = .ok (.enter 57 args) w := enters_of Tryz.func57 (by kernel_rfl) rfl
/-- Nobody that it needs stands behind it. -/
def Fine (ts : List (Int × List Int)) (A : Nat → Int) (i : Nat) : Prop := ∀ y, y ∈ needsOf ts i → ¬ A i < A y.toNat
def aheadB (A : Nat → Int) (i : Nat) (y : Int) : Bool := decide (A i < A y.toNat)
set_option maxRecDepth 100000 in
theorem ahead_any (A : Nat → Int) (n g : Nat) (a1 a2 : Addr) (i : Nat) (y : Int) (w : World) (h1 : w.cell? a1 = some (.slice (some ⟨g, 0, none⟩) n n)) (h2 : w.cell? a2 = some (.int .i64 (i : Int))) (hrow : w.rowIs g 3 n (posRow A)) (hi : i < n) (h0 : 0 ≤ y) (hy : y < n) (_hn : n ≤ 30) :
    Calls Tryz.prog 57 (#[.int .i64 y] ++ #[.pointer (some a1), .pointer (some a2)]) w fun e w' => e = .returned (.bool (aheadB A i y)) ∧ Below w.heap.size w w' := by
  obtain ⟨k, rfl⟩ := Int.eq_ofNat_of_zero_le h0
  show Calls Tryz.prog 57 #[.int .i64 k, .pointer (some a1), .pointer (some a2)] w _
  have hk : k < n := by omega
  have hc1 := hrow.cell hk
  have hc2 := hrow.cell hi
  unfold posRow at hc1 hc2
  unfold aheadB
  rw [Int.toNat_natCast]
  clear hrow
  have HB : Hid (∀ q, Below w.heap.size w (w.drewN q)) := fun q => drawn_below _ _ q
  generalize A k = x at *
  generalize A i = z at *
  go_enter Tryz.func57, Tryz.ntmps57
  go_wp2
  go_quiet (fail)
  go_wp2
  go_ret
  exact ⟨rfl, HB.out _⟩

set_option maxRecDepth 100000 in
set_option maxHeartbeats 4000000 in
theorem checkOrder_any (pv rv : Value) (ts : List (Int × List Int)) (zs : List Int) (w : World) (hp : PlanAt w pv ts) (hz : IntsAt w rv zs) (h30 : ts.length ≤ 30) (hr : InRange ts) (hno : ∀ j, j < ts.length → ¬ Reach ts j j) :
    Calls Tryz.prog 31 #[pv, rv] w fun e w' => e = .returned (errV (ordErr ts zs)) ∧ Below w.heap.size w w' := by
  have hpl := places_any rv zs ts.length w hz h30
  have HP : Hid (PlanAt w pv ts) := hp
  have HR : Hid (InRange ts) := hr
  have HNO : Hid (∀ j, j < ts.length → ¬ Reach ts j j) := hno
  obtain ⟨_, pa, pc, rfl, _⟩ := hp
  obtain ⟨_, ra, rc, rfl, _⟩ := hz
  clear hr hno
  go_enter Tryz.func31, Tryz.ntmps31
  go_wp2_with fail
  refine hpl.mono ?_
  clear hpl
  rintro e w1 ⟨hout, hb1⟩
  rcases hout with ⟨hne, rfl⟩ | ⟨hE, A, g, rfl, hrow, hA⟩
  · have HE : Hid (ordErr ts zs = 3) := ordErr_shape hne
    have HB : Hid (Below w.heap.size w (w1.alloc (.cells #[.slice none 0 0] 37))) := hb1.alloc hb1.size _
    clear hne
    go_wp2
    go_ret
    exact ⟨by rw [HE.out]; rfl, HB.out⟩
  · obtain ⟨w2, hw2⟩ : ∃ w2, w2 = w1.alloc (.cells #[.slice (some ⟨g, 0, none⟩) ts.length ts.length] 37) := ⟨_, rfl⟩
    have HB2 : Hid (Below w.heap.size w w2) := by rw [hw2]; exact hb1.alloc hb1.size _
    have HR2 : Hid (w2.rowIs g 3 ts.length (posRow A)) := by rw [hw2]; exact hrow.alloc _
    have HX2 : Hid (w2.heap[w1.heap.size]? = some (.cells #[.slice (some ⟨g, 0, none⟩) ts.length ts.length] 37 (0, 0))) := by rw [hw2]; exact blk_alloc_new w1 _
    have hX : w1.heap.size < w2.heap.size := by rw [hw2]; simp
    have hgl := HR2.out.lt
    have HAH : Hid (Behind ts (natsOf zs) ↔ ∀ i, i < ts.length → Fine ts A i) := behind_iff hE hA HR.out HNO.out
    have HE : Hid (EachZ ts.length zs) := hE
    go_wp2
    rw [← hw2]
    clear hw2 hb1 hrow hA hE
    generalize w1.heap.size = X at *
    go_loopw [21] (fun s21 wr => ∃ k : Nat, k ≤ ts.length ∧ s21 = .int .i64 k ∧ Hid (∀ i, i < k → Fine ts A i) ∧ Below w2.heap.size w2 wr) (fun s21 _ => ts.length - (intOf s21).toNat)
    case atStart => exact ⟨0, Nat.zero_le _, rfl, fun i hi => by omega, Below.refl _ _⟩
    case round =>
      obtain ⟨k, hk, rfl, hall, hb⟩ := hrel
      by_cases hkl : k < ts.length
      · have hpw := (HP.out.later HB2.out).later hb
        obtain ⟨_, a', c', hva, hpc⟩ := hpw
        cases hva
        rcases hpc with h | ⟨b, o, rfl, hbl, hc⟩
        · subst h; simp at hkl
        obtain ⟨hc1, nv, hc2, hin⟩ := hc k hkl
        obtain ⟨a2, c2, rfl⟩ : ∃ a2 c2, nv = .slice a2 (needsOf ts k).length c2 := by
          obtain ⟨_, a2, c2, h, _⟩ := hin
          exact ⟨a2, c2, h⟩
        clear hc
        obtain ⟨W, hW⟩ : ∃ W, W = (wr.alloc (.cells #[.int .i64 (k : Int)] 3)).alloc (.cells #[.int .i64 (ts.getD k (0, [])).1, .slice a2 (needsOf ts k).length c2] 54) := ⟨_, rfl⟩
        have hbW : Below wr.heap.size wr W := by rw [hW]; exact ((Below.refl _ _).alloc (Nat.le_refl _) _).alloc (by simp) _
        have hcK : W.cell? ⟨wr.heap.size, 0, none⟩ = some (.int .i64 (k : Int)) := by
          rw [hW]
          unfold World.cell?
          dsimp only
          rw [blk_alloc_lt _ _ _ (by simp), blk_alloc_new]
          rfl
        have hbx2 : Below w2.heap.size w2 W := hb.trans (hbW.mono hb.size)
        have hWX : W.heap[X]? = some (.cells #[.slice (some ⟨g, 0, none⟩) ts.length ts.length] 37 (0, 0)) := (hbx2.block _ hX).trans HX2.out
        have hWc : W.cell? ⟨X, 0, none⟩ = some (.slice (some ⟨g, 0, none⟩) ts.length ts.length) := by simp [World.cell?, hWX]
        have hWr : W.rowIs g 3 ts.length (posRow A) := HR2.out.of_block (hbx2.block _ hgl)
        have hWsz : wr.heap.size < W.heap.size := by rw [hW]; simp; omega
        have hXW : X < W.heap.size := Nat.lt_of_lt_of_le hX hbx2.size
        have hcf := containsFunc_reads _ (needsOf ts k) 57 #[.pointer (some ⟨X, 0, none⟩), .pointer (some ⟨wr.heap.size, 0, none⟩)] (aheadB A k) W (hin.later hbW) entersO (fun y hy w' hb' =>
          ahead_any A ts.length g _ _ k y w' ((hb'.cell (p := ⟨X, 0, none⟩) hXW).trans hWc) ((hb'.cell (p := ⟨wr.heap.size, 0, none⟩) hWsz).trans hcK) (hWr.of_block (hb'.block _ hWr.lt)) hkl (HR.out k hkl y hy).1 (HR.out k hkl y hy).2 h30)
        have HZ : Hid (∀ w3, Below W.heap.size W w3 → Below w2.heap.size w2 w3) := fun w3 h => hbx2.trans (h.mono hbx2.size)
        have HWW : Hid (W = (wr.alloc (.cells #[.int .i64 (k : Int)] 3)).alloc (.cells #[.int .i64 (ts.getD k (0, [])).1, .slice a2 (needsOf ts k).length c2] 54)) := hW
        rw [hW] at hcf
        cases hq : (needsOf ts k).any (aheadB A k)
        · have HF : Hid (∀ i, i < k + 1 → Fine ts A i) := fun i hi y hy => by
            by_cases e : i = k
            · subst e
              have := List.any_eq_false.1 hq y hy
              unfold aheadB at this
              simpa using this
            · exact hall.out i (by omega) y hy
          rw [hq] at hcf
          clear hq hall hWX hWc hWr hcK hbW hin hbx2 hW
          generalize (ts.getD k (0, [])).1 = wk at *
          generalize (needsOf ts k).length = nl at *
          go_wp2_with (go_at_call 56; refine hcf.mono ?_; clear hcf; rintro e w3 ⟨rfl, hb3⟩; rw [← HWW.out] at hb3; have hb4 := HZ.out w3 hb3; clear hb3)
          go_roundw
          case rel => exact ⟨k + 1, by omega, by go_num, HF, hb4⟩
          case measure => simp [intOf]; omega
        · have HE6 : Hid (ordErr ts zs = 6) := ordErr_state HE.out (fun hB => by
            obtain ⟨y, hy, h⟩ := List.any_eq_true.1 hq
            unfold aheadB at h
            exact HAH.out.1 hB k hkl y hy (by simpa using h))
          rw [hq] at hcf
          clear hq hall hWX hWc hWr hcK hbW hin hbx2 hW
          generalize (ts.getD k (0, [])).1 = wk at *
          generalize (needsOf ts k).length = nl at *
          go_wp2_with (go_at_call 56; refine hcf.mono ?_; clear hcf; rintro e w3 ⟨rfl, hb3⟩; rw [← HWW.out] at hb3; have hb4 := HZ.out w3 hb3; clear hb3)
          go_ret
          exact ⟨by rw [HE6.out]; rfl, HB2.out.trans (hb4.mono HB2.out.size)⟩
      · have HE0 : Hid (ordErr ts zs = 0) := ordErr_ok HE.out (HAH.out.2 (fun i hi => hall.out i (by omega)))
        clear hall
        go_wp2
        go_ret
        exact ⟨by rw [HE0.out]; rfl, HB2.out.trans (hb.mono HB2.out.size)⟩
end Go.Proofs.YtandhiiaflhenaaGreatDoor

namespace Go.Proofs.YtandhiiaflhenaaGreatDoor
open Go.RowKit Go.Deep

/-- What is wrong with a plan, its ops, and an order. -/
noncomputable def alErr (q : Int) (ts : List (Int × List Int)) (os : List Opn) (zs : List Int) : Int := if allErr q ts.length os = 0 then ordErr ts zs else allErr q ts.length os
theorem alErr_bad {q : Int} {ts : List (Int × List Int)} {os : List Opn} {zs : List Int} (h : allErr q ts.length os ≠ 0) : alErr q ts os zs = allErr q ts.length os := if_neg h
theorem alErr_ok {q : Int} {ts : List (Int × List Int)} {os : List Opn} {zs : List Int} (h : allErr q ts.length os = 0) : alErr q ts os zs = ordErr ts zs := if_pos h
theorem allErr_zero {q : Int} {n : Nat} {os : List Opn} (h : allErr q n os = 0) : q = 0 ∧ opsErr n os = 0 := by
  unfold allErr at h
  split at h
  · rename_i hq; exact ⟨hq, h⟩
  · rename_i hq; exact absurd h hq
/-- What Along hands back. -/
def AlongOut (ts : List (Int × List Int)) (os : List Opn) (zs : List Int) (e : Ending) (w' : World) : Prop :=
  ∃ p q, CheckIs ts p q ∧ ((alErr q ts os zs ≠ 0 ∧ e = .returned (.tuple #[.slice none 0 0, errV (alErr q ts os zs)])) ∨
    (alErr q ts os zs = 0 ∧ allErr q ts.length os = 0 ∧ ∃ g, e = .returned (.tuple #[.slice (some ⟨g, 0, none⟩) ts.length ts.length, .nilIface]) ∧ w'.rowIs g 86 (ts.length * 2) (cellRow (alongC ts (fun k => os.getD k (0, 0)) (natsOf zs)))))

set_option maxRecDepth 100000 in
set_option maxHeartbeats 2000000 in
theorem cAlong_any (pv ov rv : Value) (ts : List (Int × List Int)) (os : List Opn) (zs : List Int) (w : World) (hp : PlanAt w pv ts) (ho : OpsAt w ov os) (hz : IntsAt w rv zs) :
    Calls Tryz.prog 9 #[pv, ov, rv] w fun e w' => AlongOut ts os zs e w' ∧ Below w.heap.size w w' := by
  have hor := check_any pv ts w hp
  have HP : Hid (PlanAt w pv ts) := hp
  have HO : Hid (OpsAt w ov os) := ho
  have HZ : Hid (IntsAt w rv zs) := hz
  obtain ⟨_, pa, pc, rfl, _⟩ := hp
  obtain ⟨_, oa, oc, rfl, _⟩ := ho
  obtain ⟨_, ra, rc, rfl, _⟩ := hz
  go_enter Tryz.func9, Tryz.ntmps9
  go_wp2_with fail
  refine hor.mono ?_
  clear hor
  rintro e w1 ⟨⟨p, q, rfl, hck⟩, hb⟩
  have HCK : Hid (CheckIs ts p q) := hck
  by_cases hq : q = 0
  · subst hq
    obtain ⟨-, h30, herr, hno⟩ := hck.ok rfl
    have hco := checkOps_any _ _ ts os w1 (HP.out.later hb) (HO.out.later hb)
    rw [errV_zero]
    by_cases hq : opsErr ts.length os = 0
    · obtain ⟨hm, hop⟩ := opsErr_zero hq
      have hal0 : allErr 0 ts.length os = 0 := hq
      rw [hq, errV_zero] at hco
      have HCO : Hid (∀ w2, Below w1.heap.size w1 w2 → Calls Tryz.prog 31 #[.slice pa ts.length pc, .slice ra zs.length rc] w2 fun e w' => e = .returned (errV (ordErr ts zs)) ∧ Below w2.heap.size w2 w') := fun w2 hb2 =>
        checkOrder_any _ _ ts zs w2 ((HP.out.later hb).later hb2) ((HZ.out.later hb).later hb2) h30 (inRange_of herr) hno
      by_cases hq2 : ordErr ts zs = 0
      · obtain ⟨hE, hBh⟩ := ordErr_zero hq2
        rw [hq2, errV_zero] at HCO
        have hin := natsOf_ints (fun x hx => (hE.2.2 x hx).1)
        have HAL : Hid (∀ w2, Below w1.heap.size w1 w2 → Calls Tryz.prog 26 #[.slice pa ts.length pc, .slice oa os.length oc, .slice ra zs.length rc] w2 fun e w' => e = .returned (.slice (some ⟨w2.heap.size, 0, none⟩) ts.length ts.length) ∧ w'.rowIs w2.heap.size 86 (ts.length * 2) (cellRow (alongC ts (fun k => os.getD k (0, 0)) (natsOf zs))) ∧ Below w2.heap.size w2 w') := fun w2 hb2 =>
          along_any _ _ _ ts os (natsOf zs) w2 ((HP.out.later hb).later hb2) ((HO.out.later hb).later hb2) (by rw [hin]; exact (HZ.out.later hb).later hb2) h30 (inRange_of herr) hm hE.nats.2.2.1 hop (fun k hk => Nat.le_trans (needs_len herr hk) (by omega))
        have HE : Hid (∀ g w', w'.rowIs g 86 (ts.length * 2) (cellRow (alongC ts (fun k => os.getD k (0, 0)) (natsOf zs))) → AlongOut ts os zs (.returned (.tuple #[.slice (some ⟨g, 0, none⟩) ts.length ts.length, .nilIface])) w') := fun g w' h => ⟨p, 0, HCK.out, Or.inr ⟨by rw [alErr_ok hal0]; exact hq2, hal0, g, rfl, h⟩⟩
        clear hq hq2 hm hop hck herr hno hE hBh hin hal0
        go_wp2_with (first | (go_at_call 25; refine hco.mono ?_; clear hco; rintro e w2 ⟨rfl, hb2⟩; have hcr := HCO.out w2 hb2) | (go_at_call 31; refine hcr.mono ?_; clear hcr; rintro e w3 ⟨rfl, hb3⟩; have hal := HAL.out w3 (hb2.trans (hb3.mono hb2.size))) | (go_at_call 26; refine hal.mono ?_; clear hal; rintro e w4 ⟨rfl, hrow4, hb4⟩; have HR4 := HE.out _ w4 hrow4; clear hrow4))
        go_ret2
        exact ⟨HR4, hb.trans (((hb2.trans (hb3.mono hb2.size)).trans (hb4.mono (Nat.le_trans hb2.size hb3.size))).mono hb.size)⟩
      · have HE : Hid (∀ u w', u = errV (ordErr ts zs) → AlongOut ts os zs (.returned (.tuple #[.slice none 0 0, u])) w') := fun u w' hu =>
          ⟨p, 0, HCK.out, Or.inl ⟨by rw [alErr_ok hal0]; exact hq2, by rw [hu, alErr_ok hal0]⟩⟩
        rw [errV_some hq2] at HE HCO
        clear hq hq2 hm hop hck herr hno hal0
        generalize ordErr ts zs = q at *
        go_wp2_with (first | (go_at_call 25; refine hco.mono ?_; clear hco; rintro e w2 ⟨rfl, hb2⟩; have hcr := HCO.out w2 hb2) | (go_at_call 31; refine hcr.mono ?_; clear hcr; rintro e w3 ⟨rfl, hb3⟩))
        go_ret2
        exact ⟨HE.out _ _ rfl, hb.trans ((hb2.trans (hb3.mono hb2.size)).mono hb.size)⟩
    · have hal0 : allErr 0 ts.length os ≠ 0 := hq
      have HE : Hid (∀ u w', u = errV (opsErr ts.length os) → AlongOut ts os zs (.returned (.tuple #[.slice none 0 0, u])) w') := fun u w' hu =>
        ⟨p, 0, HCK.out, Or.inl ⟨by rw [alErr_bad hal0]; exact hal0, by rw [hu, alErr_bad hal0]; rfl⟩⟩
      rw [errV_some hq] at HE hco
      clear hck hq herr hno hal0
      generalize opsErr ts.length os = q at *
      go_wp2_with (go_at_call 25; refine hco.mono ?_; clear hco; rintro e w2 ⟨rfl, hb2⟩)
      go_ret2
      exact ⟨HE.out _ _ rfl, hb.trans (hb2.mono hb.size)⟩
  · have hal0 : allErr q ts.length os = q := by unfold allErr; rw [if_neg hq]
    have HE : Hid (∀ u w', u = errV q → AlongOut ts os zs (.returned (.tuple #[.slice none 0 0, u])) w') := fun u w' hu =>
      ⟨p, q, HCK.out, Or.inl ⟨by rw [alErr_bad (by rw [hal0]; exact hq), hal0]; exact hq, by rw [hu, alErr_bad (by rw [hal0]; exact hq), hal0]⟩⟩
    rw [errV_some hq] at HE ⊢
    clear hck hq hal0
    go_wp2
    go_ret2
    exact ⟨HE.out _ _ rfl, hb⟩

set_option maxRecDepth 100000 in
set_option maxHeartbeats 1000000 in
theorem sameCells_any (v u : Value) (gs : List Cl) (w : World) (hv : CellsAt w v gs) (hu : CellsAt w u gs) :
    Calls Tryz.prog 10 #[v, u] w fun e w' => e = .returned (.bool true) ∧ Below w.heap.size w w' := by
  obtain ⟨hl, a, c, rfl, hv⟩ := hv
  obtain ⟨-, a2, c2, rfl, hu⟩ := hu
  have HV : Hid (∀ k, k < gs.length → ∃ b o, a = some ⟨b, o, none⟩ ∧ w.cell? ⟨b, o + k * 2, none⟩ = some (.int .i64 (numC gs k)) ∧ w.cell? ⟨b, o + k * 2 + 1, none⟩ = some (.bool (fltC gs k))) := fun k hk => by
    rcases hv with h0 | ⟨b, o, h1, -, h2⟩
    · rw [h0] at hk; simp at hk
    · exact ⟨b, o, h1, h2 k hk⟩
  have HU : Hid (∀ k, k < gs.length → ∃ b o, a2 = some ⟨b, o, none⟩ ∧ w.cell? ⟨b, o + k * 2, none⟩ = some (.int .i64 (numC gs k)) ∧ w.cell? ⟨b, o + k * 2 + 1, none⟩ = some (.bool (fltC gs k))) := fun k hk => by
    rcases hu with h0 | ⟨b, o, h1, -, h2⟩
    · rw [h0] at hk; simp at hk
    · exact ⟨b, o, h1, h2 k hk⟩
  clear hv hu
  go_enter Tryz.func10, Tryz.ntmps10
  go_wp2
  go_loopw [5] (fun s5 wr => ∃ k q : Nat, k ≤ gs.length ∧ s5 = .int .i64 k ∧ wr = w.drewN q) (fun s5 _ => gs.length - (intOf s5).toNat)
  case atStart => exact ⟨0, 0, Nat.zero_le _, rfl, rfl⟩
  case round =>
    obtain ⟨k, q, hk, rfl, rfl⟩ := hrel
    by_cases hkl : k < gs.length
    · obtain ⟨b, o, rfl, h1, h2⟩ := HV.out k hkl
      obtain ⟨b2, o2, rfl, h3, h4⟩ := HU.out k hkl
      generalize numC gs k = p at *
      generalize fltC gs k = r at *
      go_wp2
      go_quiet (fail)
      go_wp2
      go_roundw
      case rel => exact ⟨k + 1, _, by omega, by go_num, rfl⟩
      case measure => simp [intOf]; omega
    · go_wp2
      go_ret
      exact ⟨rfl, drawn_below _ w q⟩
end Go.Proofs.YtandhiiaflhenaaGreatDoor

namespace Go.Proofs.YtandhiiaflhenaaGreatDoor
open Go.RowKit Go.Deep

/-- What cells.All hands back lies in memory of its own. -/
def AllNew (B : Nat) (ts : List (Int × List Int)) (os : List Opn) (e : Ending) (w' : World) : Prop :=
  ∃ p q, CheckIs ts p q ∧ ((allErr q ts.length os ≠ 0 ∧ e = .returned (.tuple #[.slice none 0 0, errV (allErr q ts.length os)])) ∨
    (q = 0 ∧ opsErr ts.length os = 0 ∧ ∃ ord g, B ≤ g ∧ OrdIs ts ord ∧ e = .returned (.tuple #[.slice (some ⟨g, 0, none⟩) ts.length ts.length, .nilIface]) ∧ w'.rowIs g 86 (ts.length * 2) (cellRow (alongC ts (fun k => os.getD k (0, 0)) ord))))

set_option maxRecDepth 100000 in
set_option maxHeartbeats 2000000 in
theorem allNew_any (pv ov : Value) (ts : List (Int × List Int)) (os : List Opn) (w : World) (hp : PlanAt w pv ts) (ho : OpsAt w ov os) :
    Calls Tryz.prog 6 #[pv, ov] w fun e w' => AllNew w.heap.size ts os e w' ∧ Below w.heap.size w w' := by
  have hor := order_any pv ts w hp
  have HP : Hid (PlanAt w pv ts) := hp
  have HO : Hid (OpsAt w ov os) := ho
  obtain ⟨_, pa, pc, rfl, _⟩ := hp
  obtain ⟨_, oa, oc, rfl, _⟩ := ho
  go_enter Tryz.func6, Tryz.ntmps6
  go_wp2_with fail
  refine hor.mono ?_
  clear hor
  rintro e w1 ⟨⟨p, q, hck, hcase⟩, hb⟩
  have HCK : Hid (CheckIs ts p q) := hck
  rcases hcase with ⟨hq, rfl⟩ | ⟨hq, ord, rv, rfl, hord, hints⟩
  · have HE : Hid (∀ u w', u = errV q → AllNew w.heap.size ts os (.returned (.tuple #[.slice none 0 0, u])) w') := fun u w' hu => by
      have e : allErr q ts.length os = q := by unfold allErr; rw [if_neg hq]
      exact ⟨p, q, HCK.out, Or.inl ⟨by rw [e]; exact hq, by rw [hu, e]⟩⟩
    rw [errV_some hq] at HE ⊢
    clear hck hq
    go_wp2
    go_ret2
    exact ⟨HE.out _ _ rfl, hb⟩
  · subst hq
    obtain ⟨-, h30, herr, hno⟩ := hck.ok rfl
    have hco := checkOps_any _ _ ts os w1 (HP.out.later hb) (HO.out.later hb)
    have hs1 := hb.size
    by_cases hq : opsErr ts.length os = 0
    · obtain ⟨hm, hop⟩ := opsErr_zero hq
      rw [hq, errV_zero] at hco
      have HAL : Hid (∀ w2, Below w1.heap.size w1 w2 → Calls Tryz.prog 26 #[.slice pa ts.length pc, .slice oa os.length oc, rv] w2 fun e w' => e = .returned (.slice (some ⟨w2.heap.size, 0, none⟩) ts.length ts.length) ∧ w'.rowIs w2.heap.size 86 (ts.length * 2) (cellRow (alongC ts (fun k => os.getD k (0, 0)) ord)) ∧ Below w2.heap.size w2 w') := fun w2 hb2 =>
        along_any _ _ _ ts os ord w2 ((HP.out.later hb).later hb2) ((HO.out.later hb).later hb2) (hints.later hb2) h30 (inRange_of herr) hm hord.below hop (fun k hk => Nat.le_trans (needs_len herr hk) (by omega))
      have HZ : Hid (∀ g w', w.heap.size ≤ g → w'.rowIs g 86 (ts.length * 2) (cellRow (alongC ts (fun k => os.getD k (0, 0)) ord)) → AllNew w.heap.size ts os (.returned (.tuple #[.slice (some ⟨g, 0, none⟩) ts.length ts.length, .nilIface])) w') := fun g w' hg h => ⟨p, 0, HCK.out, Or.inr ⟨rfl, hq, ord, g, hg, hord, rfl, h⟩⟩
      clear hq hm hop hints hord hck herr hno
      go_wp2_with (first | (go_at_call 25; refine hco.mono ?_; clear hco; rintro e w2 ⟨rfl, hb2⟩; have hal := HAL.out w2 hb2) | (go_at_call 26; refine hal.mono ?_; clear hal; rintro e w3 ⟨rfl, hrow3, hb3⟩; have HR3 := HZ.out _ w3 (Nat.le_trans hs1 hb2.size) hrow3; clear hrow3))
      go_ret2
      exact ⟨HR3, hb.trans ((hb2.trans (hb3.mono hb2.size)).mono hb.size)⟩
    · have HE : Hid (∀ u w', u = errV (opsErr ts.length os) → AllNew w.heap.size ts os (.returned (.tuple #[.slice none 0 0, u])) w') := fun u w' hu =>
        ⟨p, 0, HCK.out, Or.inl ⟨hq, by rw [hu]; rfl⟩⟩
      rw [errV_some hq] at HE hco
      clear hck hq hints hord herr hno
      generalize opsErr ts.length os = q at *
      go_wp2_with (go_at_call 25; refine hco.mono ?_; clear hco; rintro e w2 ⟨rfl, hb2⟩)
      go_ret2
      exact ⟨HE.out _ _ rfl, hb.trans (hb2.mono hb.size)⟩
end Go.Proofs.YtandhiiaflhenaaGreatDoor
