/- Plain: what RingWhole counts; and what it keeps in memory between two steps. -/
import Derived.Test.YtfbikjoljfnlbaaD
namespace Go.Proofs.Ytfbikjoljfnlbaa
open Go.RowKit Go.Deep

def updB (f : Nat → Bool) (x : Nat) : Nat → Bool := fun y => if y = x then true else f y
theorem updB_ne (f : Nat → Bool) {x y : Nat} (h : y ≠ x) : updB f x y = f y := by simp [updB, h]
/-- How many below n have not come out. -/
def cnt (is : Nat → Bool) : Nat → Nat
  | 0 => 0
  | n + 1 => cnt is n + (if is n then 0 else 1)
theorem cnt_le (is : Nat → Bool) (n : Nat) : cnt is n ≤ n := by
  induction n with
  | zero => exact Nat.le_refl _
  | succ n ih => simp only [cnt]; split <;> omega
theorem cnt_above (is : Nat → Bool) (x n : Nat) (h : n ≤ x) : cnt (updB is x) n = cnt is n := by
  induction n with
  | zero => rfl
  | succ n ih => simp only [cnt]; rw [ih (by omega), updB_ne _ (by omega)]
theorem cnt_mark (is : Nat → Bool) (x n : Nat) (h : x < n) (hf : is x = false) : cnt (updB is x) n + 1 = cnt is n := by
  induction n with
  | zero => omega
  | succ n ih =>
    simp only [cnt]
    by_cases e : x = n
    · subst e
      rw [cnt_above _ _ _ (Nat.le_refl _), hf]
      simp [updB]
    · rw [updB_ne _ (by omega : n ≠ x)]
      have := ih (by omega)
      omega

/-- Those of o are out and not marked yet; those of r are there. -/
structure Marks (n : Nat) (is : Nat → Bool) (o r : List Int) : Prop where
  rng : ∀ x, x ∈ o ∨ x ∈ r → 0 ≤ x ∧ x < n ∧ is x.toNat = false
  uniq : o.Pairwise (· ≠ ·)
  apart : ∀ a, a ∈ o → ∀ b, b ∈ r → a ≠ b
  count : cnt is n = o.length + r.length
  new : ∀ k, n ≤ k → is k = false
theorem Marks.mark {n : Nat} {is : Nat → Bool} {x : Int} {o r : List Int} (h : Marks n is (x :: o) r) : Marks n (updB is x.toNat) o r := by
  obtain ⟨hx0, hxn, hxf⟩ := h.rng x (Or.inl (List.mem_cons_self ..))
  have hu := List.pairwise_cons.1 h.uniq
  refine ⟨fun y hy => ?_, hu.2, fun a ha b hb => h.apart a (List.mem_cons_of_mem _ ha) b hb, ?_, fun k hk => ?_⟩
  · have h1 : y ∈ x :: o ∨ y ∈ r := hy.imp (List.mem_cons_of_mem _) id
    obtain ⟨h0, hn, hf⟩ := h.rng y h1
    refine ⟨h0, hn, ?_⟩
    rw [updB_ne]
    · exact hf
    · intro e
      have e' : y = x := by omega
      rcases hy with hy | hy
      · exact hu.1 y hy e'.symm
      · exact h.apart x (List.mem_cons_self ..) y hy e'.symm
  · have := cnt_mark is x.toNat n (by omega) hxf
    have hc := h.count
    simp only [List.length_cons] at hc
    omega
  · rw [updB_ne _ (by omega)]; exact h.new k hk
/-- What stands behind the switch. -/
structure Mid (n : Nat) (st : Int) (is : Nat → Bool) (o r : List Int) : Prop where
  marks : Marks n is o r
  sorted : r.Pairwise (· < ·)
  above : ∀ x, x ∈ r → st < x
  lo : -1 ≤ st
  hi : st < n
theorem Mid.mark {n : Nat} {st : Int} {is : Nat → Bool} {x : Int} {o r : List Int} (h : Mid n st is (x :: o) r) : Mid n st (updB is x.toNat) o r :=
  ⟨h.marks.mark, h.sorted, h.above, h.lo, h.hi⟩
theorem Mid.start : Mid 0 (-1) (fun _ => false) [] [] :=
  ⟨⟨fun x h => by simp at h, List.Pairwise.nil, fun a h => by simp at h, rfl, fun _ _ => rfl⟩, List.Pairwise.nil, fun x h => by simp at h, by omega, by omega⟩
theorem Mid.push {n : Nat} {st : Int} {is : Nat → Bool} {xs : List Int} (h : Mid n st is [] xs) : Mid (n + 1) st is [] (xs ++ [(n : Int)]) := by
  refine ⟨⟨fun x hx => ?_, List.Pairwise.nil, fun a ha => by simp at ha, ?_, fun k hk => h.marks.new k (by omega)⟩, ?_, fun x hx => ?_, h.lo, by have := h.hi; omega⟩
  · rcases hx with hx | hx
    · simp at hx
    · rcases List.mem_append.1 hx with hx | hx
      · obtain ⟨h0, h1, h2⟩ := h.marks.rng x (Or.inr hx)
        exact ⟨h0, by omega, h2⟩
      · obtain rfl := List.mem_singleton.1 hx
        exact ⟨by omega, by omega, h.marks.new _ (by omega)⟩
  · have := h.marks.count
    simp only [cnt, h.marks.new n (Nat.le_refl _), List.length_append, List.length_singleton, List.length_nil] at this ⊢
    simp; omega
  · rw [List.pairwise_append]
    refine ⟨h.sorted, List.pairwise_singleton _ _, fun a ha b hb => ?_⟩
    obtain rfl := List.mem_singleton.1 hb
    exact (h.marks.rng a (Or.inr ha)).2.1
  · rcases List.mem_append.1 hx with hx | hx
    · exact h.above x hx
    · obtain rfl := List.mem_singleton.1 hx
      exact h.hi
theorem Mid.pop {n : Nat} {st : Int} {is : Nat → Bool} {xs : List Int} {x : Int} (h : Mid n st is [] (xs ++ [x])) : Mid n st is [x] xs := by
  have hs := List.pairwise_append.1 h.sorted
  refine ⟨⟨fun y hy => h.marks.rng y (Or.inr ?_), List.pairwise_singleton _ _, fun a ha b hb => ?_, ?_, h.marks.new⟩, hs.1, fun y hy => h.above y (List.mem_append_left _ hy), h.lo, h.hi⟩
  · rcases hy with hy | hy
    · exact List.mem_append_right _ hy
    · exact List.mem_append_left _ hy
  · obtain rfl := List.mem_singleton.1 ha
    have := hs.2.2 b hb a (List.mem_singleton.2 rfl)
    omega
  · have := h.marks.count
    simp at this ⊢
    omega
/-- Some are taken from the front: they are in order, above what was stolen last. -/
structure Front (n : Nat) (st : Int) (is : Nat → Bool) (o r : List Int) (k : Nat) : Prop where
  marks : Marks n is o r
  sorted : (o ++ r).Pairwise (· < ·)
  above : ∀ x, x ∈ o.drop k ++ r → st < x
  lo : -1 ≤ st
  hi : st < n
theorem Mid.front {n : Nat} {st : Int} {is : Nat → Bool} {o r : List Int} (h : Mid n st is [] (o ++ r)) : Front n st is o r 0 := by
  have hs := List.pairwise_append.1 h.sorted
  refine ⟨⟨fun y hy => h.marks.rng y (Or.inr (List.mem_append.2 hy)), hs.1.imp (fun h => by omega), fun a ha b hb => by have := hs.2.2 a ha b hb; omega, ?_, h.marks.new⟩, h.sorted, by simpa using h.above, h.lo, h.hi⟩
  have := h.marks.count
  simp at this ⊢
  omega
theorem Front.step {n : Nat} {st : Int} {is : Nat → Bool} {o r : List Int} {k : Nat} (h : Front n st is o r k) (hk : k < o.length) : st < o.getD k 0 ∧ Front n (o.getD k 0) is o r (k + 1) := by
  have he : o.getD k 0 = o[k] := by rw [List.getD_eq_getElem?_getD, List.getElem?_eq_getElem hk]; rfl
  rw [he]
  have hd : o.drop k = o[k] :: o.drop (k + 1) := List.drop_eq_getElem_cons hk
  have hm : o[k] ∈ o := List.getElem_mem hk
  obtain ⟨h0, h1, _⟩ := h.marks.rng _ (Or.inl hm)
  refine ⟨h.above _ (List.mem_append_left _ (by rw [hd]; exact List.mem_cons_self ..)), h.marks, h.sorted, fun x hx => ?_, by omega, h1⟩
  have hs := h.sorted
  rw [← List.take_append_drop k o, List.append_assoc, hd] at hs
  exact (List.pairwise_cons.1 (List.pairwise_append.1 hs).2.1).1 x hx
theorem Front.mid {n : Nat} {st : Int} {is : Nat → Bool} {o r : List Int} (h : Front n st is o r o.length) : Mid n st is o r :=
  ⟨h.marks, (List.pairwise_append.1 h.sorted).2.1, by simpa using h.above, h.lo, h.hi⟩
theorem sorted_at {r : List Int} (h : r.Pairwise (· < ·)) {k : Nat} (hk : k < r.length) (h0 : 0 < k) : r.getD (k - 1) 0 < r.getD k 0 := by
  rw [List.getD_eq_getElem?_getD, List.getElem?_eq_getElem (by omega : k - 1 < r.length), List.getD_eq_getElem?_getD, List.getElem?_eq_getElem hk]
  exact List.pairwise_iff_getElem.1 h (k - 1) k (by omega) hk (by omega)

def boolRow (f : Nat → Bool) : Nat → Value := fun k => .bool (f k)
theorem row_updB {w : World} {b t n x : Nat} {f : Nat → Bool} (h : w.rowIs b t n (boolRow f)) : (w.setCell ⟨b, x, none⟩ (.bool true)).rowIs b t n (boolRow (updB f x)) :=
  (h.set x _).congr (fun k _ => by unfold boolRow updB; split <;> rfl)

/-- Memory between two steps: the ring, the marks, what was there before. -/
structure WMem (R I room B : Nat) (is : Nat → Bool) (xs : List Int) (w0 wr : World) : Prop where
  ring : Rg R room xs wr
  marks : wr.rowIs I 32 100 (boolRow is)
  below : Below B w0 wr
  bR : B ≤ R
  bI : B ≤ I
  ne : R ≠ I
theorem WMem.kr {R I room B : Nat} {is : Nat → Bool} {xs xs' : List Int} {w0 wr w' : World} (h : WMem R I room B is xs w0 wr) (hr : Rg R room xs' w') (hk : Kr R wr w') : WMem R I room B is xs' w0 w' :=
  ⟨hr, h.marks.of_block (hk.block I h.marks.lt (fun e => h.ne e.symm)), h.below.trans (hk.below h.bR (by have := h.ring.lt; have := h.bR; omega)), h.bR, h.bI, h.ne⟩
theorem WMem.later {R I room B : Nat} {is : Nat → Bool} {xs : List Int} {w0 wr w' : World} (h : WMem R I room B is xs w0 wr) (hb : Below wr.heap.size wr w') : WMem R I room B is xs w0 w' :=
  ⟨h.ring.of_block (hb.block _ h.ring.lt), h.marks.of_block (hb.block _ h.marks.lt), h.below.trans (hb.mono (by have := h.ring.lt; have := h.bR; omega)), h.bR, h.bI, h.ne⟩
theorem WMem.mark {R I room B x : Nat} {is : Nat → Bool} {xs : List Int} {w0 wr : World} (h : WMem R I room B is xs w0 wr) : WMem R I room B (updB is x) xs w0 (wr.setCell ⟨I, x, none⟩ (.bool true)) :=
  ⟨h.ring.setOther h.ne _ _, row_updB h.marks, h.below.setCell (p := ⟨I, x, none⟩) h.bI _, h.bR, h.bI, h.ne⟩
/-- What came out: nothing, or a row of its own. -/
def OutZ (C : Nat) (w : World) (v : Value) (o : List Int) : Prop := (o = [] ∧ v = .slice none 0 0) ∨ RowZ C w v o
theorem OutZ.shape {C : Nat} {w : World} {v : Value} {o : List Int} (h : OutZ C w v o) : ∃ a c, v = .slice a o.length c ∧ ∀ k, k < o.length → ∃ b, a = some ⟨b, 0, none⟩ ∧ C ≤ b ∧ b < w.heap.size ∧ w.cell? ⟨b, k, none⟩ = some (.int .i64 (o.getD k 0)) := by
  rcases h with ⟨rfl, rfl⟩ | ⟨b, c, rfl, hb, hl, hc⟩
  · exact ⟨none, 0, rfl, fun k hk => by simp at hk⟩
  · exact ⟨_, c, rfl, fun k hk => ⟨b, rfl, hb, hl, hc k hk⟩⟩
theorem OutZ.at {C k n c : Nat} {w : World} {a : Option Addr} {o : List Int} (h : OutZ C w (.slice a n c) o) (hk : k < o.length) : ∃ b, a = some ⟨b, 0, none⟩ ∧ C ≤ b ∧ b < w.heap.size ∧ w.cell? ⟨b, k, none⟩ = some (.int .i64 (o.getD k 0)) := by
  rcases h with ⟨rfl, _⟩ | ⟨b, c', hv, hb, hl, hc⟩
  · simp at hk
  · simp only [Value.slice.injEq] at hv
    exact ⟨b, hv.1, hb, hl, hc k hk⟩
theorem RowZ.mono {B B' : Nat} {w : World} {v : Value} {zs : List Int} (h : RowZ B w v zs) (hb : B' ≤ B) : RowZ B' w v zs := by
  obtain ⟨b, c, hv, h1, hl, hc⟩ := h
  exact ⟨b, c, hv, Nat.le_trans hb h1, hl, hc⟩
/-- One number, appended to nothing. -/
theorem OutZ.one {C B : Nat} {w : World} {v : Value} {x : Int} (h : w.ownsRow B 3 1 v 1 [.int .i64 x]) (hC : C ≤ B) : OutZ C w v [x] := by
  obtain ⟨_, ⟨rfl, h0⟩ | ⟨g, cap, cur, rfl, hb, hh, _⟩⟩ := id h
  · omega
  · refine Or.inr ⟨g, cap, rfl, Nat.le_trans hC hb, ?_, fun k hk => ?_⟩
    · rcases Nat.lt_or_ge g w.heap.size with h1 | h1
      · exact h1
      · rw [Array.getElem?_eq_none h1] at hh; cases hh
    · simp only [List.length_singleton] at hk
      obtain rfl : k = 0 := by omega
      rw [World.ownsRow.cellAt h 0 (by omega)]
      rfl
theorem OutZ.set {C I x : Nat} {w : World} {v : Value} {o : List Int} (h : OutZ C w v o) (hI : I < C) (u : Value) : OutZ C (w.setCell ⟨I, x, none⟩ u) v o := by
  rcases h with h | ⟨b, c, hv, hb, hl, hc⟩
  · exact Or.inl h
  · exact Or.inr ⟨b, c, hv, hb, by simpa using hl, fun k hk => (World.cell?_of_block (Below.heap_setCell w ⟨I, x, none⟩ u b (by show b ≠ I; omega))).trans (hc k hk)⟩
end Go.Proofs.Ytfbikjoljfnlbaa
