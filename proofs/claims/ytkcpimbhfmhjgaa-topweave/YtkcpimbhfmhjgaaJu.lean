/- The contract of judge.Stays. -/
import Derived.Test.YtkcpimbhfmhjgaaJt
namespace Go.Proofs.Ytkcpimbhfmhjgaa
open Go.RowKit Go.Deep Go.Maps

/-- What Stays hands back: the error by its number. -/
def StaysOut (ts : List (Int × List Int)) (hands : Int) (l : List StyZ) (e : Ending) : Prop :=
  (∃ p q, CheckIs ts p q ∧ jErr q hands ≠ 0 ∧ e = .returned (errV (jErr q hands))) ∨ (CheckIs ts 0 0 ∧ 1 ≤ hands ∧ hands ≤ 6 ∧ e = .returned (errV (staysErr ts hands.toNat l)))

theorem outS_in {n h : Nat} {hands : Int} (hh : hands = h) (s : StyZ) : outS n h s = !(inRange s.1 hands && inRange s.2.1 (n : Int) && inRange s.2.2.2 10001 && inRange s.2.2.1 (s.2.2.2 + 1)) := by
  subst hh
  unfold outS inRange
  rw [Bool.eq_iff_iff]
  simp only [Bool.or_eq_true, Bool.not_eq_true', Bool.and_eq_false_iff, decide_eq_true_eq, decide_eq_false_iff_not]
  omega
theorem seenS_snoc (l : List StyZ) (hd tk : Int) (f t : Nat) (x y : Int) : addS (seenS l) hd f t x y = seenS (l ++ [(hd, tk, (f : Int), (t : Int))]) x y := by
  unfold addS seenS
  rw [List.any_append]
  simp [eq_comm]
theorem first_in {ts : List (Int × List Int)} {h : Nat} {l : List StyZ} (h0 : firstErr (stayErr ts h) [] l = 0) : (∀ a, a ∈ l → outS ts.length h a = false ∧ a.2.2.2 - a.2.2.1 = wkOf ts a.2.1.toNat) ∧ l.length ≤ ts.length := by
  have hk : ∀ k (hk : k < l.length), outS ts.length h l[k] = false ∧ l[k].2.2.2 - l[k].2.2.1 = wkOf ts l[k].2.1.toNat ∧ ∀ a, a ∈ l.take k → hitS a l[k] = false := by
    intro k hk
    rw [firstErr_zero] at h0
    have := h0 k hk
    rw [List.nil_append] at this
    exact stayErr_zero.1 this
  have hf : ∀ s, s ∈ l → outS ts.length h s = false ∧ s.2.2.2 - s.2.2.1 = wkOf ts s.2.1.toNat := by
    intro b hb
    obtain ⟨k, hk', rfl⟩ := List.getElem_of_mem hb
    exact ⟨(hk k hk').1, (hk k hk').2.1⟩
  have hap : l.Pairwise (fun a s => a.2.1 ≠ s.2.1) := by
    rw [List.pairwise_iff_getElem]
    intro i j hi hj hij
    exact (hitS_false.1 ((hk j hj).2.2 _ (by rw [List.mem_take_iff_getElem]; exact ⟨i, by omega, rfl⟩))).1
  have hnd : (l.map (fun s => s.2.1.toNat)).Nodup := by
    rw [List.Nodup, List.pairwise_map]
    refine List.Pairwise.imp_of_mem (fun {a b} ha hb hab => ?_) hap
    have := outS_false.1 (hf a ha).1
    have := outS_false.1 (hf b hb).1
    omega
  have hlt : ∀ x, x ∈ l.map (fun s => s.2.1.toNat) → x < ts.length := by
    intro x hx
    obtain ⟨s, hs, rfl⟩ := List.mem_map.1 hx
    have := outS_false.1 (hf s hs).1
    omega
  have := nodup_lt_len hnd hlt
  rw [List.length_map] at this
  exact ⟨hf, this⟩

/-- What is kept while the stays L were gone along. -/
structure SMem (ts : List (Int × List Int)) (h N : Nat) (w wr : World) (L : List StyZ) : Prop where
  parts : PartsAt wr N L.length (partS L)
  hand : SeenM wr (N + 1) (L.length * 20) (seenS L)
  below : Below N w wr
  none : firstErr (stayErr ts h) [] L = 0
theorem SMem.start (ts : List (Int × List Int)) (h : Nat) (w : World) : SMem ts h w.heap.size w ((w.alloc (.map #[] 0)).alloc (.map #[] 0)) [] := by
  have e1 : (w.alloc (.map #[] 0)).heap.size = w.heap.size + 1 := by simp
  have h1 := PartsAt.start w
  have h2 := SeenM.start (w.alloc (.map #[] 0))
  rw [e1] at h2
  exact ⟨h1.of_block (Below.heap_alloc _ _ _ (by simp)), h2, (Below.refl _ _).alloc (Nat.le_refl _) _ |>.alloc (by simp) _, rfl⟩
theorem SMem.later {ts : List (Int × List Int)} {h N : Nat} {w wr w' : World} {L : List StyZ} (m : SMem ts h N w wr L) (hb : Below wr.heap.size wr w') : SMem ts h N w w' L :=
  ⟨m.parts.of_block (hb.block _ m.parts.lt), m.hand.of_block (hb.block _ m.hand.lt), m.below.trans (hb.mono (by have := m.parts.lt; omega)), m.none⟩
theorem SMem.size {ts : List (Int × List Int)} {h N : Nat} {w wr : World} {L : List StyZ} (m : SMem ts h N w wr L) : N + 1 < wr.heap.size := m.hand.lt
theorem SMem.bad {ts : List (Int × List Int)} {h N : Nat} {w wr : World} {l : List StyZ} {k : Nat} (m : SMem ts h N w wr (l.take k)) (hk : k < l.length) {e : Int} (he : stayErr ts h (l.take k) (l.getD k (0, 0, 0, 0)) = e) (hne : e ≠ 0) : staysErr ts h l = e := by
  have h1 := firstErr_at hk m.none (by rw [(take_at (d := (0, 0, 0, 0)) hk).2, he]; exact hne)
  rw [(take_at (d := (0, 0, 0, 0)) hk).2, he] at h1
  unfold staysErr
  rw [if_neg (by rw [h1]; exact hne), h1]
theorem SMem.next {ts : List (Int × List Int)} {h N : Nat} {w wr w4 w5 : World} {L : List StyZ} {hd : Int} {x f t : Nat} (m : SMem ts h N w wr L) (he : stayErr ts h L (hd, (x : Int), (f : Int), (t : Int)) = 0) (hlen : t - f ≤ 20)
    (h4 : SeenM w4 (N + 1) (L.length * 20 + (t - f)) (addS (seenS L) hd f t)) (b4 : Below N w w4)
    (h5 : PartsAt w5 N (L.length + 1) (fun y => if y = (x : Int) then some ((t : Int) - (f : Int), (f : Int), (t : Int)) else partS L y)) (hg5 : w4.grownBy w5 (some N)) : SMem ts h N w w5 (L ++ [(hd, (x : Int), (f : Int), (t : Int))]) := by
  have e : (L ++ [(hd, (x : Int), (f : Int), (t : Int))]).length = L.length + 1 := by simp
  have hN4 : N ≤ w4.heap.size := by have := h4.lt; omega
  refine ⟨?_, ?_, ?_, ?_⟩
  · rw [e]
    refine h5.congr (fun y => ?_)
    rw [partS_snoc]
    dsimp only
    by_cases ey : y = (x : Int)
    · rw [if_pos ey, if_pos ey.symm]
    · rw [if_neg ey, if_neg (fun h => ey h.symm)]
  · rw [e]
    exact ((h4.kept hg5 (by simp)).congr (fun a b => seenS_snoc L hd (x : Int) f t a b)).mono (by omega)
  · exact b4.trans (grown_below hg5 (Nat.le_refl _) hN4)
  · have h0 := m.none
    rw [firstErr_zero] at h0 ⊢
    intro k hk
    rw [List.nil_append]
    rw [e] at hk
    by_cases ek : k = L.length
    · subst ek
      rw [List.take_left, List.getElem_append_right (Nat.le_refl _)]
      simpa using he
    · have := h0 k (by omega)
      rw [List.nil_append] at this
      rw [List.take_append_of_le_length (by omega), List.getElem_append_left (by omega)]
      exact this
theorem stayErr_out {ts : List (Int × List Int)} {h : Nat} {L : List StyZ} {s : StyZ} (hf : inRange s.1 (h : Int) = false ∨ inRange s.2.1 (ts.length : Int) = false ∨ inRange s.2.2.2 10001 = false ∨ inRange s.2.2.1 (s.2.2.2 + 1) = false) : stayErr ts h L s = 1 := by
  unfold stayErr
  rw [outS_in rfl]
  rcases hf with hf | hf | hf | hf <;> simp [hf]
/-- A stay that is in range, of another length. -/
theorem stayErr_shape {ts : List (Int × List Int)} {h : Nat} {L : List StyZ} {s : StyZ} (ho : outS ts.length h s = false) (hf : s.2.2.2 - s.2.2.1 ≠ wkOf ts s.2.1.toNat) : stayErr ts h L s = 3 := by
  unfold stayErr
  rw [ho, if_neg (by decide), if_pos hf]
theorem stayErr_hit {ts : List (Int × List Int)} {h : Nat} {L : List StyZ} {s : StyZ} (ho : outS ts.length h s = false) (hf : s.2.2.2 - s.2.2.1 = wkOf ts s.2.1.toNat) : stayErr ts h L s = if L.any (fun a => hitS a s) = true then 7 else 0 := by
  unfold stayErr
  rw [ho, if_neg (by decide), if_neg (fun h => h hf)]
end Go.Proofs.Ytkcpimbhfmhjgaa
