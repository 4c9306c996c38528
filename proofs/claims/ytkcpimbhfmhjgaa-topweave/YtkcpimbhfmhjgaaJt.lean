/- The contract of judge.meets. -/
import Derived.Test.YtkcpimbhfmhjgaaJr
namespace Go.Proofs.Ytkcpimbhfmhjgaa
open Go.RowKit Go.Deep Go.Maps

/-- A set of moments, and one hand's from a step on to below another one. -/
def addS (S : Int → Int → Bool) (hd : Int) (f t : Nat) : Int → Int → Bool := fun x y => S x y || (decide (x = hd) && decide ((f : Int) ≤ y) && decide (y < (t : Int)))
theorem addS_same (S : Int → Int → Bool) (hd : Int) (f : Nat) (x y : Int) : addS S hd f f x y = S x y := by
  unfold addS
  have : (decide ((f : Int) ≤ y) && decide (y < (f : Int))) = false := by
    rw [Bool.eq_false_iff]
    intro h
    simp only [Bool.and_eq_true, decide_eq_true_eq] at h
    omega
  rw [Bool.and_assoc, this]; simp
theorem addS_next (S : Int → Int → Bool) (hd : Int) {f i : Nat} (h : f ≤ i) (x y : Int) : (addS S hd f i x y || (decide (x = hd) && decide (y = (i : Int)))) = addS S hd f (i + 1) x y := by
  unfold addS
  rw [Bool.eq_iff_iff]
  simp only [Bool.or_eq_true, Bool.and_eq_true, decide_eq_true_eq]
  constructor
  · rintro ((h1 | h1) | h1)
    · exact Or.inl h1
    · exact Or.inr ⟨h1.1, by omega⟩
    · exact Or.inr ⟨⟨h1.1, by omega⟩, by omega⟩
  · rintro (h1 | h1)
    · exact Or.inl (Or.inl h1)
    · by_cases e : y = (i : Int)
      · exact Or.inr ⟨h1.1.1, e⟩
      · exact Or.inl (Or.inr ⟨h1.1, by omega⟩)
theorem addS_at (S : Int → Int → Bool) (hd : Int) (f i : Nat) : addS S hd f i hd (i : Int) = S hd (i : Int) := by
  unfold addS
  have : decide ((i : Int) < (i : Int)) = false := by simp
  rw [this]; simp

/-- What meets tells. -/
def MeetOut (S : Int → Int → Bool) (hd : Int) (f t B n : Nat) (w : World) (e : Ending) (w' : World) : Prop :=
  w.grownBy w' (some B) ∧ ((e = .returned (.bool true) ∧ ∃ i : Nat, f ≤ i ∧ i < t ∧ S hd (i : Int) = true) ∨ (e = .returned (.bool false) ∧ (∀ i : Nat, f ≤ i → i < t → S hd (i : Int) = false) ∧ SeenM w' B (n + (t - f)) (addS S hd f t)))

theorem four_cells {w : World} {b : Nat} {a1 a2 a3 a4 : Value} {t : TypeId} (h : w.heap[b]? = some (.cells #[a1, a2, a3, a4] t (0, 0))) : w.cell? ⟨b, 0, none⟩ = some a1 ∧ w.cell? ⟨b, 1, none⟩ = some a2 ∧ w.cell? ⟨b, 2, none⟩ = some a3 ∧ w.cell? ⟨b, 3, none⟩ = some a4 :=
  ⟨by simp [World.cell?, h], by simp [World.cell?, h], by simp [World.cell?, h], by simp [World.cell?, h]⟩

set_option maxRecDepth 100000 in
set_option maxHeartbeats 2000000 in
theorem meets_any (S : Int → Int → Bool) (hd tk : Int) (f t B n : Nat) (w : World) (hs : SeenM w B n S) (hn : n ≤ 100000000) (hf : f ≤ t) (ht : t ≤ 10000) (wfh : (Lit.int .i64 hd).wf = true) :
    Calls Try.prog 29 #[.map (some B), .agg #[.int .i64 hd, .int .i64 tk, .int .i64 f, .int .i64 t]] w (MeetOut S hd f t B n w) := by
  have hBl := hs.lt
  have HS0 : Hid (SeenM (w.alloc (.cells #[.int .i64 hd, .int .i64 tk, .int .i64 f, .int .i64 t] 63)) B n S) := hs.of_block (Below.heap_alloc _ _ _ hBl)
  have HX0 : Hid ((w.alloc (.cells #[.int .i64 hd, .int .i64 tk, .int .i64 f, .int .i64 t] 63)).heap[w.heap.size]? = some (.cells #[.int .i64 hd, .int .i64 tk, .int .i64 f, .int .i64 t] 63 (0, 0))) := blk_alloc_new _ _
  have HG0 : Hid (w.grownBy (w.alloc (.cells #[.int .i64 hd, .int .i64 tk, .int .i64 f, .int .i64 t] 63)) (some B)) := World.grownBy_alloc _ _ _
  clear hs
  go_enter Try.func29, Try.ntmps29
  go_wp2
  generalize w.alloc (.cells #[.int .i64 hd, .int .i64 tk, .int .i64 f, .int .i64 t] 63) = W at *
  obtain ⟨X, hX⟩ : ∃ X, X = w.heap.size := ⟨_, rfl⟩
  rw [← hX] at HX0 ⊢
  have hBX : B < X := by omega
  clear hX
  go_loopw [5] (fun s5 wr => ∃ i : Nat, f ≤ i ∧ i ≤ t ∧ s5 = .int .i64 i ∧ Hid (∀ j : Nat, f ≤ j → j < i → S hd (j : Int) = false) ∧ Hid (SeenM wr B (n + (i - f)) (addS S hd f i)) ∧ Hid (W.grownBy wr (some B))) (fun s5 _ => t - (intOf s5).toNat)
  case atStart => exact ⟨f, Nat.le_refl _, hf, rfl, fun j h1 h2 => by omega, by rw [Nat.sub_self, Nat.add_zero]; exact HS0.out.congr (fun a b => (addS_same S hd f a b).symm), ⟨rfl, rfl, rfl, Nat.le_refl _, fun _ _ _ => rfl⟩⟩
  case round =>
    obtain ⟨i, hfi, hit, rfl, hno, hse, hgr⟩ := hrel
    have hX1 : wr.heap[X]? = some (.cells #[.int .i64 hd, .int .i64 tk, .int .i64 f, .int .i64 t] 63 (0, 0)) := (hgr.out.block _ (Array.getElem?_eq_some_iff.1 HX0.out).1 (by simp; omega)).trans HX0.out
    obtain ⟨hx0, hx1, hx2, hx3⟩ := four_cells hX1
    by_cases hlt : i < t
    · have c25 := again_any B (n + (i - f)) (addS S hd f i) hd (i : Int) wr (by omega) wfh (wfI (by omega) (by omega)) hse.out
      rw [addS_at] at c25
      have HNX : Hid (∀ w2, SeenM w2 B (n + (i - f) + 1) (fun x y => addS S hd f i x y || (decide (x = hd) && decide (y = (i : Int)))) → SeenM w2 B (n + (i + 1 - f)) (addS S hd f (i + 1))) := fun w2 h => by
        rw [show n + (i + 1 - f) = n + (i - f) + 1 by omega]
        exact h.congr (fun a b => addS_next S hd hfi a b)
      have HGX : Hid (∀ w2, wr.grownBy w2 (some B) → W.grownBy w2 (some B)) := fun w2 h => hgr.out.trans h
      cases hS : S hd (i : Int)
      · rw [hS] at c25
        have HN : Hid (∀ j : Nat, f ≤ j → j < i + 1 → S hd (j : Int) = false) := fun j h1 h2 => by
          by_cases e : j = i
          · subst e; exact hS
          · exact hno.out j h1 (by omega)
        clear hno hse hgr hX1
        go_wp2_with (go_at_call 47; refine c25.mono ?_; clear c25; rintro e w2 ⟨rfl, hs2, hg2⟩)
        go_roundw
        case rel => exact ⟨i + 1, by omega, by omega, by go_num, HN, HNX.out _ hs2, HGX.out _ hg2⟩
        case measure => simp [intOf]; omega
      · rw [hS] at c25
        have HE : Hid (∃ i : Nat, f ≤ i ∧ i < t ∧ S hd (i : Int) = true) := ⟨i, hfi, hlt, hS⟩
        clear hno hse hgr hX1
        go_wp2_with (go_at_call 47; refine c25.mono ?_; clear c25; rintro e w2 ⟨rfl, hs2, hg2⟩)
        go_ret
        exact ⟨HG0.out.trans (HGX.out _ hg2), Or.inl ⟨rfl, HE.out⟩⟩
    · obtain rfl : i = t := by omega
      clear hX1
      go_wp2
      go_ret
      exact ⟨HG0.out.trans hgr.out, Or.inr ⟨rfl, hno.out, hse.out⟩⟩
end Go.Proofs.Ytkcpimbhfmhjgaa
