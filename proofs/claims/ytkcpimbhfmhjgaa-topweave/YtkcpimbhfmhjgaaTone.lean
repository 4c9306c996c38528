/- The whole's own fact: yardtop.one. -/
import Derived.Test.YtkcpimbhfmhjgaaPe
namespace Go.Proofs.Ytkcpimbhfmhjgaa
open Go.RowKit Go.Deep

/-- The whole's own plan: one task, and one that needs it. -/
def toneTs : List (Int × List Int) := [(1, []), (2, [0])]
theorem tone_check : CheckIs toneTs 0 0 := by
  have hneed : ∀ x y, Need toneTs x y → y < x := fun x y h => by
    unfold Need needsOf toneTs at h
    match x with
    | 0 => simp at h
    | 1 => simp at h; omega
    | n + 2 => simp at h
  refine CheckIs.none (by decide) (fun j hj => ?_) (fun j _ h => ?_)
  · have : j < 2 := hj
    rcases (by omega : j = 0 ∨ j = 1) with rfl | rfl <;> decide
  · have hlt : ∀ n x y, ReachN toneTs n x y → y < x := by
      intro n
      induction n with
      | zero => exact fun x y h => hneed x y h
      | succ n ih =>
        rintro x y ⟨z, h1, h2⟩
        have := ih x z h1
        have := hneed z y h2
        omega
    obtain ⟨n, h⟩ := h
    have := hlt n j j h
    omega
theorem tone_plan (w : World) : PlanAt ((w.alloc (.cells #[.int .i64 0] 3)).alloc (.cells #[.int .i64 1, .slice none 0 0, .int .i64 2, .slice (some ⟨w.heap.size, 0, none⟩) 1 1] 45)) (.slice (some ⟨w.heap.size + 1, 0, none⟩) 2 2) toneTs := by
  have hb : ((w.alloc (.cells #[.int .i64 0] 3)).alloc (.cells #[.int .i64 1, .slice none 0 0, .int .i64 2, .slice (some ⟨w.heap.size, 0, none⟩) 1 1] 45)).heap[w.heap.size + 1]? = some (.cells #[.int .i64 1, .slice none 0 0, .int .i64 2, .slice (some ⟨w.heap.size, 0, none⟩) 1 1] 45 (0, 0)) := by
    have := blk_alloc_new (w.alloc (.cells #[.int .i64 0] 3)) (.cells #[.int .i64 1, .slice none 0 0, .int .i64 2, .slice (some ⟨w.heap.size, 0, none⟩) 1 1] 45)
    rwa [nblk_alloc] at this
  have hb0 : ((w.alloc (.cells #[.int .i64 0] 3)).alloc (.cells #[.int .i64 1, .slice none 0 0, .int .i64 2, .slice (some ⟨w.heap.size, 0, none⟩) 1 1] 45)).heap[w.heap.size]? = some (.cells #[.int .i64 0] 3 (0, 0)) := by
    rw [blk_alloc_lt _ _ _ (by simp), blk_alloc_new]
  generalize ((w.alloc (.cells #[.int .i64 0] 3)).alloc (.cells #[.int .i64 1, .slice none 0 0, .int .i64 2, .slice (some ⟨w.heap.size, 0, none⟩) 1 1] 45)) = W at hb hb0 ⊢
  have hl := (Array.getElem?_eq_some_iff.1 hb).1
  have hl0 := (Array.getElem?_eq_some_iff.1 hb0).1
  refine ⟨by decide, _, _, rfl, Or.inr ⟨w.heap.size + 1, 0, rfl, hl, fun k hk => ?_⟩⟩
  have hk2 : k < 2 := hk
  rcases (by omega : k = 0 ∨ k = 1) with rfl | rfl
  · refine ⟨by simp [World.cell?, hb, toneTs], _, by simp [World.cell?, hb]; rfl, ?_⟩
    exact ⟨by simp [needsOf, toneTs], none, 0, rfl, Or.inl rfl⟩
  · refine ⟨by simp [World.cell?, hb, toneTs], _, by simp [World.cell?, hb]; rfl, ?_⟩
    refine ⟨by simp [needsOf, toneTs], _, _, rfl, Or.inr ⟨w.heap.size, 0, rfl, hl0, fun j hj => ?_⟩⟩
    have hj1 : j < 1 := by simpa [needsOf, toneTs] using hj
    obtain rfl : j = 0 := by omega
    simp [World.cell?, hb0, needsOf, toneTs]
theorem tone_stops : Stops toneTs 2 3 := by
  refine ⟨fun k hk => ?_, by decide +kernel⟩
  match k, hk with
  | 0, _ => decide +kernel
  | 1, _ => decide +kernel
  | 2, _ => decide +kernel
theorem tgErr_none {h : Nat} (h1 : 1 ≤ h) (h6 : h ≤ 6) : gErr 0 (h : Int) = 0 := by
  unfold gErr
  rw [if_pos rfl, if_neg (by omega)]
/-- Where it is known when it ends. -/
theorem tlong_is {v : Value} {ts : List (Int × List Int)} {h s : Nat} {w : World} (hp : PlanAt w v ts) (hc : CheckIs ts 0 0) (h1 : 1 ≤ h) (h6 : h ≤ 6) (hs : Stops ts h s) :
    Calls Try.prog 13 #[v, .int .i64 h] w fun e w' => e = .returned (.tuple #[.int .i64 s, .nilIface]) ∧ Below w.heap.size w w' := by
  refine (long_any v ts h w hp).mono ?_
  rintro e w' ⟨hl, hb⟩
  rcases hl with ⟨p, q, hc', hq, _⟩ | ⟨_, _, _, s', hs', rfl⟩
  · rw [(CheckIs.det hc' hc).2, tgErr_none h1 h6] at hq
    exact absurd rfl hq
  · rw [Int.toNat_natCast] at hs'
    rw [hs'.det hs]
    exact ⟨rfl, hb⟩
set_option maxHeartbeats 1000000 in
theorem tone_any (w : World) : Calls Try.prog 4 #[] w fun e w' => e = .returned (.bool true) ∧ Below w.heap.size w w' := by
  have hp := tone_plan w
  have hlo := tlong_is (h := 2) hp tone_check (by omega) (by omega) tone_stops
  have hb0 : Below w.heap.size w ((w.alloc (.cells #[.int .i64 0] 3)).alloc (.cells #[.int .i64 1, .slice none 0 0, .int .i64 2, .slice (some ⟨w.heap.size, 0, none⟩) 1 1] 45)) := ((Below.refl _ _).alloc (Nat.le_refl _) _).alloc (by simp) _
  clear hp
  go_enter Try.func4, Try.ntmps4
  go_wp2_with (go_at_call 13; refine hlo.mono ?_; rintro e w1 ⟨rfl, hb1⟩)
  go_ret
  exact ⟨rfl, hb0.trans (hb1.mono hb0.size)⟩
end Go.Proofs.Ytkcpimbhfmhjgaa
