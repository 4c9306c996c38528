/- The contract of depth.onward. -/
import Derived.Test.YtefkglgccllbeaaDoorDm
namespace Go.Proofs.YtefkglgccllbeaaDoor
open Go.RowKit Go.Deep

theorem below_drewN {B : Nat} {a w : World} (h : Below B a w) (n : Nat) : Below B a (w.drewN n) := ⟨h.os, h.tape, h.output, h.size, h.block⟩

set_option maxRecDepth 100000 in
set_option maxHeartbeats 2000000 in
theorem onward_any (v tv : Value) (ts : List (Int × List Int)) (T : Nat → Int) (x : Nat) (w : World) (hp : PlanAt w v ts) (ht : IntsAt w tv (listOf T ts.length)) (hx : x < ts.length)
    (hT : ∀ x, 0 ≤ T x ∧ T x ≤ 600) (hw : ∀ x, x < ts.length → 1 ≤ wkOf ts x ∧ wkOf ts x ≤ 20) :
    Calls Tryd.prog 45 #[v, tv, .int .i64 x] w fun e w' => (∃ r, e = .returned (.int .i64 r) ∧ LeastIs ts.length (goesOn ts T (some x)) r) ∧ Below w.heap.size w w' := by
  obtain ⟨hl, a, c, rfl, hp⟩ := hp
  obtain ⟨hlt, ta, tc, rfl, htc⟩ := ht
  rw [listOf_length] at hlt htc ⊢
  rcases hp with rfl | ⟨b, o, rfl, hbl, hc⟩
  · simp at hx
  rcases htc with htc | ⟨tb, to, rfl, htbl, htc⟩
  · have := congrArg List.length htc
    rw [listOf_length, List.length_nil] at this
    omega
  have hcx := (hc x hx).1
  have htx := htc x hx
  rw [listOf_getD T hx] at htx
  have hTx := hT x
  have hwx := hw x hx
  have HG : Hid (∀ k, goesOn ts T (some x) k = (decide (T k = T x - (ts.getD x (0, [])).1) && (needsOf ts k).contains (x : Int))) := fun k => rfl
  unfold wkOf at hwx
  have HC : Hid (∀ k, k < ts.length → w.cell? ⟨b, o + k * 2, none⟩ = some (.int .i64 (ts.getD k (0, [])).1) ∧ ∃ nv, w.cell? ⟨b, o + k * 2 + 1, none⟩ = some nv ∧ IntsAt w nv (needsOf ts k)) := hc
  have HT : Hid (∀ k, k < ts.length → w.cell? ⟨tb, to + k, none⟩ = some (.int .i64 (T k))) := fun k hk => by have := htc k hk; rwa [listOf_getD T hk] at this
  clear hc htc hT hw
  generalize (ts.getD x (0, [])).1 = wx at *
  generalize T x = tx at *
  go_enter Tryd.func45, Tryd.ntmps45
  go_wp2
  go_quiet (fail)
  go_wp2
  go_loopw [22] (fun s22 wr => ∃ k : Nat, k ≤ ts.length ∧ s22 = .int .i64 k ∧ Below w.heap.size w wr ∧ Hid (∀ j, j < k → goesOn ts T (some x) j = false)) (fun s22 _ => ts.length - (intOf s22).toNat)
  case atStart => exact ⟨0, Nat.zero_le _, rfl, below_drewN (Below.refl _ _) _, fun j hj => by omega⟩
  case round =>
    clear hcx htx
    obtain ⟨k, hk, rfl, hB, hno⟩ := hrel
    by_cases hkl : k < ts.length
    · obtain ⟨hc1, nv, hc2, hin⟩ := HC.out k hkl
      obtain ⟨a2, c2, rfl⟩ : ∃ a2 c2, nv = .slice a2 (needsOf ts k).length c2 := by
        obtain ⟨_, a2, c2, h, _⟩ := hin
        exact ⟨a2, c2, h⟩
      have hc1' := (hB.cell (p := ⟨b, o + k * 2, none⟩) hbl).trans hc1
      have hc2' := (hB.cell (p := ⟨b, o + k * 2 + 1, none⟩) hbl).trans hc2
      have htk := (hB.cell (p := ⟨tb, to + k, none⟩) htbl).trans (HT.out k hkl)
      have htb2 : tb < wr.heap.size := Nat.lt_of_lt_of_le htbl hB.size
      have hBx : Below w.heap.size w (wr.alloc (.cells #[.int .i64 (ts.getD k (0, [])).1, .slice a2 (needsOf ts k).length c2] 30)) := hB.alloc hB.size _
      have hcf := contains_any _ (needsOf ts k) x _ (hin.later hBx)
      have hgk := HG.out k
      clear hc1 hc2 hin
      generalize (ts.getD k (0, [])).1 = wk at *
      have hmem : memB (needsOf ts k) x = (needsOf ts k).contains (x : Int) := by simp [memB]
      rw [← hmem] at hgk
      clear hmem
      by_cases hq : T k = tx - wx
      · rw [show decide (T k = tx - wx) = true from decide_eq_true hq, Bool.true_and] at hgk
        rw [hq] at htk
        have he : ((tx - wx) == (tx - wx)) = true := by simp
        clear hq
        cases hm : memB (needsOf ts k) x
        all_goals
          rw [hm] at hgk hcf
          have HF : Hid (goesOn ts T (some x) k = _) := hgk
          clear hgk hm
          go_wp2_with (go_at_call 38; refine hcf.mono ?_; rintro e w' ⟨rfl, rfl⟩)
        · go_roundw
          case rel =>
            refine ⟨k + 1, by omega, by go_num, hBx, fun j hj => ?_⟩
            by_cases e : j = k
            · subst e; exact HF.out
            · exact hno.out j (by omega)
          case measure => simp [intOf]; omega
        · go_ret
          exact ⟨⟨k, rfl, Or.inl ⟨k, hkl, hno.out, HF.out, rfl⟩⟩, hBx⟩
      · rw [show decide (T k = tx - wx) = false from decide_eq_false hq, Bool.false_and] at hgk
        have HF : Hid (goesOn ts T (some x) k = false) := hgk
        have he : (T k == (tx - wx)) = false := by simp [hq]
        clear hgk hq hcf
        generalize T k = tk at *
        go_wp2
        go_roundw
        case rel =>
          refine ⟨k + 1, by omega, by go_num, hBx, fun j hj => ?_⟩
          by_cases e : j = k
          · subst e; exact HF.out
          · exact hno.out j (by omega)
        case measure => simp [intOf]; omega
    · go_wp2
      go_ret
      exact ⟨⟨-1, rfl, Or.inr ⟨fun j hj => hno.out j (by omega), rfl⟩⟩, hB⟩
end Go.Proofs.YtefkglgccllbeaaDoor
