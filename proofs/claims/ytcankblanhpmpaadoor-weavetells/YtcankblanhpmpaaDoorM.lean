/- The contracts of yardsame.Ints, yardsame.Plan, yardref1.In, slices.Contains at []int, and plan.After. -/
import Derived.Test.YtcankblanhpmpaaDoorK
namespace Go.Proofs.YtcankblanhpmpaaDoor
open Go.RowKit Go.Deep

set_option maxHeartbeats 800000 in
theorem sameInts_any (v u : Value) (xs ys : List Int) (w : World) (hx : IntsAt w v xs) (hy : IntsAt w u ys) :
    Calls Tryd.prog 17 #[v, u] w fun e w' => e = .returned (.bool (decide (xs = ys))) ∧ ∃ n, w' = w.drewN n := by
  obtain ⟨hl, a, c, rfl, hx⟩ := hx
  obtain ⟨hl2, a2, c2, rfl, hy⟩ := hy
  by_cases hlen : xs.length = ys.length
  · have hne : ((xs.length : Int) != (ys.length : Int)) = false := by simp [hlen]
    rcases hx with rfl | ⟨b, o, rfl, hbl, hc⟩
    · have hyn : ys = [] := List.eq_nil_of_length_eq_zero hlen.symm
      subst hyn
      clear hy
      go_enter Tryd.func17, Tryd.ntmps17
      go_wp2
      refine wp_loop_rounds 1 ?_
      rw [rounds_succ]
      go_wp2
      go_ret
      exact ⟨rfl, 0, rfl⟩
    have HL : Hid (xs.length = ys.length) := hlen
    clear hlen
    go_enter Tryd.func17, Tryd.ntmps17
    go_wp2
    go_loopw [5] (fun i wr => ∃ k n : Nat, k ≤ xs.length ∧ i = .int .i64 k ∧ wr = w.drewN n ∧ Hid (∀ j, j < k → xs.getD j 0 = ys.getD j 0)) (fun i _ => xs.length - (intOf i).toNat)
    case atStart => exact ⟨0, 0, Nat.zero_le _, rfl, rfl, fun j hj => by omega⟩
    case round =>
      obtain ⟨k, n, hk, rfl, rfl, hno⟩ := hrel
      by_cases hkl : k < xs.length
      · rcases hy with rfl | ⟨b2, o2, rfl, hbl2, hc2⟩
        · have := HL.out; simp at this; subst this; simp at hkl
        have hkl2 : k < ys.length := by have := HL.out; omega
        have hck := hc k hkl
        have hck2 := hc2 k hkl2
        clear hc hc2
        generalize hyx : xs.getD k 0 = x at hck
        generalize hyy : ys.getD k 0 = y at hck2
        have HX : Hid (xs.getD k 0 = x) := hyx
        have HY : Hid (ys.getD k 0 = y) := hyy
        clear hyx hyy hk
        by_cases e : x = y
        · have he : (x != y) = false := by simp [e]
          have HE : Hid (x = y) := e
          clear e
          go_wp2
          go_quiet (fail)
          go_wp2
          go_roundw
          case rel =>
            refine ⟨k + 1, _, by omega, by go_num, rfl, fun j hj => ?_⟩
            by_cases ej : j = k
            · subst ej; rw [HX.out, HY.out]; exact HE.out
            · exact hno.out j (by omega)
          case measure => simp [intOf]; omega
        · have he : (x != y) = true := by simp [e]
          have HE : Hid (x ≠ y) := e
          clear e
          go_wp2
          go_quiet (fail)
          go_wp2
          go_ret
          refine ⟨ret_bool ?_, _, World.drewN_drewN _ _ _⟩
          symm
          rw [decide_eq_false_iff_not]
          intro h
          exact HE.out (by rw [← HX.out, ← HY.out, h])
      · go_wp2
        go_ret
        refine ⟨ret_bool ?_, _, rfl⟩
        symm
        rw [decide_eq_true_iff]
        refine List.ext_getElem HL.out fun j h1 h2 => ?_
        have := hno.out j (by omega)
        rwa [List.getD_eq_getElem?_getD, List.getElem?_eq_getElem h1, List.getD_eq_getElem?_getD, List.getElem?_eq_getElem h2] at this
  · have hne : ((xs.length : Int) != (ys.length : Int)) = true := by simp; omega
    have HL : Hid (xs.length ≠ ys.length) := hlen
    clear hlen hx hy
    go_enter Tryd.func17, Tryd.ntmps17
    go_wp2
    go_ret
    refine ⟨ret_bool ?_, 0, rfl⟩
    symm
    rw [decide_eq_false_iff_not]
    intro h
    exact HL.out (by rw [h])

set_option maxRecDepth 100000 in
set_option maxHeartbeats 4000000 in
theorem samePlan_any (v u : Value) (xs ys : List (Int × List Int)) (w : World) (hx : PlanAt w v xs) (hy : PlanAt w u ys) :
    Calls Tryd.prog 9 #[v, u] w fun e w' => e = .returned (.bool (decide (xs = ys))) ∧ ∃ n, w' = w.drewN n := by
  obtain ⟨hl, a, c, rfl, hx⟩ := hx
  obtain ⟨hl2, a2, c2, rfl, hy⟩ := hy
  by_cases hlen : xs.length = ys.length
  · have hne : ((xs.length : Int) != (ys.length : Int)) = false := by simp [hlen]
    rcases hx with rfl | ⟨b, o, rfl, hbl, hc⟩
    · have hyn : ys = [] := List.eq_nil_of_length_eq_zero hlen.symm
      subst hyn
      clear hy
      go_enter Tryd.func9, Tryd.ntmps9
      go_wp2
      refine wp_loop_rounds 1 ?_
      rw [rounds_succ]
      go_wp2
      go_ret
      exact ⟨rfl, 0, rfl⟩
    have HL : Hid (xs.length = ys.length) := hlen
    clear hlen
    go_enter Tryd.func9, Tryd.ntmps9
    go_wp2
    go_loopw [5] (fun i wr => ∃ k n : Nat, k ≤ xs.length ∧ i = .int .i64 k ∧ wr = w.drewN n ∧ Hid (∀ j, j < k → xs.getD j (0, []) = ys.getD j (0, []))) (fun i _ => xs.length - (intOf i).toNat)
    case atStart => exact ⟨0, 0, Nat.zero_le _, rfl, rfl, fun j hj => by omega⟩
    case round =>
      obtain ⟨k, n, hk, rfl, hwr, hno⟩ := hrel
      have hbr : Below w.heap.size w wr := by subst hwr; exact ⟨rfl, rfl, rfl, Nat.le_refl _, fun _ _ => rfl⟩
      have HWR : Hid (wr = w.drewN n) := hwr
      clear hwr
      by_cases hkl : k < xs.length
      · rcases hy with rfl | ⟨b2, o2, rfl, hbl2, hc2⟩
        · have := HL.out; simp at this; subst this; simp at hkl
        have hkl2 : k < ys.length := by have := HL.out; omega
        obtain ⟨h1, n1, h2, h3⟩ := hc k hkl
        obtain ⟨h4, n2, h5, h6⟩ := hc2 k hkl2
        replace h1 := (hbr.cell (p := ⟨b, o + k * 2, none⟩) hbl).trans h1
        replace h2 := (hbr.cell (p := ⟨b, o + k * 2 + 1, none⟩) hbl).trans h2
        replace h4 := (hbr.cell (p := ⟨b2, o2 + k * 2, none⟩) hbl2).trans h4
        replace h5 := (hbr.cell (p := ⟨b2, o2 + k * 2 + 1, none⟩) hbl2).trans h5
        replace h3 := h3.later hbr
        replace h6 := h6.later hbr
        clear hc hc2
        obtain ⟨sa, sc, rfl⟩ : ∃ sa sc, n1 = .slice sa (needsOf xs k).length sc := by
          obtain ⟨_, sa, sc, h, _⟩ := h3
          exact ⟨sa, sc, h⟩
        obtain ⟨sa2, sc2, rfl⟩ : ∃ sa sc, n2 = .slice sa (needsOf ys k).length sc := by
          obtain ⟨_, sa, sc, h, _⟩ := h6
          exact ⟨sa, sc, h⟩
        have hsi := fun (W : World) (h : Below wr.heap.size wr W) => sameInts_any _ _ _ _ W (h3.later h) (h6.later h)
        have HP : Hid (xs.getD k (0, []) = ((xs.getD k (0, [])).1, needsOf xs k)) := rfl
        have HQ : Hid (ys.getD k (0, []) = ((ys.getD k (0, [])).1, needsOf ys k)) := rfl
        generalize (xs.getD k (0, [])).1 = wx at *
        generalize (ys.getD k (0, [])).1 = wy at *
        clear h3 h6
        by_cases hn : needsOf xs k = needsOf ys k
        · have hd : decide (needsOf xs k = needsOf ys k) = true := by simp [hn]
          rw [hd] at hsi
          have HN : Hid (needsOf xs k = needsOf ys k) := hn
          clear hn hd
          by_cases hw : wx = wy
          · have he : (wx != wy) = false := by simp [hw]
            have HW : Hid (wx = wy) := hw
            clear hw
            go_wp2
            go_quiet ((go_at_call 17; exact Calls.quiet_of (hsi _ ⟨rfl, rfl, rfl, Nat.le_refl _, fun _ _ => rfl⟩)))
            go_wp2
            go_quiet (fail)
            go_wp2
            go_roundw
            case rel =>
              refine ⟨k + 1, _, by omega, by go_num, by rw [HWR.out]; simp only [World.drewN_drewN]; rfl, fun j hj => ?_⟩
              by_cases ej : j = k
              · subst ej; rw [HP.out, HQ.out, HN.out, HW.out]
              · exact hno.out j (by omega)
            case measure => simp [intOf]; omega
          · have he : (wx != wy) = true := by simp [hw]
            have HW : Hid (wx ≠ wy) := hw
            clear hw
            go_wp2
            go_quiet ((go_at_call 17; exact Calls.quiet_of (hsi _ ⟨rfl, rfl, rfl, Nat.le_refl _, fun _ _ => rfl⟩)))
            go_wp2
            go_quiet (fail)
            go_wp2
            go_ret
            refine ⟨ret_bool ?_, _, by rw [HWR.out]; simp only [World.drewN_drewN]; rfl⟩
            symm
            rw [decide_eq_false_iff_not]
            intro h
            have := HP.out
            rw [h, HQ.out] at this
            exact HW.out (Prod.mk.inj this).1.symm
        · have hd : decide (needsOf xs k = needsOf ys k) = false := by simp [hn]
          rw [hd] at hsi
          have HN : Hid (needsOf xs k ≠ needsOf ys k) := hn
          clear hn hd
          go_wp2
          go_quiet ((go_at_call 17; exact Calls.quiet_of (hsi _ ⟨rfl, rfl, rfl, Nat.le_refl _, fun _ _ => rfl⟩)))
          go_wp2
          go_quiet (fail)
          go_wp2
          go_ret
          refine ⟨ret_bool ?_, _, by rw [HWR.out]; simp only [World.drewN_drewN]; rfl⟩
          symm
          rw [decide_eq_false_iff_not]
          intro h
          exact HN.out (by rw [h])
      · go_wp2
        go_ret
        refine ⟨ret_bool ?_, _, HWR.out⟩
        symm
        rw [decide_eq_true_iff]
        refine List.ext_getElem HL.out fun j h1 h2 => ?_
        have := hno.out j (by omega)
        rwa [List.getD_eq_getElem?_getD, List.getElem?_eq_getElem h1, List.getD_eq_getElem?_getD, List.getElem?_eq_getElem h2] at this
  · have hne : ((xs.length : Int) != (ys.length : Int)) = true := by simp; omega
    have HL : Hid (xs.length ≠ ys.length) := hlen
    clear hlen hx hy
    go_enter Tryd.func9, Tryd.ntmps9
    go_wp2
    go_ret
    refine ⟨ret_bool ?_, 0, rfl⟩
    symm
    rw [decide_eq_false_iff_not]
    intro h
    exact HL.out (by rw [h])
end Go.Proofs.YtcankblanhpmpaaDoor
