/- What a law knows between its calls; yardsame.Ints; the walk of PicksNone. -/
import Derived.Test.YtjomcnalmhgljaaDoorD
import Derived.Test.YtjomcnalmhgljaaDoorI
namespace Go.Proofs.YtjomcnalmhgljaaDoor
open Go.RowKit Go.Deep

/-- What the law knows between its calls: the memory that came is as it was, and there are picks. -/
structure Mem (C P : Nat) (ls : List Int) (u n0 : Nat) (w wx : World) : Prop where
  base : n0 = w.heap.size
  lo : n0 ≤ P
  lc : n0 ≤ C
  picks : Pk C P ls u wx
  keep : Below n0 w wx
theorem Mem.call {C P : Nat} {ls : List Int} {u u' n0 : Nat} {w wx wy : World} (h : Mem C P ls u n0 w wx) (hp : Pk C P ls u' wy) (hk : Kx (fun k => k = P) wx wy) : Mem C P ls u' n0 w wy :=
  ⟨h.base, h.lo, h.lc, hp, h.keep.trans (hk.below (fun j e => by have := h.lo; omega) (by rw [h.base]; exact h.keep.size))⟩

set_option maxHeartbeats 800000 in
theorem sameInts_any (v u : Value) (xs ys : List Int) (w : World) (hx : IntsAt w v xs) (hy : IntsAt w u ys) :
    Calls Tryd.prog 10 #[v, u] w fun e w' => e = .returned (.bool (decide (xs = ys))) ∧ ∃ n, w' = w.drewN n := by
  obtain ⟨hl, a, c, rfl, hx⟩ := hx
  obtain ⟨hl2, a2, c2, rfl, hy⟩ := hy
  by_cases hlen : xs.length = ys.length
  · have hne : ((xs.length : Int) != (ys.length : Int)) = false := by simp [hlen]
    rcases hx with rfl | ⟨b, o, rfl, hbl, hc⟩
    · have hyn : ys = [] := List.eq_nil_of_length_eq_zero hlen.symm
      subst hyn
      clear hy
      go_enter Tryd.func10, Tryd.ntmps10
      go_wp2
      refine wp_loop_rounds 1 ?_
      rw [rounds_succ]
      go_wp2
      go_ret
      exact ⟨rfl, 0, rfl⟩
    have HL : Hid (xs.length = ys.length) := hlen
    clear hlen
    go_enter Tryd.func10, Tryd.ntmps10
    go_wp2
    go_loopw [5] (fun i wr => ∃ k n : Nat, k ≤ xs.length ∧ i = .int .i64 k ∧ wr = w.drewN n ∧ Hid (∀ j, j < k → xs.getD j 0 = ys.getD j 0)) (fun i _ => xs.length - (intOf i).toNat)
    case atStart => exact ⟨0, 0, Nat.zero_le _, rfl, rfl, fun j hj => by omega⟩
    case round =>
      obtain ⟨k, n, hk, rfl, rfl, hno⟩ := hrel
      by_cases hkl : k < xs.length
      · rcases hy with rfl | ⟨b2, o2, rfl, hbl2, hc2⟩
        · have := HL.out; simp at this; subst this; simp at hkl
        have hkl2 : k < ys.length := by have := HL.out; omega
        have hck := hc k hkl
        have hck2 := hc2 k hkl2
        clear hc hc2
        generalize hyx : xs.getD k 0 = x at hck
        generalize hyy : ys.getD k 0 = y at hck2
        have HX : Hid (xs.getD k 0 = x) := hyx
        have HY : Hid (ys.getD k 0 = y) := hyy
        clear hyx hyy hk
        by_cases e : x = y
        · have he : (x != y) = false := by simp [e]
          have HE : Hid (x = y) := e
          clear e
          go_wp2
          go_quiet (fail)
          go_wp2
          go_roundw
          case rel =>
            refine ⟨k + 1, _, by omega, by go_num, rfl, fun j hj => ?_⟩
            by_cases ej : j = k
            · subst ej; rw [HX.out, HY.out]; exact HE.out
            · exact hno.out j (by omega)
          case measure => simp [intOf]; omega
        · have he : (x != y) = true := by simp [e]
          have HE : Hid (x ≠ y) := e
          clear e
          go_wp2
          go_quiet (fail)
          go_wp2
          go_ret
          refine ⟨ret_bool ?_, _, World.drewN_drewN _ _ _⟩
          symm
          rw [decide_eq_false_iff_not]
          intro h
          exact HE.out (by rw [← HX.out, ← HY.out, h])
      · go_wp2
        go_ret
        refine ⟨ret_bool ?_, _, rfl⟩
        symm
        rw [decide_eq_true_iff]
        refine List.ext_getElem HL.out fun j h1 h2 => ?_
        have := hno.out j (by omega)
        rwa [List.getD_eq_getElem?_getD, List.getElem?_eq_getElem h1, List.getD_eq_getElem?_getD, List.getElem?_eq_getElem h2] at this
  · have hne : ((xs.length : Int) != (ys.length : Int)) = true := by simp; omega
    have HL : Hid (xs.length ≠ ys.length) := hlen
    clear hlen hx hy
    go_enter Tryd.func10, Tryd.ntmps10
    go_wp2
    go_ret
    refine ⟨ret_bool ?_, 0, rfl⟩
    symm
    rw [decide_eq_false_iff_not]
    intro h
    exact HL.out (by rw [h])

theorem lit_one (w : World) (x : Int) : IntsAt (w.alloc (.cells #[.int .i64 x] 3)) (.slice (some ⟨w.heap.size, 0, none⟩) 1 1) [x] := by
  refine ⟨by simp, _, _, rfl, Or.inr ⟨w.heap.size, 0, rfl, by simp, fun k hk => ?_⟩⟩
  have hk' : k = 0 := by simpa using hk
  subst hk'
  have hh := heap_alloc_new w (.cells #[.int .i64 x] 3)
  simp only [World.cell?, hh]
  rfl

set_option maxRecDepth 100000 in
set_option maxHeartbeats 4000000 in
theorem none_law (n : Int) (w : World) (hT : Typed w) : Calls Tryd.prog 3 #[.int .i64 n] w fun e w' => e = .returned (.bool true) ∧ Below w.heap.size w w' := by
  have HT : Hid (Typed w) := hT
  clear hT
  have hnew := New_good _ _ _ (lit_one w 5) (fun a n c h => by cases h; omega) (by simp) (by simp)
  go_enter Tryd.func3, Tryd.ntmps3
  go_wp2_with fail
  refine hnew.mono ?_; clear hnew; rintro e w1 ⟨P1, rfl, hp1, hP1, hb1⟩
  have hb1' : Below w.heap.size w w1 := ((Below.refl w.heap.size w).alloc (Nat.le_refl _) _).trans (hb1.mono (by simp))
  have HM1 : Hid (Mem (w.heap.size + 1) P1 [5] 0 w.heap.size w w1) := ⟨rfl, by simp at hP1; omega, by omega, by simpa using hp1, hb1'⟩
  have hnext := Next_good _ P1 3 _ _ _ HM1.out.picks (by omega) (by omega)
  clear hp1 hP1 hb1 hb1'
  go_wp2_with fail
  refine hnext.mono ?_; clear hnext; rintro e w2 ⟨rfl, hp2, hk2, -⟩
  have HM2 : Hid (Mem (w.heap.size + 1) P1 [5] 1 w.heap.size w w2) := HM1.out.call hp2 hk2
  rw [show ((pk [5] 0 3 : Nat) : Int) = 2 by rfl]
  have HB : Hid (Below w.heap.size w w2) := HM2.out.keep
  clear hp2 hk2 HM1 HM2
  have hnew := New_good (.slice none 0 0) [] w2 ⟨by simp, none, 0, rfl, Or.inl rfl⟩ (fun a n c h => by cases h; omega) (by simp) (by simp)
  go_wp2_with fail
  refine hnew.mono ?_; clear hnew; rintro e w4 ⟨P, rfl, hp4, hP4, hb4⟩
  have h3 := HB.out.size
  have HM : Hid (Mem w2.heap.size P [] 0 w.heap.size w w4) := ⟨rfl, by omega, h3, hp4, HB.out.trans (hb4.mono h3)⟩
  clear hp4 hP4 hb4 HB
  by_cases hn : n < 1 ∨ 400 < n
  · have hnext := Next_bad P n w4 hn
    have herr := error_any 1 1 w4 (HT.out.later HM.out.keep)
    rw [errQ_some (by decide)] at herr
    unfold errV at hnext
    by_cases h1 : n < 1
    · clear hn
      go_wp2_with fail
      refine hnext.mono ?_; clear hnext; rintro e w5 ⟨rfl, rfl⟩
      go_wp2_with fail
      refine herr.mono ?_; clear herr; rintro e w6 ⟨rfl, hb⟩
      go_wp2
      go_ret
      exact ⟨rfl, HM.out.keep.trans (hb.mono HM.out.keep.size)⟩
    · have h2 : 400 < n := by omega
      clear hn
      go_wp2_with fail
      refine hnext.mono ?_; clear hnext; rintro e w5 ⟨rfl, rfl⟩
      go_wp2_with fail
      refine herr.mono ?_; clear herr; rintro e w6 ⟨rfl, hb⟩
      go_wp2
      go_ret
      exact ⟨rfl, HM.out.keep.trans (hb.mono HM.out.keep.size)⟩
  · obtain ⟨m, rfl⟩ : ∃ m : Nat, n = m := ⟨n.toNat, by omega⟩
    have hnext := Next_good _ P m _ _ _ HM.out.picks (by omega) (by omega)
    have g1 : ¬ (m : Int) < 1 := by omega
    have g2 : ¬ (400 : Int) < (m : Int) := by omega
    rw [show ((pk [] 0 m : Nat) : Int) = 0 by rfl] at hnext
    clear hn
    go_wp2_with fail
    refine hnext.mono ?_; clear hnext; rintro e w5 ⟨rfl, hp5, hk5, -⟩
    have HM5 : Hid (Mem w2.heap.size P [] 0 w.heap.size w w5) := HM.out.call hp5 hk5
    have hused := Used_any _ P _ _ _ HM5.out.picks
    clear hp5 hk5 HM
    go_wp2_with fail
    refine hused.mono ?_; clear hused; rintro e w6 ⟨rfl, rfl⟩
    go_wp2
    go_ret
    exact ⟨rfl, HM5.out.keep⟩
end Go.Proofs.YtjomcnalmhgljaaDoor
