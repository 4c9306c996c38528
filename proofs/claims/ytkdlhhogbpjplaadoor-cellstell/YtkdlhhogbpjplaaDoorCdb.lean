/- The contract of the document's Do (written by cdb.py). -/
import Derived.Test.YtkdlhhogbpjplaaDoorCda
namespace Go.Proofs.YtkdlhhogbpjplaaDoor
open Go.RowKit Go.Deep

theorem dd_end {Q : Ending → World → Prop} {a : Act} {w w1 : World} {t n x : Int} {f : Bool} (hK : DoK w t n w1) (ht : a.tmps[4]? = some (.pointer (some ⟨w.heap.size + 1, 0, none⟩))) (hd : a.defers = [])
    (hq : ∀ w', Below w.heap.size w w' → Q (.returned (.agg #[.int .i64 x, .bool f])) w') : bodyPost Tryd.prog Tryd.f6 Q Exit.ret a ((w1.setCell ⟨w.heap.size + 1, 0, none⟩ (.int .i64 x)).setCell ⟨w.heap.size + 1, 1, none⟩ (.bool f)) := by
  obtain ⟨r0, r1, _⟩ := pair_cells (setP_block hK.blk.out (.int .i64 x) (.bool f))
  exact cell_ret rfl r0 r1 ht hd (hq _ ((hK.below.setCell (p := ⟨w.heap.size + 1, 0, none⟩) (by show _ ≤ w.heap.size + 1; omega) _).setCell (p := ⟨w.heap.size + 1, 1, none⟩) (by show _ ≤ w.heap.size + 1; omega) _))

set_option maxRecDepth 100000 in
set_option maxHeartbeats 2000000 in
theorem dDo_first (n : Int) (v : Value) (cs : List Cl) (w : World) (hc : CellsAt w v cs) :
    Calls Tryd.prog 6 #[.agg #[.int .i64 5, .int .i64 n], v] w fun e w' => e = .returned (clV (firstC n cs)) ∧ Below w.heap.size w w' := by
  have hK := DoK.of (Below.refl (w.heap.size + 2) (doW w 5 n))
  have hcW := hc.later (doW_below w 5 n)
  obtain ⟨hl, a, c, rfl, hcc⟩ := hcW
  have HW : Hid (doW w 5 n = (w.alloc (.cells #[.int .i64 5, .int .i64 n] 23)).alloc (.cells #[.int .i64 0, .bool false] 32)) := rfl
  clear hc
  go_enter Tryd.func6, Tryd.ntmps6
  go_wp2
  rw [← HW.out]
  have k1 := hK.a1
  have h1 := hK.c0
  have h2 := hK.c1
  have h3 := hK.f0
  have h4 := hK.f1
  clear HW
  generalize doW w 5 n = W at *
  go_loop [5] (fun s5 => ∃ k : Nat, k ≤ cs.length ∧ s5 = .int .i64 k ∧ Hid (∀ j, j < k → fltC cs j = true)) (fun s5 => cs.length - (intOf s5).toNat)
  case atStart => exact ⟨0, Nat.zero_le _, rfl, fun j hj => by omega⟩
  case round =>
    obtain ⟨k, hk, rfl, hno⟩ := hrel
    by_cases hkl : k < cs.length
    · rcases hcc with rfl | ⟨b, o, rfl, hbl, hc⟩
      · simp at hkl
      obtain ⟨hc1, hc2⟩ := hc k hkl
      clear hc
      cases hf : fltC cs k
      · have HE : Hid (firstC n cs = (numC cs k, false)) := firstC_hit n cs k hkl hf hno.out
        rw [hf] at hc2
        generalize numC cs k = x at *
        clear hf hno
        go_wp2
        exact dd_end hK rfl rfl (fun w' hb => ⟨by rw [HE.out]; rfl, hb⟩)
      · have HF : Hid (∀ j, j < k + 1 → fltC cs j = true) := fun j hj => by
          by_cases e : j = k
          · rw [e]; exact hf
          · exact hno.out j (by omega)
        rw [hf] at hc2
        clear hf hno
        go_wp2
        go_round
        case rel => exact ⟨k + 1, by omega, by go_num, HF⟩
        case measure => simp [intOf]; omega
    · have HE : Hid (firstC n cs = (n, false)) := firstC_miss n cs (fun j hj => hno.out j (by omega))
      clear hcc hno
      go_wp2
      exact dd_end hK rfl rfl (fun w' hb => ⟨by rw [HE.out]; rfl, hb⟩)

set_option maxRecDepth 100000 in
set_option maxHeartbeats 4000000 in
theorem dDo_1 (n : Int) (v : Value) (cs : List Cl) (w : World) (hc : CellsAt w v cs) (hn : fitsC n = true) (hr : ∀ c, c ∈ cs → cellErr c = 0) :
    Calls Tryd.prog 6 #[.agg #[.int .i64 1, .int .i64 n], v] w fun e w' => e = .returned (clV (foldV (foldC 1 n cs))) ∧ Below w.heap.size w w' := by
  have hK := DoK.of (Below.refl (w.heap.size + 2) (doW w 1 n))
  have hcW := hc.later (doW_below w 1 n)
  obtain ⟨hl, a, c, rfl, hcc⟩ := hcW
  have HW : Hid (doW w 1 n = (w.alloc (.cells #[.int .i64 1, .int .i64 n] 23)).alloc (.cells #[.int .i64 0, .bool false] 32)) := rfl
  have HR : Hid (∀ c, c ∈ cs → cellErr c = 0) := hr
  have HN : Hid (fitsC n = true) := hn
  clear hc hr hn
  go_enter Tryd.func6, Tryd.ntmps6
  go_wp2
  rw [← HW.out]
  have k0 := hK.a0
  have k1 := hK.a1
  have h1 := hK.c0
  have h2 := hK.c1
  have h3 := hK.f0
  have h4 := hK.f1
  clear HW
  generalize doW w 1 n = W at *
  go_loop [6, 7] (fun s6 s7 => ∃ (m : Int) (k : Nat), k ≤ cs.length ∧ s6 = .int .i64 m ∧ s7 = .int .i64 k ∧ Hid (fitsC m = true) ∧ Hid (foldC 1 n cs = foldC 1 m (cs.drop k))) (fun _ s7 => cs.length - (intOf s7).toNat)
  case atStart => exact ⟨n, 0, Nat.zero_le _, rfl, rfl, HN, by show _ = _; rw [List.drop_zero]⟩
  case round =>
    obtain ⟨m, k, hk, rfl, rfl, hm, hE⟩ := hrel
    by_cases hkl : k < cs.length
    · rcases hcc with rfl | ⟨b, o, rfl, hbl, hc⟩
      · simp at hkl
      obtain ⟨hc1, hc2⟩ := hc k hkl
      have hx := cellErr_zero.1 (HR.out _ (getD_mem (0, false) hkl))
      have HD : Hid (foldC 1 n cs = if fltC cs k = true then none else if fitsC (stepC 1 m (numC cs k)) = true then foldC 1 (stepC 1 m (numC cs k)) (cs.drop (k + 1)) else none) := by
        show _ = _
        rw [hE.out, drop_at (0, false) hkl]
        rfl
      have hxf : fitsC (numC cs k) = true := hx.1
      clear hc hx hE
      generalize numC cs k = x at *
      obtain ⟨m1, m2⟩ := fitsC_iff.1 hm.out
      obtain ⟨x1, x2⟩ := fitsC_iff.1 hxf
      cases hf : fltC cs k
      · rw [hf] at HD hc2
        clear hf
        obtain ⟨s, hs⟩ : ∃ s, s = m + x := ⟨_, rfl⟩
        have HSTEP : Hid (stepC 1 m x = s) := hs ▸ rfl
        have hsw : m + x = s := hs.symm
        clear hs
        by_cases hs1 : s < -1000000000
        · have HE : Hid (foldC 1 n cs = none) := by
            show _ = _
            rw [HD.out, if_neg (by simp), if_neg (by rw [HSTEP.out, fitsC_iff]; omega)]
          clear HD
          go_wp2
          exact dd_end hK rfl rfl (fun w' hb => ⟨by rw [HE.out]; rfl, hb⟩)
        · by_cases hs2 : 1000000000 < s
          · have HE : Hid (foldC 1 n cs = none) := by
              show _ = _
              rw [HD.out, if_neg (by simp), if_neg (by rw [HSTEP.out, fitsC_iff]; omega)]
            clear HD
            go_wp2
            exact dd_end hK rfl rfl (fun w' hb => ⟨by rw [HE.out]; rfl, hb⟩)
          · have HS : Hid (fitsC s = true) := fitsC_iff.2 (by omega)
            have HE : Hid (foldC 1 n cs = foldC 1 s (cs.drop (k + 1))) := by
              show _ = _
              rw [HD.out, if_neg (by simp), HSTEP.out, if_pos HS.out]
            clear HD
            go_wp2
            go_round
            case rel => exact ⟨s, k + 1, by omega, rfl, by go_num, HS, HE⟩
            case measure => simp [intOf]; omega
      · have HE : Hid (foldC 1 n cs = none) := by
          show _ = _
          rw [HD.out, hf, if_pos rfl]
        rw [hf] at hc2
        clear hf HD
        go_wp2
        exact dd_end hK rfl rfl (fun w' hb => ⟨by rw [HE.out]; rfl, hb⟩)
    · have HE : Hid (foldC 1 n cs = some m) := by
        show _ = _
        rw [hE.out, List.drop_of_length_le (by omega)]
        rfl
      clear hcc hE
      go_wp2
      exact dd_end hK rfl rfl (fun w' hb => ⟨by rw [HE.out]; rfl, hb⟩)

set_option maxRecDepth 100000 in
set_option maxHeartbeats 4000000 in
theorem dDo_2 (n : Int) (v : Value) (cs : List Cl) (w : World) (hc : CellsAt w v cs) (hn : fitsC n = true) (hr : ∀ c, c ∈ cs → cellErr c = 0) :
    Calls Tryd.prog 6 #[.agg #[.int .i64 2, .int .i64 n], v] w fun e w' => e = .returned (clV (foldV (foldC 2 n cs))) ∧ Below w.heap.size w w' := by
  have hK := DoK.of (Below.refl (w.heap.size + 2) (doW w 2 n))
  have hcW := hc.later (doW_below w 2 n)
  obtain ⟨hl, a, c, rfl, hcc⟩ := hcW
  have HW : Hid (doW w 2 n = (w.alloc (.cells #[.int .i64 2, .int .i64 n] 23)).alloc (.cells #[.int .i64 0, .bool false] 32)) := rfl
  have HR : Hid (∀ c, c ∈ cs → cellErr c = 0) := hr
  have HN : Hid (fitsC n = true) := hn
  clear hc hr hn
  go_enter Tryd.func6, Tryd.ntmps6
  go_wp2
  rw [← HW.out]
  have k0 := hK.a0
  have k1 := hK.a1
  have h1 := hK.c0
  have h2 := hK.c1
  have h3 := hK.f0
  have h4 := hK.f1
  clear HW
  generalize doW w 2 n = W at *
  go_loop [6, 7] (fun s6 s7 => ∃ (m : Int) (k : Nat), k ≤ cs.length ∧ s6 = .int .i64 m ∧ s7 = .int .i64 k ∧ Hid (fitsC m = true) ∧ Hid (foldC 2 n cs = foldC 2 m (cs.drop k))) (fun _ s7 => cs.length - (intOf s7).toNat)
  case atStart => exact ⟨n, 0, Nat.zero_le _, rfl, rfl, HN, by show _ = _; rw [List.drop_zero]⟩
  case round =>
    obtain ⟨m, k, hk, rfl, rfl, hm, hE⟩ := hrel
    by_cases hkl : k < cs.length
    · rcases hcc with rfl | ⟨b, o, rfl, hbl, hc⟩
      · simp at hkl
      obtain ⟨hc1, hc2⟩ := hc k hkl
      have hx := cellErr_zero.1 (HR.out _ (getD_mem (0, false) hkl))
      have HD : Hid (foldC 2 n cs = if fltC cs k = true then none else if fitsC (stepC 2 m (numC cs k)) = true then foldC 2 (stepC 2 m (numC cs k)) (cs.drop (k + 1)) else none) := by
        show _ = _
        rw [hE.out, drop_at (0, false) hkl]
        rfl
      have hxf : fitsC (numC cs k) = true := hx.1
      clear hc hx hE
      generalize numC cs k = x at *
      obtain ⟨m1, m2⟩ := fitsC_iff.1 hm.out
      obtain ⟨x1, x2⟩ := fitsC_iff.1 hxf
      cases hf : fltC cs k
      · rw [hf] at HD hc2
        clear hf
        by_cases hlt : m < x
        · obtain ⟨s, hs⟩ : ∃ s, s = x := ⟨_, rfl⟩
          have HSTEP : Hid (stepC 2 m x = s) := by show _ = _; rw [hs]; unfold stepC; rw [if_pos rfl, if_pos hlt]
          subst hs
          have HS : Hid (fitsC s = true) := fitsC_iff.2 (by omega)
          have HE : Hid (foldC 2 n cs = foldC 2 s (cs.drop (k + 1))) := by
            show _ = _
            rw [HD.out, if_neg (by simp), HSTEP.out, if_pos HS.out]
          clear HD HSTEP
          go_wp2
          go_round
          case rel => exact ⟨s, k + 1, by omega, rfl, by go_num, HS, HE⟩
          case measure => simp [intOf]; omega
        · obtain ⟨s, hs⟩ : ∃ s, s = m := ⟨_, rfl⟩
          have HSTEP : Hid (stepC 2 m x = s) := by show _ = _; rw [hs]; unfold stepC; rw [if_pos rfl, if_neg hlt]
          subst hs
          have HS : Hid (fitsC s = true) := fitsC_iff.2 (by omega)
          have HE : Hid (foldC 2 n cs = foldC 2 s (cs.drop (k + 1))) := by
            show _ = _
            rw [HD.out, if_neg (by simp), HSTEP.out, if_pos HS.out]
          clear HD HSTEP
          go_wp2
          go_round
          case rel => exact ⟨s, k + 1, by omega, rfl, by go_num, HS, HE⟩
          case measure => simp [intOf]; omega
      · have HE : Hid (foldC 2 n cs = none) := by
          show _ = _
          rw [HD.out, hf, if_pos rfl]
        rw [hf] at hc2
        clear hf HD
        go_wp2
        exact dd_end hK rfl rfl (fun w' hb => ⟨by rw [HE.out]; rfl, hb⟩)
    · have HE : Hid (foldC 2 n cs = some m) := by
        show _ = _
        rw [hE.out, List.drop_of_length_le (by omega)]
        rfl
      clear hcc hE
      go_wp2
      exact dd_end hK rfl rfl (fun w' hb => ⟨by rw [HE.out]; rfl, hb⟩)

set_option maxRecDepth 100000 in
set_option maxHeartbeats 4000000 in
theorem dDo_3 (n : Int) (v : Value) (cs : List Cl) (w : World) (hc : CellsAt w v cs) (hn : fitsC n = true) (hr : ∀ c, c ∈ cs → cellErr c = 0) :
    Calls Tryd.prog 6 #[.agg #[.int .i64 3, .int .i64 n], v] w fun e w' => e = .returned (clV (foldV (foldC 3 n cs))) ∧ Below w.heap.size w w' := by
  have hK := DoK.of (Below.refl (w.heap.size + 2) (doW w 3 n))
  have hcW := hc.later (doW_below w 3 n)
  obtain ⟨hl, a, c, rfl, hcc⟩ := hcW
  have HW : Hid (doW w 3 n = (w.alloc (.cells #[.int .i64 3, .int .i64 n] 23)).alloc (.cells #[.int .i64 0, .bool false] 32)) := rfl
  have HR : Hid (∀ c, c ∈ cs → cellErr c = 0) := hr
  have HN : Hid (fitsC n = true) := hn
  clear hc hr hn
  go_enter Tryd.func6, Tryd.ntmps6
  go_wp2
  rw [← HW.out]
  have k0 := hK.a0
  have k1 := hK.a1
  have h1 := hK.c0
  have h2 := hK.c1
  have h3 := hK.f0
  have h4 := hK.f1
  clear HW
  generalize doW w 3 n = W at *
  go_loop [6, 7] (fun s6 s7 => ∃ (m : Int) (k : Nat), k ≤ cs.length ∧ s6 = .int .i64 m ∧ s7 = .int .i64 k ∧ Hid (fitsC m = true) ∧ Hid (foldC 3 n cs = foldC 3 m (cs.drop k))) (fun _ s7 => cs.length - (intOf s7).toNat)
  case atStart => exact ⟨n, 0, Nat.zero_le _, rfl, rfl, HN, by show _ = _; rw [List.drop_zero]⟩
  case round =>
    obtain ⟨m, k, hk, rfl, rfl, hm, hE⟩ := hrel
    by_cases hkl : k < cs.length
    · rcases hcc with rfl | ⟨b, o, rfl, hbl, hc⟩
      · simp at hkl
      obtain ⟨hc1, hc2⟩ := hc k hkl
      have hx := cellErr_zero.1 (HR.out _ (getD_mem (0, false) hkl))
      have HD : Hid (foldC 3 n cs = if fltC cs k = true then none else if fitsC (stepC 3 m (numC cs k)) = true then foldC 3 (stepC 3 m (numC cs k)) (cs.drop (k + 1)) else none) := by
        show _ = _
        rw [hE.out, drop_at (0, false) hkl]
        rfl
      have hxf : fitsC (numC cs k) = true := hx.1
      clear hc hx hE
      generalize numC cs k = x at *
      obtain ⟨m1, m2⟩ := fitsC_iff.1 hm.out
      obtain ⟨x1, x2⟩ := fitsC_iff.1 hxf
      cases hf : fltC cs k
      · rw [hf] at HD hc2
        clear hf
        have hbd := stepC_bound (w := 3) hm.out hxf
        obtain ⟨s, hs⟩ : ∃ s, s = m * x := ⟨_, rfl⟩
        have HSTEP : Hid (stepC 3 m x = s) := by rw [hs]; rfl
        have hsw : m * x = s := hs.symm
        rw [show stepC 3 m x = s from HSTEP.out] at hbd
        clear hs
        by_cases hs1 : s < -1000000000
        · have HE : Hid (foldC 3 n cs = none) := by
            show _ = _
            rw [HD.out, if_neg (by simp), if_neg (by rw [HSTEP.out, fitsC_iff]; omega)]
          clear HD
          go_wp2
          exact dd_end hK rfl rfl (fun w' hb => ⟨by rw [HE.out]; rfl, hb⟩)
        · by_cases hs2 : 1000000000 < s
          · have HE : Hid (foldC 3 n cs = none) := by
              show _ = _
              rw [HD.out, if_neg (by simp), if_neg (by rw [HSTEP.out, fitsC_iff]; omega)]
            clear HD
            go_wp2
            exact dd_end hK rfl rfl (fun w' hb => ⟨by rw [HE.out]; rfl, hb⟩)
          · have HS : Hid (fitsC s = true) := fitsC_iff.2 (by omega)
            have HE : Hid (foldC 3 n cs = foldC 3 s (cs.drop (k + 1))) := by
              show _ = _
              rw [HD.out, if_neg (by simp), HSTEP.out, if_pos HS.out]
            clear HD
            go_wp2
            go_round
            case rel => exact ⟨s, k + 1, by omega, rfl, by go_num, HS, HE⟩
            case measure => simp [intOf]; omega
      · have HE : Hid (foldC 3 n cs = none) := by
          show _ = _
          rw [HD.out, hf, if_pos rfl]
        rw [hf] at hc2
        clear hf HD
        go_wp2
        exact dd_end hK rfl rfl (fun w' hb => ⟨by rw [HE.out]; rfl, hb⟩)
    · have HE : Hid (foldC 3 n cs = some m) := by
        show _ = _
        rw [hE.out, List.drop_of_length_le (by omega)]
        rfl
      clear hcc hE
      go_wp2
      exact dd_end hK rfl rfl (fun w' hb => ⟨by rw [HE.out]; rfl, hb⟩)

set_option maxRecDepth 100000 in
set_option maxHeartbeats 4000000 in
theorem dDo_4 (n : Int) (v : Value) (cs : List Cl) (w : World) (hc : CellsAt w v cs) (hn : fitsC n = true) (hr : ∀ c, c ∈ cs → cellErr c = 0) :
    Calls Tryd.prog 6 #[.agg #[.int .i64 4, .int .i64 n], v] w fun e w' => e = .returned (clV (endC 4 n (foldC 4 0 cs))) ∧ Below w.heap.size w w' := by
  have hK := DoK.of (Below.refl (w.heap.size + 2) (doW w 4 n))
  have hcW := hc.later (doW_below w 4 n)
  obtain ⟨hl, a, c, rfl, hcc⟩ := hcW
  have HW : Hid (doW w 4 n = (w.alloc (.cells #[.int .i64 4, .int .i64 n] 23)).alloc (.cells #[.int .i64 0, .bool false] 32)) := rfl
  have HR : Hid (∀ c, c ∈ cs → cellErr c = 0) := hr
  have HN : Hid (fitsC n = true) := hn
  clear hc hr hn
  go_enter Tryd.func6, Tryd.ntmps6
  go_wp2
  rw [← HW.out]
  have k0 := hK.a0
  have k1 := hK.a1
  have h1 := hK.c0
  have h2 := hK.c1
  have h3 := hK.f0
  have h4 := hK.f1
  clear HW
  generalize doW w 4 n = W at *
  go_loop [6, 7] (fun s6 s7 => ∃ (m : Int) (k : Nat), k ≤ cs.length ∧ s6 = .int .i64 m ∧ s7 = .int .i64 k ∧ Hid (fitsC m = true) ∧ Hid (foldC 4 0 cs = foldC 4 m (cs.drop k))) (fun _ s7 => cs.length - (intOf s7).toNat)
  case atStart => exact ⟨0, 0, Nat.zero_le _, rfl, rfl, rfl, by show _ = _; rw [List.drop_zero]⟩
  case round =>
    obtain ⟨m, k, hk, rfl, rfl, hm, hE⟩ := hrel
    by_cases hkl : k < cs.length
    · rcases hcc with rfl | ⟨b, o, rfl, hbl, hc⟩
      · simp at hkl
      obtain ⟨hc1, hc2⟩ := hc k hkl
      have hx := cellErr_zero.1 (HR.out _ (getD_mem (0, false) hkl))
      have HD : Hid (foldC 4 0 cs = if fltC cs k = true then none else if fitsC (stepC 4 m (numC cs k)) = true then foldC 4 (stepC 4 m (numC cs k)) (cs.drop (k + 1)) else none) := by
        show _ = _
        rw [hE.out, drop_at (0, false) hkl]
        rfl
      have hxf : fitsC (numC cs k) = true := hx.1
      clear hc hx hE
      generalize numC cs k = x at *
      obtain ⟨m1, m2⟩ := fitsC_iff.1 hm.out
      obtain ⟨x1, x2⟩ := fitsC_iff.1 hxf
      cases hf : fltC cs k
      · rw [hf] at HD hc2
        clear hf
        obtain ⟨s, hs⟩ : ∃ s, s = m + x := ⟨_, rfl⟩
        have HSTEP : Hid (stepC 4 m x = s) := hs ▸ rfl
        have hsw : m + x = s := hs.symm
        clear hs
        by_cases hs1 : s < -1000000000
        · have HE : Hid (foldC 4 0 cs = none) := by
            show _ = _
            rw [HD.out, if_neg (by simp), if_neg (by rw [HSTEP.out, fitsC_iff]; omega)]
          clear HD
          go_wp2
          exact dd_end hK rfl rfl (fun w' hb => ⟨by rw [HE.out]; rfl, hb⟩)
        · by_cases hs2 : 1000000000 < s
          · have HE : Hid (foldC 4 0 cs = none) := by
              show _ = _
              rw [HD.out, if_neg (by simp), if_neg (by rw [HSTEP.out, fitsC_iff]; omega)]
            clear HD
            go_wp2
            exact dd_end hK rfl rfl (fun w' hb => ⟨by rw [HE.out]; rfl, hb⟩)
          · have HS : Hid (fitsC s = true) := fitsC_iff.2 (by omega)
            have HE : Hid (foldC 4 0 cs = foldC 4 s (cs.drop (k + 1))) := by
              show _ = _
              rw [HD.out, if_neg (by simp), HSTEP.out, if_pos HS.out]
            clear HD
            go_wp2
            go_round
            case rel => exact ⟨s, k + 1, by omega, rfl, by go_num, HS, HE⟩
            case measure => simp [intOf]; omega
      · have HE : Hid (foldC 4 0 cs = none) := by
          show _ = _
          rw [HD.out, hf, if_pos rfl]
        rw [hf] at hc2
        clear hf HD
        go_wp2
        exact dd_end hK rfl rfl (fun w' hb => ⟨by rw [HE.out]; rfl, hb⟩)
    · have HE : Hid (foldC 4 0 cs = some m) := by
        show _ = _
        rw [hE.out, List.drop_of_length_le (by omega)]
        rfl
      clear hcc hE
      by_cases h0 : m = 0
      · subst h0
        go_wp2
        exact dd_end hK rfl rfl (fun w' hb => ⟨by rw [HE.out]; rfl, hb⟩)
      · have hsn := fun wx => size_any n wx HN.out
        have hsm := fun wx => size_any m wx hm.out
        have HT : Hid (endC 4 n (some m) = (n.tdiv m, false)) := by
          show _ = _
          unfold endC
          dsimp only
          rw [if_pos rfl, if_neg h0]
        have hz : (m == (0 : Int)) = false := by simp [h0]
        have HQ := tdiv_sizes n m
        obtain ⟨a1, a2⟩ := fitsC_iff.1 HN.out
        have hA : n.natAbs ≤ 1000000000 := by omega
        have hB : 1 ≤ m.natAbs := by omega
        have hdl : n.natAbs / m.natAbs ≤ 1000000000 := Nat.le_trans (Nat.div_le_self _ _) hA
        have htd : ((n.natAbs : Nat) : Int).tdiv ((m.natAbs : Nat) : Int) = ((n.natAbs / m.natAbs : Nat) : Int) := (Int.ofNat_tdiv _ _).symm
        generalize n.natAbs / m.natAbs = dq at *
        generalize n.natAbs = A at *
        generalize m.natAbs = B at *
        have HQ2 : Hid (n.tdiv m = if (decide (n < 0) != decide (m < 0)) = true then -((dq : Nat) : Int) else ((dq : Nat) : Int)) := HQ
        have hBz : ((B : Int) == (0 : Int)) = false := by simp; omega
        clear HQ h0
        by_cases e1 : n < 0
        · have dn : decide (n < 0) = true := decide_eq_true e1
          by_cases e2 : m < 0
          · have dm : decide (m < 0) = true := decide_eq_true e2
            have HR2 : Hid (endC 4 n (foldC 4 0 cs) = (((dq : Nat) : Int), false)) := by show _ = _; rw [HE.out, HT.out, HQ2.out]; simp [e1, e2]
            go_wp2_with (go_at_call 17; first | (refine (hsn _).mono ?_; clear hsn; rintro e w2 ⟨rfl, rfl⟩) | (refine (hsm _).mono ?_; rintro e w2 ⟨rfl, rfl⟩))
            all_goals exact dd_end hK rfl rfl (fun w' hb => ⟨by rw [HR2.out]; rfl, hb⟩)
          · have dm : decide (m < 0) = false := decide_eq_false e2
            have HR2 : Hid (endC 4 n (foldC 4 0 cs) = (-((dq : Nat) : Int), false)) := by show _ = _; rw [HE.out, HT.out, HQ2.out]; simp [e1, e2]
            go_wp2_with (go_at_call 17; first | (refine (hsn _).mono ?_; clear hsn; rintro e w2 ⟨rfl, rfl⟩) | (refine (hsm _).mono ?_; rintro e w2 ⟨rfl, rfl⟩))
            all_goals exact dd_end hK rfl rfl (fun w' hb => ⟨by rw [HR2.out]; rfl, hb⟩)
        · have dn : decide (n < 0) = false := decide_eq_false e1
          by_cases e2 : m < 0
          · have dm : decide (m < 0) = true := decide_eq_true e2
            have HR2 : Hid (endC 4 n (foldC 4 0 cs) = (-((dq : Nat) : Int), false)) := by show _ = _; rw [HE.out, HT.out, HQ2.out]; simp [e1, e2]
            go_wp2_with (go_at_call 17; first | (refine (hsn _).mono ?_; clear hsn; rintro e w2 ⟨rfl, rfl⟩) | (refine (hsm _).mono ?_; rintro e w2 ⟨rfl, rfl⟩))
            all_goals exact dd_end hK rfl rfl (fun w' hb => ⟨by rw [HR2.out]; rfl, hb⟩)
          · have dm : decide (m < 0) = false := decide_eq_false e2
            have HR2 : Hid (endC 4 n (foldC 4 0 cs) = (((dq : Nat) : Int), false)) := by show _ = _; rw [HE.out, HT.out, HQ2.out]; simp [e1, e2]
            go_wp2_with (go_at_call 17; first | (refine (hsn _).mono ?_; clear hsn; rintro e w2 ⟨rfl, rfl⟩) | (refine (hsm _).mono ?_; rintro e w2 ⟨rfl, rfl⟩))
            all_goals exact dd_end hK rfl rfl (fun w' hb => ⟨by rw [HR2.out]; rfl, hb⟩)

/-- What the document's op comes to. -/
theorem dDo_any (o : Opn) (v : Value) (cs : List Cl) (w : World) (hc : CellsAt w v cs) (ho : opErr o = 0) (hr : ∀ c, c ∈ cs → cellErr c = 0) :
    Calls Tryd.prog 6 #[opV o, v] w fun e w' => e = .returned (clV (doC o cs)) ∧ Below w.heap.size w w' := by
  obtain ⟨t, n⟩ := o
  obtain ⟨h1, h5, hn⟩ := opErr_zero.1 ho
  dsimp only at h1 h5 hn
  show Calls Tryd.prog 6 #[.agg #[.int .i64 t, .int .i64 n], v] w _
  have e : ∀ t : Int, t ≠ 4 → endC t n (foldC t n cs) = foldV (foldC t n cs) := fun t h4 => by
    unfold endC foldV
    cases foldC t n cs with
    | none => rfl
    | some m => dsimp only; rw [if_neg h4]
  have hcases : t = 1 ∨ t = 2 ∨ t = 3 ∨ t = 4 ∨ t = 5 := by omega
  unfold doC
  dsimp only
  rcases hcases with rfl | rfl | rfl | rfl | rfl
  · rw [if_neg (by decide), if_neg (by decide), e 1 (by decide)]; exact dDo_1 n v cs w hc hn hr
  · rw [if_neg (by decide), if_neg (by decide), e 2 (by decide)]; exact dDo_2 n v cs w hc hn hr
  · rw [if_neg (by decide), if_neg (by decide), e 3 (by decide)]; exact dDo_3 n v cs w hc hn hr
  · rw [if_neg (by decide), if_pos rfl]; exact dDo_4 n v cs w hc hn hr
  · rw [if_pos rfl]; exact dDo_first n v cs w hc
end Go.Proofs.YtkdlhhogbpjplaaDoor
