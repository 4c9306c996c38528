/- The document's own Plan: which task is wrong, and how. -/
import Derived.Test.YtilpjhhjlokfcaaDoorRf
namespace Go.Proofs.YtilpjhhjlokfcaaDoor
open Go.RowKit Go.Deep

theorem taskErr_work {wk : Int} {zs : List Int} {n : Int} (h : wk < 1 ∨ 20 < wk) : taskErr wk zs n = 1 := by unfold taskErr; rw [if_pos h]
theorem taskErr_range {wk : Int} {zs : List Int} {n y : Int} (hy : y ∈ zs) (h : inRange y n = false) : taskErr wk zs n = 1 := by
  unfold taskErr
  split
  · rfl
  · rw [if_pos (List.any_eq_true.2 ⟨y, hy, by rw [h]; rfl⟩)]
theorem taskErr_clash {wk : Int} {zs : List Int} {n : Int} (h : ¬ (wk < 1 ∨ 20 < wk)) (h2 : ∀ y, y ∈ zs → inRange y n = true) (h3 : rising zs = false) : taskErr wk zs n = 7 := by
  unfold taskErr
  rw [if_neg h, if_neg, if_neg (by rw [h3]; simp)]
  rw [List.any_eq_true]
  rintro ⟨y, hy, hx⟩
  rw [h2 y hy] at hx; simp at hx
theorem taskErr_none {wk : Int} {zs : List Int} {n : Int} (h : ¬ (wk < 1 ∨ 20 < wk)) (h2 : ∀ y, y ∈ zs → inRange y n = true) (h3 : rising zs = true) : taskErr wk zs n = 0 := by
  unfold taskErr
  rw [if_neg h, if_neg, if_pos h3]
  rw [List.any_eq_true]
  rintro ⟨y, hy, hx⟩
  rw [h2 y hy] at hx; simp at hx

set_option maxRecDepth 100000 in
set_option maxHeartbeats 8000000 in
theorem planR_any (v : Value) (ts : List (Int × List Int)) (w : World) (hp : PlanAt w v ts) :
    Calls Tryd.prog 21 #[v] w fun e w' => (∃ p q, e = .returned (.tuple #[.int .i64 p, .int .i64 q]) ∧ CheckIs ts p q) ∧ Below w.heap.size w w' := by
  have HP : Hid (PlanAt w v ts) := hp
  obtain ⟨hl, a, c, rfl, hp⟩ := hp
  by_cases hfull : 30 < ts.length
  · have hf' : (30 : Int) < (ts.length : Int) := by omega
    clear hp
    go_enter Tryd.func21, Tryd.ntmps21
    go_wp2
    go_ret2
    exact ⟨⟨0, 4, rfl, CheckIs.full hfull⟩, Below.refl _ _⟩
  have h30 : ts.length ≤ 30 := by omega
  have hf' : ¬ (30 : Int) < (ts.length : Int) := by omega
  go_enter Tryd.func21, Tryd.ntmps21
  go_wp2
  go_loopw [4] (fun s4 wr => ∃ k : Nat, k ≤ ts.length ∧ s4 = .int .i64 k ∧ Hid (∀ j, j < k → errOf ts j = 0) ∧ Below w.heap.size w wr) (fun s4 _ => ts.length - (intOf s4).toNat)
  case atStart => exact ⟨0, Nat.zero_le _, rfl, fun j hj => by omega, Below.refl _ _⟩
  case round =>
    obtain ⟨k, hk, rfl, hno, hb⟩ := hrel
    by_cases hkl : k < ts.length
    · rcases hp with rfl | ⟨b, o, rfl, hbl, hc⟩
      · simp at hkl
      obtain ⟨hc1, nv, hc2, hnl, na, nc, rfl, hns⟩ := hc k hkl
      have hc1' := (hb.cell (p := ⟨b, o + k * 2, none⟩) hbl).trans hc1
      have hc2' := (hb.cell (p := ⟨b, o + k * 2 + 1, none⟩) hbl).trans hc2
      have HEO : Hid (errOf ts k = taskErr (ts.getD k (0, [])).1 (needsOf ts k) ts.length) := rfl
      clear hc hc1 hc2
      generalize (ts.getD k (0, [])).1 = wk at *
      obtain ⟨w1, rfl⟩ : ∃ w1, w1 = wr := ⟨_, rfl⟩
      by_cases hw : wk < 1 ∨ 20 < wk
      · have HE1 : Hid (errOf ts k = 1) := by rw [HEO.out]; exact taskErr_work hw
        clear HEO hns
        rcases hw with hw | hw
        · go_wp2
          go_ret2
          exact ⟨⟨k, errOf ts k, by rw [HE1.out]; rfl, CheckIs.task k h30 hkl hno.out (by rw [HE1.out]; decide)⟩, hb.alloc hb.size _⟩
        · go_wp2
          go_ret2
          exact ⟨⟨k, errOf ts k, by rw [HE1.out]; rfl, CheckIs.task k h30 hkl hno.out (by rw [HE1.out]; decide)⟩, hb.alloc hb.size _⟩
      obtain ⟨hwa, hwb⟩ : ¬ wk < 1 ∧ ¬ 20 < wk := ⟨fun h => hw (Or.inl h), fun h => hw (Or.inr h)⟩
      go_wp2
      have HW : Hid (¬ (wk < 1 ∨ 20 < wk)) := hw
      have hbW : Below w.heap.size w (w1.alloc (.cells #[.int .i64 wk, .slice na (needsOf ts k).length nc] 51)) := hb.alloc hb.size _
      have hcA : (w1.alloc (.cells #[.int .i64 wk, .slice na (needsOf ts k).length nc] 51)).cell? ⟨w1.heap.size, 1, none⟩ = some (.slice na (needsOf ts k).length nc) := by simp
      have hszA : w1.heap.size < (w1.alloc (.cells #[.int .i64 wk, .slice na (needsOf ts k).length nc] 51)).heap.size := by simp
      clear hc1' hc2' hw hb
      generalize w1.alloc (.cells #[.int .i64 wk, .slice na (needsOf ts k).length nc] 51) = W1 at *
      generalize w1.heap.size = N1 at *
      go_loopw [6] (fun s6 wr => ∃ j : Nat, j ≤ (needsOf ts k).length ∧ s6 = .int .i64 j ∧ Hid (∀ y, y ∈ (needsOf ts k).take j → (!inRange y ts.length) = false) ∧ Below W1.heap.size W1 wr) (fun s6 _ => (needsOf ts k).length - (intOf s6).toNat)
      case atStart => exact ⟨0, Nat.zero_le _, rfl, fun y hy => by simp at hy, Below.refl _ _⟩
      case round =>
        obtain ⟨j, hj, rfl, hin, hb⟩ := hrel
        have hB : Below w.heap.size w wr := hbW.trans (hb.mono hbW.size)
        have hcN := (hb.cell (p := ⟨N1, 1, none⟩) hszA).trans hcA
        by_cases hjl : j < (needsOf ts k).length
        · rcases hns with hns | ⟨nb, no, rfl, hnb, hnc⟩
          · rw [hns] at hjl; simp at hjl
          have hyc := (hB.cell (p := ⟨nb, no + j, none⟩) hnb).trans (hnc j hjl)
          have hym : (needsOf ts k).getD j 0 ∈ needsOf ts k := by rw [List.getD_eq_getElem?_getD, List.getElem?_eq_getElem hjl]; exact List.getElem_mem hjl
          have HS : Hid ((!inRange ((needsOf ts k).getD j 0) ts.length) = false → ∀ y, y ∈ (needsOf ts k).take (j + 1) → (!inRange y ts.length) = false) := fun h => take_succ_all (fun y => !inRange y ts.length) _ j hjl hin.out h
          have HX : Hid (inRange ((needsOf ts k).getD j 0) ts.length = false → errOf ts k = 1) := fun h => by rw [HEO.out]; exact taskErr_range hym h
          clear hnc hym
          generalize (needsOf ts k).getD j 0 = y at *
          by_cases hy0 : y < 0
          · have HE1 : Hid (errOf ts k = 1) := HX.out (by unfold inRange; simp; omega)
            go_wp2
            go_ret2
            exact ⟨⟨k, errOf ts k, by rw [HE1.out]; rfl, CheckIs.task k h30 hkl hno.out (by rw [HE1.out]; decide)⟩, hB⟩
          by_cases hyn : (ts.length : Int) ≤ y
          · have HE1 : Hid (errOf ts k = 1) := HX.out (by unfold inRange; simp; omega)
            go_wp2
            go_ret2
            exact ⟨⟨k, errOf ts k, by rw [HE1.out]; rfl, CheckIs.task k h30 hkl hno.out (by rw [HE1.out]; decide)⟩, hB⟩
          have HNX : Hid (∀ y, y ∈ (needsOf ts k).take (j + 1) → (!inRange y ts.length) = false) := HS.out (by unfold inRange; simp; omega)
          clear HS HX
          go_wp2
          go_roundw
          case rel => exact ⟨j + 1, by omega, by go_num, HNX, hb⟩
          case measure => simp [intOf]; omega
        · have HIN : Hid (∀ y, y ∈ needsOf ts k → inRange y ts.length = true) := fun y hy => by
            have := hin.out y (by rw [List.take_of_length_le (by omega)]; exact hy)
            simpa using this
          go_wp2
          clear hcN
          go_loopw [7] (fun s7 wr => ∃ j : Nat, 1 ≤ j ∧ (j ≤ (needsOf ts k).length ∨ j = 1) ∧ s7 = .int .i64 j ∧ Hid (∀ t, t + 1 < j → (needsOf ts k).getD t 0 < (needsOf ts k).getD (t + 1) 0) ∧ Below W1.heap.size W1 wr) (fun s7 _ => (needsOf ts k).length - (intOf s7).toNat)
          case atStart => exact ⟨1, Nat.le_refl _, Or.inr rfl, rfl, fun t ht => by omega, hb⟩
          case round =>
            clear hb hB hin
            obtain ⟨j, h1, hj, rfl, hri, hb⟩ := hrel
            have hB : Below w.heap.size w wr := hbW.trans (hb.mono hbW.size)
            have hcN := (hb.cell (p := ⟨N1, 1, none⟩) hszA).trans hcA
            by_cases hjl : j < (needsOf ts k).length
            · rcases hns with hns | ⟨nb, no, rfl, hnb, hnc⟩
              · rw [hns] at hjl; simp at hjl
              have hyc := (hB.cell (p := ⟨nb, no + j, none⟩) hnb).trans (hnc j hjl)
              have hxc := (hB.cell (p := ⟨nb, no + (j - 1), none⟩) hnb).trans (hnc (j - 1) (by omega))
              clear hnc
              generalize hy : (needsOf ts k).getD j 0 = y at hyc
              generalize hx : (needsOf ts k).getD (j - 1) 0 = x at hxc
              have HY : Hid ((needsOf ts k).getD j 0 = y) := hy
              have HX : Hid ((needsOf ts k).getD (j - 1) 0 = x) := hx
              clear hy hx hj
              go_wp2
              go_quiet (fail)
              go_wp2
              · have HE7 : errOf ts k = 7 := by
                  rw [HEO.out]
                  exact taskErr_clash HW.out HIN.out (rising_false _ j h1 hjl (by rw [HY.out, HX.out]; assumption))
                go_ret2
                exact ⟨⟨k, errOf ts k, by rw [HE7]; rfl, CheckIs.task k h30 hkl hno.out (by rw [HE7]; decide)⟩, ⟨hB.os, hB.tape, hB.output, hB.size, hB.block⟩⟩
              · go_roundw
                case rel =>
                  have hxy : x < y := by assumption
                  refine ⟨j + 1, by omega, Or.inl (by omega), by go_num, fun t ht => ?_, ⟨hb.os, hb.tape, hb.output, hb.size, hb.block⟩⟩
                  by_cases e : t + 1 = j
                  · subst e; rw [HY.out, show (needsOf ts k).getD t 0 = x from HX.out]; exact hxy
                  · exact hri.out t (by omega)
                case measure => simp [intOf]; omega
            · have HE0 : Hid (errOf ts k = 0) := by
                rw [HEO.out]
                exact taskErr_none HW.out HIN.out ((rising_iff _).2 (fun t ht => hri.out t (by omega)))
              clear hns
              go_wp2
              go_roundw
              case rel =>
                refine ⟨k + 1, by omega, by go_num, fun t ht => ?_, hB⟩
                by_cases e : t = k
                · subst e; exact HE0.out
                · exact hno.out t (by omega)
              case measure => simp [intOf]; omega
    · have hke : k = ts.length := by omega
      subst hke
      have HRG : Hid (InRange ts) := inRange_of hno.out
      have hab := aboveR_any _ ts wr (HP.out.later hb) h30 HRG.out
      clear hp
      go_wp2_with fail
      refine hab.mono ?_
      rintro e w2 ⟨⟨ov, bl, S, rfl, hm, hso, hfu⟩, hb2⟩
      clear hab
      have hB2 : Below w.heap.size w w2 := hb.trans (hb2.mono hb.size)
      have HM : Hid (Mat wr.heap.size ts.length w2 ov ts.length bl S) := hm
      have HRE : Hid (∀ j, j < ts.length → (S j j = true ↔ Reach ts j j)) := fun j hj => full_reach HRG.out hso hfu hj hj
      clear hm hso hfu hb2
      obtain ⟨N1, hN1⟩ : ∃ N1, N1 = wr.heap.size := ⟨_, rfl⟩
      rw [← hN1] at HM
      clear hN1
      go_wp2
      go_loopw [9] (fun s9 wr => ∃ i : Nat, i ≤ ts.length ∧ s9 = .int .i64 i ∧ Hid (∀ j, j < i → ¬ Reach ts j j) ∧ Below w2.heap.size w2 wr) (fun s9 _ => ts.length - (intOf s9).toNat)
      case atStart => exact ⟨0, Nat.zero_le _, rfl, fun j hj => by omega, Below.refl _ _⟩
      case round =>
        obtain ⟨i, hi, rfl, hnr, hb3⟩ := hrel
        have hB3 : Below w.heap.size w wr := hB2.trans (hb3.mono hB2.size)
        by_cases hil : i < ts.length
        · have hm := HM.out.later hb3
          obtain ⟨g, gc, hv, hg, hcell⟩ := hm.row hil
          subst hv
          have hgi := hcell i hil
          have hii := (hm.2.1 i hil).2.cell hil
          have hre := HRE.out i hil
          clear hm hcell
          cases hS : S i i
          · rw [hS] at hii hre
            have HNR : Hid (¬ Reach ts i i) := fun h => by have := hre.2 h; simp at this
            clear hre hS
            go_wp2
            go_roundw
            case rel =>
              refine ⟨i + 1, by omega, by go_num, fun j hj => ?_, hb3⟩
              by_cases e : j = i
              · subst e; exact HNR.out
              · exact hnr.out j (by omega)
            case measure => simp [intOf]; omega
          · rw [hS] at hii hre
            have HYR : Hid (Reach ts i i) := hre.1 rfl
            clear hre hS
            go_wp2
            go_ret2
            exact ⟨⟨i, 8, rfl, CheckIs.ring i h30 hno.out hil hnr.out HYR.out⟩, hB3⟩
        · have HNA : Hid (∀ j, j < ts.length → ¬ Reach ts j j) := fun j hj => hnr.out j (by omega)
          go_wp2
          go_ret2
          exact ⟨⟨0, 0, rfl, CheckIs.none h30 hno.out HNA.out⟩, hB3⟩
end Go.Proofs.YtilpjhhjlokfcaaDoor
