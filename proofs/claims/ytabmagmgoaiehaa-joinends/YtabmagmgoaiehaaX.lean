/- The walk of JoinEnds. -/
import Derived.Test.YtabmagmgoaiehaaW
import Derived.Deep.CutRange
import Derived.Deep.CutBlock
namespace Go.Proofs.Ytabmagmgoaiehaa
open Go.RowKit Go.Deep

theorem nat_mod {z L : Nat} : ((z : Int)).tmod (L : Int) = ((z % L : Nat) : Int) := by
  rw [Int.tmod_eq_emod_of_nonneg (by omega)]; simp

set_option maxRecDepth 100000 in
set_option maxHeartbeats 8000000 in
theorem joinEnds_any (v : Value) (ts : List (Int × List Int)) (zs : List Int) (sa : Option Addr) (sc : Nat) (w : World) (hp : PlanAt w v ts) (hs : ∀ k, k < zs.length → ∃ b off, sa = some ⟨b, off, none⟩ ∧ b < w.heap.size ∧ w.cell? ⟨b, off + k, none⟩ = some (.int .i64 (zs.getD k 0))) :
    Calls Try.prog 3 #[v, .slice sa zs.length sc] w fun e w' => e = .returned (.bool true) ∧ Below w.heap.size w w' := by
  have HS : Hid (∀ k, k < zs.length → ∃ b off, sa = some ⟨b, off, none⟩ ∧ b < w.heap.size ∧ w.cell? ⟨b, off + k, none⟩ = some (.int .i64 (zs.getD k 0))) := hs
  have HP : Hid (PlanAt w v ts) := hp
  obtain ⟨hl, pa, pc, rfl, -⟩ := hp
  have hnew := new_good _ (chainTs 1 2) _ (lit_plan w) (chain_right (by omega))
  have HBL : Hid (Below w.heap.size w ((w.alloc (.cells #[.int .i64 0] 3)).alloc (.cells #[.int .i64 1, .slice none 0 0, .int .i64 1, .slice (some ⟨w.heap.size, 0, none⟩) 1 1] 31))) := ((Below.refl _ _).alloc (Nat.le_refl _) _).alloc (by simp) _
  clear hs
  go_enter Try.func3, Try.ntmps3
  go_wp2_with fail
  refine hnew.mono ?_
  clear hnew
  rintro e w1 ⟨J1, M1, A1, D1, C1, rfl, hJ1, hlow1, hb1⟩
  have HB1 : Hid (Below w.heap.size w w1) := HBL.out.trans (hb1.mono HBL.out.size)
  have hlow1' : w.heap.size ≤ M1 ∧ w.heap.size ≤ A1 ∧ w.heap.size ≤ D1 := by have := HBL.out.size; omega
  have hdo := done_good J1 M1 A1 D1 C1 (chainTs 1 2) (chain_right (by omega)).good (firstB 0) 0 w1 (by rw [firstB_zero]; exact hJ1) (by rw [chainTs_length]; omega) (chain_ready 2 0 (by omega))
  rw [firstB_mark, chain_newL] at hdo
  clear HBL hb1 hlow1 hJ1
  go_wp2_with fail
  refine hdo.mono ?_
  clear hdo
  rintro e w2 ⟨⟨fv, rfl, hfv⟩, hJ2, hk2⟩
  have HB2 : Hid (Below w.heap.size w w2) := HB1.out.trans (hk2.below (fun j e => by rcases e with e | e | e <;> omega) HB1.out.size)
  have hle := left_any J1 M1 A1 D1 C1 (chainTs 1 2) (firstB 1) w2 hJ2
  rw [chainTs_length, chain_unseen 2 1 (by omega)] at hle
  simp only [show (0 + 1 < 2) = True by simp, if_true] at hfv
  obtain ⟨fg, fc, rfl, _, hfg, _⟩ := hfv.full (by simp [intsOf])
  have hfcell := hfv.cell (k := 0) (by simp [intsOf])
  have hl1 : (intsOf [0 + 1]).length = 1 := rfl
  have hg1 : (intsOf [0 + 1]).getD 0 0 = 1 := rfl
  rw [hg1] at hfcell
  rw [hl1]
  clear hfv hl1 hg1 hk2 hJ2 HB1 hlow1'
  go_wp2_with fail
  refine hle.mono ?_
  clear hle
  rintro e w3 ⟨rfl, q3, rfl⟩
  have HB3 : Hid (Below w.heap.size w (w2.drewN q3)) := below_drewN HB2.out q3
  obtain ⟨W3, hW3⟩ : ∃ W3, W3 = w2.drewN q3 := ⟨_, rfl⟩
  rw [← hW3] at HB3 ⊢
  clear hW3 HB2 hfcell hfg
  obtain ⟨p, q, hc⟩ := check_exists ts
  have HP3 : Hid (PlanAt W3 (.slice pa ts.length pc) ts) := HP.out.later HB3.out
  by_cases hq : q = 0
  case neg =>
    have hnb := new_bad _ ts W3 HP3.out hc hq
    have hev := errV_some hq
    rw [hev] at hnb
    clear hc hev
    go_wp2_with (go_at_call 5; refine hnb.mono ?_; clear hnb; rintro e w4 ⟨rfl, hb4⟩)
    go_ret
    exact ⟨rfl, HB3.out.trans (hb4.mono HB3.out.size)⟩
  subst hq
  obtain ⟨rfl, h30, -⟩ := hc.ok rfl
  have HG : Hid (Good ts) := hc.good
  have hnew := new_good _ ts W3 HP3.out hc
  clear hc
  go_wp2_with fail
  refine hnew.mono ?_
  clear hnew
  rintro e w4 ⟨J, M, A, D, C, rfl, hJ, hlow, hb4⟩
  have hmk := fun wx => run_make_row' (P := Try.prog) 35 4 (.bool false) 1 Try.underlying35 Try.info4 rfl .i64 .i64 ts.length (by omega) (by omega) wx
  obtain ⟨T, hT⟩ : ∃ T, T = w4.heap.size := ⟨_, rfl⟩
  have hT' : w4.heap.size = T := hT.symm
  have HE0 : Hid (EM J M A D C T ts (fun _ => false) (fun _ => false) w (w4.alloc (.cells (madeCells #[.bool false] ts.length) 4))) := by
    have h3 := HB3.out.size
    have h4 := hb4.size
    exact ⟨Jn.later hJ ((Below.refl _ _).alloc (Nat.le_refl _) _), by rw [hT]; exact World.rowIs_made w4 (.bool false) ts.length 4, by omega, (HB3.out.trans (hb4.mono h3)).alloc (by omega) _⟩
  clear hJ hlow hb4 HB3 HP3 hT
  have hrd := ready_any J M A D C ts (fun _ => false) _ HE0.out.jn
  go_wp2_with fail
  refine hrd.mono ?_
  clear hrd hmk
  rintro e w5 ⟨⟨rv, rfl, hrv⟩, hb5⟩
  have HE5 : Hid (EM J M A D C T ts (fun _ => false) (markTo (fun _ => false) (readyTo ts (fun _ => false) ts.length) 0) w w5) := by rw [markTo_zero]; exact HE0.out.later hb5
  have HR5 : Hid (RowI (T + 1) w5 rv (intsOf (readyTo ts (fun _ => false) ts.length))) := hrv.mono (by simp; omega)
  obtain ⟨ra, rc, rfl⟩ := hrv.shape
  have hrl := readyTo_len ts (fun _ => false) ts.length
  rw [intsOf_length] at HR5 ⊢
  clear hrv hb5 HE0 hT'
  go_wp2
  go_loopw [12] (fun s12 wr => ∃ m : Nat, m ≤ (readyTo ts (fun _ => false) ts.length).length ∧ s12 = .int .i64 m ∧ Hid (EM J M A D C T ts (fun _ => false) (markTo (fun _ => false) (readyTo ts (fun _ => false) ts.length) m) w wr) ∧ Hid (RowI (T + 1) wr (.slice ra (readyTo ts (fun _ => false) ts.length).length rc) (intsOf (readyTo ts (fun _ => false) ts.length)))) (fun s12 _ => (readyTo ts (fun _ => false) ts.length).length - (intOf s12).toNat)
  case atStart => exact ⟨0, Nat.zero_le _, rfl, HE5, HR5⟩
  case round =>
    clear HE5 HR5
    obtain ⟨m, hm, rfl, hE, hR⟩ := hrel
    by_cases hml : m < (readyTo ts (fun _ => false) ts.length).length
    · obtain ⟨g, c', hv, hTg, hgl, _⟩ := hR.out.full (by rw [intsOf_length]; omega)
      simp only [Value.slice.injEq] at hv
      obtain ⟨rfl, hdum, rfl⟩ := hv
      clear hdum
      have hcell := hR.out.cell (k := m) (by rw [intsOf_length]; exact hml)
      rw [intsOf_getD] at hcell
      have hmem := mem_readyTo.1 (getD_mem hml)
      have hnot := markTo_not (td := fun _ => false) (readyTo_nodup ts (fun _ => false) ts.length) hml rfl
      have hE2 : Hid (EM J M A D C T ts (fun _ => false) (markTo (fun _ => false) (readyTo ts (fun _ => false) ts.length) (m + 1)) w (wr.setCell ⟨T, (readyTo ts (fun _ => false) ts.length).getD m 0, none⟩ (.bool true))) := by
        rw [← markTo_succ _ hml]; exact hE.out.mark _
      have hR2 : Hid (RowI (T + 1) (wr.setCell ⟨T, (readyTo ts (fun _ => false) ts.length).getD m 0, none⟩ (.bool true)) (.slice (some ⟨g, 0, none⟩) (readyTo ts (fun _ => false) ts.length).length rc) (intsOf (readyTo ts (fun _ => false) ts.length))) :=
        hR.out.of_blocks (fun b hb => Below.heap_setCell _ _ _ _ (by show b ≠ T; have := (hR.out.low hb).1; omega))
      have hcT := hE.out.row.cell hmem.1
      have hfT := hE.out.row.frozen ((readyTo ts (fun _ => false) ts.length).getD m 0)
      rw [hnot] at hcT
      have hy := hmem.1
      clear hnot hmem hR hE
      generalize (readyTo ts (fun _ => false) ts.length).getD m 0 = y at *
      have hy0 : ¬ (y : Int) < 0 := by omega
      have hyd : decide ((y : Int) < 0) = false := decide_eq_false hy0
      have hy1 : ¬ (ts.length : Int) ≤ (y : Int) := by omega
      have hgT : ¬ g = T := by omega
      go_wp2
      go_roundw
      case rel => exact ⟨m + 1, by omega, by go_num, hE2, hR2⟩
      case measure => simp [intOf]; omega
    · have hke : m = (readyTo ts (fun _ => false) ts.length).length := by omega
      have hml' : ¬ (m : Int) < ((readyTo ts (fun _ => false) ts.length).length : Int) := by omega
      have HE : Hid (EM J M A D C T ts (fun _ => false) (toldB ts (fun _ => false)) w wr) := by
        have := hE.out
        rw [hke] at this
        exact this.congr (fun k hk => by rw [markTo_all]; exact told_first hk)
      clear hE hR hke
      go_wp2
      go_loopw [13] (fun s13 wr => ∃ (i : Nat) (S : Nat → Bool), i ≤ ts.length ∧ s13 = .int .i64 i ∧ Hid (EM J M A D C T ts S (toldB ts S) w wr) ∧ Hid (Down ts S) ∧ Hid (unseen S ts.length + i = ts.length)) (fun s13 _ => ts.length - (intOf s13).toNat)
      case atStart => exact ⟨0, _, Nat.zero_le _, rfl, HE, Down.none ts, by show _ = _; rw [unseen_none]; omega⟩
      case round =>
        clear HE hml hml' hm hrl
        obtain ⟨i, S, hi, rfl, hE, hD, hU⟩ := hrel
        have hrd := ready_any J M A D C ts S wr hE.out.jn
        by_cases hil : i < ts.length
        · have hne := ready_some HG.out (S := S) (by have := hU.out; omega)
          have hLpos : 0 < (readyTo ts S ts.length).length := List.length_pos_iff.2 hne
          have hLle := readyTo_len ts S ts.length
          go_wp2_with fail
          refine hrd.mono ?_
          clear hrd
          rintro e w6 ⟨⟨rv, rfl, hrv⟩, hb6⟩
          obtain ⟨ra2, rc2, rfl⟩ := hrv.shape
          have hE6 := hE.out.later hb6
          have hTl := hE.out.row.lt
          have hR6 := hrv.mono (b' := T + 1) hTl
          rw [intsOf_length] at hR6 ⊢
          have hlf := left_any J M A D C ts S w6 hE6.jn
          obtain ⟨L, hL⟩ : ∃ L, L = (readyTo ts S ts.length).length := ⟨_, rfl⟩
          rw [← hL] at hLpos hLle hR6 ⊢
          have HL : Hid (L = (readyTo ts S ts.length).length) := hL
          have hLne : ((L : Int) == 0) = false := by simp; omega
          obtain ⟨U, hUe⟩ : ∃ U, U = unseen S ts.length := ⟨_, rfl⟩
          rw [← hUe] at hlf
          have hUi : (U : Int) = (ts.length : Int) - (i : Int) := by have := hU.out; omega
          have hUne : ((U : Int) != (ts.length : Int) - (i : Int)) = false := by simp; omega
          clear hrv hb6 hE hL hUe hne
          have hil' : (i : Int) < (ts.length : Int) := by omega
          go_upto_region 25 with (go_at_call 7; refine hlf.mono ?_; clear hlf; rintro e w7 ⟨rfl, q7, rfl⟩)
          have HE7 : Hid (EM J M A D C T ts S (toldB ts S) w (w6.drewN q7)) := hE6.later (below_drewN (Below.refl _ _) q7)
          have HR7 : Hid (RowI (T + 1) (w6.drewN q7) (.slice ra2 L rc2) (intsOf (readyTo ts S ts.length))) := hR6.of_blocks (fun _ _ => rfl)
          obtain ⟨W7, hW7⟩ : ∃ W7, W7 = w6.drewN q7 := ⟨_, rfl⟩
          rw [← hW7] at HE7 HR7 ⊢
          clear hW7 hE6 hR6 hUi hUne hLne
          go_cut [131] from 101 to 199 (fun s131 wx => ∃ bb : Bool, s131 = .bool bb ∧ Hid (bb = true → i < zs.length ∧ 0 ≤ zs.getD i 0) ∧ wx = W7)
          case first => as_aux_lemma =>
            by_cases hiz : i < zs.length
            · obtain ⟨sb, so, rfl, hsb, hsc⟩ := HS.out i hiz
              have hsc' := (HE7.out.below.cell (p := ⟨sb, so + i, none⟩) hsb).trans hsc
              have hiz' : (i : Int) < (zs.length : Int) := by omega
              have HZ : Hid (0 ≤ zs.getD i 0 → i < zs.length ∧ 0 ≤ zs.getD i 0) := fun h => ⟨hiz, h⟩
              clear hsc
              by_cases hz : 0 ≤ zs.getD i 0
              · have HZ2 : Hid (i < zs.length ∧ 0 ≤ zs.getD i 0) := HZ.out hz
                generalize zs.getD i 0 = z at *
                have hzd : decide (0 ≤ z) = true := decide_eq_true hz
                go_wp2
                go_meet
                exact ⟨true, rfl, fun _ => HZ2.out, rfl⟩
              · generalize zs.getD i 0 = z at *
                have hzd : decide (0 ≤ z) = false := decide_eq_false hz
                go_wp2
                go_meet
                exact ⟨false, rfl, (fun h => by simp at h), rfl⟩
            · have hiz' : ¬ (i : Int) < (zs.length : Int) := by omega
              go_wp2
              go_meet
              exact ⟨false, rfl, (fun h => by simp at h), rfl⟩
          case rest => as_aux_lemma =>
            obtain ⟨bb, rfl, hbb, rfl⟩ := hcut
            go_upto_if 131 with fail
            go_cut [14] from 101 to 199 (fun s14 wx => ∃ a : Nat, a < L ∧ s14 = .int .i64 a ∧ wx = wc)
            case first => as_aux_lemma =>
              cases bb
              · go_wp2
                go_meet
                exact ⟨0, hLpos, rfl, rfl⟩
              · obtain ⟨hiz, hz0⟩ := hbb.out rfl
                obtain ⟨sb, so, rfl, hsb, hsc⟩ := HS.out i hiz
                have hsc' := (HE7.out.below.cell (p := ⟨sb, so + i, none⟩) hsb).trans hsc
                clear hsc hbb
                generalize zs.getD i 0 = z at *
                obtain ⟨zn, rfl⟩ := Int.eq_ofNat_of_zero_le hz0
                have hmod := nat_mod (z := zn) (L := L)
                have hlt : zn % L < L := Nat.mod_lt _ hLpos
                have hiz' : (i : Int) < (zs.length : Int) := by omega
                go_wp2
                go_meet
                exact ⟨zn % L, hlt, by first | rfl | rw [hmod] | simp, rfl⟩
            case rest => as_aux_lemma =>
              obtain ⟨a, ha, rfl, rfl⟩ := hcut
              clear hbb
              have hal : a < (readyTo ts S ts.length).length := by have := HL.out; omega
              obtain ⟨g, c', hv, hTg, hgl, _⟩ := HR7.out.full (by rw [intsOf_length]; omega)
              simp only [Value.slice.injEq] at hv
              obtain ⟨rfl, hdum, rfl⟩ := hv
              clear hdum
              have hcell := HR7.out.cell (k := a) (by rw [intsOf_length]; exact hal)
              rw [intsOf_getD] at hcell
              have hmem := mem_readyTo.1 (getD_mem hal)
              generalize (readyTo ts S ts.length).getD a 0 = x at *
              have hxl := hmem.1
              have HX : Hid (readyB ts S x = true) := hmem.2
              have hst := state_good J M A D C ts S x wc HE7.out.jn hxl
              rw [stN_ready hmem.2] at hst
              clear hmem HR7 hal
              go_wp2_with fail
              refine hst.mono ?_
              clear hst hcell
              rintro e w8 ⟨rfl, hb8⟩
              have hE8 := HE7.out.later hb8
              have hdo := done_good J M A D C ts HG.out S x w8 hE8.jn hxl HX.out
              have HE8 : Hid (EM J M A D C T ts S (toldB ts S) w w8) := hE8
              clear hE8 hb8 HE7
              go_wp2_with fail
              refine hdo.mono ?_
              clear hdo
              rintro e w9 ⟨⟨mv, rfl, hmv⟩, hJ9, hk9⟩
              have HE9 : Hid (EM J M A D C T ts (mark S x) (markTo (toldB ts S) (newL ts S x) 0) w w9) := by rw [markTo_zero]; exact HE8.out.done hJ9 hk9
              have HR9 : Hid (RowI (T + 1) w9 mv (intsOf (newL ts S x))) := hmv.mono HE8.out.row.lt
              obtain ⟨ma, mc, rfl⟩ := hmv.shape
              rw [intsOf_length] at HR9 ⊢
              have hnl := newL_len ts S x
              have HSX : Hid (S x = false) := (ready_parts HX.out).1
              clear hmv hJ9 hk9 HE8
              go_wp2
              go_loopw [20] (fun s20 wr => ∃ m : Nat, m ≤ (newL ts S x).length ∧ s20 = .int .i64 m ∧ Hid (EM J M A D C T ts (mark S x) (markTo (toldB ts S) (newL ts S x) m) w wr) ∧ Hid (RowI (T + 1) wr (.slice ma (newL ts S x).length mc) (intsOf (newL ts S x)))) (fun s20 _ => (newL ts S x).length - (intOf s20).toNat)
              case atStart => exact ⟨0, Nat.zero_le _, rfl, HE9, HR9⟩
              case round =>
                clear HE9 HR9
                obtain ⟨m, hm, rfl, hE, hR⟩ := hrel
                by_cases hml : m < (newL ts S x).length
                · obtain ⟨g, c', hv, hTg, hgl, _⟩ := hR.out.full (by rw [intsOf_length]; omega)
                  simp only [Value.slice.injEq] at hv
                  obtain ⟨rfl, hdum, rfl⟩ := hv
                  clear hdum
                  have hcell := hR.out.cell (k := m) (by rw [intsOf_length]; exact hml)
                  rw [intsOf_getD] at hcell
                  obtain ⟨hy, hnt⟩ := told_new HG.out hD.out hxl HSX.out (getD_mem hml)
                  have hnot := markTo_not (newL_nodup ts S x) hml hnt
                  have hE2 : Hid (EM J M A D C T ts (mark S x) (markTo (toldB ts S) (newL ts S x) (m + 1)) w (wr.setCell ⟨T, (newL ts S x).getD m 0, none⟩ (.bool true))) := by
                    rw [← markTo_succ _ hml]; exact hE.out.mark _
                  have hR2 : Hid (RowI (T + 1) (wr.setCell ⟨T, (newL ts S x).getD m 0, none⟩ (.bool true)) (.slice (some ⟨g, 0, none⟩) (newL ts S x).length mc) (intsOf (newL ts S x))) :=
                    hR.out.of_blocks (fun b hb => Below.heap_setCell _ _ _ _ (by show b ≠ T; have := (hR.out.low hb).1; omega))
                  have hcT := hE.out.row.cell hy
                  have hfT := hE.out.row.frozen ((newL ts S x).getD m 0)
                  rw [hnot] at hcT
                  clear hnot hnt hR hE
                  generalize (newL ts S x).getD m 0 = y at *
                  have hy0 : ¬ (y : Int) < 0 := by omega
                  have hyd : decide ((y : Int) < 0) = false := decide_eq_false hy0
                  have hy1 : ¬ (ts.length : Int) ≤ (y : Int) := by omega
                  have hgT : ¬ g = T := by omega
                  go_wp2
                  go_roundw
                  case rel => exact ⟨m + 1, by omega, by go_num, hE2, hR2⟩
                  case measure => simp [intOf]; omega
                · have hke : m = (newL ts S x).length := by omega
                  have hml' : ¬ (m : Int) < ((newL ts S x).length : Int) := by omega
                  have HE : Hid (EM J M A D C T ts (mark S x) (toldB ts (mark S x)) w wr) := by
                    have := hE.out
                    rw [hke] at this
                    exact this.congr (fun k hk => by rw [markTo_all, told_step HG.out hD.out hxl HX.out hk])
                  have HD : Hid (Down ts (mark S x)) := hD.out.mark HX.out
                  have HU : Hid (unseen (mark S x) ts.length + (i + 1) = ts.length) := by
                    show _ = _
                    have h1 := unseen_mark S ts.length x hxl HSX.out
                    have h2 := hU.out
                    omega
                  clear hE hR hke
                  go_wp2
                  go_roundw
                  case rel => exact ⟨i + 1, mark S x, by omega, by go_num, HE, HD, HU⟩
                  case measure => simp [intOf]; omega
        · have hil' : ¬ (i : Int) < (ts.length : Int) := by omega
          have hu0 : unseen S ts.length = 0 := by have := hU.out; omega
          have hlf := left_any J M A D C ts S wr hE.out.jn
          rw [hu0] at hlf
          clear hrd
          go_wp2_with fail
          refine hlf.mono ?_
          clear hlf
          rintro e w7 ⟨rfl, q7, rfl⟩
          have HE7 : Hid (EM J M A D C T ts S (toldB ts S) w (wr.drewN q7)) := hE.out.later (below_drewN (Below.refl _ _) q7)
          have hrd := ready_any J M A D C ts S _ HE7.out.jn
          rw [ready_end hu0] at hrd
          clear hE hu0
          go_wp2_with fail
          refine hrd.mono ?_
          clear hrd
          rintro e w8 ⟨⟨rv, rfl, hrv⟩, hb8⟩
          obtain ⟨ra2, rc2, rfl⟩ := hrv.shape
          have hl0 : (intsOf []).length = 0 := rfl
          rw [hl0]
          clear hrv hl0
          go_wp2
          go_ret
          exact ⟨rfl, (HE7.out.later hb8).below⟩
end Go.Proofs.Ytabmagmgoaiehaa
