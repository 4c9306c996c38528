/- The walk of JoinPlays. -/
import Derived.Test.YtabmagmgoaiehaaDoorX
import Derived.Deep.CutRange
import Derived.Deep.CutBlock
namespace Go.Proofs.YtabmagmgoaiehaaDoor
open Go.RowKit Go.Deep

set_option maxRecDepth 100000 in
set_option maxHeartbeats 8000000 in
theorem joinPlays_any (v : Value) (ts : List (Int × List Int)) (zs : List Int) (sa : Option Addr) (sc : Nat) (i : Int) (w : World) (hp : PlanAt w v ts) (hs : ∀ k, k < zs.length → ∃ b off, sa = some ⟨b, off, none⟩ ∧ b < w.heap.size ∧ w.cell? ⟨b, off + k, none⟩ = some (.int .i64 (zs.getD k 0))) (hg : Typed w) :
    Calls Tryd.prog 3 #[v, .slice sa zs.length sc, .int .i64 i] w fun e w' => e = .returned (.bool true) ∧ Below w.heap.size w w' := by
  have HS : Hid (∀ k, k < zs.length → ∃ b off, sa = some ⟨b, off, none⟩ ∧ b < w.heap.size ∧ w.cell? ⟨b, off + k, none⟩ = some (.int .i64 (zs.getD k 0))) := hs
  have HP : Hid (PlanAt w v ts) := hp
  have HT : Hid (Typed w) := hg
  have hri := rightR_any v ts w hp
  obtain ⟨hl, pa, pc, rfl, -⟩ := hp
  clear hs hg
  go_enter Tryd.func3, Tryd.ntmps3
  go_wp2_with fail
  refine hri.mono ?_
  clear hri
  rintro e w1 ⟨⟨p, q, rfl, hc⟩, hb1⟩
  have hp1 := HP.out.later hb1
  by_cases hq : q = 0
  case neg =>
    have hqf : (q != 0) = true := by simp [hq]
    have hnb := new_bad _ ts w1 hp1 hc hq
    clear hc hp1
    go_wp2_with fail
    refine hnb.mono ?_
    clear hnb
    rintro e w2 ⟨rfl, hb2⟩
    have HB2 : Hid (Below w.heap.size w w2) := hb1.trans (hb2.mono hb1.size)
    have hme := error_any q q w2 (HT.out.later HB2.out)
    rw [show (q == q) = true by simp] at hme
    generalize errV q = ev at *
    clear hb1 hb2 hq
    go_wp2_with (go_at_call 6; refine hme.mono ?_; clear hme; rintro e w3 ⟨rfl, hb3⟩)
    go_ret
    exact ⟨rfl, HB2.out.trans (hb3.mono HB2.out.size)⟩
  subst hq
  obtain ⟨rfl, h30, -⟩ := hc.ok rfl
  have HG : Hid (Good ts) := hc.good
  have hnew := new_good _ ts w1 hp1 hc
  clear hc hp1
  go_wp2_with fail
  refine hnew.mono ?_
  clear hnew
  rintro e w2 ⟨J, M, A, D, C, rfl, hJ, hlow, hb2⟩
  have hs1 := hb1.size
  have HB2 : Hid (Below w.heap.size w w2) := hb1.trans (hb2.mono hs1)
  have hme := error_any 0 0 w2 (HT.out.later HB2.out)
  rw [errV_zero] at hme
  go_wp2_with fail
  refine hme.mono ?_
  clear hme
  rintro e w3 ⟨rfl, hb3⟩
  have hmk := fun wx => run_make_row' (P := Tryd.prog) 32 4 (.bool false) 1 Tryd.underlying32 Tryd.info4 rfl .i64 .i64 ts.length (by omega) (by omega) wx
  obtain ⟨T, hT⟩ : ∃ T, T = w3.heap.size := ⟨_, rfl⟩
  have hT' : w3.heap.size = T := hT.symm
  have HE0 : Hid (EM J M A D C T ts (fun _ => false) (fun _ => false) w (w3.alloc (.cells (madeCells #[.bool false] ts.length) 4))) := by
    have h2 := HB2.out.size
    have h3 := hb3.size
    exact ⟨Jn.later (Jn.later hJ hb3) ((Below.refl _ _).alloc (Nat.le_refl _) _), by rw [hT]; exact World.rowIs_made w3 (.bool false) ts.length 4, by omega, by have := (Jn.miss hJ).lt; have := Jn.ltA hJ; have := (Jn.done hJ).lt; omega, (HB2.out.trans (hb3.mono h2)).alloc (by omega) _⟩
  have HU0 : Hid (unseen (fun _ => false) ts.length = ts.length) := unseen_none _
  clear hJ hlow hb1 hb2 hb3 HB2 hT hs1
  go_wp2
  clear hmk hT'
  go_loopg [12, 13] 60 (fun gg s12 s13 wr => ∃ (k : Nat) (S : Nat → Bool), k ≤ 60 ∧ s12 = .int .i64 (unseen S ts.length : Nat) ∧ s13 = .int .i64 k ∧ Hid (EM J M A D C T ts S S w wr) ∧ Hid (Down ts S) ∧ 60 - k ≤ gg)
  case atStart => exact ⟨0, _, by omega, by rw [HU0.out], rfl, HE0, Down.none ts, by omega⟩
  case round =>
    clear HE0 HU0
    obtain ⟨k, S, hk, rfl, rfl, hE, hD, hgg⟩ := hrel
    obtain ⟨G, rfl⟩ : ∃ G, G = gk := ⟨_, rfl⟩
    by_cases hgo : k < zs.length ∧ k < 60
    · obtain ⟨hkl, hk60⟩ := hgo
      have hkl' : (k : Int) < (zs.length : Int) := by omega
      have hk60' : (k : Int) < 60 := by omega
      obtain ⟨sb, so, rfl, hsb, hsc⟩ := HS.out k hkl
      have HSC : Hid (∀ W, Below w.heap.size w W → W.cell? ⟨sb, so + k, none⟩ = some (.int .i64 (zs.getD k 0))) := fun W hB => (hB.cell (p := ⟨sb, so + k, none⟩) hsb).trans hsc
      clear hsc
      generalize zs.getD k 0 = z at HSC
      have hrd := readyR_any _ _ ts S wr (HP.out.later hE.out.below) HG.out.rng h30 (rowIs_bools hE.out.row)
      have hun : unseen S ts.length ≤ 30 := by have := unseen_le S ts.length; omega
      go_wp2_with fail
      refine hrd.mono ?_
      clear hrd
      rintro e w4 ⟨⟨ov, rfl, hov⟩, hb4⟩
      have HE4 : Hid (EM J M A D C T ts S S w w4) := hE.out.later hb4
      have HW4 : Hid (RowI (T + 1) w4 ov (intsOf (readyTo ts S ts.length))) := hov.mono hE.out.row.lt
      obtain ⟨wa, wb, rfl⟩ := hov.shape
      have hz4 := HSC.out w4 HE4.out.below
      clear hov hb4 hE
      obtain ⟨wl, hwl⟩ : ∃ wl, wl = intsOf (readyTo ts S ts.length) := ⟨_, rfl⟩
      rw [← hwl] at HW4 ⊢
      have HWL : Hid (wl = intsOf (readyTo ts S ts.length)) := hwl
      have hwl30 : wl.length ≤ 30 := by rw [hwl, intsOf_length]; have := readyTo_len ts S ts.length; omega
      clear hwl
      go_upto_region 14 with fail
      go_cut [75] from 49 to 193 (fun s75 wx => ∃ bb : Bool, s75 = .bool bb ∧ Hid (bb = true ↔ (z < 0 ∨ (ts.length : Int) ≤ z)) ∧ wx = w4)
      case first => as_aux_lemma =>
        by_cases hz0 : z < 0
        · have hzd : decide (z < 0) = true := decide_eq_true hz0
          go_wp2
          go_meet
          exact ⟨true, rfl, ⟨fun _ => Or.inl hz0, fun _ => rfl⟩, rfl⟩
        · have hzd : decide (z < 0) = false := decide_eq_false hz0
          by_cases hz1 : (ts.length : Int) ≤ z
          · have hzd1 : decide ((ts.length : Int) ≤ z) = true := decide_eq_true hz1
            go_wp2
            go_meet
            exact ⟨true, rfl, ⟨fun _ => Or.inr hz1, fun _ => rfl⟩, rfl⟩
          · have hzd1 : decide ((ts.length : Int) ≤ z) = false := decide_eq_false hz1
            go_wp2
            go_meet
            exact ⟨false, rfl, ⟨fun h => by simp at h, fun h => by omega⟩, rfl⟩
      case rest => as_aux_lemma =>
        obtain ⟨bb, rfl, hbb, rfl⟩ := hcut
        go_upto_if 75 with fail
        go_cut [7, 12, 16] from 49 to 193 (fun s7 s12 _ wx => ∃ (q : Int) (S' : Nat → Bool), s7 = .int .i64 q ∧ s12 = .int .i64 (unseen S' ts.length : Nat) ∧ Hid (DoCase ts S z q S') ∧ Hid (EM J M A D C T ts S S' w wx) ∧ Hid (RowI (T + 1) wx (.slice wa wl.length wb) wl))
        case first => as_aux_lemma =>
          cases bb
          · have hzr : ¬ (z < 0 ∨ (ts.length : Int) ≤ z) := fun h => by have := hbb.out.2 h; simp at this
            obtain ⟨x, rfl⟩ : ∃ x : Nat, z = x := ⟨z.toNat, by omega⟩
            have hxl : x < ts.length := by omega
            have hfr := freeR_any _ _ ts S x wc (HP.out.later HE4.out.below) hxl HG.out.rng (rowIs_bools HE4.out.row)
            clear hbb hzr
            go_wp2_with fail
            refine hfr.mono ?_
            clear hfr hz4
            rintro e w5 ⟨rfl, hb5⟩
            have HE5 : Hid (EM J M A D C T ts S S w w5) := HE4.out.later hb5
            have HW5 : Hid (RowI (T + 1) w5 (.slice wa wl.length wb) wl) := HW4.out.later hb5
            have hz5 := HSC.out w5 HE5.out.below
            have hcT := HE5.out.row.cell hxl
            have hfT := HE5.out.row.frozen x
            have HRB : Hid (readyB ts S x = (!S x && !missing ts S x)) := readyB_free ts S x
            have hsbT : ¬ sb = T := by have := HE5.out.low; omega
            clear HE4 HW4 hb5
            cases hSx : S x
            · rw [hSx] at hcT HRB
              cases hmi : missing ts S x
              · rw [hmi] at HRB
                have hum := unseen_mark S ts.length x hxl hSx
                have HE6 : Hid (EM J M A D C T ts S (mark S x) w (w5.setCell ⟨T, x, none⟩ (.bool true))) := HE5.out.mark x
                have HW6 : Hid (RowI (T + 1) (w5.setCell ⟨T, x, none⟩ (.bool true)) (.slice wa wl.length wb) wl) := HW5.out.of_blocks (fun b hb => Below.heap_setCell _ _ _ _ (by show b ≠ T; have := (HW5.out.low hb).1; omega))
                obtain ⟨U, hU⟩ : ∃ U, U = unseen (mark S x) ts.length := ⟨_, rfl⟩
                have HU : Hid (U = unseen (mark S x) ts.length) := hU
                rw [← hU] at hum
                rw [← hum] at hun ⊢
                clear hU hum HE5 HW5 hSx hmi
                go_wp2
                go_meet
                exact ⟨0, mark S x, rfl, by rw [← HU.out], Or.inr ⟨x, rfl, hxl, Or.inr ⟨rfl, HRB.out, rfl⟩⟩, HE6, HW6⟩
              · rw [hmi] at HRB
                clear hSx hmi
                go_wp2
                go_meet
                exact ⟨6, S, rfl, rfl, Or.inr ⟨x, rfl, hxl, Or.inl ⟨rfl, HRB.out, rfl⟩⟩, HE5, HW5⟩
            · rw [hSx] at hcT HRB
              generalize missing ts S x = mi at *
              clear hSx
              go_wp2
              go_meet
              exact ⟨6, S, rfl, rfl, Or.inr ⟨x, rfl, hxl, Or.inl ⟨rfl, HRB.out, rfl⟩⟩, HE5, HW5⟩
          · have hzr := hbb.out.1 rfl
            go_wp2
            go_meet
            exact ⟨1, S, rfl, rfl, Or.inl ⟨rfl, hzr, rfl⟩, HE4, HW4⟩
        case rest => as_aux_lemma =>
          obtain ⟨q, S', rfl, rfl, hDC, hE5, hW5⟩ := hcut
          clear hbb HE4 HW4 hz4
          have hun' : unseen S' ts.length ≤ 30 := by have := unseen_le S' ts.length; omega
          have hrd := readyR_any _ _ ts S' wc (HP.out.later hE5.out.below) HG.out.rng h30 (rowIs_bools hE5.out.row)
          go_wp2_with fail
          refine hrd.mono ?_
          clear hrd
          rintro e w6 ⟨⟨nv, rfl, hnv⟩, hb6⟩
          have HE6 : Hid (EM J M A D C T ts S S' w w6) := hE5.out.later hb6
          have HW6 : Hid (RowI (T + 1) w6 (.slice wa wl.length wb) wl) := hW5.out.later hb6
          have HN6 : Hid (RowI (T + 1) w6 nv (intsOf (readyTo ts S' ts.length))) := hnv.mono hE5.out.row.lt
          obtain ⟨na, nb, rfl⟩ := hnv.shape
          have hnl : (readyTo ts S' ts.length).length ≤ 30 := by have := readyTo_len ts S' ts.length; omega
          rw [intsOf_length] at HN6 ⊢
          clear hnv hb6 hE5 hW5
          go_wp2
          go_loopw [14, 18] (fun s14 s18 wr => ∃ m : Nat, m ≤ (readyTo ts S' ts.length).length ∧ s18 = .int .i64 m ∧ Hid (RowI w6.heap.size wr s14 (intsOf (((readyTo ts S' ts.length).take m).filter (fun k => !(readyTo ts S ts.length).contains k)))) ∧ Hid (Below w6.heap.size w6 wr)) (fun _ s18 _ => (readyTo ts S' ts.length).length - (intOf s18).toNat)
          case atStart => exact ⟨0, Nat.zero_le _, rfl, RowI.nil _ _, Below.refl _ _⟩
          case round =>
            obtain ⟨m, hm, rfl, hR, hB⟩ := hrel
            obtain ⟨ra, rb, rfl⟩ := hR.out.shape
            by_cases hml : m < (readyTo ts S' ts.length).length
            · obtain ⟨g, c', hv, hTg, hgl, _⟩ := HN6.out.full (by rw [intsOf_length]; omega)
              simp only [Value.slice.injEq] at hv
              obtain ⟨rfl, hdum, rfl⟩ := hv
              clear hdum
              have hcell := (hB.out.cell (p := ⟨g, m, none⟩) hgl).trans (HN6.out.cell (k := m) (by rw [intsOf_length]; exact hml))
              rw [intsOf_getD] at hcell
              have htake : Hid ((readyTo ts S' ts.length).take (m + 1) = (readyTo ts S' ts.length).take m ++ [(readyTo ts S' ts.length).getD m 0]) := nat_take_last hml
              have hlen : (intsOf (((readyTo ts S' ts.length).take m).filter (fun k => !(readyTo ts S ts.length).contains k))).length ≤ 30 := by
                rw [intsOf_length]
                have := List.length_filter_le (fun k => !(readyTo ts S ts.length).contains k) ((readyTo ts S' ts.length).take m)
                simp only [List.length_take] at this
                omega
              generalize (readyTo ts S' ts.length).getD m 0 = y at *
              have hin := in_any (.slice wa wl.length wb) wl (y : Int) wr ((HW6.out.later hB.out).ints (by omega))
              have hmb : memB wl (y : Int) = (readyTo ts S ts.length).contains y := by rw [HWL.out]; exact memB_ints _ _
              rw [hmb] at hin
              have HQ : Hid (intsOf (((readyTo ts S' ts.length).take (m + 1)).filter (fun k => !(readyTo ts S ts.length).contains k)) = intsOf (((readyTo ts S' ts.length).take m).filter (fun k => !(readyTo ts S ts.length).contains k)) ++ (if (readyTo ts S ts.length).contains y then [] else [(y : Int)])) := by
                show _ = _
                rw [htake.out, List.filter_append, intsOf_append]
                congr 1
                cases h : (readyTo ts S ts.length).contains y with
                | false => simp only [List.filter_cons, List.filter_nil, h, Bool.not_false, if_true]; rfl
                | true => simp only [List.filter_cons, List.filter_nil, h, Bool.not_true, Bool.false_eq_true, if_false]; rfl
              have HWr : Hid (wr.heap.size ≥ w6.heap.size) := hB.out.size
              have hT6 := HE6.out.row.lt
              clear hmb htake
              generalize (readyTo ts S ts.length).contains y = isin at *
              generalize intsOf (((readyTo ts S' ts.length).take m).filter (fun k => !(readyTo ts S ts.length).contains k)) = l at *
              cases isin
              · have HO : Hid (Rds (fun _ => True) (wr.alloc (.cells #[.int .i64 y] 3)) (.slice (some ⟨wr.heap.size, 0, none⟩) 1 1) [(y : Int)]) := one_rds wr y
                have hoa := hR.out.alloc (.cells #[.int .i64 y] 3)
                have hsz := hB.out.size
                go_wp2_with (first | (go_at_call 9; refine hin.mono ?_; clear hin; rintro e w7 ⟨rfl, rfl⟩) | (at_builtin; refine wpList_append_rows rfl (.tmp 119) (.tmp 124) rfl w6.heap.size (fun _ => True) (.slice ra l.length rb) (.slice (some ⟨_, 0, none⟩) 1 1) l [(y : Int)] rfl rfl hoa HO.out (by simp; omega) (by simp; omega) ?_; intro v2 w2 hown2 hgr2 hat2))
                have hB2 : Hid (Below w6.heap.size w6 w2) := (hB.out.alloc hsz _).grown hgr2 (by simp; omega) (fun j e => (hR.out.low e).1)
                have HN : Hid (RowI w6.heap.size w2 v2 (intsOf (((readyTo ts S' ts.length).take (m + 1)).filter (fun k => !(readyTo ts S ts.length).contains k)))) := by show RowI _ _ _ _; rw [HQ.out]; exact hown2
                clear hown2 hgr2 hat2 hoa HO hR hB
                go_wp2
                go_roundw
                case rel => exact ⟨m + 1, by omega, by go_num, HN, hB2⟩
                case measure => simp [intOf]; omega
              · have HN : Hid (RowI w6.heap.size wr (.slice ra l.length rb) (intsOf (((readyTo ts S' ts.length).take (m + 1)).filter (fun k => !(readyTo ts S ts.length).contains k)))) := by show RowI _ _ _ _; rw [HQ.out]; simpa using hR.out
                clear hR HQ
                go_wp2_with (first | (go_at_call 9; refine hin.mono ?_; clear hin; rintro e w7 ⟨rfl, rfl⟩))
                go_roundw
                case rel => exact ⟨m + 1, by omega, by go_num, HN, hB⟩
                case measure => simp [intOf]; omega
            · have hke : m = (readyTo ts S' ts.length).length := by omega
              have hml' : ¬ (m : Int) < ((readyTo ts S' ts.length).length : Int) := by omega
              have hR7 : RowI w6.heap.size wr (.slice ra (intsOf (((readyTo ts S' ts.length).take m).filter (fun k => !(readyTo ts S ts.length).contains k))).length rb) (intsOf (wantL ts S S')) := by
                have := hR.out
                rw [hke, List.take_length] at this ⊢
                exact this
              have hE7 := HE6.out.later hB.out
              have HE7 : Hid (EM J M A D C T ts S S' w wr) := hE7
              have HN7 : Hid (RowI (T + 1) wr (.slice na (readyTo ts S' ts.length).length nb) (intsOf (readyTo ts S' ts.length))) := HN6.out.later hB.out
              have HQ7 : Hid (RowI (T + 1) wr (.slice ra (intsOf (((readyTo ts S' ts.length).take m).filter (fun k => !(readyTo ts S ts.length).contains k))).length rb) (intsOf (wantL ts S S'))) := hR7.mono HE6.out.row.lt
              have hz7 := HSC.out wr hE7.below
              have hdo := done_case HG.out hD.out hDC.out hE7.jn
              have hwl2 : (intsOf (wantL ts S S')).length ≤ 30 := by
                rw [intsOf_length]
                have := List.length_filter_le (fun k => !(readyTo ts S ts.length).contains k) (readyTo ts S' ts.length)
                unfold wantL
                omega
              have HL2 : Hid (∀ u, u = wantL ts S S' → (intsOf u).length ≤ 1000) := fun u e => by rw [e]; omega
              have HD' : Hid (Down ts S') := hDC.out.down hD.out
              clear hR hke hR7 hE7 HN6 HW6 HE6 hB hm hD HWL hwl30
              generalize (intsOf (((readyTo ts S' ts.length).take m).filter (fun k => !(readyTo ts S ts.length).contains k))).length = rl at *
              go_wp2_with fail
              refine hdo.mono ?_
              clear hdo
              rintro e w8 ⟨⟨gv, rfl, hgv⟩, hJ8, hk8⟩
              have HE8 : Hid (EM J M A D C T ts S' S' w w8) := HE7.out.done hJ8 hk8
              have HN8 : Hid (RowI (T + 1) w8 (.slice na (readyTo ts S' ts.length).length nb) (intsOf (readyTo ts S' ts.length))) := HN7.out.turned HE7.out hk8
              have HQ8 : Hid (RowI (T + 1) w8 (.slice ra rl rb) (intsOf (wantL ts S S'))) := HQ7.out.turned HE7.out hk8
              have HG8 : Hid (RowI (T + 1) w8 gv (intsOf (wantL ts S S'))) := hgv.mono HE7.out.row.lt
              obtain ⟨ga, gb, rfl⟩ := hgv.shape
              have hme := error_any q q w8 (HT.out.later HE8.out.below)
              rw [show (q == q) = true by simp] at hme
              clear hgv hJ8 hk8 HE7 HN7 HQ7 hz7 hDC
              generalize (intsOf (wantL ts S S')).length = gl at *
              generalize errV q = ev at *
              go_wp2_with fail
              refine hme.mono ?_
              clear hme
              rintro e w9 ⟨rfl, hb9⟩
              have hin := same_ints ((HG8.out.later hb9).ints (HL2.out _ rfl)) ((HQ8.out.later hb9).ints (HL2.out _ rfl))
              have HE9 : Hid (EM J M A D C T ts S' S' w w9) := HE8.out.later hb9
              have HN9 : Hid (RowI (T + 1) w9 (.slice na (readyTo ts S' ts.length).length nb) (intsOf (readyTo ts S' ts.length))) := HN8.out.later hb9
              clear hb9 HE8 HN8 HQ8 HG8
              go_wp2_with fail
              refine hin.mono ?_
              clear hin
              rintro e w10 ⟨rfl, hb10⟩
              have HE10 : Hid (EM J M A D C T ts S' S' w w10) := HE9.out.later hb10
              have HN10 : Hid (RowI (T + 1) w10 (.slice na (readyTo ts S' ts.length).length nb) (intsOf (readyTo ts S' ts.length))) := HN9.out.later hb10
              have hrd := ready_any J M A D C ts S' w10 HE10.out.jn
              clear hb10 HE9 HN9
              go_wp2_with fail
              refine hrd.mono ?_
              clear hrd
              rintro e w11 ⟨⟨rv, rfl, hrv⟩, hb11⟩
              have HE11 : Hid (EM J M A D C T ts S' S' w w11) := HE10.out.later hb11
              have hin := same_ints (hrv.ints (by rw [intsOf_length]; omega)) ((HN10.out.later hb11).ints (by rw [intsOf_length]; omega))
              obtain ⟨rva, rvb, rfl⟩ := hrv.shape
              generalize (intsOf (readyTo ts S' ts.length)).length = rvl at *
              clear hb11 HE10 HN10 hrv
              go_wp2_with fail
              refine hin.mono ?_
              clear hin
              rintro e w12 ⟨rfl, hb12⟩
              have HE12 : Hid (EM J M A D C T ts S' S' w w12) := HE11.out.later hb12
              clear hb12 HE11
              go_upto_region 33 with fail
              go_cut [154] from 49 to 193 (fun s154 wx => ∃ bb : Bool, s154 = .bool bb ∧ Hid (bb = true ↔ (i < 0 ∨ (ts.length : Int) ≤ i)) ∧ wx = w12)
              case first => as_aux_lemma =>
                by_cases hz0 : i < 0
                · have hzd : decide (i < 0) = true := decide_eq_true hz0
                  go_wp2
                  go_meet
                  exact ⟨true, rfl, ⟨fun _ => Or.inl hz0, fun _ => rfl⟩, rfl⟩
                · have hzd : decide (i < 0) = false := decide_eq_false hz0
                  by_cases hz1 : (ts.length : Int) ≤ i
                  · have hzd1 : decide ((ts.length : Int) ≤ i) = true := decide_eq_true hz1
                    go_wp2
                    go_meet
                    exact ⟨true, rfl, ⟨fun _ => Or.inr hz1, fun _ => rfl⟩, rfl⟩
                  · have hzd1 : decide ((ts.length : Int) ≤ i) = false := decide_eq_false hz1
                    go_wp2
                    go_meet
                    exact ⟨false, rfl, ⟨fun h => by simp at h, fun h => by omega⟩, rfl⟩
              case rest => as_aux_lemma =>
                obtain ⟨bb, rfl, hbb, rfl⟩ := hcut
                go_upto_if 154 with fail
                go_cut [7, 23, 24] from 49 to 193 (fun s7 s23 _ wx => ∃ (q2 : Int) (st : Nat), s7 = .int .i64 q2 ∧ s23 = .int .i64 st ∧ Hid (StCase ts S' i q2 st) ∧ Hid (EM J M A D C T ts S' S' w wx))
                case first => as_aux_lemma =>
                  cases bb
                  · have hzr : ¬ (i < 0 ∨ (ts.length : Int) ≤ i) := fun h => by have := hbb.out.2 h; simp at this
                    obtain ⟨x, rfl⟩ : ∃ x : Nat, i = x := ⟨i.toNat, by omega⟩
                    have hxl : x < ts.length := by omega
                    have hfr := freeR_any _ _ ts S' x wc (HP.out.later HE12.out.below) hxl HG.out.rng (rowIs_bools HE12.out.row)
                    clear hbb hzr
                    go_wp2_with fail
                    refine hfr.mono ?_
                    clear hfr
                    rintro e w13 ⟨rfl, hb13⟩
                    have HE13 : Hid (EM J M A D C T ts S' S' w w13) := HE12.out.later hb13
                    have hcT := HE13.out.row.cell hxl
                    have HSN : Hid (stN ts S' x = if S' x then 2 else if !missing ts S' x then 1 else 0) := stN_free ts S' x
                    clear HE12 hb13
                    cases hSx : S' x
                    · rw [hSx] at hcT HSN
                      cases hmi : missing ts S' x
                      · rw [hmi] at HSN
                        clear hSx hmi
                        go_wp2
                        go_meet
                        exact ⟨0, 1, rfl, rfl, Or.inr ⟨x, rfl, hxl, rfl, by rw [HSN.out]; rfl⟩, HE13⟩
                      · rw [hmi] at HSN
                        clear hSx hmi
                        go_wp2
                        go_meet
                        exact ⟨0, 0, rfl, rfl, Or.inr ⟨x, rfl, hxl, rfl, by rw [HSN.out]; rfl⟩, HE13⟩
                    · rw [hSx] at hcT HSN
                      generalize missing ts S' x = mi at *
                      clear hSx
                      go_wp2
                      go_meet
                      exact ⟨0, 2, rfl, rfl, Or.inr ⟨x, rfl, hxl, rfl, by rw [HSN.out]; rfl⟩, HE13⟩
                  · have hzr := hbb.out.1 rfl
                    go_wp2
                    go_meet
                    exact ⟨1, 0, rfl, rfl, Or.inl ⟨rfl, hzr, rfl⟩, HE12⟩
                case rest => as_aux_lemma =>
                  obtain ⟨q2, st, rfl, rfl, hSC, HE13⟩ := hcut
                  clear hbb HE12
                  have hst := state_case hSC.out HE13.out.jn
                  generalize hev : errV q2 = ev2 at hst
                  have HEV : Hid (errV q2 = ev2) := hev
                  clear hev
                  go_wp2_with fail
                  refine hst.mono ?_
                  clear hst
                  rintro e w14 ⟨rfl, hb14⟩
                  have HE14 : Hid (EM J M A D C T ts S' S' w w14) := HE13.out.later hb14
                  have hme := error_any q2 q2 w14 (HT.out.later HE14.out.below)
                  rw [show (q2 == q2) = true by simp, HEV.out] at hme
                  have hss : ((st : Int) == (st : Int)) = true := by simp
                  clear HE13 hb14 hSC
                  go_wp2_with fail
                  refine hme.mono ?_
                  clear hme
                  rintro e w15 ⟨rfl, hb15⟩
                  have HE15 : Hid (EM J M A D C T ts S' S' w w15) := HE14.out.later hb15
                  have hlf := left_any J M A D C ts S' w15 HE15.out.jn
                  have huu : (((unseen S' ts.length : Nat) : Int) != ((unseen S' ts.length : Nat) : Int)) = false := by simp
                  clear HE14 hb15
                  go_wp2_with (first | (go_at_call 14; refine hlf.mono ?_; clear hlf; rintro e w16 ⟨rfl, q16, rfl⟩))
                  go_roundg (60 - (k + 1))
                  case measure => omega
                  case rel => exact ⟨k + 1, S', by omega, rfl, by go_num, HE15.out.later (below_drewN (Below.refl _ _) q16), HD', Nat.le_refl _⟩
    · have hB : Below w.heap.size w wr := hE.out.below
      by_cases hkl : k < zs.length
      · have hkl' : (k : Int) < (zs.length : Int) := by omega
        have hk60' : ¬ (k : Int) < 60 := by omega
        go_wp2
        go_ret
        exact ⟨rfl, hB⟩
      · have hkl' : ¬ (k : Int) < (zs.length : Int) := by omega
        go_wp2
        go_ret
        exact ⟨rfl, hB⟩
end Go.Proofs.YtabmagmgoaiehaaDoor
