/- The law GangPlays: the walk. -/
import Derived.Test.YtchbncgifefegaaDoorGmb
namespace Go.Proofs.YtchbncgifefegaaDoor
open Go.RowKit Go.Deep

/-- The steps, each a list, lie in memory. -/
def Steps (w : World) (sa : Option Addr) (n : Nat) : Prop :=
  ∀ k, k < n → ∃ b off rv ys, sa = some ⟨b, off, none⟩ ∧ b < w.heap.size ∧ w.cell? ⟨b, off + k, none⟩ = some rv ∧ Rds (fun j => j < w.heap.size) w rv ys ∧ ys.length ≤ 9223372036854775000 ∧ ∀ z, z ∈ ys → z < 9223372036854775808
def VM (V : Nat) (w0 w : World) : Prop := w0.heap.size = V ∧ Below V w0 w ∧ ∃ x y, y < 9223372036854775808 ∧ x < 9223372036854775808 ∧ w.heap[V]? = some (.cells #[.int .i64 x, .int .i64 y] 34 (0, 0))
theorem VM.start (w : World) : VM w.heap.size w (w.alloc (.cells #[.int .i64 0, .int .i64 0] 34)) := ⟨rfl, (Below.refl _ _).alloc (Nat.le_refl _) _, 0, 0, by omega, by omega, heap_alloc_new w _⟩
theorem VM.set {V : Nat} {w0 w : World} (h : VM V w0 w) (k : Nat) (hk : k < 2) (z : Int) (hz : z < 9223372036854775808) : VM V w0 (w.setCell ⟨V, k, none⟩ (.int .i64 z)) := by
  obtain ⟨h0, hb, x, y, hy, hx1, hx⟩ := h
  refine ⟨h0, hb.setCell (Nat.le_refl _) _, ?_⟩
  rcases (by omega : k = 0 ∨ k = 1) with rfl | rfl
  · exact ⟨z, y, hy, hz, by rw [setCell_eq_setRow w V 0 _ 34 (0, 0) _ hx, setRow_heap w V _ _ 34 _ hx]; rfl⟩
  · exact ⟨x, z, hz, hx1, by rw [setCell_eq_setRow w V 1 _ 34 (0, 0) _ hx, setRow_heap w V _ _ 34 _ hx]; rfl⟩

set_option maxRecDepth 100000 in
set_option maxHeartbeats 16000000 in
theorem gangPlays_in (v : Value) (ts : List (Int × List Int)) (hands room : Nat) (sn : Nat) (sa : Option Addr) (sc : Nat) (w : World) (hp : PlanAt w v ts) (hg : Typed w) (hc : CheckIs ts 0 0) (h1 : 1 ≤ hands) (h6 : hands ≤ 6) (r1 : 1 ≤ room) (r16 : room ≤ 16) (hs : Steps w sa sn) :
    Calls Tryd.prog 3 #[v, .int .i64 hands, .int .i64 room, .slice sa sn sc] w fun e w' => e = .returned (.bool true) ∧ Below w.heap.size w w' := by
  have HS : Hid (Steps w sa sn) := hs
  have HG : Hid (Typed w) := hg
  have hri := rightR_any v ts w hp
  have h30 := hc.good.le
  have HC : Hid (CheckIs ts 0 0 ∧ Good ts ∧ PlanAt w v ts ∧ ∀ i, i < ts.length → 1 ≤ workOf ts i ∧ workOf ts i ≤ 100) := ⟨hc, hc.good, hp, fun i hi => by
    have h2 := (hc.ok rfl).2.2.1 i hi
    unfold errOf taskErr at h2
    have h3 : ¬ ((ts.getD i (0, [])).1 < 1 ∨ 20 < (ts.getD i (0, [])).1) := fun e => by rw [if_pos e] at h2; omega
    unfold workOf
    omega⟩
  have HN : Hid (∀ w1, Below w.heap.size w w1 → Calls Tryd.prog 5 #[v, .int .i64 hands, .int .i64 room] w1 (GangOut room hands ts w1)) := fun w1 hb => gNew_good v ts w1 (hp.later hb) hc hands room h1 h6 r1 r16
  have HND : Hid (∀ w1, Below w.heap.size w w1 → Calls Tryd.prog 7 #[v, .int .i64 hands, .int .i64 room] w1 (DocOut room hands ts v w w1)) := fun w1 hb => newGang_any v ts hands room w w1 hp hb hc.good.rng h30 h1 h6 r16
  obtain ⟨pa, pc, rfl⟩ : ∃ a c, v = .slice a ts.length c := by obtain ⟨hl, a, c, hv, -⟩ := hp; exact ⟨a, c, hv⟩
  clear hp hc hs hg
  have g1 : ¬ (hands : Int) < 1 := by omega
  have g2 : ¬ (6 : Int) < (hands : Int) := by omega
  have g3 : ¬ (room : Int) < 1 := by omega
  have g4 : ¬ (16 : Int) < (room : Int) := by omega
  go_enter Tryd.func3, Tryd.ntmps3
  go_upto_region 9 with (first
    | (go_at_call 4; refine hri.mono ?_; clear hri; rintro e w1 ⟨⟨p2, q2, rfl, hc2⟩, hb1⟩; obtain rfl : q2 = 0 := (hc2.det HC.out.1).2; have hn := HN.out w1 hb1; clear hc2 HN)
    | (go_at_call 5; refine hn.mono ?_; clear hn; rintro e w2 ⟨G, ownP, Q, rfl, hP2, hGl, hb2⟩; have hb02 := hb1.trans (hb2.mono hb1.size); have he := error_any 0 0 w2 (HG.out.later hb02); have HP2 : Hid (Pg ⟨fun k => k < w1.heap.size, w1⟩ G room hands ts (gnew ts) (workOf ts) ownP Q w2 ∧ ∀ k, k < w.heap.size → ownP k = 9) := ⟨hP2, fun k hk => (hP2.far k (by show k < w1.heap.size; have := hb1.size; omega)).2.1⟩; clear hb1 hb2 hP2 hGl)
    | (go_at_call 6; refine he.mono ?_; clear he; rintro e w3 ⟨rfl, hb3⟩; have hb03 := hb02.trans (hb3.mono hb02.size); have hnd := HND.out w3 hb03; have HP3 : Hid (∃ ownP3, Pg ⟨fun k => k < w1.heap.size, w1⟩ G room hands ts (gnew ts) (workOf ts) ownP3 Q w3 ∧ ∀ k, k < w.heap.size → ownP3 k = 9) := ⟨_, HP2.out.1.later0 (Kc.of_below hb3), fun k hk => (by { rw [relabel_lt (by have := hb02.size; omega)]; exact HP2.out.2 k hk })⟩; clear hb3 HND)
    | (go_at_call 7; refine hnd.mono ?_; clear hnd; rintro e w4 ⟨M, ownD, rfl, hD4⟩; have HM : Hid (GM w (fun k => k < w.heap.size) w4.heap.size w G M room hands ts (.slice pa ts.length pc) (gnew ts) (gnew ts) w4) := (by { obtain ⟨ownP3, hP3, hl3⟩ := HP3.out; exact GM.start hP3 hl3 hD4 hb03 h1 }); clear hD4))
  have HM0 : Hid (GM w (fun k => k < w.heap.size) w4.heap.size w G M room hands ts (.slice pa ts.length pc) (gnew ts) (gnew ts) w4) := HM
  clear HM HP2 HP3 hb02 hb03
  go_wp2
  go_loopg [14] 200 (fun gg s14 wr => ∃ (i : Nat) (g : Gs), s14 = .int .i64 i ∧ i ≤ 200 ∧ Hid (GM w (fun k => k < w.heap.size) wr.heap.size w G M room hands ts (.slice pa ts.length pc) g g wr) ∧ 200 - i ≤ gg)
  case atStart => exact ⟨0, gnew ts, rfl, by omega, HM0, by omega⟩
  case round =>
    clear HM0
    obtain ⟨i, g, rfl, hi, hM, hgg⟩ := hrel
    obtain ⟨GK, rfl⟩ : ∃ GK, GK = gk := ⟨_, rfl⟩
    by_cases hgo : i < sn ∧ i < 200
    · obtain ⟨hil, hi60⟩ := hgo
      have hil' : (i : Int) < (sn : Int) := by omega
      have hi60' : (i : Int) < 200 := by omega
      obtain ⟨sb, so, rv, ys, rfl, hsb, hsc, hrd, hyl, hyb⟩ := HS.out i hil
      have HSC : Hid (w.cell? ⟨sb, so + i, none⟩ = some rv ∧ sb < w.heap.size) := ⟨hsc, hsb⟩
      have HRD : Hid (Rds (fun j => j < w.heap.size) w rv ys ∧ ∀ z, z ∈ ys → z < 9223372036854775808) := ⟨hrd, hyb⟩
      obtain ⟨ra, rc, rfl⟩ := hrd.shape
      obtain ⟨wa, hwa⟩ : ∃ wa, wa = wr := ⟨_, rfl⟩
      obtain ⟨V, hV⟩ : ∃ V, V = wr.heap.size := ⟨_, rfl⟩
      have hV' : wr.heap.size = V := hV.symm
      have HV0 : Hid (VM V wa (wr.alloc (.cells #[.int .i64 0, .int .i64 0] 34))) := by rw [hV, hwa]; exact VM.start wr
      have HWA : Hid (GM w (fun k => k < w.heap.size) wa.heap.size w G M room hands ts (.slice pa ts.length pc) g g wa) := by rw [hwa]; exact hM
      clear hsc hrd hV hwa hM hyb
      go_upto_block 2 with fail
      clear hV'
      go_cut [16] from 76 to 97 (fun _ wx => Hid (VM V wa wx))
      case first => as_aux_lemma =>
        go_wp2_with fail
        go_loopw [16] (fun s16 wx => ∃ j : Nat, s16 = .int .i64 j ∧ j ≤ 2 ∧ Hid (VM V wa wx)) (fun s16 _ => 2 - (intOf s16).toNat)
        case atStart => exact ⟨0, rfl, by omega, HV0⟩
        case round =>
          clear HV0
          obtain ⟨j, rfl, hj2, hVM⟩ := hrel
          have hBw : Below w.heap.size w wr := HWA.out.below.trans (hVM.out.2.1.mono (by have := hVM.out.1; have := HWA.out.below.size; omega))
          have hsc := (hBw.cell (p := ⟨sb, so + i, none⟩) hsb).trans HSC.out.1
          by_cases hjj : j < ys.length ∧ j < 2
          · obtain ⟨hjl, hjt⟩ := hjj
            have hjl' : (j : Int) < (ys.length : Int) := by omega
            have hjt' : (j : Int) < 2 := by omega
            obtain ⟨rb, ro, rfl, hrb, -, hcz⟩ := HRD.out.1.at (k := j) hjl
            have hzb := HRD.out.2 _ (getD_memI hjl)
            have hcz' := (hBw.cell (p := ⟨rb, ro + j, none⟩) hrb).trans hcz
            generalize ys.getD j 0 = z at hcz hcz' hzb
            clear hcz
            obtain ⟨-, -, x, y, -, -, hxy⟩ := hVM.out
            have hM2 : Hid (VM V wa (wr.setCell ⟨V, j, none⟩ (.int .i64 z))) := hVM.out.set j hjt z hzb
            have hfz : wr.frozen? ⟨V, j, none⟩ = false := by simp [World.frozen?, hxy]
            have hcv : ∃ u, wr.cell? ⟨V, j, none⟩ = some (.int .i64 u) := by
              rcases (by omega : j = 0 ∨ j = 1) with rfl | rfl
              · exact ⟨x, by simp [World.cell?, hxy]⟩
              · exact ⟨y, by simp [World.cell?, hxy]⟩
            obtain ⟨u, hcv⟩ := hcv
            clear hxy hVM hzb
            go_wp2
            go_roundw
            case rel => exact ⟨j + 1, by go_num, by omega, hM2⟩
            case measure => simp [intOf]; omega
          · rcases (by omega : (¬ (j : Int) < (ys.length : Int)) ∨ ((j : Int) < (ys.length : Int) ∧ ¬ (j : Int) < 2)) with hjl' | ⟨hjl', hjt'⟩
            all_goals
              go_wp2
              go_meet
              exact hVM
      case rest =>
        obtain ⟨wb, rfl⟩ : ∃ wb, wb = wc := ⟨_, rfl⟩
        obtain ⟨hVs, hVb, x, y, hy63, hx63, hxy⟩ := hcut.out
        have hVlt : V < wb.heap.size := (Array.getElem?_eq_some_iff.1 hxy).1
        have HB : Hid (GM wb (fun k => k < w.heap.size ∨ k = V) wa.heap.size w G M room hands ts (.slice pa ts.length pc) g g wb) := HWA.out.more (by rw [hVs]; exact hVb) (by omega) hVlt
        have HXY : Hid (wb.heap[V]? = some (.cells #[.int .i64 x, .int .i64 y] 34 (0, 0))) := hxy
        have hc0 : wb.cell? ⟨V, 0, none⟩ = some (.int .i64 x) := by simp [World.cell?, hxy]
        have hc1 : wb.cell? ⟨V, 1, none⟩ = some (.int .i64 y) := by simp [World.cell?, hxy]
        clear HV0 HRD HSC hsb hyl HWA hcut hVs hVb hxy
        go_upto_region 20 with fail
        go_cut [106] from 98 to 105 (fun s106 wx => ∃ bb : Bool, s106 = .bool bb ∧ Hid (bb = true ↔ (x < 0 ∨ (hands : Int) ≤ x)) ∧ wb = wx)
        case first => as_aux_lemma =>
          by_cases hx0 : x < 0
          · go_wp2
            go_meet
            exact ⟨true, rfl, ⟨fun _ => Or.inl hx0, fun _ => rfl⟩, rfl⟩
          · by_cases hx1 : (hands : Int) ≤ x
            · go_wp2
              go_meet
              exact ⟨true, by simp, ⟨fun _ => Or.inr hx1, fun _ => rfl⟩, rfl⟩
            · go_wp2
              go_meet
              exact ⟨false, by simp, ⟨fun e => (by cases e), fun e => (by omega)⟩, rfl⟩
        case rest =>
          obtain ⟨bb, rfl, hbb, rfl⟩ := hcut
          go_upto_if 106 with fail
          go_cut [9, 17, 18] from 107 to 131 (fun s9 s17 s18 wx => ∃ (e hv : Int) (ds : List Deed) (gD g' : Gs) (nP : Nat), s9 = .int .i64 e ∧ s18 = .int .i64 hv ∧ Hid (RowD nP wx s17 ds ∧ GM wb (fun k => k < w.heap.size ∨ k = V) nP w G M room hands ts (.slice pa ts.length pc) g gD wx) ∧ Hid (SC ts room hands x y (if y < 0 then 1 else e) e ds hv g gD g'))
          case first =>
            cases bb
            · have hxr : 0 ≤ x ∧ x < (hands : Int) := by
                have hn : ¬ (x < 0 ∨ (hands : Int) ≤ x) := fun e => by have := hbb.out.2 e; cases this
                omega
              obtain ⟨h, rfl⟩ : ∃ h : Nat, x = h := ⟨x.toNat, by omega⟩
              have hh : h < hands := by omega
              have hhi : (h : Int) < (hands : Int) := by omega
              clear hbb hxr
              by_cases hy : y < 0
              · obtain ⟨tb, tc, ct2, ctb⟩ := HB.out.task hh
                have HSC : Hid (SC ts room hands (h : Int) y (if y < 0 then 1 else 0) 0 [] (g.task h) g g g) := Or.inr (Or.inl ⟨h, hh, rfl, hy, by rw [if_pos hy], rfl, rfl, rfl, rfl, rfl⟩)
                generalize g.task h = th at ctb HSC
                have hy' : ¬ (0 : Int) ≤ y := by omega
                go_upto_region 25 with fail
                go_quiet (fail)
                go_wp2
                go_meet
                exact ⟨0, th, [], g, g, wa.heap.size, rfl, rfl, ⟨RowD.nil _ _, HB.out.later ⟨rfl, rfl, rfl, Nat.le_refl _, fun _ _ => rfl⟩⟩, HSC⟩
              · obtain ⟨pick, rfl⟩ : ∃ pick : Nat, y = pick := ⟨y.toNat, by omega⟩
                have hds := HB.out.dstep HC.out.2.1 HC.out.2.2.2 r1 r16 h6 h pick hh (by omega)
                have HSC : Hid (SC ts room hands (h : Int) (pick : Int) (if (pick : Int) < 0 then 1 else 0) 0 (gdeeds ts hands g h pick) ((gstep ts room hands g h pick).task h) g (gstep ts room hands g h pick) (gstep ts room hands g h pick)) := Or.inr (Or.inr ⟨h, pick, hh, by omega, rfl, rfl, by rw [if_neg (by omega)], rfl, rfl, rfl, rfl, rfl⟩)
                obtain ⟨g', hg'⟩ : ∃ g', g' = gstep ts room hands g h pick := ⟨_, rfl⟩
                obtain ⟨ds, hdd⟩ : ∃ ds, ds = gdeeds ts hands g h pick := ⟨_, rfl⟩
                rw [← hg', ← hdd] at HSC
                rw [← hg', ← hdd] at hds
                clear hg' hdd
                go_upto_region 24 with (first | (go_at_call 8; refine hds.mono ?_; clear hds; rintro e w5 ⟨v5, rfl, hv5, hG5⟩; obtain ⟨a5, c5, rfl⟩ := hv5.shape; have HV5 : Hid (RowD wb.heap.size w5 (.slice a5 ds.length c5) ds ∧ GM wb (fun k => k < w.heap.size ∨ k = V) wb.heap.size w G M room hands ts (.slice pa ts.length pc) g g' w5) := ⟨hv5, hG5⟩; clear hv5 hG5))
                obtain ⟨tb, tc, ct2, ctb⟩ := HV5.out.2.task hh
                have hcx : w5.cell? ⟨V, 0, none⟩ = some (.int .i64 (h : Int)) := (World.cell?_of_block (a := ⟨V, 0, none⟩) (HV5.out.2.far (Or.inr rfl))).trans hc0
                generalize g'.task h = th at ctb HSC
                go_quiet (fail)
                go_wp2
                go_meet
                exact ⟨0, th, ds, g', g', wb.heap.size, rfl, rfl, ⟨HV5.out.1.later ⟨rfl, rfl, rfl, Nat.le_refl _, fun _ _ => rfl⟩, HV5.out.2.later ⟨rfl, rfl, rfl, Nat.le_refl _, fun _ _ => rfl⟩⟩, HSC⟩
            · have HSC : Hid (SC ts room hands x y (if y < 0 then 1 else 1) 1 [] 0 g g g) := Or.inl ⟨hbb.out.1 rfl, by split <;> rfl, rfl, rfl, rfl, rfl, rfl⟩
              go_wp2
              go_meet
              exact ⟨1, 0, [], g, g, wa.heap.size, rfl, rfl, ⟨RowD.nil _ _, HB.out⟩, HSC⟩
          case rest =>
            obtain ⟨e, hv, ds, gD, g', nP, rfl, rfl, hR, hSC⟩ := hcut
            obtain ⟨w5, rfl⟩ : ∃ w5, w5 = wc := ⟨_, rfl⟩
            obtain ⟨ua, uc, hu⟩ := hR.out.1.shape
            obtain ⟨sv, rfl⟩ : ∃ sv, sv = u17 := ⟨_, rfl⟩
            subst hu
            have hd0 : w5.cell? ⟨V, 0, none⟩ = some (.int .i64 x) := (World.cell?_of_block (a := ⟨V, 0, none⟩) (hR.out.2.far (Or.inr rfl))).trans hc0
            have hd1 : w5.cell? ⟨V, 1, none⟩ = some (.int .i64 y) := (World.cell?_of_block (a := ⟨V, 1, none⟩) (hR.out.2.far (Or.inr rfl))).trans hc1
            clear HB hbb hc0 hc1
            obtain ⟨f, hf⟩ : ∃ f : Int, f = if y < 0 then 1 else e := ⟨_, rfl⟩
            have HF : Hid (f = if y < 0 then 1 else e) := hf
            rw [← hf] at hSC
            clear hf
            go_upto_if 135 with fail
            go_cut [19] from 136 to 136 (fun s19 wx => s19 = .int .i64 f ∧ w5 = wx)
            case first => as_aux_lemma =>
              by_cases hy : y < 0
              · have hf := HF.out
                rw [if_pos hy] at hf
                subst hf
                go_wp2
                go_meet
                exact ⟨rfl, rfl⟩
              · have hf := HF.out
                rw [if_neg hy] at hf
                subst hf
                go_wp2
                go_meet
                exact ⟨rfl, rfl⟩
            case rest =>
              obtain ⟨rfl, rfl⟩ := hcut
              have hplay := hR.out.2.play hSC.out HC.out.2.1 HC.out.2.2.2 r1 r16 h6
              have HFR : Hid (∀ wx nx, GM wb (fun k => k < w.heap.size ∨ k = V) nx w G M room hands ts (.slice pa ts.length pc) g' g' wx → wx.cell? ⟨V, 0, none⟩ = some (.int .i64 x)) := fun wx nx hG => (World.cell?_of_block (a := ⟨V, 0, none⟩) (hG.far (Or.inr rfl))).trans (by simp [World.cell?, HXY.out])
              have hun : (((unseen g'.S ts.length : Nat) : Int) != ((unseen g'.S ts.length : Nat) : Int)) = false := by simp
              have hvv : (hv == hv) = true := by simp
              go_wp2_with (first
                | (go_at_call 9; refine hplay.mono ?_; clear hplay; rintro en w6 ⟨pv, rfl, hpv, hG6, hkp, hs6, hdl⟩; obtain ⟨pa6, pc6, rfl⟩ := hpv.shape; have he1 := error_any f f w6 (HG.out.later hG6.below); rw [beq_self_eq_true] at he1; have H6 : Hid (RowD w5.heap.size w6 (.slice pa6 ds.length pc6) ds ∧ RowD nP w6 (.slice ua ds.length uc) ds ∧ GM wb (fun k => k < w.heap.size ∨ k = V) w6.heap.size w G M room hands ts (.slice pa ts.length pc) g' g' w6 ∧ ds.length ≤ 100) := ⟨hpv, hR.out.1.of_blocks (fun k ek => hkp k (hR.out.1.low ek).1 (hR.out.1.low ek).2), hG6, hdl⟩; clear hpv hG6 hkp hs6 hdl hR hd0 hd1)
                | (go_at_call 6; refine he1.mono ?_; clear he1; rintro en w7 ⟨rfl, hb7⟩; have hsd := sameDeeds_any _ _ ds _ _ w7 (H6.out.1.later hb7) (H6.out.2.1.later hb7) H6.out.2.2.2; have H7 : Hid (GM wb (fun k => k < w.heap.size ∨ k = V) w6.heap.size w G M room hands ts (.slice pa ts.length pc) g' g' w7) := H6.out.2.2.1.later hb7; clear hb7 H6)
                | (go_at_call 10; refine hsd.mono ?_; clear hsd; rintro en w8 ⟨rfl, n8, hw8⟩; have H8 : Hid (GM wb (fun k => k < w.heap.size ∨ k = V) w6.heap.size w G M room hands ts (.slice pa ts.length pc) g' g' w8) := H7.out.later (by { rw [hw8]; exact ⟨rfl, rfl, rfl, Nat.le_refl _, fun _ _ => rfl⟩ }); have hhas := H8.out.has hSC.out h6; have hv0 := HFR.out _ _ H8.out; clear hw8 H7)
                | (go_at_call 11; refine hhas.mono ?_; clear hhas; rintro en w8 ⟨rfl, rfl⟩; have he2 := error_any e e w8 (HG.out.later H8.out.below); rw [beq_self_eq_true] at he2; clear hv0)
                | (go_at_call 6; refine he2.mono ?_; clear he2; rintro en w9 ⟨rfl, hb9⟩; have H9 : Hid (GM wb (fun k => k < w.heap.size ∨ k = V) w6.heap.size w G M room hands ts (.slice pa ts.length pc) g' g' w9) := H8.out.later hb9; have hhe := H9.out.held; clear hb9 H8)
                | (go_at_call 13; refine hhe.mono ?_; clear hhe; rintro en wA ⟨⟨vA, rfl, hvA⟩, hbA⟩; obtain ⟨aA, cA, rfl⟩ := hvA.shape; have HA : Hid (RowI w9.heap.size wA _ (intsOf (readyTo ts g'.S ts.length)) ∧ GM wb (fun k => k < w.heap.size ∨ k = V) w6.heap.size w G M room hands ts (.slice pa ts.length pc) g' g' wA) := ⟨hvA, H9.out.later hbA⟩; have hdh := HA.out.2.dheld h30 h6 r16; clear hvA hbA H9)
                | (go_at_call 14; refine hdh.mono ?_; clear hdh; rintro en wB ⟨⟨vB, rfl, hvB⟩, hbB⟩; obtain ⟨aB, cB, rfl⟩ := hvB.shape; have his := Prk.ints_same _ _ _ _ _ wB (RowI.rds (HA.out.1.later hbB)) (RowI.rds hvB) (by { rw [intsOf_length]; have := readyTo_len ts g'.S ts.length; omega }); have HBB : Hid (GM wb (fun k => k < w.heap.size ∨ k = V) w6.heap.size w G M room hands ts (.slice pa ts.length pc) g' g' wB) := HA.out.2.later hbB; clear hvB hbB HA)
                | (go_at_call 12; refine his.mono ?_; clear his; rintro en wC ⟨rfl, nC, hwC⟩; have HCC : Hid (GM wb (fun k => k < w.heap.size ∨ k = V) w6.heap.size w G M room hands ts (.slice pa ts.length pc) g' g' wC) := HBB.out.later (by { rw [hwC]; exact ⟨rfl, rfl, rfl, Nat.le_refl _, fun _ _ => rfl⟩ }); have hle := HCC.out.left; clear hwC HBB)
                | (go_at_call 15; refine hle.mono ?_; clear hle; rintro en wD ⟨rfl, nD, hwD⟩; have HDD : Hid (GM wb (fun k => k < w.heap.size ∨ k = V) w6.heap.size w G M room hands ts (.slice pa ts.length pc) g' g' wD) := HCC.out.later (by { rw [hwD]; exact ⟨rfl, rfl, rfl, Nat.le_refl _, fun _ _ => rfl⟩ }); have hdl := HDD.out.dleft h30; clear hwD HCC)
                | (go_at_call 16; refine hdl.mono ?_; clear hdl; rintro en wE ⟨rfl, hbE⟩; have HEE : Hid (GM w (fun k => k < w.heap.size) wE.heap.size w G M room hands ts (.slice pa ts.length pc) g' g' wE) := (HDD.out.later hbE).less; clear hbE HDD))
              go_roundg (200 - (i + 1))
              case measure => omega
              case rel => exact ⟨i + 1, g', by go_num, by omega, HEE, Nat.le_refl _⟩
    · rcases (by omega : (¬ (i : Int) < (sn : Int)) ∨ ((i : Int) < (sn : Int) ∧ ¬ (i : Int) < 200)) with hil' | ⟨hil', hi60'⟩
      all_goals
        go_wp2
        go_ret
        exact ⟨rfl, hM.out.below⟩
end Go.Proofs.YtchbncgifefegaaDoor
