/- The walk of TopGang where New is good and cells.All of no fault. TopGang, whatever it is called with. -/
import Derived.Test.YtandhiiaflhenaaGreatDoorTgc
import Derived.Deep.CutRange
import Derived.Deep.CutBlock

namespace Go.Proofs.YtandhiiaflhenaaGreatDoor
open Go.RowKit Go.Deep

set_option maxRecDepth 100000 in
set_option maxHeartbeats 16000000 in
theorem topGang_in (v opv : Value) (ts : List (Int × List Int)) (os : List Opn) (hands room : Nat) (sn : Nat) (sa : Option Addr) (sc : Nat) (w : World) (hp : PlanAt w v ts) (ho : OpsAt w opv os) (hc : CheckIs ts 0 0) (h1 : 1 ≤ hands) (h6 : hands ≤ 6) (r1 : 1 ≤ room) (r16 : room ≤ 16) (hops : opsErr ts.length os = 0) (hs : Steps w sa sn) (hf : FormsAt w) (hy : Synt w) :
    Calls Tryz.prog 3 #[v, opv, .int .i64 hands, .int .i64 room, .slice sa sn sc] w fun e w' => e = .returned (.bool true) ∧ Below w.heap.size w w' := by
  have HS : Hid (Steps w sa sn) := hs
  have h30 := hc.good.le
  have HC : Hid (CheckIs ts 0 0 ∧ Good ts ∧ PlanAt w v ts ∧ ∀ i, i < ts.length → 1 ≤ workOf ts i ∧ workOf ts i ≤ 1000) := ⟨hc, hc.good, hp, fun i hi => (by have := good_work hc i hi; omega)⟩
  have HO : Hid (OpsAt w opv os) := ho
  have HFO : Hid (FormsAt w ∧ Synt w) := ⟨hf, hy⟩
  have HOPS : Hid (opsErr ts.length os = 0) := hops
  have hone := tone_any w
  have HN : Hid (∀ wx, Below w.heap.size w wx → Calls Tryz.prog 5 #[v, .int .i64 hands, .int .i64 room] wx fun e w' => ∃ G, e = .returned (.tuple #[.pointer (some ⟨G, 0, none⟩), .nilIface]) ∧ GX (fun k => k < wx.heap.size) G room hands ts (gnew ts) w' ∧ Below wx.heap.size wx w') := fun wx hb => gx_new (hp.later hb) hc h1 h6 r1 r16
  have HAL : Hid (∀ wx, Below w.heap.size w wx → Calls Tryz.prog 6 #[v, opv] wx fun e w' => AllNew wx.heap.size ts os e w' ∧ Below wx.heap.size wx w') := fun wx hb => allNew_any v opv ts os wx (hp.later hb) (ho.later hb)
  have HWK : Hid (∀ wx, Below w.heap.size w wx → Calls Tryz.prog 7 #[v] wx fun e w' => e = .returned (.tuple #[.int .i64 (wrkT ts ts.length : Int), .nilIface]) ∧ Below wx.heap.size wx w') := fun wx hb => dWork_any v ts wx (hp.later hb) hc
  obtain ⟨pa, pc, rfl⟩ : ∃ a c, v = .slice a ts.length c := by obtain ⟨hl, a, c, hv, -⟩ := hp; exact ⟨a, c, hv⟩
  obtain ⟨oa, oc, rfl⟩ : ∃ a c, opv = .slice a os.length c := by obtain ⟨hl, a, c, hv, -⟩ := ho; exact ⟨a, c, hv⟩
  have g1 : ¬ (hands : Int) < 1 := by omega
  have g2 : ¬ (6 : Int) < (hands : Int) := by omega
  clear hp hc hs ho hf hy hops
  go_enter Tryz.func3, Tryz.ntmps3
  go_wp2_with fail
  refine hone.mono ?_
  clear hone
  rintro e w1 ⟨rfl, hb1⟩
  have HB1 : Hid (Below w.heap.size w w1) := hb1
  have HB1W : Hid (Below w.heap.size w w1) := hb1
  have hn2 := HN.out w1 hb1
  clear HN hb1
  go_wp2_with fail
  refine hn2.mono ?_
  clear hn2
  rintro e w2 ⟨G, rfl, hG2, hb2⟩
  have HB2 : Hid (Below w.heap.size w w2) := HB1.out.trans (hb2.mono HB1.out.size)
  have HG2 : Hid (GX (fun k => k < w1.heap.size) G room hands ts (gnew ts) w2 ∧ Below w1.heap.size w1 w2) := ⟨hG2, hb2⟩
  have hal := HAL.out w2 HB2.out
  clear HAL hG2 hb2
  go_wp2_with fail
  refine hal.mono ?_
  clear hal
  rintro e w3 ⟨⟨p, q, hck, hcase⟩, hb3⟩
  obtain ⟨rfl, rfl⟩ := hck.det HC.out.1
  rcases hcase with ⟨hne, -⟩ | ⟨-, -, ord, C, hCB, hord, rfl, hrow⟩
  · exact absurd ((if_pos rfl : allErr 0 ts.length os = opsErr ts.length os).trans HOPS.out) hne
  have HB3 : Hid (Below w.heap.size w w3) := HB2.out.trans (hb3.mono HB2.out.size)
  have HSM : Hid (∀ g ord2, FI ts g ord2 → (∀ i, i < ts.length → g.S i = true) → outL ts.length (alongC ts (fun k => os.getD k (0, 0)) ord2) = outL ts.length (alongC ts (fun k => os.getD k (0, 0)) ord)) := fun g ord2 hF hall => by
    obtain ⟨_, _, herr, hno⟩ := HC.out.1.ok rfl
    have hr := inRange_of herr
    unfold outL
    refine List.map_congr_left fun i hi => ?_
    exact alongC_same hr hno hF.nd hF.bh hF.lt (fun x hx => (hF.mem x).1 (hall x hx)) hord.nodup hord.behind hord.below (hord.mem hr hno) i (List.mem_range.1 hi)
  obtain ⟨F, hF⟩ : ∃ F, F = alongC ts (fun k => os.getD k (0, 0)) ord := ⟨_, rfl⟩
  rw [← hF] at HSM hrow
  have HZ0 : Hid (HZ w1 G C room hands ts (gnew ts) F [] (.slice none 0 0) [] (.slice none 0 0) [] (.slice none 0 0) w3) := by
    have hs2 := HG2.out.2.size
    refine ⟨(HG2.out.1.away (below_kx hb3)).sub (fun k hk => ?_), RowD.nil _ _, hrow, RowI.nil _ _, RowD.nil _ _, fun k hk => (by cases hk), HG2.out.2.trans (hb3.mono hs2), by omega⟩
    rcases hk with hk | hk | hk | hk
    · exact Or.inl hk
    · subst hk; exact Or.inr ⟨hCB, hrow.lt⟩
    · cases hk
    · cases hk
  have HP0 : Hid (PL ts hands room (totW ts ts.length) (gnew ts) [] []) := PL.new h1 (fun i hi => (HC.out.2.2.2 i hi).1)
  have hwk := HWK.out w3 HB3.out
  have HT : Hid (totW ts ts.length = wrkT ts ts.length + ts.length) := wrkT_tot (fun i hi => (HC.out.2.2.2 i hi).1) ts.length (Nat.le_refl _)
  have hw6 : wrkT ts ts.length ≤ 600 := by
    have := wrkT_le (fun i hi => (good_work HC.out.1 i hi).2) ts.length (Nat.le_refl _)
    omega
  have hos : os.length = ts.length := (opsErr_zero HOPS.out).1
  have HOS : Hid (os.length = ts.length) := hos
  clear hF hrow hord hck hb3 hCB HWK HG2 HB2 HB1 hos
  generalize hol : os.length = ol at *
  go_wp2_with fail
  refine hwk.mono ?_
  clear hwk
  rintro e w4 ⟨rfl, hb4⟩
  have HB4 : Hid (Below w.heap.size w w4) := HB3.out.trans (hb4.mono HB3.out.size)
  have HZ4 : Hid (HZ w1 G C room hands ts (gnew ts) F [] (.slice none 0 0) [] (.slice none 0 0) [] (.slice none 0 0) w4) := HZ0.out.later hb4
  clear hb4 HB3 HZ0
  obtain ⟨tot, htot⟩ : ∃ tot, tot = totW ts ts.length := ⟨_, rfl⟩
  have hT2 : tot = wrkT ts ts.length + ts.length := htot.trans HT.out
  rw [← htot] at HP0
  have hrs : (hands : Int) * ((wrkT ts ts.length : Int) + (ts.length : Int)) = ((hands * tot : Nat) : Int) := by rw [hT2, Int.natCast_mul, Int.natCast_add]
  have hrb : hands * tot ≤ 6 * 630 := Nat.mul_le_mul h6 (by omega)
  have HTT : Hid (tot = totW ts ts.length) := htot
  clear htot HT hT2
  generalize wrkT ts ts.length = WK at *
  obtain ⟨rs, hrse⟩ : ∃ rs, rs = hands * tot := ⟨_, rfl⟩
  have HRS : Hid (rs = hands * tot) := hrse
  rw [← hrse] at hrs hrb
  clear hrse
  obtain ⟨tn, htn⟩ : ∃ tn, tn = min sn 200 := ⟨_, rfl⟩
  have htn2 : tn ≤ 200 ∧ tn ≤ sn := by omega
  have HTN : Hid (tn = min sn 200) := htn
  clear htn
  go_upto_if 77 with fail
  go_cut [20] from 37 to 209 (fun s20 wx => s20 = .int .i64 tn ∧ w4 = wx)
  case first => as_aux_lemma =>
    by_cases h2 : 200 < sn
    · have q1 : (200 : Int) < (sn : Int) := by omega
      have HX : Hid (tn = 200) := by show _ = _; rw [HTN.out]; omega
      clear h2 htn2
      go_wp2
      go_meet
      exact ⟨by rw [HX.out]; rfl, rfl⟩
    · have q1 : ¬ (200 : Int) < (sn : Int) := by omega
      have HX : Hid (tn = sn) := by show _ = _; rw [HTN.out]; omega
      clear h2 htn2
      go_wp2
      go_meet
      exact ⟨by rw [HX.out], rfl⟩
  case rest => as_aux_lemma =>
  obtain ⟨rfl, rfl⟩ := hcut
  clear HTN
  have HT0 : Hid (TR ts hands room tot tn 0 (gnew ts)) := TR.start HP0.out (Nat.zero_le _)
  go_wp2
  go_loopg [18, 19, 22] (tn + rs) (fun gg s18 s19 s22 wr => ∃ (i : Nat) (g : Gs) (ord : List Nat) (ds dl : List Deed) (lv : Value), s22 = .int .i64 i ∧ i ≤ tn + rs ∧ Hid (HZ w1 G C room hands ts g F ord s18 ds s19 dl lv wr) ∧ Hid (PL ts hands room tot g ord ds) ∧ Hid (TR ts hands room tot tn i g) ∧ tn + rs - i ≤ gg)
  case atStart => exact ⟨0, gnew ts, [], [], [], _, rfl, by omega, HZ4, HP0, HT0, by omega⟩
  case round =>
    clear HZ4 HP0 HT0
    obtain ⟨i, g, ord, ds, dl, lv, rfl, hi, hM, hPL, hTR, hgg⟩ := hrel
    obtain ⟨GK, rfl⟩ : ∃ GK, GK = gk := ⟨_, rfl⟩
    obtain ⟨ova, ovc, rfl⟩ := hM.out.od.shape
    obtain ⟨ava, avc, rfl⟩ := hM.out.all.shape
    obtain ⟨wa, rfl⟩ : ∃ wa, wa = wr := ⟨_, rfl⟩
    by_cases hit : i < tn + rs
    · have q1 : (i : Int) < (tn : Int) + (rs : Int) := by omega
      have q2 : (i : Int) < 5000 := by omega
      have hmod : (i : Int).tmod (hands : Int) = ((i % hands : Nat) : Int) := Int.ofNat_tmod i hands
      have hhm : i % hands < hands := Nat.mod_lt _ (by omega)
      have q3 : ((hands : Int) == 0) = false := by rw [beq_eq_false_iff_ne]; omega
      generalize hmr : i % hands = mr at *
      go_upto_if 101 with fail
      go_cut [23, 24] from 84 to 159 (fun s23 s24 wx => ∃ x y : Int, s23 = .int .i64 x ∧ s24 = .int .i64 y ∧ x < 9223372036854775808 ∧ y < 9223372036854775808 ∧ Hid (tn ≤ i → x = (mr : Int) ∧ y = (i : Int)) ∧ Hid (HZ w1 G C room hands ts g F ord (.slice ova (intsOf ord).length ovc) ds (.slice ava ds.length avc) dl lv wx))
      case first => as_aux_lemma =>
        by_cases hin : i < tn
        · have q4 : (i : Int) < (tn : Int) := by omega
          have hil : i < sn := by omega
          have HIN : Hid (i < tn) := hin
          obtain ⟨sb, so, rv, ys, rfl, hsb, hsc, hrd, hyl, hyb⟩ := HS.out i hil
          have q5 : (i : Int) < (sn : Int) := by omega
          have HSC : Hid (w.cell? ⟨sb, so + i, none⟩ = some rv ∧ sb < w.heap.size) := ⟨hsc, hsb⟩
          have HRD : Hid (Rds (fun j => j < w.heap.size) w rv ys ∧ ∀ z, z ∈ ys → z < 9223372036854775808) := ⟨hrd, hyb⟩
          obtain ⟨ra, rc, rfl⟩ := hrd.shape
          obtain ⟨V, hV⟩ : ∃ V, V = wa.heap.size := ⟨_, rfl⟩
          have hV' : wa.heap.size = V := hV.symm
          have HV0 : Hid (VM V wa (wa.alloc (.cells #[.int .i64 0, .int .i64 0] 39))) := by rw [hV]; exact VM.start wa
          have HBA : Hid (Below w.heap.size w wa) := ⟨hM.out.below.os.trans HB1W.out.os, hM.out.below.tape.trans HB1W.out.tape, hM.out.below.output.trans HB1W.out.output, Nat.le_trans HB1W.out.size hM.out.below.size, fun k hk => (hM.out.below.block k (Nat.lt_of_lt_of_le hk HB1W.out.size)).trans (HB1W.out.block k hk)⟩
          clear hsc hrd hV hyb HS hin
          go_upto_block 2 with fail
          clear hV'
          go_cut [26] from 101 to 123 (fun _ wx => Hid (VM V wa wx))
          case first => as_aux_lemma =>
            go_wp2_with fail
            go_loopw [26] (fun s26 wx => ∃ j : Nat, s26 = .int .i64 j ∧ j ≤ 2 ∧ Hid (VM V wa wx)) (fun s26 _ => 2 - (intOf s26).toNat)
            case atStart => exact ⟨0, rfl, by omega, HV0⟩
            case round =>
              clear HV0
              obtain ⟨j, rfl, hj2, hVM⟩ := hrel
              have hBw : Below w.heap.size w wr := HBA.out.trans (hVM.out.2.1.mono (by have := hVM.out.1; have := HBA.out.size; omega))
              have hsc := (hBw.cell (p := ⟨sb, so + i, none⟩) hsb).trans HSC.out.1
              by_cases hjj : j < ys.length ∧ j < 2
              · obtain ⟨hjl, hjt⟩ := hjj
                have hjl' : (j : Int) < (ys.length : Int) := by omega
                have hjt' : (j : Int) < 2 := by omega
                obtain ⟨rb, ro, rfl, hrb, -, hcz⟩ := HRD.out.1.at (k := j) hjl
                have hzb := HRD.out.2 _ (getD_memI hjl)
                have hcz' := (hBw.cell (p := ⟨rb, ro + j, none⟩) hrb).trans hcz
                generalize ys.getD j 0 = z at hcz hcz' hzb
                clear hcz
                obtain ⟨-, -, x, y, -, -, hxy⟩ := hVM.out
                have hM2 : Hid (VM V wa (wr.setCell ⟨V, j, none⟩ (.int .i64 z))) := hVM.out.set j hjt z hzb
                have hfz : wr.frozen? ⟨V, j, none⟩ = false := by simp [World.frozen?, hxy]
                have hcv : ∃ u, wr.cell? ⟨V, j, none⟩ = some (.int .i64 u) := by
                  rcases (by omega : j = 0 ∨ j = 1) with rfl | rfl
                  · exact ⟨x, by simp [World.cell?, hxy]⟩
                  · exact ⟨y, by simp [World.cell?, hxy]⟩
                obtain ⟨u, hcv⟩ := hcv
                clear hxy hVM hzb hM hPL hTR
                go_wp2
                go_roundw
                case rel => exact ⟨j + 1, by go_num, by omega, hM2⟩
                case measure => simp [intOf]; omega
              · rcases (by omega : (¬ (j : Int) < (ys.length : Int)) ∨ ((j : Int) < (ys.length : Int) ∧ ¬ (j : Int) < 2)) with hjl' | ⟨hjl', hjt'⟩
                all_goals
                  go_wp2
                  go_meet
                  exact hVM
          case rest => as_aux_lemma =>
            obtain ⟨wb, rfl⟩ : ∃ wb, wb = wc := ⟨_, rfl⟩
            obtain ⟨hVs, hVb, x, y, hy63, hx63, hxy⟩ := hcut.out
            have hc0 : wb.cell? ⟨V, 0, none⟩ = some (.int .i64 x) := by simp [World.cell?, hxy]
            have hc1 : wb.cell? ⟨V, 1, none⟩ = some (.int .i64 y) := by simp [World.cell?, hxy]
            have HXb : Hid (HZ w1 G C room hands ts g F ord (.slice ova (intsOf ord).length ovc) ds (.slice ava ds.length avc) dl lv wb) := hM.out.later (by rw [hVs]; exact hVb)
            have HXY : Hid (x < 9223372036854775808 ∧ y < 9223372036854775808) := ⟨hx63, hy63⟩
            clear HV0 HRD HSC hsb hyl hcut hVs hVb hxy hM HBA hPL hTR hx63 hy63
            go_wp2
            go_meet
            exact ⟨x, y, rfl, rfl, HXY.out.1, HXY.out.2, fun h => absurd h (by have := HIN.out; omega), HXb⟩
        · have q4 : ¬ (i : Int) < (tn : Int) := by omega
          clear hin hPL hTR HS
          go_wp2
          go_meet
          exact ⟨(mr : Int), (i : Int), rfl, rfl, by omega, by omega, fun _ => ⟨rfl, rfl⟩, hM⟩
      case rest => as_aux_lemma =>
        obtain ⟨x, y, rfl, rfl, hx63, hy63, hxy, HXb⟩ := hcut
        clear hM hmod
        by_cases hok : 0 ≤ x ∧ x < (hands : Int) ∧ 0 ≤ y
        · obtain ⟨h, rfl⟩ : ∃ h : Nat, x = h := ⟨x.toNat, by omega⟩
          obtain ⟨pick, rfl⟩ : ∃ pick : Nat, y = pick := ⟨y.toNat, by omega⟩
          have hh : h < hands := by omega
          have hst := HXb.out.step HC.out.2.1 HC.out.2.2.2 r1 r16 h6 h pick hh (by omega)
          have HPL2 : Hid (PL ts hands room tot (gstep ts room hands g h pick) (ord ++ finOf (gdeeds ts hands g h pick)) (ds ++ gdeeds ts hands g h pick)) := hPL.out.step HC.out.2.1 (fun i hi => (HC.out.2.2.2 i hi).1) r1 h6 hh pick
          have HTR2 : Hid (TR ts hands room tot tn (i + 1) (gstep ts room hands g h pick)) := by
            by_cases hti : tn ≤ i
            · obtain ⟨e1, e2⟩ := hxy.out hti
              have e3 : h = i % hands := by omega
              have e4 : pick = i := by omega
              rw [e3, e4]
              exact hTR.out.next hti
            · exact TR.start HPL2.out (by omega)
          generalize gstep ts room hands g h pick = g' at *
          generalize gdeeds ts hands g h pick = dl' at *
          have hdd : ds.length + dl'.length ≤ 126 := by
            have h2 := HPL2.out.le
            rw [List.length_append] at h2
            omega
          clear hok HXb hPL hTR hxy hx63 hy63 hmr
          go_wp2_with (first | (go_at_call 8; refine hst.mono ?_; clear hst; rintro e w8 ⟨v8, rfl, hX8⟩; obtain ⟨la, lc, rfl⟩ := hX8.l.shape; have HX8 : Hid (HZ w1 G C room hands ts g' F ord (.slice ova (intsOf ord).length ovc) ds (.slice ava ds.length avc) dl' (.slice la dl'.length lc) w8) := hX8; clear hX8) | (at_builtin; refine wpList_append_deeds rfl (.tmp 137) (.tmp 138) rfl w1.heap.size w1.heap.size (.slice ava ds.length avc) (.slice la dl'.length lc) ds dl' rfl rfl HX8.out.all HX8.out.l (by omega) HX8.out.size ?_; intro v9 w9 hr9 hg9 ha9; have HX9 : Hid (HZ w1 G C room hands ts g' F ord (.slice ova (intsOf ord).length ovc) (ds ++ dl') v9 dl' (.slice la dl'.length lc) w9) := HX8.out.append hr9 hg9 ha9; clear hr9 hg9 ha9 HX8))
          have HX9' : Hid (HZ w1 G C room hands ts g' F (ord ++ finOf (dl'.take 0)) (.slice ova (intsOf ord).length ovc) (ds ++ dl') v9 dl' (.slice la dl'.length lc) w9) := by rw [List.take_zero, show finOf [] = [] from rfl, List.append_nil]; exact HX9.out
          have HTK : Hid (∀ k, k < dl'.length → finOf (dl'.take (k + 1)) = finOf (dl'.take k) ++ if (dl'.getD k (0, 0, 0, 0)).1 = 4 then [(dl'.getD k (0, 0, 0, 0)).2.2.1.toNat] else []) := fun k hk => finOf_take hk
          have HTL : Hid (∀ k, k < dl'.length → (dl'.getD k (0, 0, 0, 0)).1 = 4 → ∃ t : Nat, (dl'.getD k (0, 0, 0, 0)).2.2.1 = t ∧ t < ts.length) := fun k hk h4 => by
            have h1 := HPL2.out.fi.lt _ (List.mem_append.2 (Or.inr (fin_mem hk h4)))
            have h2 := deedE_task (HPL2.out.rt (dl'.getD k (0, 0, 0, 0)) (List.mem_append.2 (Or.inr (by rw [List.getD_eq_getElem?_getD, List.getElem?_eq_getElem hk]; exact List.getElem_mem hk))))
            exact ⟨_, (Int.toNat_of_nonneg h2).symm, h1⟩
          have HFL : Hid (∀ k, (ord ++ finOf (dl'.take k)).length ≤ 200) := fun k => by
            have h1 : ord.length ≤ ts.length := nodup_len ts.length ord (HPL2.out.fi.nd.sublist (List.sublist_append_left _ _)) (fun x hx => HPL2.out.fi.lt x (List.mem_append_left _ hx))
            have h2 : (finOf (dl'.take k)).length ≤ dl'.length := by
              unfold finOf
              rw [List.length_map]
              exact Nat.le_trans (List.length_filter_le _ _) (by rw [List.length_take]; omega)
            rw [List.length_append]
            omega
          clear HX9
          go_loopw [18, 29] (fun s18 s29 wi => ∃ k : Nat, k ≤ dl'.length ∧ s29 = .int .i64 k ∧ Hid (HZ w1 G C room hands ts g' F (ord ++ finOf (dl'.take k)) s18 (ds ++ dl') v9 dl' (.slice la dl'.length lc) wi)) (fun _ s29 _ => dl'.length - (intOf s29).toNat)
          case atStart => exact ⟨0, Nat.zero_le _, rfl, HX9'⟩
          case round =>
            clear HX9'
            obtain ⟨k, hk, rfl, hI⟩ := hrel
            obtain ⟨wi, rfl⟩ : ∃ wi, wi = wr := ⟨_, rfl⟩
            have hfl := HFL.out k
            obtain ⟨oa2, oc2, rfl⟩ := hI.out.od.shape
            have hil2 : (intsOf (ord ++ finOf (dl'.take k))).length ≤ 200 := by rw [intsOf_length]; exact hfl
            by_cases hkl : k < dl'.length
            · obtain ⟨gl, cl, hlv, _, _, _, hcl⟩ := hI.out.l.full (by omega)
              simp only [Value.slice.injEq, true_and] at hlv
              obtain ⟨rfl, rfl⟩ := hlv
              have hce0 : wi.cell? ⟨gl, k * 4, none⟩ = some (.int .i64 (dl'.getD k (0, 0, 0, 0)).1) := hcl k hkl 0 (by omega)
              have hce2 : wi.cell? ⟨gl, k * 4 + 2, none⟩ = some (.int .i64 (dl'.getD k (0, 0, 0, 0)).2.2.1) := hcl k hkl 2 (by omega)
              have HT1 := HTK.out k hkl
              have hT2 := HTL.out k hkl
              clear hcl
              generalize (dl'.getD k (0, 0, 0, 0)).1 = a1 at *
              generalize (dl'.getD k (0, 0, 0, 0)).2.2.1 = t1 at *
              by_cases h4 : a1 = 4
              · obtain ⟨t, rfl, htl⟩ := hT2 h4
                have HNX : Hid (ord ++ finOf (dl'.take (k + 1)) = (ord ++ finOf (dl'.take k)) ++ [t]) := by
                  show _ = _
                  rw [HT1, if_pos h4, Int.toNat_natCast, List.append_assoc]
                have hIa := hI.out.later (w' := wi.alloc (.cells #[.int .i64 (t : Int)] 3)) ((Below.refl _ _).alloc (Nat.le_refl _) _)
                have HIA : Hid (HZ w1 G C room hands ts g' F (ord ++ finOf (dl'.take k)) (.slice oa2 (intsOf (ord ++ finOf (dl'.take k))).length oc2) (ds ++ dl') v9 dl' (.slice (some ⟨gl, 0, none⟩) dl'.length lc) (wi.alloc (.cells #[.int .i64 (t : Int)] 3))) := hIa
                have hxd : Rds (fun _ => True) (wi.alloc (.cells #[.int .i64 (t : Int)] 3)) (.slice (some ⟨wi.heap.size, 0, none⟩) 1 1) [(t : Int)] := one_rds wi t
                have HOD : Hid (RowI w1.heap.size (wi.alloc (.cells #[.int .i64 (t : Int)] 3)) (.slice oa2 (intsOf (ord ++ finOf (dl'.take k))).length oc2) (intsOf (ord ++ finOf (dl'.take k)))) := hIa.od
                have HXD : Hid (Rds (fun _ => True) (wi.alloc (.cells #[.int .i64 (t : Int)] 3)) (.slice (some ⟨wi.heap.size, 0, none⟩) 1 1) [(t : Int)]) := hxd
                have HSZ : Hid (w1.heap.size ≤ (wi.alloc (.cells #[.int .i64 (t : Int)] 3)).heap.size) := hIa.size
                subst h4
                clear HT1 hT2 hI hIa hxd HTK HTL HPL2 HTR2 hfl HFL
                generalize hzs : intsOf (ord ++ finOf (dl'.take k)) = zs at *
                go_wp2_with (at_builtin; refine wpList_append_rows rfl (.tmp 152) (.tmp 158) rfl w1.heap.size (fun _ => True) (.slice oa2 zs.length oc2) (.slice (some ⟨wi.heap.size, 0, none⟩) 1 1) zs [(t : Int)] rfl rfl HOD.out HXD.out (by simp; omega) HSZ.out ?_; intro v3 w3 hr3 hg3 ha3)
                have HN3 : Hid (HZ w1 G C room hands ts g' F (ord ++ finOf (dl'.take (k + 1))) v3 (ds ++ dl') v9 dl' (.slice (some ⟨gl, 0, none⟩) dl'.length lc) w3) := by
                  rw [← hzs] at hr3 hg3 ha3
                  rw [HNX.out]
                  rw [← hzs] at HIA
                  exact HIA.out.finish hr3 hg3 ha3
                clear hr3 hg3 ha3
                go_roundw
                case rel => exact ⟨k + 1, by omega, by go_num, HN3⟩
                case measure => simp [intOf]; omega
              · have HI2 : Hid (HZ w1 G C room hands ts g' F (ord ++ finOf (dl'.take (k + 1))) (.slice oa2 (intsOf (ord ++ finOf (dl'.take k))).length oc2) (ds ++ dl') v9 dl' (.slice (some ⟨gl, 0, none⟩) dl'.length lc) wi) := by
                  rw [HT1, if_neg h4, List.append_nil]
                  exact hI.out
                have h4b : (a1 == 4) = false := beq_eq_false_iff_ne.2 h4
                clear HT1 hT2 hI HTK HTL HPL2 HTR2 h4 hfl HFL
                generalize (intsOf (ord ++ finOf (dl'.take k))).length = zl at *
                go_wp2
                go_roundw
                case rel => exact ⟨k + 1, by omega, by go_num, HI2⟩
                case measure => simp [intOf]; omega
            · have hke : k = dl'.length := by omega
              have hI2 := hI.out
              rw [hke, List.take_length] at hI2
              rw [hke, List.take_length] at hil2 ⊢
              have HI3 : Hid (HZ w1 G C room hands ts g' F (ord ++ finOf dl') (.slice oa2 (intsOf (ord ++ finOf dl')).length oc2) (ds ++ dl') v9 dl' (.slice la dl'.length lc) wi) := hI2
              clear hI hI2 hke hkl hk hfl HFL HTK HTL
              generalize (intsOf (ord ++ finOf dl')).length = zl at *
              go_wp2
              go_roundg (tn + rs - (i + 1))
              case measure => omega
              case rel => exact ⟨i + 1, g', ord ++ finOf dl', ds ++ dl', dl', _, by go_num, by omega, HI3, HPL2, HTR2, Nat.le_refl _⟩
        · have hrf := HXb.out.gx.refused x y (by omega)
          have hni : i < tn := by
            apply Classical.byContradiction
            intro hc2
            obtain ⟨e1, e2⟩ := hxy.out (by omega)
            omega
          have HTR2 : Hid (TR ts hands room tot tn (i + 1) g) := TR.start hPL.out (by omega)
          clear hok hxy hTR
          generalize (intsOf ord).length = zl at *
          go_wp2_with (first | (go_at_call 8; refine hrf.mono ?_; clear hrf; rintro e wb ⟨rfl, rfl⟩))
          go_roundg (tn + rs - (i + 1))
          case measure => omega
          case rel => exact ⟨i + 1, g, ord, ds, dl, lv, by go_num, by omega, HXb, hPL, HTR2, Nat.le_refl _⟩
    · have q1 : ¬ (i : Int) < (tn : Int) + (rs : Int) := by omega
      have hie : i = tn + hands * tot := by have := HRS.out; omega
      have hall : ∀ k, k < ts.length → g.S k = true := by
        have h := hTR.out
        rw [hie] at h
        exact TR.done HC.out.2.1 (fun i hi => (HC.out.2.2.2 i hi).1) r1 h1 h
      obtain ⟨f1, f2, f3⟩ := hPL.out.fi.full hall
      have HBA : Hid (Below w.heap.size w wa) := ⟨hM.out.below.os.trans HB1W.out.os, hM.out.below.tape.trans HB1W.out.tape, hM.out.below.output.trans HB1W.out.output, Nat.le_trans HB1W.out.size hM.out.below.size, fun k hk => (hM.out.below.block k (Nat.lt_of_lt_of_le hk HB1W.out.size)).trans (HB1W.out.block k hk)⟩
      have hdl : ds.length ≤ 126 := by have := hPL.out.le; omega
      have hde : deedsErr ds = 0 := deeds_fine (by omega) hPL.out.rt
      have htx := deedsText_len ds hPL.out.rt
      obtain ⟨p1, p2⟩ := text_back hde
      have hao := cAlong_any _ _ _ ts os (intsOf ord) wa (HC.out.2.2.1.later HBA.out) (HO.out.later HBA.out) (hM.out.od.intsAtG (by rw [intsOf_length]; omega))
      have HAE : Hid (∀ q : Int × Int, CheckIs ts q.1 q.2 → alErr q.2 ts os (intsOf ord) = 0) := fun q hc => by
        have hq : q.2 = 0 := (hc.det HC.out.1).2
        have h0 : allErr q.2 ts.length os = 0 := by unfold allErr; rw [if_pos hq]; exact HOPS.out
        rw [alErr_ok h0]
        exact ordErr_ok f2 (by rw [f3]; exact hPL.out.fi.bh)
      have HSO : Hid (outL ts.length (alongC ts (fun k => os.getD k (0, 0)) (natsOf (intsOf ord))) = outL ts.length F) := by
        show _ = _
        rw [f3]
        exact HSM.out g ord hPL.out.fi hall
      have hun := unseen_zero _ _ hall
      have HLF : Hid (∀ wx, Below wa.heap.size wa wx → Calls Tryz.prog 11 #[.pointer (some ⟨G, 0, none⟩)] wx fun e w' => e = .returned (.int .i64 0) ∧ Below wx.heap.size wx w') := fun wx hb => by
        have h := (hM.out.later hb).gx.left
        rw [hun] at h
        exact h
      have HCL : Hid (∀ wx, Below wa.heap.size wa wx → CellsAt wx (.slice (some ⟨C, 0, none⟩) ts.length ts.length) (outL ts.length F)) := fun wx hb => cells_of_row (hM.out.later hb).cl (by omega)
      have HDA : Hid (∀ wx, Below wa.heap.size wa wx → DeedsAt wx (.slice ava ds.length avc) ds) := fun wx hb => (hM.out.later hb).all.at (by omega)
      obtain ⟨tx, htxe⟩ : ∃ tx, tx = deedsText ds := ⟨_, rfl⟩
      rw [← htxe] at p1 p2 htx
      have HPR : Hid (∀ wx, Below wa.heap.size wa wx → Calls Tryz.prog 12 #[.slice ava ds.length avc] wx fun e w' => e = .returned (.tuple #[.string ⟨tx.toArray⟩, .nilIface]) ∧ Below wx.heap.size wx w') := fun wx hb => by
        have h := print_any _ ds wx (HDA.out wx hb) (HFO.out.1.later (HBA.out.trans (hb.mono HBA.out.size)))
        rwa [if_pos hde, hde, ← htxe, errV_zero] at h
      have HPA : Hid (∀ wx, Below wa.heap.size wa wx → Calls Tryz.prog 13 #[.string ⟨tx.toArray⟩] wx fun e w' => (∃ v, e = .returned (.tuple #[v, .nilIface]) ∧ RowD wx.heap.size w' v ds) ∧ Below wx.heap.size wx w') := fun wx hb => by
        have hbw := HBA.out.trans (hb.mono HBA.out.size)
        have h := parse_any tx (by omega) wx (HFO.out.1.later hbw) (HFO.out.2.later hbw)
        rwa [p1, p2, errV_zero] at h
      have HCH : Hid (∀ wx, Below wa.heap.size wa wx → Calls Tryz.prog 15 #[.slice pa ts.length pc, .int .i64 hands, .slice ava ds.length avc] wx fun e w' => e = .returned .nilIface ∧ Below wx.heap.size wx w') := fun wx hb => check_fine HC.out.1 h1 h6 (HC.out.2.2.1.later (HBA.out.trans (hb.mono HBA.out.size))) (HDA.out wx hb) hde hPL.out.er
      have hil2 : (intsOf ord).length ≤ 30 := by rw [intsOf_length]; omega
      clear hall f1 f2 f3 hde p1 p2 htx htxe hun hM hPL hTR hie HS
      generalize (intsOf ord).length = zl at *
      go_wp2_with fail
      refine hao.mono ?_
      clear hao
      rintro e w5 ⟨⟨p5, q5, hck5, hcase5⟩, hb5⟩
      rcases hcase5 with ⟨hne5, _⟩ | ⟨_, _, g5, rfl, hrow5⟩
      · exact absurd (HAE.out (p5, q5) hck5) hne5
      have HB5 : Hid (Below wa.heap.size wa w5) := hb5
      have hc5 := cells_of_row hrow5 (by omega)
      rw [HSO.out] at hc5
      have hsa := sameCells_any _ _ _ w5 hc5 (HCL.out w5 hb5)
      clear hck5 hrow5 hc5 hb5 HAE HSO HCL HSM
      go_wp2_with fail
      refine hsa.mono ?_
      clear hsa
      rintro e w6 ⟨rfl, hb6⟩
      have HB6 : Hid (Below wa.heap.size wa w6) := HB5.out.trans (hb6.mono HB5.out.size)
      have hlf := HLF.out w6 HB6.out
      clear hb6 HB5 HLF
      go_wp2_with (go_at_call 11; refine hlf.mono ?_; clear hlf; rintro e w7 ⟨rfl, hb7⟩; have HB7 : Hid (Below wa.heap.size wa w7) := HB6.out.trans (hb7.mono HB6.out.size); have hpr := HPR.out w7 HB7.out; clear hb7 HPR)
      refine hpr.mono ?_
      clear hpr
      rintro e w8 ⟨rfl, hb8⟩
      have HB8 : Hid (Below wa.heap.size wa w8) := HB7.out.trans (hb8.mono HB7.out.size)
      have hpa := HPA.out w8 HB8.out
      clear hb8 HB7 HPA
      go_wp2_with fail
      refine hpa.mono ?_
      clear hpa
      rintro e w9 ⟨⟨v9, rfl, hr9⟩, hb9⟩
      have HB9 : Hid (Below wa.heap.size wa w9) := HB8.out.trans (hb9.mono HB8.out.size)
      have hsd := sameDeeds_at _ _ ds w9 (hr9.at (by omega)) (HDA.out w9 HB9.out)
      obtain ⟨a9, c9, rfl⟩ := hr9.shape
      clear hb9 HB8 hr9
      go_wp2_with fail
      refine hsd.mono ?_
      clear hsd
      rintro e w10 ⟨rfl, hb10⟩
      have HB10 : Hid (Below wa.heap.size wa w10) := HB9.out.trans (hb10.mono HB9.out.size)
      have hch := HCH.out w10 HB10.out
      clear hb10 HB9 HCH
      go_wp2_with (go_at_call 15; refine hch.mono ?_; clear hch; rintro e w11 ⟨rfl, hb11⟩; have HB11 : Hid (Below wa.heap.size wa w11) := HB10.out.trans (hb11.mono HB10.out.size); clear hb11)
      go_ret
      exact ⟨rfl, HBA.out.trans (HB11.out.mono HBA.out.size)⟩
end Go.Proofs.YtandhiiaflhenaaGreatDoor

namespace Go.Proofs.YtandhiiaflhenaaGreatDoor
open Go.RowKit Go.Deep

set_option maxRecDepth 100000 in
set_option maxHeartbeats 8000000 in
theorem topGang_no (v opv : Value) (ts : List (Int × List Int)) (os : List Opn) (hands room : Int) (sn : Nat) (sa : Option Addr) (sc : Nat) (w : World) (hp : PlanAt w v ts) (ho : OpsAt w opv os) (hno : ¬ (CheckIs ts 0 0 ∧ 1 ≤ hands ∧ hands ≤ 6 ∧ 1 ≤ room ∧ room ≤ 16)) :
    Calls Tryz.prog 3 #[v, opv, .int .i64 hands, .int .i64 room, .slice sa sn sc] w fun e w' => e = .returned (.bool true) ∧ Below w.heap.size w w' := by
  have hone := tone_any w
  have HN : Hid (∀ wx, Below w.heap.size w wx → Calls Tryz.prog 5 #[v, .int .i64 hands, .int .i64 room] wx fun e w' => (∃ q : Int, e = .returned (.tuple #[.pointer none, .iface 80 (.int .i64 q)])) ∧ Below wx.heap.size wx w') := fun wx hb => gNew_no v ts wx (hp.later hb) hands room hno
  have HAL : Hid (∀ wx, Below w.heap.size w wx → Calls Tryz.prog 6 #[v, opv] wx fun e w' => AllNew wx.heap.size ts os e w' ∧ Below wx.heap.size wx w') := fun wx hb => allNew_any v opv ts os wx (hp.later hb) (ho.later hb)
  obtain ⟨pa, pc, rfl⟩ : ∃ a c, v = .slice a ts.length c := by obtain ⟨hl, a, c, hv, -⟩ := hp; exact ⟨a, c, hv⟩
  obtain ⟨oa, oc, rfl⟩ : ∃ a c, opv = .slice a os.length c := by obtain ⟨hl, a, c, hv, -⟩ := ho; exact ⟨a, c, hv⟩
  clear hp ho hno
  go_enter Tryz.func3, Tryz.ntmps3
  go_wp2_with fail
  refine hone.mono ?_
  clear hone
  rintro e w1 ⟨rfl, hb1⟩
  have HB1 : Hid (Below w.heap.size w w1) := hb1
  have hn2 := HN.out w1 hb1
  clear HN hb1
  go_wp2_with fail
  refine hn2.mono ?_
  clear hn2
  rintro e w2 ⟨⟨q, rfl⟩, hb2⟩
  have HB2 : Hid (Below w.heap.size w w2) := HB1.out.trans (hb2.mono HB1.out.size)
  have hal := HAL.out w2 HB2.out
  clear HAL hb2 HB1
  go_wp2_with fail
  refine hal.mono ?_
  clear hal
  rintro e w3 ⟨⟨p, q3, -, hcase⟩, hb3⟩
  have HB3 : Hid (Below w.heap.size w w3) := HB2.out.trans (hb3.mono HB2.out.size)
  clear hb3 HB2
  rcases hcase with ⟨hne, rfl⟩ | ⟨-, -, ord, C, -, -, rfl, -⟩
  · rw [errV_some hne]
    generalize allErr q3 ts.length os = q4 at *
    clear hne
    go_wp2
    go_ret
    exact ⟨rfl, HB3.out⟩
  · go_wp2
    go_ret
    exact ⟨rfl, HB3.out⟩
set_option maxRecDepth 100000 in
set_option maxHeartbeats 8000000 in
theorem topGang_bad (v opv : Value) (ts : List (Int × List Int)) (os : List Opn) (hands room : Nat) (sn : Nat) (sa : Option Addr) (sc : Nat) (w : World) (hp : PlanAt w v ts) (ho : OpsAt w opv os) (hc : CheckIs ts 0 0) (h1 : 1 ≤ hands) (h6 : hands ≤ 6) (r1 : 1 ≤ room) (r16 : room ≤ 16) (hops : opsErr ts.length os ≠ 0) :
    Calls Tryz.prog 3 #[v, opv, .int .i64 hands, .int .i64 room, .slice sa sn sc] w fun e w' => e = .returned (.bool true) ∧ Below w.heap.size w w' := by
  have hone := tone_any w
  have HC : Hid (CheckIs ts 0 0 ∧ opsErr ts.length os ≠ 0) := ⟨hc, hops⟩
  have HN : Hid (∀ wx, Below w.heap.size w wx → Calls Tryz.prog 5 #[v, .int .i64 hands, .int .i64 room] wx fun e w' => ∃ G, e = .returned (.tuple #[.pointer (some ⟨G, 0, none⟩), .nilIface]) ∧ GX (fun k => k < wx.heap.size) G room hands ts (gnew ts) w' ∧ Below wx.heap.size wx w') := fun wx hb => gx_new (hp.later hb) hc h1 h6 r1 r16
  have HAL : Hid (∀ wx, Below w.heap.size w wx → Calls Tryz.prog 6 #[v, opv] wx fun e w' => AllNew wx.heap.size ts os e w' ∧ Below wx.heap.size wx w') := fun wx hb => allNew_any v opv ts os wx (hp.later hb) (ho.later hb)
  obtain ⟨pa, pc, rfl⟩ : ∃ a c, v = .slice a ts.length c := by obtain ⟨hl, a, c, hv, -⟩ := hp; exact ⟨a, c, hv⟩
  obtain ⟨oa, oc, rfl⟩ : ∃ a c, opv = .slice a os.length c := by obtain ⟨hl, a, c, hv, -⟩ := ho; exact ⟨a, c, hv⟩
  clear hp ho hc hops
  go_enter Tryz.func3, Tryz.ntmps3
  go_wp2_with fail
  refine hone.mono ?_
  clear hone
  rintro e w1 ⟨rfl, hb1⟩
  have HB1 : Hid (Below w.heap.size w w1) := hb1
  have hn2 := HN.out w1 hb1
  clear HN hb1
  go_wp2_with fail
  refine hn2.mono ?_
  clear hn2
  rintro e w2 ⟨G, rfl, -, hb2⟩
  have HB2 : Hid (Below w.heap.size w w2) := HB1.out.trans (hb2.mono HB1.out.size)
  have hal := HAL.out w2 HB2.out
  clear HAL hb2 HB1
  go_wp2_with fail
  refine hal.mono ?_
  clear hal
  rintro e w3 ⟨⟨p, q3, hck, hcase⟩, hb3⟩
  have HB3 : Hid (Below w.heap.size w w3) := HB2.out.trans (hb3.mono HB2.out.size)
  clear hb3 HB2
  rcases hcase with ⟨hne, rfl⟩ | ⟨-, h0, -⟩
  · rw [errV_some hne]
    generalize allErr q3 ts.length os = q4 at *
    clear hne hck HC
    go_wp2
    go_ret
    exact ⟨rfl, HB3.out⟩
  · exact absurd h0 HC.out.2
theorem topGang_any (v opv : Value) (ts : List (Int × List Int)) (os : List Opn) (hands room : Int) (sv : Value) (w : World) (hp : PlanAt w v ts) (ho : OpsAt w opv os) (hs : ∃ (sn : Nat) (sa : Option Addr) (sc : Nat), sv = .slice sa sn sc ∧ Steps w sa sn) (hf : FormsAt w) (hy : Synt w) :
    Calls Tryz.prog 3 #[v, opv, .int .i64 hands, .int .i64 room, sv] w fun e w' => e = .returned (.bool true) ∧ Below w.heap.size w w' := by
  obtain ⟨sn, sa, sc, rfl, hs⟩ := hs
  by_cases hall : CheckIs ts 0 0 ∧ 1 ≤ hands ∧ hands ≤ 6 ∧ 1 ≤ room ∧ room ≤ 16
  · obtain ⟨hc, a1, a2, a3, a4⟩ := hall
    obtain ⟨h, rfl⟩ : ∃ h : Nat, hands = h := ⟨hands.toNat, by omega⟩
    obtain ⟨r, rfl⟩ : ∃ r : Nat, room = r := ⟨room.toNat, by omega⟩
    by_cases hops : opsErr ts.length os = 0
    · exact topGang_in v opv ts os h r sn sa sc w hp ho hc (by omega) (by omega) (by omega) (by omega) hops hs hf hy
    · exact topGang_bad v opv ts os h r sn sa sc w hp ho hc (by omega) (by omega) (by omega) (by omega) hops
  · exact topGang_no v opv ts os hands room sn sa sc w hp ho hall
end Go.Proofs.YtandhiiaflhenaaGreatDoor
