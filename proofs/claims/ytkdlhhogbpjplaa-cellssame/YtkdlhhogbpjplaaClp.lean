/- The walk of CellsSame. -/
import Derived.Test.YtkdlhhogbpjplaaClo
namespace Go.Proofs.Ytkdlhhogbpjplaa
open Go.RowKit Go.Deep

set_option maxRecDepth 100000 in
set_option maxHeartbeats 8000000 in
theorem cellsSame_any (pv ov rv : Value) (ts : List (Int × List Int)) (os : List Opn) (zs : List Int) (w : World) (hp : PlanAt w pv ts) (ho : OpsAt w ov os) (hz : IntsAt w rv zs) :
    Calls Try.prog 3 #[pv, ov, rv] w fun e w' => e = .returned (.bool true) ∧ Below w.heap.size w w' := by
  have HP : Hid (PlanAt w pv ts) := hp
  have HO : Hid (OpsAt w ov os) := ho
  have HZ : Hid (IntsAt w rv zs) := hz
  obtain ⟨hpl, pa, pc, rfl, _⟩ := hp
  obtain ⟨hol, oa, oc, rfl, _⟩ := ho
  obtain ⟨hzl, ra, rc, rfl, _⟩ := hz
  have hfa := fact_calls w
  obtain ⟨iC, hiC, hz0, hz1, hz2⟩ := info_parts Try.info36
  go_enter Try.func3, Try.ntmps3
  go_wp2_with fail
  refine hfa.mono ?_
  clear hfa
  rintro e w1 ⟨⟨g0, rfl, c0, c1⟩, hb1⟩
  have hal := cAll_any _ _ ts os w1 (HP.out.later hb1) (HO.out.later hb1)
  have HB1 : Hid (Below w.heap.size w w1) := hb1
  clear hb1
  go_wp2_with fail
  refine hal.mono ?_
  clear hal
  rintro e w2 ⟨⟨p, q, hck, hcase⟩, hb2⟩
  have HB2 : Hid (Below w.heap.size w w2) := HB1.out.trans (hb2.mono HB1.out.size)
  clear c0 c1 HB1 hb2
  rcases hcase with ⟨hne, rfl⟩ | ⟨rfl, hops, ord, g, hord, rfl, hrow⟩
  · rw [errV_some hne]
    generalize allErr q ts.length os = q2 at *
    clear hck hne
    go_wp2
    go_ret
    exact ⟨rfl, HB2.out⟩
  · obtain ⟨-, h30, herr, hno⟩ := hck.ok rfl
    obtain ⟨hm, hop⟩ := opsErr_zero hops
    have hr := inRange_of herr
    have HR : Hid (InRange ts) := hr
    have HNO : Hid (∀ j, j < ts.length → ¬ Reach ts j j) := hno
    have HORD : Hid (OrdIs ts ord) := hord
    have HOPS : Hid (opsErr ts.length os = 0) := hops
    have HOP : Hid (∀ k, k < ts.length → opErr (os.getD k (0, 0)) = 0) := hop
    have HCK : Hid (CheckIs ts p 0) := hck
    have HS : Hid (Sol ts (fun k => os.getD k (0, 0)) (alongC ts (fun k => os.getD k (0, 0)) ord)) := alongC_sol hord.nodup hord.behind hr hord.below (hord.mem hr hno)
    have HFR : Hid (∀ j, cellErr (alongC ts (fun k => os.getD k (0, 0)) ord j) = 0) := fun j => alongC_right (fun x hx => hop x (hord.below x hx)) j
    have H8 : Hid (∀ k, k < ts.length → (needsOf ts k).length ≤ 30) := fun k hk => Nat.le_trans (needs_len herr hk) h30
    have HSM : Hid (∀ o2 : List Nat, o2.Nodup → Behind ts o2 → (∀ x, x ∈ o2 → x < ts.length) → (∀ x, x < ts.length → x ∈ o2) → outL ts.length (alongC ts (fun k => os.getD k (0, 0)) o2) = outL ts.length (alongC ts (fun k => os.getD k (0, 0)) ord)) := fun o2 h1 h2 h3 h4 => same_out hr hno h1 h2 h3 h4 hord.nodup hord.behind hord.below (hord.mem hr hno)
    obtain ⟨F, hF⟩ : ∃ F, F = alongC ts (fun k => os.getD k (0, 0)) ord := ⟨_, rfl⟩
    rw [← hF] at HS HFR HSM hrow
    have HROW : Hid (w2.rowIs g 36 (ts.length * 2) (cellRow F)) := hrow
    obtain ⟨ol, hole⟩ : ∃ ol, ol = os.length := ⟨_, rfl⟩
    have HM : Hid (os.length = ts.length) := hm
    have hgl := hrow.lt
    rw [show os.length = ts.length from hm]
    clear hF hrow hck hord hops hop hr hno herr hm hole
    go_wp2
    go_loopw [12] (fun s12 wr => ∃ i : Nat, i ≤ ts.length ∧ s12 = .int .i64 i ∧ Below w2.heap.size w2 wr) (fun s12 _ => ts.length - (intOf s12).toNat)
    case atStart => exact ⟨0, Nat.zero_le _, rfl, Below.refl _ _⟩
    case round =>
      obtain ⟨i, hi, rfl, hbr⟩ := hrel
      by_cases hit : i < ts.length
      · obtain ⟨_, a', c', hva, hpc⟩ := HP.out
        cases hva
        rcases hpc with h0 | ⟨pb, po, rfl, hpb, hpc⟩
        · rw [h0] at hit; simp at hit
        obtain ⟨_, nv, hn2, hin⟩ := hpc i hit
        have HN2 : Hid (w.cell? ⟨pb, po + i * 2 + 1, none⟩ = some nv) := hn2
        have HIN : Hid (IntsAt w nv (needsOf ts i)) := hin
        obtain ⟨nl8, na, nc, rfl, _⟩ := hin
        have hnr := HR.out i hit
        have h8i := H8.out i hit
        have HSI := HS.out i hit
        obtain ⟨ns, hns⟩ : ∃ ns, ns = needsOf ts i := ⟨_, rfl⟩
        rw [← hns] at HIN hnr h8i HN2 HSI
        have HNR : Hid (∀ y, y ∈ ns → 0 ≤ y ∧ y < ts.length) := hnr
        have HSI2 : Hid (F i = doC (os.getD i (0, 0)) (ns.map (fun y => F y.toNat))) := HSI
        clear hpc hn2 hns hnr nl8 HSI
        obtain ⟨w0, hw0⟩ : ∃ w0, w0 = wr := ⟨_, rfl⟩
        have HB0 : Hid (Below w.heap.size w w0) := by rw [hw0]; exact HB2.out.trans (hbr.mono HB2.out.size)
        have HBR : Hid (Below w2.heap.size w2 w0) := by rw [hw0]; exact hbr
        have HR0 : Hid (w0.rowIs g 36 (ts.length * 2) (cellRow F)) := by rw [hw0]; exact HROW.out.of_block (hbr.block _ hgl)
        have h0lt : g < w0.heap.size := HR0.out.lt
        go_wp2
        rw [← hw0]
        clear hw0 hbr
        go_loopw [13, 14] (fun s13 s14 wr => ∃ j : Nat, j ≤ ns.length ∧ s14 = .int .i64 j ∧ Hid (RowC w0.heap.size wr s13 ((ns.take j).map (fun y => F y.toNat))) ∧ Below w0.heap.size w0 wr) (fun _ s14 _ => ns.length - (intOf s14).toNat)
        case atStart => exact ⟨0, Nat.zero_le _, rfl, RowC.nil _ _, Below.refl _ _⟩
        case round =>
          obtain ⟨j, hj, rfl, hR, hb⟩ := hrel
          have hrow := HR0.out.of_block (hb.block _ h0lt)
          have hbw := HB0.out.trans (hb.mono HB0.out.size)
          have hn2' := (hbw.cell (p := ⟨pb, po + i * 2 + 1, none⟩) hpb).trans HN2.out
          by_cases hjl : j < ns.length
          · obtain ⟨nb, no, rfl, hnc, hnb⟩ : ∃ nb no, na = some ⟨nb, no, none⟩ ∧ w.cell? ⟨nb, no + j, none⟩ = some (.int .i64 (ns.getD j 0)) ∧ nb < w.heap.size := by
              obtain ⟨_, a', c', hva, hz⟩ := HIN.out
              cases hva
              rcases hz with h0 | ⟨rb, ro, h1, h2, h3⟩
              · rw [h0] at hjl; simp at hjl
              · exact ⟨rb, ro, h1, h3 j hjl, h2⟩
            have hnc' := (hbw.cell (p := ⟨nb, no + j, none⟩) hnb).trans hnc
            have hym := getD_mem 0 hjl
            obtain ⟨y1, y2⟩ := HNR.out _ hym
            have HT : Hid ((ns.take (j + 1)).map (fun y => F y.toNat) = (ns.take j).map (fun y => F y.toNat) ++ [F (ns.getD j 0).toNat]) := by
              show _ = _
              rw [List.take_succ_eq_append_getElem hjl, List.map_append, List.getD_eq_getElem?_getD, List.getElem?_eq_getElem hjl]
              rfl
            clear hnc hym
            generalize ns.getD j 0 = y at *
            obtain ⟨m, rfl⟩ := Int.eq_ofNat_of_zero_le y1
            have hmt : m < ts.length := by omega
            have hmt2 : ¬ (ts.length : Int) ≤ (m : Int) := by omega
            rw [Int.toNat_natCast] at HT
            have hv1 := hrow.cell (i := m * 2) (by omega)
            have hv2 := hrow.cell (i := m * 2 + 1) (by omega)
            rw [cellRow_num] at hv1
            rw [cellRow_flt] at hv2
            obtain ⟨la, lc, rfl⟩ := hR.out.any
            have hl1 : ((ns.take j).map (fun y => F y.toNat)).length ≤ 1000 := by simp; omega
            obtain ⟨cs, hcs⟩ : ∃ cs, cs = (ns.take j).map (fun y => F y.toNat) := ⟨_, rfl⟩
            rw [← hcs] at hR hl1 HT
            have hR2 := hR.out.later (((Below.refl _ _).alloc (Nat.le_refl _) (.cells #[.int .i64 (F m).1, .bool (F m).2] 36)) : Below wr.heap.size wr (wr.alloc (.cells #[.int .i64 (F m).1, .bool (F m).2] 36)))
            rw [← hcs]
            have hsrc := cell_two_at wr (.int .i64 (F m).1) (.bool (F m).2) 36
            have hbA : Below w0.heap.size w0 (wr.alloc (.cells #[.int .i64 (F m).1, .bool (F m).2] 36)) := hb.alloc hb.size _
            have hwsz := hb.size
            unfold RowC at hR2
            have HFM : Hid (flatC cs ++ [.int .i64 (F m).1, .bool (F m).2] = flatC (cs ++ [F m])) := by show _ = _; rw [flatC_append]; rfl
            clear hcs hR hrow hbw
            generalize (F m).1 = x at *
            generalize (F m).2 = f at *
            go_wp2_with (at_builtin; refine wpList_append_own _ rfl (.tmp 109) (.tmp 114) 28 rfl w0.heap.size 36 iC (.agg #[.int .i64 0, .bool false]) 2 16 Try.underlying28 hiC hz0 hz1 hz2 rfl (by decide) _ cs.length (flatC cs) rfl hR2 ⟨wr.heap.size, 0, none⟩ 1 1 [.int .i64 x, .bool f] rfl rfl hsrc ?d2 ?d3 ?d4 ?d5 ?_)
            case d2 => exact ⟨rfl, rfl⟩
            case d3 => unfold maxLen; omega
            case d4 => omega
            case d5 => omega
            intro v' w1 hown' hgrow _
            have hB1 : Below w0.heap.size w0 w1 := hbA.grown hgrow (by simp; omega) (fun k e => (hR2.lt k e).1)
            have HN1 : Hid (RowC w0.heap.size w1 v' ((ns.take (j + 1)).map (fun y => F y.toNat))) := by
              show RowC _ _ _ _
              rw [HT.out]
              unfold RowC
              rw [List.length_append, ← HFM.out]
              exact hown'
            clear hown' hgrow hR2 hbA
            go_wp2
            go_roundw
            case rel => exact ⟨j + 1, by omega, by go_num, HN1, hB1⟩
            case measure => simp [intOf]; omega
          · have hall : ns.take j = ns := List.take_of_length_le (by omega)
            rw [hall] at hR
            have hcl : ((ns.map (fun y => F y.toNat)).length) * 16 ≤ 140737488351232 := by rw [List.length_map]; omega
            have hca := hR.out.at hcl
            have hrt : ∀ c, c ∈ ns.map (fun y => F y.toNat) → cellErr c = 0 := fun c hc => by
              obtain ⟨y, _, rfl⟩ := List.mem_map.1 hc
              exact HFR.out _
            have hopi := HOP.out i hit
            obtain ⟨la, lc, rfl⟩ := hR.out.any
            have hde : doErr (os.getD i (0, 0)) (ns.map (fun y => F y.toNat)) = 0 := doErr_zero hopi (by rw [List.length_map]; exact h8i) hrt
            have hdr : doR (os.getD i (0, 0)) (ns.map (fun y => F y.toNat)) = F i := by rw [doR_ok hde, HSI2.out]
            have hdo0 := cDo_any (os.getD i (0, 0)) _ _ wr hca
            rw [hde, hdr, errV_zero] at hdo0
            have hdo : Calls Try.prog 6 #[.agg #[.int .i64 (whtO os i), .int .i64 (numO os i)], .slice la (ns.map (fun y => F y.toNat)).length lc] wr fun e w' => e = .returned (.tuple #[.agg #[.int .i64 (F i).1, .bool (F i).2], .nilIface]) ∧ Below wr.heap.size wr w' := hdo0
            obtain ⟨ob, oo, rfl, ho1, ho2⟩ : ∃ ob oo, oa = some ⟨ob, oo, none⟩ ∧ wr.cell? ⟨ob, oo + i * 2, none⟩ = some (.int .i64 (whtO os i)) ∧ wr.cell? ⟨ob, oo + i * 2 + 1, none⟩ = some (.int .i64 (numO os i)) := by
              obtain ⟨_, a', c', hva, hz⟩ := HO.out
              cases hva
              have hio : i < os.length := by rw [HM.out]; exact hit
              rcases hz with h0 | ⟨rb, ro, h1, h2, h3⟩
              · rw [h0] at hio; simp at hio
              · exact ⟨rb, ro, h1, (hbw.cell (p := ⟨rb, ro + i * 2, none⟩) h2).trans (h3 i hio).1, (hbw.cell (p := ⟨rb, ro + i * 2 + 1, none⟩) h2).trans (h3 i hio).2⟩
            have hch0 : ∀ wx : World, Calls Try.prog 7 #[.agg #[.int .i64 (F i).1, .bool (F i).2]] wx fun e w' => e = .returned .nilIface ∧ Below wx.heap.size wx w' := fun wx => by
              have h := cCheck_any (F i).1 (F i).2 wx
              have e : cellErr ((F i).1, (F i).2) = 0 := HFR.out i
              rw [e, errV_zero] at h
              exact h
            have HRW : Hid (wr.rowIs g 36 (ts.length * 2) (cellRow F)) := hrow
            have HBX : Hid (Below w2.heap.size w2 wr) := HBR.out.trans (hb.mono HBR.out.size)
            have hgw := hrow.lt
            have HN2W : Hid (wr.cell? ⟨pb, po + i * 2 + 1, none⟩ = some (.slice na ns.length nc)) := hn2'
            have HC1 : Hid (cellRow F (i * 2) = .int .i64 (F i).1) := cellRow_num F i
            have HC2 : Hid (cellRow F (i * 2 + 1) = .bool (F i).2) := cellRow_flt F i
            have HZW : Hid (∀ w3 w4 : World, Below wr.heap.size wr w3 → Below (w3.alloc (.cells #[.int .i64 (F i).1, .bool (F i).2] 36)).heap.size (w3.alloc (.cells #[.int .i64 (F i).1, .bool (F i).2] 36)) w4 → Below w2.heap.size w2 w4) := fun w3 w4 h3 h4 => by
              have e1 := HBX.out.trans (h3.mono HBX.out.size)
              have e2 := e1.alloc e1.size (.cells #[.int .i64 (F i).1, .bool (F i).2] 36)
              exact e2.trans (h4.mono e2.size)
            clear hdo0 hde hdr hall hcl hca hrt hopi hR hbw hb hrow
            generalize whtO os i = ow at *
            generalize numO os i = on at *
            generalize (F i).1 = x at *
            generalize (F i).2 = f at *
            generalize (ns.map (fun y => F y.toNat)).length = nl at *
            go_wp2_with (go_at_call 6; refine hdo.mono ?_; clear hdo; rintro e w3 ⟨rfl, hb3⟩; have hr3 := HRW.out.of_block (hb3.block _ hgw); have q0 := hr3.cell (i := i * 2) (by omega); have q1 := hr3.cell (i := i * 2 + 1) (by omega); rw [HC1.out] at q0; rw [HC2.out] at q1; have hg3 := hr3.lt; clear hr3)
            have hZ4 := HZW.out w3
            obtain ⟨W, hW⟩ : ∃ W, W = w3.alloc (.cells #[.int .i64 x, .bool f] 36) := ⟨_, rfl⟩
            have hnb := new_pair w3 (.int .i64 x) (.bool f) 36
            rw [← hW] at hnb
            obtain ⟨k0, k1, _⟩ := pair_cells hnb
            have q0' : W.cell? ⟨g, i * 2, none⟩ = some (.int .i64 x) := by rw [hW, World.cell?_alloc_lt _ _ ⟨g, i * 2, none⟩ hg3]; exact q0
            have q1' : W.cell? ⟨g, i * 2 + 1, none⟩ = some (.bool f) := by rw [hW, World.cell?_alloc_lt _ _ ⟨g, i * 2 + 1, none⟩ hg3]; exact q1
            have HZ5 : Hid (∀ q w4, Below (W.drewN q).heap.size (W.drewN q) w4 → Below w2.heap.size w2 w4) := fun q w4 h4 => by
              refine hZ4 w4 hb3 ?_
              rw [← hW]
              exact (drawn_below W.heap.size W q).trans h4
            rw [← hW]
            clear hW q0 q1 hnb hZ4 HZW hg3 hb3 HRW HBX HN2W
            generalize w3.heap.size = Y at *
            go_region_with (go_at_call 7; refine (hch0 _).mono ?_; rintro e w4 ⟨rfl, hb4⟩; have HB4 := HZ5.out _ w4 hb4; clear hb4)
            all_goals go_wp2
            all_goals go_roundw
            all_goals first | exact ⟨i + 1, by omega, by go_num, HB4⟩ | (simp [intOf]; omega)
      · have HBR : Hid (Below w.heap.size w wr) := HB2.out.trans (hbr.mono HB2.out.size)
        have hor := order_any _ ts wr (HP.out.later HBR.out)
        have HRW : Hid (wr.rowIs g 36 (ts.length * 2) (cellRow F)) := HROW.out.of_block (hbr.block _ hgl)
        clear hbr
        go_wp2_with fail
        refine hor.mono ?_
        clear hor
        rintro e w3 ⟨⟨p3, q3, hck3, hcase3⟩, hb3⟩
        have hq3 : q3 = 0 := (chk_det hck3 HCK.out).2
        rcases hcase3 with ⟨hne3, _⟩ | ⟨_, ord3, rv3, rfl, hord3, hints3⟩
        · exact absurd hq3 hne3
        obtain ⟨hE3, hN3⟩ := hord3.each HR.out HNO.out
        have HB3 : Hid (Below w.heap.size w w3) := HBR.out.trans (hb3.mono HBR.out.size)
        have HR3 : Hid (w3.rowIs g 36 (ts.length * 2) (cellRow F)) := HRW.out.of_block (hb3.block _ HRW.out.lt)
        have hal3 := cAlong_any _ _ _ ts os (intsOf ord3) w3 (HP.out.later HB3.out) (HO.out.later HB3.out) hints3
        rw [show os.length = ts.length from HM.out] at hal3
        have HAE : Hid (∀ q : Int × Int, CheckIs ts q.1 q.2 → alErr q.2 ts os (intsOf ord3) = 0) := fun q hc => by
          have hq : q.2 = 0 := (chk_det hc HCK.out).2
          have h0 : allErr q.2 ts.length os = 0 := by unfold allErr; rw [if_pos hq]; exact HOPS.out
          rw [alErr_ok h0]
          exact ordErr_ok hE3 (by rw [hN3]; exact hord3.behind)
        have HSAME : Hid (outL ts.length (alongC ts (fun k => os.getD k (0, 0)) (natsOf (intsOf ord3))) = outL ts.length F) := by
          show _ = _
          rw [hN3]
          exact HSM.out ord3 hord3.nodup hord3.behind hord3.below (hord3.mem HR.out HNO.out)
        obtain ⟨_, ra3, rc3, rfl, _⟩ := hints3
        clear hck3 hord3 hE3 hN3 hb3 hq3 HRW HBR
        generalize (intsOf ord3).length = zl3 at *
        go_wp2_with fail
        refine hal3.mono ?_
        clear hal3
        rintro e w4 ⟨⟨p4, q4, hck4, hcase4⟩, hb4⟩
        rcases hcase4 with ⟨hne4, _⟩ | ⟨_, _, g4, rfl, hrow4⟩
        · exact absurd (HAE.out (p4, q4) hck4) hne4
        have HB4 : Hid (Below w.heap.size w w4) := HB3.out.trans (hb4.mono HB3.out.size)
        have hR4 := HR3.out.of_block (hb4.block _ HR3.out.lt)
        have HR4 : Hid (w4.rowIs g 36 (ts.length * 2) (cellRow F)) := hR4
        have hc4 := cells_of_row hrow4 (by omega)
        rw [HSAME.out] at hc4
        have hsa := sameCells_any _ _ _ w4 hc4 (cells_of_row hR4 (by omega))
        clear hck4 hrow4 hc4 hR4 hb4 HAE HSAME HB3 HR3
        go_wp2_with fail
        refine hsa.mono ?_
        clear hsa
        rintro e w5 ⟨rfl, hb5⟩
        have HB5 : Hid (Below w.heap.size w w5) := HB4.out.trans (hb5.mono HB4.out.size)
        have HR5 : Hid (w5.rowIs g 36 (ts.length * 2) (cellRow F)) := HR4.out.of_block (hb5.block _ HR4.out.lt)
        have hal5 := cAlong_any _ _ _ ts os zs w5 (HP.out.later HB5.out) (HO.out.later HB5.out) (HZ.out.later HB5.out)
        rw [show os.length = ts.length from HM.out] at hal5
        clear hb5 HB4 HR4
        go_wp2_with fail
        refine hal5.mono ?_
        clear hal5
        rintro e w6 ⟨⟨p6, q6, hck6, hcase6⟩, hb6⟩
        have HB6 : Hid (Below w.heap.size w w6) := HB5.out.trans (hb6.mono HB5.out.size)
        rcases hcase6 with ⟨hne6, rfl⟩ | ⟨hz6, ha6, g6, rfl, hrow6⟩
        · rw [errV_some hne6]
          generalize alErr q6 ts os zs = q7 at *
          clear hck6 hne6 hb6
          go_wp2
          go_ret
          exact ⟨rfl, HB6.out⟩
        · have hR6 := HR5.out.of_block (hb6.block _ HR5.out.lt)
          have hc6 := cells_of_row hrow6 (by omega)
          have hoz : ordErr ts zs = 0 := by rw [← alErr_ok ha6]; exact hz6
          obtain ⟨hE6, hBh6⟩ := ordErr_zero hoz
          rw [HSM.out _ hE6.nats.2.1 hBh6 hE6.nats.2.2.1 hE6.nats.2.2.2] at hc6
          have hsa := sameCells_any _ _ _ w6 hc6 (cells_of_row hR6 (by omega))
          clear hck6 hz6 ha6 hrow6 hR6 hc6 hoz hE6 hBh6 hb6
          go_wp2_with (go_at_call 10; refine hsa.mono ?_; clear hsa; rintro e w7 ⟨rfl, hb7⟩)
          go_ret
          exact ⟨rfl, HB6.out.trans (hb7.mono HB6.out.size)⟩
end Go.Proofs.Ytkdlhhogbpjplaa
