/- The walk of GangHolds where New is good. -/
import Derived.Test.YtdhnfgjfihapiaaGhd
namespace Go.Proofs.Ytdhnfgjfihapiaa
open Go.RowKit Go.Deep

/-- The steps, each a list, lie in memory. -/
def Steps (w : World) (sa : Option Addr) (n : Nat) : Prop :=
  ∀ k, k < n → ∃ b off rv ys, sa = some ⟨b, off, none⟩ ∧ b < w.heap.size ∧ w.cell? ⟨b, off + k, none⟩ = some rv ∧ Rds (fun j => j < w.heap.size) w rv ys ∧ ys.length ≤ 9223372036854775000 ∧ ∀ z, z ∈ ys → z < 9223372036854775808
def VM (V : Nat) (w0 w : World) : Prop := w0.heap.size = V ∧ Below V w0 w ∧ ∃ x y, y < 9223372036854775808 ∧ x < 9223372036854775808 ∧ w.heap[V]? = some (.cells #[.int .i64 x, .int .i64 y] 40 (0, 0))
theorem VM.start (w : World) : VM w.heap.size w (w.alloc (.cells #[.int .i64 0, .int .i64 0] 40)) := ⟨rfl, (Below.refl _ _).alloc (Nat.le_refl _) _, 0, 0, by omega, by omega, heap_alloc_new w _⟩
theorem VM.set {V : Nat} {w0 w : World} (h : VM V w0 w) (k : Nat) (hk : k < 2) (z : Int) (hz : z < 9223372036854775808) : VM V w0 (w.setCell ⟨V, k, none⟩ (.int .i64 z)) := by
  obtain ⟨h0, hb, x, y, hy, hx1, hx⟩ := h
  refine ⟨h0, hb.setCell (Nat.le_refl _) _, ?_⟩
  rcases (by omega : k = 0 ∨ k = 1) with rfl | rfl
  · exact ⟨z, y, hy, hz, by rw [setCell_eq_setRow w V 0 _ 40 (0, 0) _ hx, setRow_heap w V _ _ 40 _ hx]; rfl⟩
  · exact ⟨x, z, hz, hx1, by rw [setCell_eq_setRow w V 1 _ 40 (0, 0) _ hx, setRow_heap w V _ _ 40 _ hx]; rfl⟩
theorem getD_memI {l : List Int} {k : Nat} (hk : k < l.length) : l.getD k 0 ∈ l := by
  rw [List.getD_eq_getElem?_getD, List.getElem?_eq_getElem hk]
  exact List.getElem_mem hk
theorem Try.infoBool : (Try.prog.info? 4).map (fun i => (i.zero, i.size, i.bytes)) = some (some (.bool false), 1, 1) := by kernel_rfl
/-- What is asked of trace.Check: deeds that may have been are right. -/
def ChecksDeeds (ts : List (Int × List Int)) (hands : Nat) (pv : Value) : Prop :=
  ∀ (wx : World) (dv : Value) (ds : List Deed), PlanAt wx pv ts → DeedsAt wx dv ds → ds.length ≤ 1000 → (∀ d, d ∈ ds → deedE d = 0) → trErrs ts hands trNew ds = 0 →
    Calls Try.prog 10 #[pv, .int .i64 hands, dv] wx fun e w' => e = .returned .nilIface ∧ Below wx.heap.size wx w'
theorem RowI.intsAt {b : Nat} {w : World} {v : Value} {zs : List Int} (h : RowI b w v zs) (hl : zs.length * 8 ≤ 140737488351232) : IntsAt w v zs := by
  refine ⟨hl, ?_⟩
  obtain ⟨a, c, rfl⟩ := h.shape
  refine ⟨a, c, rfl, ?_⟩
  by_cases h0 : zs = []
  · exact Or.inl h0
  · obtain ⟨g, c', hv, hg⟩ := h.full (List.length_pos_iff.2 h0)
    simp only [Value.slice.injEq] at hv
    obtain ⟨rfl, _, rfl⟩ := hv
    exact Or.inr ⟨g, 0, rfl, hg.2.1, fun k hk => by rw [Nat.zero_add]; exact h.cell hk⟩
def inB (ord : List Nat) : Nat → Bool := fun i => decide (i ∈ ord)
theorem inB_mark (ord : List Nat) (l : List Nat) (t : Nat) : mark (inB (ord ++ l)) t = inB (ord ++ (l ++ [t])) := by
  funext i
  unfold mark inB
  by_cases e : i = t
  · simp [e]
  · simp [e]
theorem finOf_take {dl : List Deed} {k : Nat} (hk : k < dl.length) : finOf (dl.take (k + 1)) = finOf (dl.take k) ++ if (dl.getD k (0, 0, 0, 0)).1 = 4 then [(dl.getD k (0, 0, 0, 0)).2.2.1.toNat] else [] := by
  rw [List.take_succ_eq_append_getElem hk, finOf_append]
  congr 1
  rw [List.getD_eq_getElem?_getD, List.getElem?_eq_getElem hk]
  unfold finOf
  simp only [List.filter_cons, List.filter_nil, Option.getD_some]
  by_cases e : dl[k].1 = 4
  · simp [e]
  · simp [e]
theorem fin_mem {dl : List Deed} {k : Nat} (hk : k < dl.length) (h4 : (dl.getD k (0, 0, 0, 0)).1 = 4) : (dl.getD k (0, 0, 0, 0)).2.2.1.toNat ∈ finOf dl := by
  unfold finOf
  refine List.mem_map.2 ⟨dl.getD k (0, 0, 0, 0), List.mem_filter.2 ⟨?_, by simpa using h4⟩, rfl⟩
  rw [List.getD_eq_getElem?_getD, List.getElem?_eq_getElem hk]
  exact List.getElem_mem hk
theorem FI.inB {ts : List (Int × List Int)} {g : Gs} {ord : List Nat} (h : FI ts g ord) : g.S = inB ord := by
  funext i
  unfold Go.Proofs.Ytdhnfgjfihapiaa.inB
  rw [Bool.eq_iff_iff, decide_eq_true_iff]
  exact h.mem i
theorem deedE_task {d : Deed} (h : deedE d = 0) : 0 ≤ d.2.2.1 := by
  unfold deedE at h
  by_cases hc : d.1 < 1 ∨ 6 < d.1 ∨ d.2.1 < 0 ∨ 5 < d.2.1 ∨ d.2.2.1 < 0 ∨ 29 < d.2.2.1 ∨ (d.1 = 2 ∧ (d.2.2.2 < 0 ∨ 5 < d.2.2.2))
  · rw [if_pos hc] at h; omega
  · omega
set_option maxRecDepth 100000 in
set_option maxHeartbeats 16000000 in
theorem gangHolds_in (v : Value) (ts : List (Int × List Int)) (hands room : Nat) (sn : Nat) (sa : Option Addr) (sc : Nat) (w : World) (hp : PlanAt w v ts) (hc : CheckIs ts 0 0) (h1 : 1 ≤ hands) (h6 : hands ≤ 6) (r1 : 1 ≤ room) (r16 : room ≤ 16) (hs : Steps w sa sn) (hck : ChecksDeeds ts hands v) :
    Calls Try.prog 3 #[v, .int .i64 hands, .int .i64 room, .slice sa sn sc] w fun e w' => e = .returned (.bool true) ∧ Below w.heap.size w w' := by
  have HS : Hid (Steps w sa sn) := hs
  have h30 := hc.good.le
  have HC : Hid (CheckIs ts 0 0 ∧ Good ts ∧ PlanAt w v ts ∧ ∀ i, i < ts.length → 1 ≤ workOf ts i ∧ workOf ts i ≤ 1000) := ⟨hc, hc.good, hp, fun i hi => (by have := good_work hc i hi; omega)⟩
  have HCK : Hid (ChecksDeeds ts hands v) := hck
  have hn1 := one_new w
  have HN : Hid (∀ wx, Below w.heap.size w wx → Calls Try.prog 4 #[v, .int .i64 hands, .int .i64 room] wx fun e w' => ∃ G, e = .returned (.tuple #[.pointer (some ⟨G, 0, none⟩), .nilIface]) ∧ GX (fun k => k < wx.heap.size) G room hands ts (gnew ts) w' ∧ Below wx.heap.size wx w') := fun wx hb => gx_new (hp.later hb) hc h1 h6 r1 r16
  have hmk := fun wx => run_make_row' (P := Try.prog) 39 4 (.bool false) 1 Try.underlying39 Try.infoBool rfl .i64 .i64 ts.length (by omega) (by omega) wx
  obtain ⟨pa, pc, rfl⟩ : ∃ a c, v = .slice a ts.length c := by obtain ⟨hl, a, c, hv, -⟩ := hp; exact ⟨a, c, hv⟩
  have g1 : ¬ (hands : Int) < 1 := by omega
  have g2 : ¬ (6 : Int) < (hands : Int) := by omega
  clear hp hc hs hck
  go_enter Try.func3, Try.ntmps3
  go_wp2_with fail
  refine hn1.mono ?_
  clear hn1
  rintro e w2 ⟨G1, rfl, hG2, hb2⟩
  have HB2 : Hid (Below w.heap.size w w2) := ((Below.refl _ _).alloc (Nat.le_refl _) _).trans (hb2.mono (by simp))
  have hl1 := hG2.left
  have HG2 : Hid (∀ wx, Below w2.heap.size w2 wx → GX (fun k => k < (w.alloc (.cells #[.int .i64 1, .slice none 0 0] 32)).heap.size) G1 1 1 oneT1 (gnew oneT1) wx) := fun wx hb => hG2.later hb
  clear hG2 hb2
  rw [show unseen (gnew oneT1).S oneT1.length = 1 from one_deeds.2.2.1] at hl1
  go_wp2_with fail
  refine hl1.mono ?_
  clear hl1
  rintro e w3 ⟨rfl, hb3⟩
  have hs1 := (HG2.out w3 hb3).step (show CheckIs oneT1 0 0 from one_check).good one_work (Nat.le_refl _) (by omega) (by omega) 0 0 (by omega) (by omega)
  have HB3 : Hid (Below w.heap.size w w3) := HB2.out.trans (hb3.mono HB2.out.size)
  clear hb3 HG2 HB2
  rw [one_deeds.1] at hs1
  go_wp2_with fail
  refine hs1.mono ?_
  clear hs1
  rintro e w4 ⟨va, rfl, hva, hG4, hK4⟩
  obtain ⟨ga, ca, rfl, hga0, hga, _, hca⟩ := hva.full (by simp)
  have HB4 : Hid (Below w.heap.size w w4) := ⟨hK4.os.trans HB3.out.os, hK4.tape.trans HB3.out.tape, hK4.output.trans HB3.out.output, Nat.le_trans HB3.out.size hK4.size, fun k hk => (hK4.block k (by show k < (w.alloc _).heap.size; simp; omega)).trans (HB3.out.block k hk)⟩
  have hca0 : w4.cell? ⟨ga, 0, none⟩ = some (.int .i64 3) := hca 0 (by simp) 0 (by omega)
  have hs2 := (hG4.deeds (hva.deedB (k := ga) rfl)).step (show CheckIs oneT1 0 0 from one_check).good one_work (Nat.le_refl _) (by omega) (by omega) 0 0 (by omega) (by omega)
  rw [show gdeeds oneT1 1 (gstep oneT1 1 1 (gnew oneT1) 0 0) 0 0 = [(4, 0, 0, 0)] from one_deeds.2.1] at hs2
  have HCA : Hid (w4.cell? ⟨ga, 0, none⟩ = some (.int .i64 3)) := hca0
  clear hG4 hK4 HB3 hca hca0 hga0 hva
  go_wp2_with fail
  refine hs2.mono ?_
  clear hs2
  rintro e w5 ⟨vb, rfl, hvb, hG5, hK5⟩
  obtain ⟨gb, cb, rfl, hgb0, hgb, _, hcb⟩ := hvb.full (by simp)
  have HB5 : Hid (Below w.heap.size w w5) := ⟨hK5.os.trans HB4.out.os, hK5.tape.trans HB4.out.tape, hK5.output.trans HB4.out.output, Nat.le_trans HB4.out.size hK5.size, fun k hk => (hK5.block k (Or.inl (by show k < (w.alloc _).heap.size; simp; omega))).trans (HB4.out.block k hk)⟩
  have hcb0 : w5.cell? ⟨gb, 0, none⟩ = some (.int .i64 4) := hcb 0 (by simp) 0 (by omega)
  have hca5 : w5.cell? ⟨ga, 0, none⟩ = some (.int .i64 3) := (World.cell?_of_block (a := ⟨ga, 0, none⟩) (hK5.block ga (Or.inr rfl))).trans HCA.out
  have hl2 := hG5.left
  rw [show unseen (gstep oneT1 1 1 (gstep oneT1 1 1 (gnew oneT1) 0 0) 0 0).S oneT1.length = 0 from one_deeds.2.2.2] at hl2
  clear hG5 hK5 HB4 hcb hgb0 hvb HCA
  go_wp2_with fail
  refine hl2.mono ?_
  clear hl2
  rintro e w6 ⟨rfl, hb6⟩
  have HB6 : Hid (Below w.heap.size w w6) := HB5.out.trans (hb6.mono HB5.out.size)
  clear hb6 HB5 hca5 hcb0 hga hgb
  have hn2 := HN.out w6 HB6.out
  clear HN
  go_wp2_with fail
  refine hn2.mono ?_
  clear hn2
  rintro e w7 ⟨G, rfl, hG7, hb7⟩
  have HX0 : Hid (HX w6 G w7.heap.size room hands ts (gnew ts) (inB []) [] (.slice none 0 0) [] (.slice none 0 0) (w7.alloc (.cells (madeCells #[.bool false] ts.length) 4))) := by
    have hba : Below w7.heap.size w7 (w7.alloc (.cells (madeCells #[.bool false] ts.length) 4)) := (Below.refl _ _).alloc (Nat.le_refl _) _
    refine ⟨(hG7.away (below_kx hba)).sub (fun k hk => ?_), RowD.nil _ _, (World.rowIs_made w7 (.bool false) ts.length 4).congr (fun j _ => rfl), RowD.nil _ _, fun k hk => (by cases hk), hb7.trans (hba.mono hb7.size), hb7.size⟩
    rcases hk with hk | hk | hk
    · exact Or.inl hk
    · subst hk; exact Or.inr ⟨Nat.le_refl _, by simp⟩
    · cases hk
  have HP0 : Hid (PL ts hands room (totW ts ts.length) (gnew ts) [] []) := PL.new h1 (fun i hi => (HC.out.2.2.2 i hi).1)
  clear hG7 hb7
  go_wp2
  clear hmk
  generalize w7.heap.size = D at *
  go_loopg [17, 19] 200 (fun gg s17 s19 wr => ∃ (i : Nat) (g : Gs) (ord : List Nat) (ds dl : List Deed) (lv : Value), s19 = .int .i64 i ∧ i ≤ 200 ∧ Hid (HX w6 G D room hands ts g (inB ord) ds s17 dl lv wr) ∧ Hid (PL ts hands room (totW ts ts.length) g ord ds) ∧ 200 - i ≤ gg)
  case atStart => exact ⟨0, gnew ts, [], [], [], _, rfl, by omega, HX0, HP0, by omega⟩
  case round =>
    clear HX0 HP0
    obtain ⟨i, g, ord, ds, dl, lv, rfl, hi, hM, hPL, hgg⟩ := hrel
    obtain ⟨GK, rfl⟩ : ∃ GK, GK = gk := ⟨_, rfl⟩
    obtain ⟨ava, avc, rfl⟩ := hM.out.all.shape
    obtain ⟨wa, rfl⟩ : ∃ wa, wa = wr := ⟨_, rfl⟩
    go_upto_region 14 with fail
    go_cut [111] from 104 to 194 (fun s111 wx => ∃ bb : Bool, s111 = .bool bb ∧ Hid (bb = true ↔ (i < sn ∧ i < 200)) ∧ wa = wx)
    case first => as_aux_lemma =>
      by_cases hil : i < sn
      · by_cases hi2 : i < 200
        · have H1 : Hid (i < sn) := hil
          have H2 : Hid (i < 200) := hi2
          have hil' : (i : Int) < (sn : Int) := by omega
          have hi60' : (i : Int) < 200 := by omega
          go_wp2
          go_meet
          exact ⟨true, rfl, iff_of_true rfl ⟨H1.out, H2.out⟩, rfl⟩
        · have H2 : Hid (¬ i < 200) := hi2
          have hil' : (i : Int) < (sn : Int) := by omega
          have hi60' : ¬ (i : Int) < 200 := by omega
          go_wp2
          go_meet
          exact ⟨false, rfl, iff_of_false (by simp) (fun h => H2.out h.2), rfl⟩
      · have H1 : Hid (¬ i < sn) := hil
        have hil' : ¬ (i : Int) < (sn : Int) := by omega
        go_wp2
        go_meet
        exact ⟨false, rfl, iff_of_false (by simp) (fun h => H1.out h.1), rfl⟩
    case rest => as_aux_lemma =>
      obtain ⟨bb, rfl, hbb, rfl⟩ := hcut
      cases bb
      · clear hbb HS
        have hBw : Below w.heap.size w wa := HB6.out.trans (hM.out.below.mono HB6.out.size)
        have hdl : ds.length ≤ 126 := by have := hPL.out.le; omega
        have hchk := HCK.out wa (.slice ava ds.length avc) ds (HC.out.2.2.1.later hBw) (hM.out.all.at (by omega)) (by omega) hPL.out.rt hPL.out.er
        have HWK : Hid (∀ wx, Below w.heap.size w wx → Calls Try.prog 11 #[.slice pa ts.length pc] wx fun e w' => e = .returned (.tuple #[.int .i64 (wrkT ts ts.length : Int), .nilIface]) ∧ Below wx.heap.size wx w') := fun wx hb => dWork_any _ ts wx (HC.out.2.2.1.later hb) HC.out.1
        have HT : Hid (totW ts ts.length = wrkT ts ts.length + ts.length) := wrkT_tot (fun i hi => (HC.out.2.2.2 i hi).1) ts.length (Nat.le_refl _)
        have hw6 : wrkT ts ts.length ≤ 600 := by
          have := wrkT_le (fun i hi => (good_work HC.out.1 i hi).2) ts.length (Nat.le_refl _)
          omega
        have HAD : Hid ((∀ i, i < ts.length → (grounds ts room hands (fun r => r) g (totW ts ts.length)).S i = true)) := by
          obtain ⟨R, hR, hle⟩ := hPL.out.rm
          exact (all_done hR hPL.out.inv HC.out.2.1 (fun i hi => (HC.out.2.2.2 i hi).1) r1 (fun r => r) hle).1
        have HBW : Hid (Below w.heap.size w wa) := hBw
        have HG : Hid (Good ts ∧ ∀ i, i < ts.length → 1 ≤ workOf ts i ∧ workOf ts i ≤ 1000) := ⟨HC.out.2.1, HC.out.2.2.2⟩
        clear hBw HCK HC hPL
        go_wp2_with (first | (go_at_call 10; refine hchk.mono ?_; clear hchk; rintro e w8 ⟨rfl, hb8⟩; have HB8 : Hid (Below w.heap.size w w8) := HBW.out.trans (hb8.mono HBW.out.size); have HM8 : Hid (HX w6 G D room hands ts g (inB ord) ds (.slice ava ds.length avc) dl lv w8) := hM.out.later hb8; have hwk := HWK.out w8 HB8.out; clear hb8 hM) | (go_at_call 11; refine hwk.mono ?_; clear hwk; rintro e w9 ⟨rfl, hb9⟩; have HM9 : Hid (HX w6 G D room hands ts (grounds ts room hands (fun r => r) g 0) (inB ord) ds (.slice ava ds.length avc) dl lv w9) := HM8.out.later hb9; clear hb9 HM8 HB8 HWK))
        clear HBW
        obtain ⟨tot, htot⟩ : ∃ tot, tot = totW ts ts.length := ⟨_, rfl⟩
        rw [← htot] at HT HAD
        have hT := HT.out
        clear HT htot
        generalize wrkT ts ts.length = WK at *
        go_loopw [30] (fun s30 wr => ∃ (r : Nat) (dl : List Deed) (lv : Value), r ≤ tot ∧ s30 = .int .i64 r ∧ Hid (HX w6 G D room hands ts (grounds ts room hands (fun r => r) g r) (inB ord) ds (.slice ava ds.length avc) dl lv wr)) (fun s30 _ => tot - (intOf s30).toNat)
        case atStart => exact ⟨0, dl, lv, Nat.zero_le _, rfl, HM9⟩
        case round =>
          clear HM9
          obtain ⟨r, dl2, lv2, hr, rfl, hM2⟩ := hrel
          by_cases hrt : r < tot
          · have HGR : Hid (grounds ts room hands (fun r => r) g (r + 1) = grun ts room hands r (grounds ts room hands (fun r => r) g r) hands) := rfl
            have hr1 : r < WK + ts.length := by omega
            have hr7 : (r : Int) < 700 := by omega
            generalize grounds ts room hands (fun r => r) g r = g2 at *
            go_wp2
            go_loopw [31] (fun s31 wi => ∃ (h : Nat) (dl : List Deed) (lv : Value), h ≤ hands ∧ s31 = .int .i64 h ∧ Hid (HX w6 G D room hands ts (grun ts room hands r g2 h) (inB ord) ds (.slice ava ds.length avc) dl lv wi)) (fun s31 _ => hands - (intOf s31).toNat)
            case atStart => exact ⟨0, dl2, lv2, Nat.zero_le _, rfl, hM2⟩
            case round =>
              clear hM2
              obtain ⟨h, dl3, lv3, hh, rfl, hM3⟩ := hrel
              by_cases hhn : h < hands
              · have hst := hM3.out.step HG.out.1 HG.out.2 r1 r16 h6 h r hhn (by omega)
                have HGR2 : Hid (gstep ts room hands (grun ts room hands r g2 h) h r = grun ts room hands r g2 (h + 1)) := rfl
                rw [HGR2.out] at hst
                generalize gdeeds ts hands (grun ts room hands r g2 h) h r = dl4 at *
                clear hM3
                go_wp2_with (first | (go_at_call 6; refine hst.mono ?_; clear hst; rintro e wz ⟨vz, rfl, hXz⟩; obtain ⟨za, zc, rfl⟩ := hXz.l.shape; have HXZ : Hid (HX w6 G D room hands ts (grun ts room hands r g2 (h + 1)) (inB ord) ds (.slice ava ds.length avc) dl4 (.slice za dl4.length zc) wz) := hXz; clear hXz))
                go_roundw
                case rel => exact ⟨h + 1, dl4, _, by omega, by go_num, HXZ⟩
                case measure => simp [intOf]; omega
              · have hhe : h = hands := by omega
                subst hhe
                go_wp2
                go_roundw
                case rel => exact ⟨r + 1, dl3, lv3, by omega, by go_num, by rw [HGR.out]; exact hM3⟩
                case measure => simp [intOf]; omega
          · have hre : r = tot := by omega
            subst hre
            have hun := unseen_zero _ _ HAD.out
            have hrd := ready_end hun
            have hle := hM2.out.gx.left
            rw [hun] at hle
            have HHE : Hid (∀ wx, Below wr.heap.size wr wx → Calls Try.prog 7 #[.pointer (some ⟨G, 0, none⟩)] wx fun e w' => (∃ v, e = .returned v ∧ RowI wx.heap.size w' v []) ∧ Below wx.heap.size wx w') := fun wx hb => by
              have h := (hM2.out.gx.later hb).held
              rw [hrd] at h
              exact h
            have HBE : Hid (Below w.heap.size w wr) := HB6.out.trans (hM2.out.below.mono HB6.out.size)
            have hrt' : ¬ r < WK + ts.length := by omega
            clear hun hrd hM2 HAD HG
            go_wp2_with (first | (go_at_call 5; refine hle.mono ?_; clear hle; rintro e wx ⟨rfl, hbx⟩; have hhe := HHE.out wx hbx; have HBX : Hid (Below w.heap.size w wx) := HBE.out.trans (hbx.mono HBE.out.size); clear hbx HHE) | (go_at_call 7; refine hhe.mono ?_; clear hhe; rintro e wy ⟨⟨vy, rfl, hvy⟩, hby⟩; obtain ⟨ya, yc, rfl⟩ := hvy.shape; have HBY : Hid (Below w.heap.size w wy) := HBX.out.trans (hby.mono HBX.out.size); clear hby hvy HBX))
            go_ret
            exact ⟨rfl, HBY.out⟩
      · obtain ⟨hil, hi60⟩ := hbb.out.1 rfl
        clear hbb HCK
        have hil' : (i : Int) < (sn : Int) := by omega
        have hi60' : (i : Int) < 200 := by omega
        obtain ⟨sb, so, rv, ys, rfl, hsb, hsc, hrd, hyl, hyb⟩ := HS.out i hil
        have HSC : Hid (w.cell? ⟨sb, so + i, none⟩ = some rv ∧ sb < w.heap.size) := ⟨hsc, hsb⟩
        have HRD : Hid (Rds (fun j => j < w.heap.size) w rv ys ∧ ∀ z, z ∈ ys → z < 9223372036854775808) := ⟨hrd, hyb⟩
        obtain ⟨ra, rc, rfl⟩ := hrd.shape
        obtain ⟨V, hV⟩ : ∃ V, V = wa.heap.size := ⟨_, rfl⟩
        have hV' : wa.heap.size = V := hV.symm
        have HV0 : Hid (VM V wa (wa.alloc (.cells #[.int .i64 0, .int .i64 0] 40))) := by rw [hV]; exact VM.start wa
        have HBA : Hid (Below w.heap.size w wa) := HB6.out.trans (hM.out.below.mono HB6.out.size)
        clear hsc hrd hV hyb HS
        go_upto_block 2 with fail
        clear hV'
        go_cut [21] from 114 to 135 (fun _ wx => Hid (VM V wa wx))
        case first => as_aux_lemma =>
          go_wp2_with fail
          go_loopw [21] (fun s21 wx => ∃ j : Nat, s21 = .int .i64 j ∧ j ≤ 2 ∧ Hid (VM V wa wx)) (fun s21 _ => 2 - (intOf s21).toNat)
          case atStart => exact ⟨0, rfl, by omega, HV0⟩
          case round =>
            clear HV0
            obtain ⟨j, rfl, hj2, hVM⟩ := hrel
            have hBw : Below w.heap.size w wr := HBA.out.trans (hVM.out.2.1.mono (by have := hVM.out.1; have := HBA.out.size; omega))
            have hsc := (hBw.cell (p := ⟨sb, so + i, none⟩) hsb).trans HSC.out.1
            by_cases hjj : j < ys.length ∧ j < 2
            · obtain ⟨hjl, hjt⟩ := hjj
              have hjl' : (j : Int) < (ys.length : Int) := by omega
              have hjt' : (j : Int) < 2 := by omega
              obtain ⟨rb, ro, rfl, hrb, -, hcz⟩ := HRD.out.1.at (k := j) hjl
              have hzb := HRD.out.2 _ (getD_memI hjl)
              have hcz' := (hBw.cell (p := ⟨rb, ro + j, none⟩) hrb).trans hcz
              generalize ys.getD j 0 = z at hcz hcz' hzb
              clear hcz
              obtain ⟨-, -, x, y, -, -, hxy⟩ := hVM.out
              have hM2 : Hid (VM V wa (wr.setCell ⟨V, j, none⟩ (.int .i64 z))) := hVM.out.set j hjt z hzb
              have hfz : wr.frozen? ⟨V, j, none⟩ = false := by simp [World.frozen?, hxy]
              have hcv : ∃ u, wr.cell? ⟨V, j, none⟩ = some (.int .i64 u) := by
                rcases (by omega : j = 0 ∨ j = 1) with rfl | rfl
                · exact ⟨x, by simp [World.cell?, hxy]⟩
                · exact ⟨y, by simp [World.cell?, hxy]⟩
              obtain ⟨u, hcv⟩ := hcv
              clear hxy hVM hzb hM hPL
              go_wp2
              go_roundw
              case rel => exact ⟨j + 1, by go_num, by omega, hM2⟩
              case measure => simp [intOf]; omega
            · rcases (by omega : (¬ (j : Int) < (ys.length : Int)) ∨ ((j : Int) < (ys.length : Int) ∧ ¬ (j : Int) < 2)) with hjl' | ⟨hjl', hjt'⟩
              all_goals
                go_wp2
                go_meet
                exact hVM
        case rest => as_aux_lemma =>
          obtain ⟨wb, rfl⟩ : ∃ wb, wb = wc := ⟨_, rfl⟩
          obtain ⟨hVs, hVb, x, y, hy63, hx63, hxy⟩ := hcut.out
          have hc0 : wb.cell? ⟨V, 0, none⟩ = some (.int .i64 x) := by simp [World.cell?, hxy]
          have hc1 : wb.cell? ⟨V, 1, none⟩ = some (.int .i64 y) := by simp [World.cell?, hxy]
          have HXb : Hid (HX w6 G D room hands ts g (inB ord) ds (.slice ava ds.length avc) dl lv wb) := hM.out.later (by rw [hVs]; exact hVb)
          clear HV0 HRD HSC hsb hyl hcut hVs hVb hxy hM HBA
          by_cases hok : 0 ≤ x ∧ x < (hands : Int) ∧ 0 ≤ y
          · obtain ⟨h, rfl⟩ : ∃ h : Nat, x = h := ⟨x.toNat, by omega⟩
            obtain ⟨pick, rfl⟩ : ∃ pick : Nat, y = pick := ⟨y.toNat, by omega⟩
            have hh : h < hands := by omega
            have hst := HXb.out.step HC.out.2.1 HC.out.2.2.2 r1 r16 h6 h pick hh (by omega)
            have HPL2 : Hid (PL ts hands room (totW ts ts.length) (gstep ts room hands g h pick) (ord ++ finOf (gdeeds ts hands g h pick)) (ds ++ gdeeds ts hands g h pick)) := hPL.out.step HC.out.2.1 (fun i hi => (HC.out.2.2.2 i hi).1) r1 h6 hh pick
            generalize gstep ts room hands g h pick = g' at *
            generalize gdeeds ts hands g h pick = dl' at *
            have hdd : ds.length + dl'.length ≤ 126 := by
              have h2 := HPL2.out.le
              rw [List.length_append] at h2
              omega
            clear hok HXb hPL hx63 hy63
            go_wp2_with (first | (go_at_call 6; refine hst.mono ?_; clear hst; rintro e w8 ⟨v8, rfl, hX8⟩; obtain ⟨la, lc, rfl⟩ := hX8.l.shape; have HX8 : Hid (HX w6 G D room hands ts g' (inB ord) ds (.slice ava ds.length avc) dl' (.slice la dl'.length lc) w8) := hX8; clear hX8) | (at_builtin; go_loud (refine wpList_append_deeds rfl (.tmp 147) (.tmp 148) rfl w6.heap.size w6.heap.size (.slice ava ds.length avc) (.slice la dl'.length lc) ds dl' rfl rfl HX8.out.all HX8.out.l (by omega) HX8.out.size ?_; intro v9 w9 hr9 hg9 ha9; have HX9 : Hid (HX w6 G D room hands ts g' (inB ord) (ds ++ dl') v9 dl' (.slice la dl'.length lc) w9) := HX8.out.append hr9 hg9 ha9; clear hr9 hg9 ha9 HX8)))
            clear hc0 hc1
            have HX9' : Hid (HX w6 G D room hands ts g' (inB (ord ++ finOf (dl'.take 0))) (ds ++ dl') v9 dl' (.slice la dl'.length lc) w9) := by rw [List.take_zero, show finOf [] = [] from rfl, List.append_nil]; exact HX9.out
            have HTK : Hid (∀ k, k < dl'.length → finOf (dl'.take (k + 1)) = finOf (dl'.take k) ++ if (dl'.getD k (0, 0, 0, 0)).1 = 4 then [(dl'.getD k (0, 0, 0, 0)).2.2.1.toNat] else []) := fun k hk => finOf_take hk
            have HTL : Hid (∀ k, k < dl'.length → (dl'.getD k (0, 0, 0, 0)).1 = 4 → ∃ t : Nat, (dl'.getD k (0, 0, 0, 0)).2.2.1 = t ∧ t < ts.length) := fun k hk h4 => by
              have h1 := HPL2.out.fi.lt _ (List.mem_append.2 (Or.inr (fin_mem hk h4)))
              have h2 := deedE_task (HPL2.out.rt (dl'.getD k (0, 0, 0, 0)) (List.mem_append.2 (Or.inr (by rw [List.getD_eq_getElem?_getD, List.getElem?_eq_getElem hk]; exact List.getElem_mem hk))))
              exact ⟨_, (Int.toNat_of_nonneg h2).symm, h1⟩
            clear HX9
            go_loopw [24] (fun s24 wi => ∃ k : Nat, k ≤ dl'.length ∧ s24 = .int .i64 k ∧ Hid (HX w6 G D room hands ts g' (inB (ord ++ finOf (dl'.take k))) (ds ++ dl') v9 dl' (.slice la dl'.length lc) wi)) (fun s24 _ => dl'.length - (intOf s24).toNat)
            case atStart => exact ⟨0, Nat.zero_le _, rfl, HX9'⟩
            case round =>
              clear HX9'
              obtain ⟨k, hk, rfl, hI⟩ := hrel
              by_cases hkl : k < dl'.length
              · obtain ⟨gl, cl, hlv, _, _, _, hcl⟩ := hI.out.l.full (by omega)
                simp only [Value.slice.injEq, true_and] at hlv
                obtain ⟨rfl, rfl⟩ := hlv
                have hce0 : wr.cell? ⟨gl, k * 4, none⟩ = some (.int .i64 (dl'.getD k (0, 0, 0, 0)).1) := hcl k hkl 0 (by omega)
                have hce2 : wr.cell? ⟨gl, k * 4 + 2, none⟩ = some (.int .i64 (dl'.getD k (0, 0, 0, 0)).2.2.1) := hcl k hkl 2 (by omega)
                have HT1 := HTK.out k hkl
                have hT2 := HTL.out k hkl
                clear hcl
                generalize (dl'.getD k (0, 0, 0, 0)).1 = a1 at *
                generalize (dl'.getD k (0, 0, 0, 0)).2.2.1 = t1 at *
                by_cases h4 : a1 = 4
                · obtain ⟨t, rfl, htl⟩ := hT2 h4
                  have HI2 : Hid (HX w6 G D room hands ts g' (inB (ord ++ finOf (dl'.take (k + 1)))) (ds ++ dl') v9 dl' (.slice (some ⟨gl, 0, none⟩) dl'.length lc) (wr.setCell ⟨D, t, none⟩ (.bool true))) := by
                    rw [HT1, if_pos h4, Int.toNat_natCast, ← inB_mark]
                    exact hI.out.mark t
                  have hdc := hI.out.dn.cell htl
                  have hdf := hI.out.dn.frozen t
                  have hdD := hI.out.dn.lt
                  have hti : (t : Int) < (ts.length : Int) := by omega
                  have htd : decide ((ts.length : Int) ≤ (t : Int)) = false := by simp; omega
                  subst h4
                  clear HT1 hT2 hI HTK HTL HPL2
                  generalize inB (ord ++ finOf (dl'.take k)) t = bt at hdc
                  go_wp2
                  go_roundw
                  case rel => exact ⟨k + 1, by omega, by go_num, HI2⟩
                  case measure => simp [intOf]; omega
                · have HI2 : Hid (HX w6 G D room hands ts g' (inB (ord ++ finOf (dl'.take (k + 1)))) (ds ++ dl') v9 dl' (.slice (some ⟨gl, 0, none⟩) dl'.length lc) wr) := by
                    rw [HT1, if_neg h4, List.append_nil]
                    exact hI.out
                  have h4b : (a1 == 4) = false := beq_eq_false_iff_ne.2 h4
                  clear HT1 hT2 hI HTK HTL HPL2 h4
                  go_wp2
                  go_roundw
                  case rel => exact ⟨k + 1, by omega, by go_num, HI2⟩
                  case measure => simp [intOf]; omega
              · have hke : k = dl'.length := by omega
                subst hke
                have hI2 := hI.out
                rw [List.take_length] at hI2
                have HI3 : Hid (HX w6 G D room hands ts g' (inB (ord ++ finOf dl')) (ds ++ dl') v9 dl' (.slice la dl'.length lc) wr) := hI2
                have hhe := hI2.gx.held
                rw [HPL2.out.fi.inB] at hhe
                have HRD : Hid (∀ wx, Below wr.heap.size wr wx → Calls Try.prog 8 #[.slice pa ts.length pc, .slice (some ⟨D, 0, none⟩) ts.length ts.length] wx fun e w' => (∃ ov, e = .returned ov ∧ RowI wx.heap.size w' ov (intsOf (readyTo ts (inB (ord ++ finOf dl')) ts.length))) ∧ Below wx.heap.size wx w') := fun wx hb => readyR_any _ _ ts _ wx ((HC.out.2.2.1.later (HB6.out.trans (hI2.below.mono HB6.out.size))).later hb) HC.out.2.1.rng h30 (BoolsAt.later ⟨D, 0, ts.length, rfl, hI2.dn.lt, fun k hk => by rw [Nat.zero_add]; exact hI2.dn.cell hk⟩ hb)
                have hrl : (intsOf (readyTo ts (inB (ord ++ finOf dl')) ts.length)).length ≤ 30 := by
                  rw [intsOf_length]
                  have := readyTo_len ts (inB (ord ++ finOf dl')) ts.length
                  omega
                clear hI hI2 HTK HTL hkl hk
                generalize intsOf (readyTo ts (inB (ord ++ finOf dl')) ts.length) = rl at *
                go_wp2_with (first
                  | (go_at_call 7; refine hhe.mono ?_; clear hhe; rintro e wx ⟨⟨vx, rfl, hvx⟩, hbx⟩; obtain ⟨xa, xc, rfl⟩ := hvx.shape; have HVX : Hid (RowI wr.heap.size wx (.slice xa rl.length xc) rl) := hvx; have hrr := HRD.out wx hbx; have HIX : Hid (HX w6 G D room hands ts g' (inB (ord ++ finOf dl')) (ds ++ dl') v9 dl' (.slice la dl'.length lc) wx) := HI3.out.later hbx; clear hbx hvx HRD HI3)
                  | (go_at_call 8; refine hrr.mono ?_; clear hrr; rintro e wy ⟨⟨vy, rfl, hvy⟩, hby⟩; obtain ⟨ya, yc, rfl⟩ := hvy.shape; have hsi := sameInts_any _ _ rl rl wy ((HVX.out.later hby).intsAt (by omega)) (hvy.intsAt (by omega)); have HIY : Hid (HX w6 G D room hands ts g' (inB (ord ++ finOf dl')) (ds ++ dl') v9 dl' (.slice la dl'.length lc) wy) := HIX.out.later hby; clear hby hvy HVX HIX)
                  | (go_at_call 9; refine hsi.mono ?_; clear hsi; rintro e wz ⟨rfl, nz, hwz⟩; have HIZ : Hid (HX w6 G D room hands ts g' (inB (ord ++ finOf dl')) (ds ++ dl') v9 dl' (.slice la dl'.length lc) wz) := HIY.out.later (by { rw [hwz]; exact ⟨rfl, rfl, rfl, Nat.le_refl _, fun _ _ => rfl⟩ }); clear hwz HIY))
                go_roundg (200 - (i + 1))
                case measure => omega
                case rel => exact ⟨i + 1, g', ord ++ finOf dl', ds ++ dl', dl', _, by go_num, by omega, HIZ, HPL2, Nat.le_refl _⟩
          · have hrf := HXb.out.gx.refused x y (by omega)
            clear hok
            go_wp2_with (first | (go_at_call 6; refine hrf.mono ?_; clear hrf; rintro e wb ⟨rfl, rfl⟩))
            go_roundg (200 - (i + 1))
            case measure => omega
            case rel => exact ⟨i + 1, g, ord, ds, dl, lv, by go_num, by omega, HXb, hPL, Nat.le_refl _⟩
end Go.Proofs.Ytdhnfgjfihapiaa
