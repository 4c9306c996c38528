/- The walk of PlanBack. -/
import Derived.Test.YtfmmfapfgpckfaaDoorX
namespace Go.Proofs.YtfmmfapfgpckfaaDoor
open Go.RowKit Go.Deep

set_option maxRecDepth 100000 in
set_option maxHeartbeats 20000000 in
theorem back_any (v : Value) (ts : List (Int × List Int)) (l : List UInt8) (w : World) (hp : PlanAt w v ts) (hl : l.length ≤ 1048576) (he : Synt w) (hm : Lens w) :
    Calls Tryd.prog 3 #[v, .string ⟨l.toArray⟩] w fun e w' => e = .returned (.bool true) ∧ Below w.heap.size w w' := by
  have HP : Hid (PlanAt w v ts) := hp
  have HE : Hid (Synt w) := he
  have HM : Hid (Lens w) := hm
  have hfact := parse_fact w he hm
  obtain ⟨hpl, pa, pc, rfl, hp⟩ := hp
  clear he hm
  go_enter Tryd.func3, Tryd.ntmps3
  go_wp2_with fail
  refine hfact.mono ?_
  rintro e w1 ⟨⟨fb, fo, fc, fa2, fc2, rfl, hf1, hf2⟩, hb1⟩
  clear hfact
  have hpar := parse_back l w1 hl (HE.out.later hb1) (HM.out.later hb1)
  go_wp2_with fail
  refine hpar.mono ?_
  rintro e w2 ⟨hres, hb2⟩
  clear hpar hf1 hf2
  have hB2 : Below w.heap.size w w2 := hb1.trans (hb2.mono hb1.size)
  clear hb1 hb2
  rcases hres with ⟨q, hq, rfl⟩ | ⟨xs, xv, rfl, ht, hc, hx⟩
  case' inl =>
    rw [errV_some hq]
    clear hq
    obtain ⟨wz, rfl⟩ : ∃ wz, wz = w2 := ⟨_, rfl⟩
    have hBz : Below w.heap.size w wz := hB2
    clear hB2
    go_wp2_with fail
  case' inr =>
    have hpr := print_right xv xs w2 hx hc
    have hback := tasks_back l xs ht
    rw [hback] at hpr
    clear hback ht hc
    obtain ⟨_, xa, xc, rfl, _⟩ := hx
    go_wp2_with fail
    refine hpr.mono ?_
    rintro e w3 ⟨rfl, hb3⟩
    clear hpr
    obtain ⟨wz, rfl⟩ : ∃ wz, wz = w3 := ⟨_, rfl⟩
    have hBz : Below w.heap.size w wz := hB2.trans (hb3.mono hB2.size)
    clear hB2 hb3
    go_wp2_with fail
  all_goals
    have hord := order_back _ ts wz (HP.out.later hBz)
    refine hord.mono ?_
    rintro e w4 ⟨hres, hb4⟩
    clear hord
    have hB4 : Below w.heap.size w w4 := hBz.trans (hb4.mono hBz.size)
    clear hBz hb4
    rcases hres with ⟨p, q, hq, hc, rfl⟩ | ⟨hc, ord, ov, rfl, ho, hov⟩
    · have hck := check_again _ ts w4 p q hc (HP.out.later hB4)
      rw [errV_some hq] at hck ⊢
      clear hq hc hp
      go_wp2_with (go_at_call 8; refine hck.mono ?_; rintro e w5 ⟨rfl, hb5⟩)
      go_ret
      exact ⟨rfl, hB4.trans (hb5.mono hB4.size)⟩
    · have hpr := print_right _ ts w4 (HP.out.later hB4) hc
      obtain ⟨_, h30, herr, hno⟩ := hc.ok rfl
      have hrng := inRange_of herr
      have hol := ho.length hrng hno
      obtain ⟨hovl, oa, oc, hovs, hocs⟩ := hov
      rw [intsOf_length, hol] at hovs
      subst hovs
      have HOC : Hid (intsOf ord = [] ∨ ∃ b o, oa = some ⟨b, o, none⟩ ∧ b < w4.heap.size ∧ ∀ k, k < (intsOf ord).length → w4.cell? ⟨b, o + k, none⟩ = some (.int .i64 ((intsOf ord).getD k 0))) := hocs
      have HOL : Hid (ord.length = ts.length) := hol
      have HRG : Hid (InRange ts) := hrng
      have HO : Hid (OrdIs ts ord) := ho
      have HC : Hid (CheckIs ts 0 0) := hc
      clear herr hno hrng hol hocs ho hc hovl
      go_wp2_with fail
      refine hpr.mono ?_
      rintro e w5 ⟨rfl, hb5⟩
      clear hpr
      have hB5 : Below w.heap.size w w5 := hB4.trans (hb5.mono hB4.size)
      have hpt := parse_text ts w5 HC.out (HE.out.later hB5) (HM.out.later hB5)
      go_wp2_with fail
      refine hpt.mono ?_
      rintro e w6 ⟨⟨yv, rfl, hy⟩, hb6⟩
      clear hpt
      have hB6 : Below w.heap.size w w6 := hB5.trans (hb6.mono hB5.size)
      have hsp := samePlan_any yv _ ts ts w6 hy (HP.out.later hB6)
      rw [show decide (ts = ts) = true by simp] at hsp
      go_wp2_with fail
      refine hsp.mono ?_
      rintro e w7 ⟨rfl, nd, hw7⟩
      have hb7 : Below w6.heap.size w6 w7 := by subst hw7; exact below_draws (Below.refl _ _) nd
      have hB7 : Below w.heap.size w w7 := hB6.trans (hb7.mono hB6.size)
      have hB47 : Below w4.heap.size w4 w7 := (hb5.trans (hb6.mono hb5.size)).trans (hb7.mono (Nat.le_trans hb5.size hb6.size))
      clear hsp hw7 hy hb5 hb6 hb7 hB5 hB6
      have hmk := fun wx => run_make_row' (P := Tryd.prog) 38 4 (.bool false) 1 Tryd.underlying38 Tryd.info4 rfl .i64 .i64 ts.length (by omega) (by omega) wx
      have hnn : ((ts.length : Int) != (ts.length : Int)) = false := by simp
      go_wp2
      have hrow0 : (w7.alloc (.cells (madeCells #[.bool false] ts.length) 4)).rowIs w7.heap.size 4 ts.length (fun k => .bool (has (ord.take 0) k)) := (World.rowIs_made w7 (.bool false) ts.length 4).congr (fun k _ => by simp [has])
      have hbm : Below w7.heap.size w7 (w7.alloc (.cells (madeCells #[.bool false] ts.length) 4)) := (Below.refl _ _).alloc (Nat.le_refl _) _
      clear hmk hnn
      go_loopw [20] (fun s20 wr => ∃ i : Nat, i ≤ ts.length ∧ s20 = .int .i64 i ∧ Hid (wr.rowIs w7.heap.size 4 ts.length (fun k => .bool (has (ord.take i) k))) ∧ Below w7.heap.size w7 wr) (fun s20 _ => ts.length - (intOf s20).toNat)
      case atStart => exact ⟨0, Nat.zero_le _, rfl, hrow0, hbm⟩
      case round =>
        clear hrow0 hbm
        obtain ⟨i, hi, rfl, hrow, hbr⟩ := hrel
        by_cases hil : i < ts.length
        · rcases hp with rfl | ⟨b, o, rfl, hbl, hcs⟩
          · simp at hil
          rcases HOC.out with hn | ⟨ob, oo, rfl, hob, hoc⟩
          · have := congrArg List.length hn
            rw [intsOf_length, HOL.out] at this
            have hz : ts.length = 0 := this
            omega
          have hnx := HO.out.1 i (by rw [HOL.out]; exact hil)
          have hot := hoc i (by rw [intsOf_length, HOL.out]; exact hil)
          rw [intsOf_getD] at hot
          have HTS : Hid (has (ord.take (i + 1)) = mark (has (ord.take i)) (ord.getD i 0)) := has_take_succ ord i (by rw [HOL.out]; exact hil)
          obtain ⟨hx, hTx, hfree⟩ := hnx.free
          generalize hxx : ord.getD i 0 = x at *
          have hBr : Below w.heap.size w wr := hB7.trans (hbr.mono hB7.size)
          have ho4 := (hbr.cell (p := ⟨ob, oo + i, none⟩) (Nat.lt_of_lt_of_le hob hB47.size)).trans ((hB47.cell (p := ⟨ob, oo + i, none⟩) hob).trans hot)
          obtain ⟨_, nv, hc2, hin⟩ := hcs x hx
          have hcn := (hBr.cell (p := ⟨b, o + x * 2 + 1, none⟩) hbl).trans hc2
          have hdx := hrow.out.cell hx
          rw [hTx] at hdx
          have j1 : ¬ (x : Int) < 0 := by omega
          have j2 : ¬ (ts.length : Int) ≤ (x : Int) := by omega
          have HIN : Hid (IntsAt w nv (needsOf ts x)) := hin
          obtain ⟨hnl, na, nc, rfl, hns⟩ := hin
          have HFR : Hid (∀ y, y ∈ needsOf ts x → has (ord.take i) y.toNat = true) := hfree
          clear hcs hoc hnx hot hxx hc2 hTx hfree
          go_wp2
          clear hcn hdx j1 j2
          go_loopw [22] (fun s22 wr => ∃ k : Nat, k ≤ (needsOf ts x).length ∧ s22 = .int .i64 k ∧ Hid (wr.rowIs w7.heap.size 4 ts.length (fun k => .bool (has (ord.take i) k))) ∧ Below w7.heap.size w7 wr ∧ wr.cell? ⟨ob, oo + i, none⟩ = some (.int .i64 (x : Nat))) (fun s22 _ => (needsOf ts x).length - (intOf s22).toNat)
          case atStart => exact ⟨0, Nat.zero_le _, rfl, hrow, hbr, ho4⟩
          case round =>
            clear hrow hbr ho4 hBr
            obtain ⟨k, hk, rfl, hrow, hbr, ho4⟩ := hrel
            have hBr : Below w.heap.size w wr := hB7.trans (hbr.mono hB7.size)
            by_cases hkl : k < (needsOf ts x).length
            · rcases hns with hns | ⟨nb, no, rfl, hnb, hnc⟩
              · rw [hns] at hkl; simp at hkl
              have hyc := (hBr.cell (p := ⟨nb, no + k, none⟩) hnb).trans (hnc k hkl)
              have hym : (needsOf ts x).getD k 0 ∈ needsOf ts x := by rw [List.getD_eq_getElem?_getD, List.getElem?_eq_getElem hkl]; exact List.getElem_mem hkl
              have hyr := HRG.out x hx _ hym
              have hyd := HFR.out _ hym
              generalize (needsOf ts x).getD k 0 = yz at *
              obtain ⟨y, rfl⟩ := Int.eq_ofNat_of_zero_le hyr.1
              rw [Int.toNat_natCast] at hyd
              have hyl : y < ts.length := by omega
              have hdy := hrow.out.cell hyl
              rw [hyd] at hdy
              have j1 : ¬ (y : Int) < 0 := by omega
              have j2 : ¬ (ts.length : Int) ≤ (y : Int) := by omega
              have haf := after_right _ ts y wr HC.out hyl (HP.out.later hBr)
              have HMM : Hid (memB (intsOf (afterOf ts y ts.length)) (x : Int) = true) := by
                unfold memB; simp only [Hid, decide_eq_true_eq]; exact afterOf_mem ts y ts.length x hx hym
              clear hnc hym hyr hyd
              go_wp2_with fail
              refine haf.mono ?_
              rintro e w8 ⟨⟨ya, yc, rfl, hyi⟩, hb8⟩
              clear haf hyc hdy
              have hin := in_any _ _ (x : Int) w8 hyi
              rw [HMM.out] at hin
              have hB78 : Below w7.heap.size w7 w8 := hbr.trans (hb8.mono hbr.size)
              have hrow8 : Hid (w8.rowIs w7.heap.size 4 ts.length (fun k => .bool (has (ord.take i) k))) := hrow.out.of_block (hb8.block _ hrow.out.lt)
              have ho8 : w8.cell? ⟨ob, oo + i, none⟩ = some (.int .i64 (x : Nat)) := (hb8.cell (p := ⟨ob, oo + i, none⟩) (Nat.lt_of_lt_of_le hob (Nat.le_trans hB47.size hbr.size))).trans ho4
              clear hyi ho4 hrow hbr hb8 hBr
              go_wp2_with (go_at_call 11; refine hin.mono ?_; rintro e w9 ⟨rfl, rfl⟩)
              go_roundw
              case rel => exact ⟨k + 1, by omega, by go_num, hrow8, hB78, ho8⟩
              case measure => simp [intOf]; omega
            · have hcx := hrow.out.cell hx
              have hfx := hrow.out.frozen x
              have HSET : Hid ((wr.setCell ⟨w7.heap.size, x, none⟩ (.bool true)).rowIs w7.heap.size 4 ts.length (fun k => .bool (has (ord.take (i + 1)) k))) := by
                rw [HTS.out]
                exact (hrow.out.set x (.bool true)).congr (fun k _ => by unfold mark; split <;> simp_all)
              clear hns
              go_wp2
              go_roundw
              case rel => exact ⟨i + 1, by omega, by go_num, HSET, hbr.setCell (Nat.le_refl _) _⟩
              case measure => simp [intOf]; omega
        · go_wp2
          go_ret
          exact ⟨rfl, hB7.trans (hbr.mono hB7.size)⟩
end Go.Proofs.YtfmmfapfgpckfaaDoor
