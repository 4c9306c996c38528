/- The walk of TopKept. -/
import Derived.Test.YtjojfnppegfmnaaLgx
import Derived.Test.YtjojfnppegfmnaaLgi
import Derived.Test.YtjojfnppegfmnaaCln
import Derived.Test.YtjojfnppegfmnaaTone
namespace Go.Proofs.Ytjojfnppegfmnaa
open Go.RowKit Go.Deep

/-- What cells.All hands back lies in memory of its own. -/
def AllNew (B : Nat) (ts : List (Int × List Int)) (os : List Opn) (e : Ending) (w' : World) : Prop :=
  ∃ p q, CheckIs ts p q ∧ ((allErr q ts.length os ≠ 0 ∧ e = .returned (.tuple #[.slice none 0 0, errV (allErr q ts.length os)])) ∨
    (q = 0 ∧ opsErr ts.length os = 0 ∧ ∃ ord g, B ≤ g ∧ OrdIs ts ord ∧ e = .returned (.tuple #[.slice (some ⟨g, 0, none⟩) ts.length ts.length, .nilIface]) ∧ w'.rowIs g 64 (ts.length * 2) (cellRow (alongC ts (fun k => os.getD k (0, 0)) ord))))

set_option maxRecDepth 100000 in
set_option maxHeartbeats 2000000 in
theorem allNew_any (pv ov : Value) (ts : List (Int × List Int)) (os : List Opn) (w : World) (hp : PlanAt w pv ts) (ho : OpsAt w ov os) :
    Calls Try.prog 6 #[pv, ov] w fun e w' => AllNew w.heap.size ts os e w' ∧ Below w.heap.size w w' := by
  have hor := order_any pv ts w hp
  have HP : Hid (PlanAt w pv ts) := hp
  have HO : Hid (OpsAt w ov os) := ho
  obtain ⟨_, pa, pc, rfl, _⟩ := hp
  obtain ⟨_, oa, oc, rfl, _⟩ := ho
  go_enter Try.func6, Try.ntmps6
  go_wp2_with fail
  refine hor.mono ?_
  clear hor
  rintro e w1 ⟨⟨p, q, hck, hcase⟩, hb⟩
  have HCK : Hid (CheckIs ts p q) := hck
  rcases hcase with ⟨hq, rfl⟩ | ⟨hq, ord, rv, rfl, hord, hints⟩
  · have HE : Hid (∀ u w', u = errV q → AllNew w.heap.size ts os (.returned (.tuple #[.slice none 0 0, u])) w') := fun u w' hu => by
      have e : allErr q ts.length os = q := by unfold allErr; rw [if_neg hq]
      exact ⟨p, q, HCK.out, Or.inl ⟨by rw [e]; exact hq, by rw [hu, e]⟩⟩
    rw [errV_some hq] at HE ⊢
    clear hck hq
    go_wp2
    go_ret2
    exact ⟨HE.out _ _ rfl, hb⟩
  · subst hq
    obtain ⟨-, h30, herr, hno⟩ := hck.ok rfl
    have hco := checkOps_any _ _ ts os w1 (HP.out.later hb) (HO.out.later hb)
    have hs1 := hb.size
    by_cases hq : opsErr ts.length os = 0
    · obtain ⟨hm, hop⟩ := opsErr_zero hq
      rw [hq, errV_zero] at hco
      have HAL : Hid (∀ w2, Below w1.heap.size w1 w2 → Calls Try.prog 19 #[.slice pa ts.length pc, .slice oa os.length oc, rv] w2 fun e w' => e = .returned (.slice (some ⟨w2.heap.size, 0, none⟩) ts.length ts.length) ∧ w'.rowIs w2.heap.size 64 (ts.length * 2) (cellRow (alongC ts (fun k => os.getD k (0, 0)) ord)) ∧ Below w2.heap.size w2 w') := fun w2 hb2 =>
        along_any _ _ _ ts os ord w2 ((HP.out.later hb).later hb2) ((HO.out.later hb).later hb2) (hints.later hb2) h30 (inRange_of herr) hm hord.below hop (fun k hk => Nat.le_trans (needs_len herr hk) (by omega))
      have HZ : Hid (∀ g w', w.heap.size ≤ g → w'.rowIs g 64 (ts.length * 2) (cellRow (alongC ts (fun k => os.getD k (0, 0)) ord)) → AllNew w.heap.size ts os (.returned (.tuple #[.slice (some ⟨g, 0, none⟩) ts.length ts.length, .nilIface])) w') := fun g w' hg h => ⟨p, 0, HCK.out, Or.inr ⟨rfl, hq, ord, g, hg, hord, rfl, h⟩⟩
      clear hq hm hop hints hord hck herr hno
      go_wp2_with (first | (go_at_call 18; refine hco.mono ?_; clear hco; rintro e w2 ⟨rfl, hb2⟩; have hal := HAL.out w2 hb2) | (go_at_call 19; refine hal.mono ?_; clear hal; rintro e w3 ⟨rfl, hrow3, hb3⟩; have HR3 := HZ.out _ w3 (Nat.le_trans hs1 hb2.size) hrow3; clear hrow3))
      go_ret2
      exact ⟨HR3, hb.trans ((hb2.trans (hb3.mono hb2.size)).mono hb.size)⟩
    · have HE : Hid (∀ u w', u = errV (opsErr ts.length os) → AllNew w.heap.size ts os (.returned (.tuple #[.slice none 0 0, u])) w') := fun u w' hu =>
        ⟨p, 0, HCK.out, Or.inl ⟨hq, by rw [hu]; rfl⟩⟩
      rw [errV_some hq] at HE hco
      clear hck hq hints hord herr hno
      generalize opsErr ts.length os = q at *
      go_wp2_with (go_at_call 18; refine hco.mono ?_; clear hco; rintro e w2 ⟨rfl, hb2⟩)
      go_ret2
      exact ⟨HE.out _ _ rfl, hb.trans (hb2.mono hb.size)⟩

/-- The order in which tasks are done is one by which all come to the same. -/
theorem SeqOk.order {ts : List (Int × List Int)} {l : List Nat} (h : SeqOk ts l) (hl : l.length = ts.length) : EachZ ts.length (intsOf l) ∧ natsOf (intsOf l) = l ∧ Behind ts l := by
  refine ⟨⟨by rw [intsOf_length]; exact hl, ?_, fun x hx => ?_⟩, ?_, fun m hm y hy => ?_⟩
  · unfold intsOf
    refine List.pairwise_map.2 (List.Pairwise.imp (fun {a b} hne e => hne ?_) h.nodup)
    have : (a : Int) = (b : Int) := e
    omega
  · unfold intsOf at hx
    obtain ⟨y, hy, rfl⟩ := List.mem_map.1 hx
    have := h.lt hy
    show (0 : Int) ≤ (y : Int) ∧ (y : Int) < _
    omega
  · unfold natsOf intsOf
    rw [List.map_map]
    conv => rhs; rw [← List.map_id l]
    exact List.map_congr_left fun x _ => rfl
  · have h2 := (ready_parts (h m hm).2).2
    have := missN_zero.1 h2 _ hy
    simpa [inL] using this

/-- Between two rounds. -/
def TK (B L g : Nat) (ts : List (Int × List Int)) (F : Nat → Cl) (w0 : World) (i : Nat) (w : World) : Prop :=
  ∃ s T X, Lg B T X L ts s w ∧ Goes ts.length i s ∧ ¬ X g ∧ Below B w0 w ∧ w.rowIs g 64 (ts.length * 2) (cellRow F)
variable {B L g i j T : Nat} {ts : List (Int × List Int)} {F : Nat → Cl} {w0 w w' : World} {s s' : Ls} {X : Nat → Prop}
theorem Lg.ge (h : Lg B T X L ts s w) : ∀ b, X b → B ≤ b := by
  obtain ⟨⟨XJ, J, pv, dv, hM⟩, _⟩ := h
  exact fun b hb => (hM.lt b hb).2
theorem Lg.leB (h : Lg B T X L ts s w) : B ≤ w.heap.size := by
  obtain ⟨⟨XJ, J, pv, dv, hM⟩, _⟩ := h
  exact hM.leB
theorem TK.later (h : TK B L g ts F w0 i w) (hb : Below w.heap.size w w') : TK B L g ts F w0 i w' := by
  obtain ⟨s, T, X, hl, hg, hx, hw, hr⟩ := h
  exact ⟨s, T, X, hl.later hb, hg, hx, hw.trans (hb.mono hl.leB), hr.of_block (hb.block _ hr.lt)⟩
theorem TK.to (hl : Lg B T X L ts s w) (hx : ¬ X g) (hw : Below B w0 w) (hr : w.rowIs g 64 (ts.length * 2) (cellRow F)) (ht : LgTo B T X L ts s' w w') (hg : Goes ts.length j s') : TK B L g ts F w0 j w' := by
  obtain ⟨X', h1, h2, h3⟩ := ht
  refine ⟨s', T, X', h1, hg, fun e => ?_, hw.trans (h2.below hl.ge hl.leB), hr.of_block (h2.block _ hr.lt hx)⟩
  rcases h3 g e with h | h
  · exact hx h
  · have := hr.lt; omega

theorem RowI.readI {b : Nat} {v : Value} {zs : List Int} (h : RowI b w v zs) (hl : zs.length ≤ 1000) : IntsAt w v zs := by
  refine ⟨by omega, ?_⟩
  by_cases h0 : zs = []
  · subst h0
    obtain ⟨a, c, hv⟩ := h.shape
    exact ⟨a, c, hv, Or.inl rfl⟩
  · obtain ⟨g, c, hv, _, hg, _⟩ := h.full (List.length_pos_iff.2 h0)
    subst hv
    exact ⟨_, c, rfl, Or.inr ⟨g, 0, rfl, hg, fun k hk => by rw [Nat.zero_add]; exact h.cell hk⟩⟩

set_option maxRecDepth 100000 in
set_option maxHeartbeats 8000000 in
theorem topKept_any (pv ov : Value) (ts : List (Int × List Int)) (os : List Opn) (sync crash keep : Int) (w : World) (hp : PlanAt w pv ts) (ho : OpsAt w ov os) :
    Calls Try.prog 3 #[pv, ov, .int .i64 sync, .int .i64 crash, .int .i64 keep] w fun e w' => e = .returned (.bool true) ∧ Below w.heap.size w w' := by
  have HP : Hid (PlanAt w pv ts) := hp
  have HO : Hid (OpsAt w ov os) := ho
  obtain ⟨hpl, pa, pc, rfl, _⟩ := hp
  obtain ⟨hol, oa, oc, rfl, _⟩ := ho
  have hone := one_any w
  obtain ⟨p0, q0, hck0⟩ := chk_exists ts
  have HCK0 : Hid (CheckIs ts p0 q0) := hck0
  clear hck0
  go_enter Try.func3, Try.ntmps3
  go_wp2_with fail
  refine hone.mono ?_
  clear hone
  rintro e w1 ⟨rfl, hb1⟩
  have hal := fun wx hbx => allNew_any _ _ ts os wx ((HP.out.later hb1).later hbx) ((HO.out.later hb1).later hbx)
  have HAL : Hid (∀ wx, Below w1.heap.size w1 wx → Calls Try.prog 6 #[.slice pa ts.length pc, .slice oa os.length oc] wx fun e w' => AllNew wx.heap.size ts os e w' ∧ Below wx.heap.size wx w') := hal
  have HB1 : Hid (Below w.heap.size w w1) := hb1
  clear hal
  by_cases hq0 : q0 = 0
  · subst hq0
    obtain rfl : p0 = 0 := (HCK0.out.ok rfl).1
    have hnew := newL_good _ ts w1 (HP.out.later hb1) HCK0.out
    clear hb1
    go_wp2_with fail
    refine hnew.mono ?_
    clear hnew
    rintro e w2 ⟨⟨L, X, T, rfl, hl⟩, hb2⟩
    have HL2 : Hid (Lg w1.heap.size T X L ts Ls.new w2) := hl
    have hal2 := HAL.out w2 hb2
    have HB2 : Hid (Below w1.heap.size w1 w2) := hb2
    clear hl hb2
    go_wp2_with fail
    refine hal2.mono ?_
    clear hal2
    rintro e w3 ⟨⟨p, q, hck, hcase⟩, hb3⟩
    have HB3 : Hid (Below w1.heap.size w1 w3) := HB2.out.trans (hb3.mono HB2.out.size)
    have HBW : Hid (Below w.heap.size w w3) := HB1.out.trans (HB3.out.mono HB1.out.size)
    rcases hcase with ⟨hne, rfl⟩ | ⟨rfl, hops, ord, g, hgB, hord, rfl, hrow⟩
    · rw [errV_some hne]
      generalize allErr q ts.length os = q2 at *
      clear hck hne hb3
      go_wp2
      go_ret
      exact ⟨rfl, HBW.out⟩
    · obtain ⟨hp0, h30, herr, hno⟩ := hck.ok rfl
      subst hp0
      obtain ⟨hm, hop⟩ := opsErr_zero hops
      have hr := inRange_of herr
      have HG : Hid (Good ts) := hck.good
      have HOPS : Hid (opsErr ts.length os = 0) := hops
      have HSM : Hid (∀ o2 : List Nat, SeqOk ts o2 → o2.length = ts.length → outL ts.length (alongC ts (fun k => os.getD k (0, 0)) o2) = outL ts.length (alongC ts (fun k => os.getD k (0, 0)) ord)) := fun o2 h1 h2 => by
        unfold outL
        refine List.map_congr_left fun i hi => ?_
        exact alongC_same hr hno h1.nodup (h1.order h2).2.2 (fun x hx => h1.lt hx) (h1.full h2) hord.nodup hord.behind hord.below (hord.mem hr hno) i (List.mem_range.1 hi)
      obtain ⟨F, hF⟩ : ∃ F, F = alongC ts (fun k => os.getD k (0, 0)) ord := ⟨_, rfl⟩
      rw [← hF] at HSM hrow
      have HK0 : Hid (TK w1.heap.size L g ts F w1 0 w3) := ⟨Ls.new, T, X, HL2.out.later hb3, Goes.start _, fun hx => by
        obtain ⟨⟨XJ, J, pv, dv, hM⟩, _⟩ := HL2.out
        have := (hM.lt g hx).1
        omega, HB3.out, hrow⟩
      obtain ⟨ol, hole⟩ : ∃ ol, ol = os.length := ⟨_, rfl⟩
      have HM : Hid (ol = ts.length) := by show _ = _; rw [hole]; exact hm
      have HOL : Hid (ol = os.length) := hole
      rw [← hole]
      clear hF hrow hck hord hops hop hr hno herr hm hole hb3 hgB HBW HB3 HB2 HL2 HAL
      go_wp2
      go_loopw [16] (fun s16 wr => ∃ i : Nat, i ≤ 4 * ts.length + 4 ∧ s16 = .int .i64 i ∧ Hid (TK w1.heap.size L g ts F w1 i wr)) (fun s16 _ => 4 * ts.length + 4 - (intOf s16).toNat)
      case atStart => exact ⟨0, Nat.zero_le _, rfl, HK0⟩
      case round =>
        clear HK0
        obtain ⟨i, hi, rfl, hK⟩ := hrel
        by_cases hil : i < 4 * ts.length + 4
        · have hil2 : (i : Int) < 4 * (ts.length : Int) + 4 := by omega
          obtain ⟨s, T1, X1, hl, hgo, hxg, hbw, hrw⟩ := hK.out
          have hrd := readyL_any hl
          have HL : Hid (Lg w1.heap.size T1 X1 L ts s wr) := hl
          have HGO : Hid (Goes ts.length i s) := hgo
          have HXG : Hid (¬ X1 g) := hxg
          have HBX : Hid (Below w1.heap.size w1 wr) := hbw
          have HRW : Hid (wr.rowIs g 64 (ts.length * 2) (cellRow F)) := hrw
          clear hK hl hgo hxg hbw hrw
          go_wp2_with fail
          refine hrd.mono ?_
          clear hrd
          rintro e w4 ⟨⟨v, rfl, hv⟩, hb4⟩
          have HB4 : Hid (Below wr.heap.size wr w4) := hb4
          have HV : Hid (RowI wr.heap.size w4 v (intsOf (readyTo ts (inL s.recs) ts.length))) := hv
          have hrl : (readyTo ts (inL s.recs) ts.length).length ≤ 30 := by have := readyTo_len ts (inL s.recs) ts.length; omega
          obtain ⟨va, vc, rfl⟩ := hv.shape
          rw [intsOf_length] at HV ⊢
          clear hv hb4
          go_upto_region 12 with fail
          go_cut [17, 64] from 41 to 85 (fun _ s64 wx => s64 = .bool false ∧ Hid (TK w1.heap.size L g ts F w1 (i + 1) wx))
          case first => as_aux_lemma =>
            by_cases hz : (readyTo ts (inL s.recs) ts.length).length = 0
            · have HN : Hid (TK w1.heap.size L g ts F w1 (i + 1) w4) := TK.to HL.out HXG.out HBX.out HRW.out (HL.out.to HB4.out) (HGO.out.none HG.out (List.eq_nil_of_length_eq_zero hz))
              rw [hz]
              clear hz hrl
              go_wp2
              go_meet
              exact ⟨rfl, HN.out⟩
            · obtain ⟨y, hy, hyn, hyr⟩ := ready_last (ts := ts) (S := inL s.recs) (n := ts.length) (by omega)
              obtain ⟨g4, c4, hve, hg41, hg42, _⟩ := HV.out.full (by rw [intsOf_length]; omega)
              simp only [Value.slice.injEq] at hve
              obtain ⟨rfl, _, rfl⟩ := hve
              have hcell := HV.out.cell (k := (readyTo ts (inL s.recs) ts.length).length - 1) (by rw [intsOf_length]; omega)
              rw [intsOf_getD, hy] at hcell
              have hgd := HGO.out.done (doneErr_ready hyn hyr)
              have hdl := doneL_any (y : Int) (HL.out.later HB4.out)
              rw [hgd.1, errV_zero] at hdl
              have HN : Hid (∀ wx, LgTo w1.heap.size T1 X1 L ts (s.done ts y) w4 wx → TK w1.heap.size L g ts F w1 (i + 1) wx) := fun wx h => TK.to (HL.out.later HB4.out) HXG.out (HBX.out.trans (HB4.out.mono HBX.out.size)) (HRW.out.of_block (HB4.out.block _ HRW.out.lt)) h hgd.2
              clear hy hyr hgd HV hg41 hg42
              obtain ⟨m, hm⟩ : ∃ m, (readyTo ts (inL s.recs) ts.length).length = m + 1 := ⟨(readyTo ts (inL s.recs) ts.length).length - 1, by omega⟩
              rw [hm] at hcell hrl ⊢
              rw [Nat.add_sub_cancel] at hcell
              have hm1 : ((m + 1 : Nat) : Int) - 1 = (m : Int) := by omega
              have hm0 : (0 : Int) < ((m + 1 : Nat) : Int) := by omega
              clear hz hm
              go_wp2_with (go_at_call 8; refine hdl.mono ?_; clear hdl; rintro e w5 ⟨rfl, ht5⟩)
              go_meet
              exact ⟨rfl, HN.out _ ht5⟩
          case rest => as_aux_lemma =>
            obtain ⟨rfl, hK⟩ := hcut
            clear HL HGO HXG HBX HRW HB4 HV hrl
            go_upto_region 14 with fail
            go_cut [72] from 41 to 85 (fun s72 wx => s72 = .bool false ∧ Hid (TK w1.heap.size L g ts F w1 (i + 1) wx))
            case first => as_aux_lemma =>
              by_cases hsy : (i : Int) = sync
              · have hd : ((i : Int) == sync) = true := by simp [hsy]
                obtain ⟨s, T1, X1, hl, hgo, hxg, hbw, hrw⟩ := hK.out
                have hsl := syncL_any hl
                rw [hgo.sync.1, errV_zero] at hsl
                have HN : Hid (∀ wx, LgTo w1.heap.size T1 X1 L ts s.sync _ wx → TK w1.heap.size L g ts F w1 (i + 1) wx) := fun wx h => TK.to hl hxg hbw hrw h hgo.sync.2
                clear hsy hK hl hgo hxg hbw hrw
                go_wp2_with (go_at_call 9; refine hsl.mono ?_; clear hsl; rintro e w5 ⟨rfl, ht5⟩)
                go_meet
                exact ⟨rfl, HN.out _ ht5⟩
              · have hd : ((i : Int) == sync) = false := by simp [hsy]
                clear hsy
                go_wp2
                go_meet
                exact ⟨rfl, hK⟩
            case rest => as_aux_lemma =>
              obtain ⟨rfl, hK2⟩ := hcut
              clear hK
              by_cases hcr : (i : Int) = crash
              · subst hcr
                by_cases hin : i ≤ 2 * ts.length
                · have hin2 : (i : Int) ≤ 2 * (ts.length : Int) := by omega
                  obtain ⟨s, T1, X1, hl, hgo, hxg, hbw, hrw⟩ := hK2.out
                  have hcl := crash_any keep hl
                  have HN : Hid (∀ wx, LgTo w1.heap.size T1 X1 L ts (s.crash keep) _ wx → TK w1.heap.size L g ts F w1 (i + 1) wx) := fun wx h => TK.to hl hxg hbw hrw h (Goes.crash (by omega) keep)
                  clear hK2 hl hgo hxg hbw hrw
                  go_wp2_with (go_at_call 10; refine hcl.mono ?_; clear hcl; rintro e w5 ⟨rfl, ht5⟩)
                  have HK5 : Hid (TK w1.heap.size L g ts F w1 (i + 1) w5) := HN.out _ ht5
                  clear ht5 HN
                  go_roundw
                  case rel => exact ⟨i + 1, by omega, by go_num, HK5⟩
                  case measure => simp [intOf]; omega
                · have hin2 : ¬ (i : Int) ≤ 2 * (ts.length : Int) := by omega
                  go_wp2
                  go_roundw
                  case rel => exact ⟨i + 1, by omega, by go_num, hK2⟩
                  case measure => simp [intOf]; omega
              · have hd : ((i : Int) == crash) = false := by simp [hcr]
                clear hcr
                go_wp2
                go_roundw
                case rel => exact ⟨i + 1, by omega, by go_num, hK2⟩
                case measure => simp [intOf]; omega
        · have hil2 : ¬ (i : Int) < 4 * (ts.length : Int) + 4 := by omega
          obtain ⟨s, T1, X1, hl, hgo, hxg, hbw, hrw⟩ := hK.out
          have hfar := hgo.far
          have hle := hl.2.1.seq.len
          have hfull : s.recs.length = ts.length := by omega
          have HSQ : Hid (SeqOk ts s.recs) := hl.2.1.seq
          have HFL : Hid (s.recs.length = ts.length) := hfull
          have HL : Hid (Lg w1.heap.size T1 X1 L ts s wr) := hl
          have HRW : Hid (wr.rowIs g 64 (ts.length * 2) (cellRow F)) := hrw
          have HBX : Hid (Below w.heap.size w wr) := HB1.out.trans (hbw.mono HB1.out.size)
          have hall : Calls Try.prog 12 #[.pointer (some ⟨L, 0, none⟩)] wr fun e w' => (∃ v, e = .returned v ∧ RowI wr.heap.size w' v (intsOf s.recs)) ∧ Below wr.heap.size wr w' := by
            obtain ⟨⟨XJ, J, pv, dv, hM⟩, hok, hck⟩ := hl
            exact allL_any hM hok h30
          clear hK hl hgo hxg hbw hrw hfar hle
          go_wp2_with fail
          refine hall.mono ?_
          clear hall
          rintro e w4 ⟨⟨v, rfl, hv⟩, hb4⟩
          have HB4 : Hid (Below w.heap.size w w4) := HBX.out.trans (hb4.mono HBX.out.size)
          have HL4 : Hid (Lg w1.heap.size T1 X1 L ts s w4) := HL.out.later hb4
          have HR4 : Hid (w4.rowIs g 64 (ts.length * 2) (cellRow F)) := HRW.out.of_block (hb4.block _ HRW.out.lt)
          have hia : IntsAt w4 v (intsOf s.recs) := RowI.readI hv (by rw [intsOf_length]; omega)
          have hao := cAlong_any _ _ _ ts os (intsOf s.recs) w4 (HP.out.later HB4.out) (HO.out.later HB4.out) hia
          rw [← HOL.out] at hao
          obtain ⟨va, vc, rfl⟩ := hv.shape
          rw [intsOf_length, hfull] at hao ⊢
          have HAE : Hid (∀ q : Int × Int, CheckIs ts q.1 q.2 → alErr q.2 ts os (intsOf s.recs) = 0) := fun q hc => by
            have hq : q.2 = 0 := (hc.det HCK0.out).2
            have h0 : allErr q.2 ts.length os = 0 := by unfold allErr; rw [if_pos hq]; exact HOPS.out
            rw [alErr_ok h0]
            obtain ⟨o1, o2, o3⟩ := HSQ.out.order HFL.out
            exact ordErr_ok o1 (by rw [o2]; exact o3)
          clear hv hb4 hia hfull HBX HRW HL
          go_wp2_with fail
          refine hao.mono ?_
          clear hao
          rintro e w5 ⟨⟨p5, q5, hck5, hcase5⟩, hb5⟩
          rcases hcase5 with ⟨hne5, _⟩ | ⟨_, _, g5, rfl, hrow5⟩
          · exact absurd (HAE.out (p5, q5) hck5) hne5
          have HB5 : Hid (Below w.heap.size w w5) := HB4.out.trans (hb5.mono HB4.out.size)
          have HL5 : Hid (Lg w1.heap.size T1 X1 L ts s w5) := HL4.out.later hb5
          have hR5 := HR4.out.of_block (hb5.block _ HR4.out.lt)
          have hc5 := cells_of_row hrow5 (by omega)
          rw [(HSQ.out.order HFL.out).2.1, HSM.out _ HSQ.out HFL.out] at hc5
          have hsa := sameCells_any _ _ _ w5 hc5 (cells_of_row hR5 (by omega))
          clear hck5 hrow5 hc5 hR5 hb5 HAE HB4 HR4 HL4
          go_wp2_with fail
          refine hsa.mono ?_
          clear hsa
          rintro e w6 ⟨rfl, hb6⟩
          have hrd := readyL_any (HL5.out.later hb6)
          have HB6 : Hid (Below w.heap.size w w6) := HB5.out.trans (hb6.mono HB5.out.size)
          have hre : readyTo ts (inL s.recs) ts.length = [] := by
            rw [List.eq_nil_iff_forall_not_mem]
            intro k hk
            obtain ⟨h1, h2⟩ := mem_readyTo.1 hk
            have := (ready_parts h2).1
            have h3 := HSQ.out.full HFL.out k h1
            simp [inL, h3] at this
          rw [hre] at hrd
          clear hre hb6 HL5 HB5
          go_wp2_with fail
          refine hrd.mono ?_
          clear hrd
          rintro e w7 ⟨⟨v7, rfl, hv7⟩, hb7⟩
          obtain ⟨a7, c7, rfl⟩ := hv7.shape
          have HF : Hid (Below w.heap.size w w7) := HB6.out.trans (hb7.mono HB6.out.size)
          have hl0 : (intsOf []).length = 0 := rfl
          rw [hl0]
          clear hv7 hb7 hl0
          go_wp2
          go_ret
          exact ⟨rfl, HF.out⟩
  · have hnew := newL_bad _ ts w1 (HP.out.later hb1) HCK0.out hq0
    rw [errV_some hq0] at hnew
    clear hb1
    go_wp2_with fail
    refine hnew.mono ?_
    clear hnew
    rintro e w2 ⟨rfl, hb2⟩
    have hal2 := HAL.out w2 hb2
    have HB2 : Hid (Below w1.heap.size w1 w2) := hb2
    clear hb2
    go_wp2_with fail
    refine hal2.mono ?_
    clear hal2
    rintro e w3 ⟨⟨p, q, hck, hcase⟩, hb3⟩
    have HB3 : Hid (Below w.heap.size w w3) := HB1.out.trans ((HB2.out.trans (hb3.mono HB2.out.size)).mono HB1.out.size)
    rcases hcase with ⟨hne, rfl⟩ | ⟨rfl, _, _⟩
    · rw [errV_some hne]
      generalize allErr q ts.length os = q2 at *
      clear hck hne hb3 hq0
      go_wp2
      go_ret
      exact ⟨rfl, HB3.out⟩
    · exact absurd (HCK0.out.det hck).2 hq0
end Go.Proofs.Ytjojfnppegfmnaa
