/- The walk of TraceBack. -/
import Derived.Test.YtpodlingdodphaaDoorTrk
import Derived.Test.YtpodlingdodphaaDoorTco
import Derived.Test.YtpodlingdodphaaDoorTds
import Derived.Test.YtpodlingdodphaaDoorTke
import Derived.Deep.CutRange
import Derived.Deep.CutBlock
namespace Go.Proofs.YtpodlingdodphaaDoor
open Go.RowKit Go.Deep

def lawT : List UInt8 := [116, 111, 111, 107, 32, 49, 32, 50, 10, 115, 116, 111, 108, 101, 32, 48, 32, 51, 32, 49, 10, 115, 108, 101, 112, 116, 32, 50, 10]
theorem lawT_err : pErr lawT = 0 := by decide +kernel
theorem lawT_deeds : pDeeds lawT = [(1, 1, 2, 0), (2, 0, 3, 1), (5, 2, 0, 0)] := by decide +kernel
theorem back_text {t : List UInt8} (h : pErr t = 0) : ∃ ds, deedsOf t = some ds ∧ pDeeds t = ds ∧ deedsErr ds = 0 ∧ deedsText ds = t := by
  unfold pErr at h
  cases hd : deedsOf t with
  | none => rw [hd] at h; exact absurd h (by decide)
  | some ds =>
    rw [hd] at h
    have hp : pErr t = 0 := by unfold pErr; rw [hd]; exact h
    exact ⟨ds, rfl, by unfold pDeeds; rw [if_pos hp, hd]; rfl, h, deeds_back hd⟩
theorem text_back {ds : List Deed} (h : deedsErr ds = 0) : pErr (deedsText ds) = 0 ∧ pDeeds (deedsText ds) = ds := by
  have hd := deeds_text (deedsErr_zero h).2
  have hp : pErr (deedsText ds) = 0 := by unfold pErr; rw [hd]; exact h
  exact ⟨hp, by unfold pDeeds; rw [if_pos hp, hd]; rfl⟩
theorem DeedsAt.cut {w : World} {a : Option Addr} {n c : Nat} {ds : List Deed} (h : DeedsAt w (.slice a n c) ds) {k : Nat} (hk : k ≤ ds.length) (c' : Nat) : DeedsAt w (.slice a k c') (ds.take k) := by
  obtain ⟨hl, a', c2, hv, h⟩ := h
  simp only [Value.slice.injEq] at hv
  obtain ⟨rfl, _, _⟩ := hv
  have hlen : (ds.take k).length = k := by simp; omega
  refine ⟨by rw [hlen]; omega, a, c', by rw [hlen], ?_⟩
  rcases h with h | ⟨b, o, ha, hlt, hc⟩
  · left; rw [h]; simp
  · right
    refine ⟨b, o, ha, hlt, fun j hj i hi => ?_⟩
    rw [hlen] at hj
    rw [hc j (by omega) i hi]
    congr 2
    rw [List.getD_eq_getElem?_getD, List.getD_eq_getElem?_getD, List.getElem?_take_of_lt hj]
set_option maxRecDepth 100000 in
set_option maxHeartbeats 16000000 in
theorem traceBack_any (v dv : Value) (ts : List (Int × List Int)) (hands cut : Int) (ds : List Deed) (t : List UInt8) (w : World) (hp : PlanAt w v ts) (hd : DeedsAt w dv ds) (hcap : ∀ a n c, dv = .slice a n c → n ≤ c) (ht : t.length ≤ 140737488351232) (hf : FormsAt w) (hs : Synt w) :
    Calls Tryd.prog 3 #[v, .int .i64 hands, dv, .string ⟨t.toArray⟩, .int .i64 cut] w fun e w' => e = .returned (.bool true) ∧ Below w.heap.size w w' := by
  have HPA : Hid (∀ wx u, Below w.heap.size w wx → u.length ≤ 9223372036854775000 → Calls Tryd.prog 5 #[.string ⟨u.toArray⟩] wx fun e w' => (∃ v, e = .returned (.tuple #[v, errV (pErr u)]) ∧ RowD wx.heap.size w' v (pDeeds u)) ∧ Below wx.heap.size wx w') := fun wx u hb hu => parse_any u hu wx (hf.later hb) (hs.later hb)
  have HPR : Hid (∀ wx u us, Below w.heap.size w wx → DeedsAt wx u us → Calls Tryd.prog 6 #[u] wx fun e w' => e = .returned (.tuple #[.string ⟨(if deedsErr us = 0 then deedsText us else []).toArray⟩, errV (deedsErr us)]) ∧ Below wx.heap.size wx w') := fun wx u us hb h => print_any u us wx h (hf.later hb)
  obtain ⟨cp, cq, hc⟩ : ∃ p q, CheckIs ts p q := by
    obtain ⟨e, w', fr, ⟨⟨p, q, -, hc⟩, -⟩, -⟩ := check_any v ts w hp []
    exact ⟨p, q, hc⟩
  have HCK : Hid (∀ wx u us, Below w.heap.size w wx → DeedsAt wx u us → Calls Tryd.prog 8 #[v, .int .i64 hands, u] wx fun e w' => e = .returned (errV (trChk cq hands ts us)) ∧ Below wx.heap.size wx w') := fun wx u us hb h => trCheck_any v u ts hands us wx (hp.later hb) h cp cq hc
  have HD : Hid (DeedsAt w dv ds) := hd
  have hpl := hp
  obtain ⟨_, pa, pc, rfl, _⟩ := hpl
  obtain ⟨hdl, da, dc, rfl, _⟩ := hd
  have hcp := hcap _ _ _ rfl
  clear hcap
  clear hp hf hs
  have h1 := HPA.out w lawT (Below.refl _ _) (by decide)
  rw [lawT_err, lawT_deeds, errV_zero] at h1
  unfold lawT at h1
  go_enter Tryd.func3, Tryd.ntmps3
  go_wp2_with fail
  refine h1.mono ?_
  clear h1
  rintro e w1 ⟨⟨v1, rfl, hr1⟩, hb1⟩
  obtain ⟨g, gc, rfl, -, -, -, hcl⟩ := hr1.full (by simp)
  have k1 : w1.cell? ⟨g, 7, none⟩ = some (.int .i64 1) := hcl 1 (by simp) 3 (by omega)
  have k2 : w1.cell? ⟨g, 8, none⟩ = some (.int .i64 5) := hcl 2 (by simp) 0 (by omega)
  have HB1 : Hid (Below w.heap.size w w1) := hb1
  have h2 := HPA.out w1 t hb1 (by omega)
  clear hcl hr1 hb1
  go_wp2_with fail
  refine h2.mono ?_
  clear h2 k1 k2
  rintro e w2 ⟨⟨v2, rfl, hr2⟩, hb2⟩
  have HB2 : Hid (Below w.heap.size w w2) := HB1.out.trans (hb2.mono HB1.out.size)
  obtain ⟨va, vc, rfl⟩ := hr2.shape
  have HR2 : Hid (RowD w1.heap.size w2 (.slice va (pDeeds t).length vc) (pDeeds t)) := hr2
  clear hr2 hb2
  generalize hn2 : (pDeeds t).length = n2 at *
  clear hn2
  go_upto_region 5 with fail
  go_cut [14, 54] from 23 to 163 (fun s14 s54 wx => ∃ bb : Bool, s54 = .bool bb ∧ Hid (bb = true ↔ pErr t = 0) ∧ w2 = wx)
  case first => as_aux_lemma =>
    by_cases hz : pErr t = 0
    · have HZ : Hid (pErr t = 0) := hz
      rw [hz, errV_zero]
      clear hz
      go_wp2
      go_meet
      case rel => exact ⟨true, rfl, iff_of_true rfl HZ.out, rfl⟩
    · have HZ : Hid (¬ pErr t = 0) := hz
      rw [errV_some hz]
      clear hz
      go_wp2
      go_meet
      case rel => exact ⟨false, rfl, iff_of_false (by simp) HZ.out, rfl⟩
  case rest => as_aux_lemma =>
  obtain ⟨bb, rfl, HBB, rfl⟩ := hcut
  go_upto_if 54 with fail
  go_cut [15, 16] from 23 to 163 (fun s15 s16 wx => Hid (Below w.heap.size w wx))
  case first => as_aux_lemma =>
    cases bb
    · go_wp2
      go_meet
      case rel => exact HB2
    · obtain ⟨us, -, e2, e3, e4⟩ := back_text (HBB.out.1 rfl)
      have hr := HR2.out
      rw [e2] at hr
      have hlu : us.length = n2 := by
        obtain ⟨a2, c2, hv⟩ := hr.shape
        simp only [Value.slice.injEq] at hv
        exact hv.2.1.symm
      have hpr := HPR.out w2 _ us HB2.out (hr.at (by have := (deedsErr_zero e3).1; omega))
      rw [if_pos e3, e3, e4, errV_zero] at hpr
      clear HBB e2 e3 e4 hr HR2 hlu
      go_wp2_with fail
      refine hpr.mono ?_
      clear hpr
      rintro e w3 ⟨rfl, hb3⟩
      have HB3 : Hid (Below w.heap.size w w3) := HB2.out.trans (hb3.mono HB2.out.size)
      clear hb3
      go_wp2
      go_meet
      case rel => exact HB3
  case rest => as_aux_lemma =>
  clear HB2 HBB HR2
  have HB2 := hcut
  clear hcut
  have hpr := HPR.out wc _ ds HB2.out (HD.out.later HB2.out)
  obtain ⟨tx, htx⟩ : ∃ tx, tx = (if deedsErr ds = 0 then deedsText ds else []) := ⟨_, rfl⟩
  rw [← htx] at hpr
  have HTX : Hid (tx = (if deedsErr ds = 0 then deedsText ds else [])) := htx
  clear htx
  go_wp2_with fail
  refine hpr.mono ?_
  clear hpr
  rintro e w3 ⟨rfl, hb3⟩
  have HB3 : Hid (Below w.heap.size w w3) := HB2.out.trans (hb3.mono HB2.out.size)
  clear hb3 HB2
  go_upto_region 10 with fail
  go_cut [14, 73] from 23 to 163 (fun s14 s73 wx => ∃ bb : Bool, s73 = .bool bb ∧ Hid (bb = true ↔ deedsErr ds = 0) ∧ w3 = wx)
  case first => as_aux_lemma =>
    by_cases hz : deedsErr ds = 0
    · have HZ : Hid (deedsErr ds = 0) := hz
      rw [hz, errV_zero]
      clear hz
      go_wp2
      go_meet
      case rel => exact ⟨true, rfl, iff_of_true rfl HZ.out, rfl⟩
    · have HZ : Hid (¬ deedsErr ds = 0) := hz
      rw [errV_some hz]
      clear hz
      go_wp2
      go_meet
      case rel => exact ⟨false, rfl, iff_of_false (by simp) HZ.out, rfl⟩
  case rest => as_aux_lemma =>
  obtain ⟨bb, rfl, HBB, rfl⟩ := hcut
  go_upto_if 73 with fail
  go_cut [18, 19, 20] from 23 to 163 (fun s18 s19 s20 wx => Hid (Below w.heap.size w wx))
  case first => as_aux_lemma =>
    cases bb
    · go_wp2
      go_meet
      case rel => exact HB3
    · have e3 := HBB.out.1 rfl
      obtain ⟨f1, f2⟩ := text_back e3
      have htx2 := HTX.out
      rw [if_pos e3] at htx2
      have hln := deedsText_len ds (deedsErr_zero e3).2
      have hl1 := (deedsErr_zero e3).1
      have hpa := HPA.out w3 tx HB3.out (by rw [htx2]; omega)
      rw [htx2, f1, f2, ← htx2, errV_zero] at hpa
      have HL1 : Hid (ds.length ≤ 1000) := hl1
      clear HBB e3 f1 f2 htx2 HTX hln hl1
      go_wp2_with fail
      refine hpa.mono ?_
      clear hpa
      rintro e w4 ⟨⟨v4, rfl, hr4⟩, hb4⟩
      have hb04 := HB3.out.trans (hb4.mono HB3.out.size)
      have hsm := sameDeeds_at v4 _ ds w4 (hr4.at (by have := HL1.out; omega)) (HD.out.later hb04)
      obtain ⟨ya, yc, rfl⟩ := hr4.shape
      have HB4 : Hid (Below w.heap.size w w4) := hb04
      clear hr4 hb4 hb04
      go_wp2_with fail
      refine hsm.mono ?_
      clear hsm
      rintro e w5 ⟨rfl, hb5⟩
      have HB5 : Hid (Below w.heap.size w w5) := HB4.out.trans (hb5.mono HB4.out.size)
      clear hb5 HB4
      go_wp2
      go_meet
      case rel => exact HB5
  case rest => as_aux_lemma =>
  clear HB3 HBB HTX HPA HPR
  have HB3 := hcut
  clear hcut
  have hck := HCK.out wc _ ds HB3.out (HD.out.later HB3.out)
  by_cases hz : trChk cq hands ts ds = 0
  case neg =>
    rw [errV_some hz] at hck
    generalize trChk cq hands ts ds = ce at *
    clear hz
    go_wp2_with fail
    refine hck.mono ?_
    clear hck
    rintro e w4 ⟨rfl, hb4⟩
    have HB4 : Hid (Below w.heap.size w w4) := HB3.out.trans (hb4.mono HB3.out.size)
    clear hb4
    go_wp2
    go_ret
    exact ⟨rfl, HB4.out⟩
  case pos =>
    rw [hz, errV_zero] at hck
    obtain ⟨hq0, hin, htd⟩ : cq = 0 ∧ ¬ (hands < 1 ∨ 6 < hands) ∧ toldErr ts hands.toNat ds = 0 := by
      unfold trChk at hz
      by_cases hq : cq = 0
      · rw [if_pos hq] at hz
        by_cases hh : hands < 1 ∨ 6 < hands
        · rw [if_pos hh] at hz; omega
        · rw [if_neg hh] at hz; exact ⟨hq, hh, hz⟩
      · rw [if_neg hq] at hz; exact absurd hz hq
    obtain ⟨hde, htr⟩ : deedsErr ds = 0 ∧ trErrs ts hands.toNat trNew ds = 0 := by
      unfold toldErr at htd
      by_cases h0 : deedsErr ds = 0
      · rw [if_pos h0] at htd; exact ⟨h0, htd⟩
      · rw [if_neg h0] at htd; exact absurd htd h0
    obtain ⟨hl1, hok⟩ := deedsErr_zero hde
    obtain ⟨n1, n2, n3⟩ := counts_right hok htr
    have HCO : Hid (∀ wx, Below w.heap.size w wx → Calls Tryd.prog 9 #[.slice da ds.length dc] wx fun e w' => (∃ b, e = .returned (.tuple #[.slice (some ⟨b, 0, none⟩) 6 6, .nilIface]) ∧ w'.rowIs b 3 6 (cntRow ds)) ∧ Below wx.heap.size wx w') := fun wx hb => (counts_any _ ds wx (HD.out.later hb)).mono (fun e w' ⟨h, hb'⟩ => ⟨by
      rcases h with ⟨h, _⟩ | ⟨_, b, h1, _, h2⟩
      · exact absurd hde h
      · exact ⟨b, h1, h2⟩, hb'⟩)
    have HCU : Hid (∀ k : Nat, k ≤ ds.length → trChk cq hands ts (ds.take k) = 0) := fun k hk => by
      have e1 : deedsErr (ds.take k) = 0 := (if_neg (by simp; omega)).trans (firstE_none _ (fun j hj => hok _ (List.mem_of_mem_take (by rw [List.getD_eq_getElem?_getD, List.getElem?_eq_getElem hj]; exact List.getElem_mem hj))))
      unfold trChk toldErr
      rw [if_pos hq0, if_neg hin, if_pos e1]
      exact trErrs_take ds trNew k htr
    go_wp2_with fail
    refine hck.mono ?_
    clear hck
    rintro e w4 ⟨rfl, hb4⟩
    have HB4 : Hid (Below w.heap.size w w4) := HB3.out.trans (hb4.mono HB3.out.size)
    have hco := HCO.out w4 HB4.out
    clear hb4 HB3 HCO
    go_wp2_with fail
    refine hco.mono ?_
    clear hco
    rintro e w5 ⟨⟨b, rfl, hrow⟩, hb5⟩
    have HB5 : Hid (Below w.heap.size w w5) := HB4.out.trans (hb5.mono HB4.out.size)
    have r0 : w5.cell? ⟨b, 0, none⟩ = some (.int .i64 ((cntD 1 ds : Nat) : Int)) := hrow.cell (i := 0) (by omega)
    have r1 : w5.cell? ⟨b, 1, none⟩ = some (.int .i64 ((cntD 2 ds : Nat) : Int)) := hrow.cell (i := 1) (by omega)
    have r2 : w5.cell? ⟨b, 2, none⟩ = some (.int .i64 ((cntD 3 ds : Nat) : Int)) := hrow.cell (i := 2) (by omega)
    have r3 : w5.cell? ⟨b, 3, none⟩ = some (.int .i64 ((cntD 4 ds : Nat) : Int)) := hrow.cell (i := 3) (by omega)
    have r4 : w5.cell? ⟨b, 4, none⟩ = some (.int .i64 ((cntD 5 ds : Nat) : Int)) := hrow.cell (i := 4) (by omega)
    have r5 : w5.cell? ⟨b, 5, none⟩ = some (.int .i64 ((cntD 6 ds : Nat) : Int)) := hrow.cell (i := 5) (by omega)
    have m1 := cntD_le 1 ds
    have m2 := cntD_le 2 ds
    have m3 := cntD_le 3 ds
    clear hrow hb5 HB4 hok htr hde htd
    generalize cntD 1 ds = c1 at *
    generalize cntD 2 ds = c2 at *
    generalize cntD 3 ds = c3 at *
    generalize cntD 4 ds = c4 at *
    generalize cntD 5 ds = c5 at *
    generalize cntD 6 ds = c6 at *
    have wr1 : IntKind.i64.wrap ((c1 : Int) + (c2 : Int)) = (c1 : Int) + (c2 : Int) := by rw [IntKind.wrap_i64]; omega
    have wr2 : IntKind.i64.wrap ((c1 : Int) + (c2 : Int) + (c3 : Int)) = (c1 : Int) + (c2 : Int) + (c3 : Int) := by rw [IntKind.wrap_i64]; omega
    have g1 : ¬ (ts.length : Int) < (c1 : Int) + (c2 : Int) + (c3 : Int) := by omega
    have g2 : ¬ (c1 : Int) + (c2 : Int) + (c3 : Int) < (c4 : Int) := by omega
    have g3 : ¬ (c5 : Int) < (c6 : Int) := by omega
    go_upto_region 18 with fail
    go_cut [146] from 23 to 163 (fun s146 wx => s146 = .bool false ∧ Hid (Below w.heap.size w wx))
    case first => as_aux_lemma =>
      have HQ : Hid (∀ q, Below w.heap.size w (w5.drewN q)) := fun q => HB5.out.trans ⟨rfl, rfl, rfl, Nat.le_refl _, fun _ _ => rfl⟩
      go_quiet (fail)
      go_wp2
      go_meet
      case rel => exact ⟨by simp; omega, HQ.out _⟩
    case rest => as_aux_lemma =>
    obtain ⟨rfl, HB6⟩ := hcut
    clear HB5 r0 r1 r2 r3 r4 r5
    by_cases k1 : cut < 0
    · go_wp2
      go_ret
      exact ⟨rfl, HB6.out⟩
    by_cases k2 : (ds.length : Int) < cut
    · go_wp2
      go_ret
      exact ⟨rfl, HB6.out⟩
    obtain ⟨k, rfl⟩ : ∃ k : Nat, cut = (k : Int) := ⟨cut.toNat, by omega⟩
    have hkl : k ≤ ds.length := by omega
    have hkc : (k : Int) ≤ (dc : Int) := by omega
    have hk0 : ¬ (k : Int) < 0 := by omega
    have HCC : Hid (∀ c', Calls Tryd.prog 8 #[.slice pa ts.length pc, .int .i64 hands, .slice da k c'] wc fun e w' => e = .returned .nilIface ∧ Below wc.heap.size wc w') := fun c' => by
      have := HCK.out wc _ (ds.take k) HB6.out ((HD.out.later HB6.out).cut hkl c')
      rw [HCU.out k hkl, errV_zero] at this
      exact this
    clear HCK HCU HD
    go_wp2_with (first | (go_at_call 8; refine (HCC.out _).mono ?_; rintro e w7 ⟨rfl, hb7⟩; have HB7 : Hid (Below w.heap.size w w7) := HB6.out.trans (hb7.mono HB6.out.size); clear hb7))
    go_ret
    exact ⟨rfl, HB7.out⟩
end Go.Proofs.YtpodlingdodphaaDoor
