/- The walk of CellsTell. -/
import Derived.Test.YtkdlhhogbpjplaaDoorCdd
import Derived.Deep.CutRange
import Derived.Deep.CutBlock
namespace Go.Proofs.YtkdlhhogbpjplaaDoor
open Go.RowKit Go.Deep

set_option maxRecDepth 100000 in
set_option maxHeartbeats 16000000 in
theorem cellsTell_any (t n : Int) (cv pv ov rv : Value) (cs : List Cl) (ts : List (Int × List Int)) (os : List Opn) (zs : List Int) (w : World) (ht : Typed w) (hc : CellsAt w cv cs) (hp : PlanAt w pv ts) (ho : OpsAt w ov os) (hz : IntsAt w rv zs) (hcap : ∀ a m c, rv = .slice a m c → m ≤ c) :
    Calls Tryd.prog 3 #[.agg #[.int .i64 t, .int .i64 n], cv, pv, ov, rv] w fun e w' => e = .returned (.bool true) ∧ Below w.heap.size w w' := by
  have HT : Hid (Typed w) := ht
  have HC : Hid (CellsAt w cv cs) := hc
  have HP : Hid (PlanAt w pv ts) := hp
  have HO : Hid (OpsAt w ov os) := ho
  have HZ : Hid (IntsAt w rv zs) := hz
  have HCP : Hid (∀ a m c, rv = .slice a m c → m ≤ c) := hcap
  have hop := dOp_any t n (ctW w t n)
  have HKN : Hid (∀ wx, Below (ctW w t n).heap.size (ctW w t n) wx → KnC w t n wx) := fun wx h => (KnC.start w t n).later h
  obtain ⟨e0, he0⟩ : ∃ e0, e0 = opErr (t, n) := ⟨_, rfl⟩
  have HE0 : Hid (e0 = opErr (t, n)) := he0
  rw [← he0] at hop
  obtain ⟨hcl, ca, cc, rfl, _⟩ := hc
  obtain ⟨hpl, pa, pc, rfl, _⟩ := hp
  obtain ⟨hol, oa, oc, rfl, _⟩ := ho
  obtain ⟨hzl, ra, rc, rfl, _⟩ := hz
  have HW : Hid (ctW w t n = w.alloc (.cells #[.int .i64 t, .int .i64 n] 23)) := rfl
  clear ht he0 hcap
  go_enter Tryd.func3, Tryd.ntmps3
  go_wp2_with fail
  rw [← HW.out]
  refine hop.mono ?_
  clear hop
  rintro e w1 ⟨rfl, hb1⟩
  have HK1 : Hid (KnC w t n w1) := HKN.out w1 hb1
  clear hb1 HKN HW
  go_upto_region 2 with fail
  go_cut [36] from 28 to 158 (fun s36 wx => ∃ bb : Bool, s36 = .bool bb ∧ Hid (bb = true ↔ (e0 = 0 ∧ 30 < cs.length)) ∧ w1 = wx)
  case first => as_aux_lemma =>
    by_cases he : e0 = 0
    · have hez : (e0 == 0) = true := by rw [beq_iff_eq]; exact he
      have HEZ : Hid (e0 = 0) := he
      clear he
      by_cases h30 : 30 < cs.length
      · have hd : decide ((30 : Int) < (cs.length : Int)) = true := decide_eq_true (by omega)
        have H30 : Hid (30 < cs.length) := h30
        clear h30
        go_wp2
        go_meet
        exact ⟨true, rfl, iff_of_true rfl ⟨HEZ.out, H30.out⟩, rfl⟩
      · have hd : decide ((30 : Int) < (cs.length : Int)) = false := decide_eq_false (by omega)
        have H30 : Hid (¬ 30 < cs.length) := h30
        clear h30
        go_wp2
        go_meet
        exact ⟨false, rfl, iff_of_false (by simp) (fun h => H30.out h.2), rfl⟩
    · have hne : (e0 == 0) = false := by rw [beq_eq_false_iff_ne]; exact he
      have HEZ : Hid (¬ e0 = 0) := he
      clear he
      go_wp2
      go_meet
      exact ⟨false, rfl, iff_of_false (by simp) (fun h => HEZ.out h.1), rfl⟩
  case rest => as_aux_lemma =>
    obtain ⟨bb, rfl, hbb, rfl⟩ := hcut
    obtain ⟨f0, hf0⟩ : ∃ f0, f0 = fstD (t, n) cs := ⟨_, rfl⟩
    have HF0 : Hid (f0 = fstD (t, n) cs) := hf0
    have HF1 : Hid (bb = true → f0 = 4) := fun h => by
      have h2 := hbb.out.1 h
      rw [hf0]
      exact fstD_full (by rw [← HE0.out]; exact h2.1) h2.2
    have HF2 : Hid (bb = false → f0 = e0) := fun h => by
      rw [hf0, HE0.out]
      refine fstD_op (fun h2 => ?_)
      rw [hbb.out.2 ⟨by rw [HE0.out]; exact h2.1, h2.2⟩] at h
      cases h
    clear hf0 hbb
    go_upto_if 36 with fail
    go_cut [11] from 28 to 158 (fun s11 wx => s11 = .int .i64 f0 ∧ w1 = wx)
    case first => as_aux_lemma =>
      cases bb
      · have HX : Hid (f0 = e0) := HF2.out rfl
        clear HF1 HF2
        go_wp2
        go_meet
        exact ⟨by rw [HX.out], rfl⟩
      · have HX : Hid (f0 = 4) := HF1.out rfl
        clear HF1 HF2
        go_wp2
        go_meet
        exact ⟨by rw [HX.out], rfl⟩
    case rest => as_aux_lemma =>
      obtain ⟨rfl, rfl⟩ := hcut
      clear HF1 HF2 HE0
      obtain ⟨g0, hg0⟩ : ∃ g0, g0 = doErr (t, n) cs := ⟨_, rfl⟩
      have HG0 : Hid (g0 = doErr (t, n) cs) := hg0
      have HGB : Hid (g0 = if f0 = 0 then firstBad cellErr cs else f0) := by show _ = _; rw [hg0, HF0.out]; exact doErr_by _ _
      clear hg0
      go_upto_block 0 with fail
      go_cut [11, 12] from 28 to 158 (fun s11 s12 wx => s11 = .int .i64 g0 ∧ Hid (KnC w t n wx))
      case first => as_aux_lemma =>
        have HS : Hid ((f0 = 0 ∧ f0 = 0 ∧ ∀ j, j < 0 → cellErr (cs.getD j (0, false)) = 0) ∨ (f0 ≠ 0 ∧ f0 = g0)) := by
          by_cases h : f0 = 0
          · exact Or.inl ⟨h, h, fun j hj => by omega⟩
          · exact Or.inr ⟨h, by rw [HGB.out, if_neg h]⟩
        go_wp2
        go_loopw [11, 12] (fun s11 s12 wr => ∃ (e : Int) (k : Nat), k ≤ cs.length ∧ s11 = .int .i64 e ∧ s12 = .int .i64 k ∧ Hid ((e = 0 ∧ f0 = 0 ∧ ∀ j, j < k → cellErr (cs.getD j (0, false)) = 0) ∨ (e ≠ 0 ∧ e = g0)) ∧ Hid (KnC w t n wr)) (fun s11 s12 _ => if intOf s11 = 0 then cs.length + 1 - (intOf s12).toNat else 0)
        case atStart => exact ⟨f0, 0, Nat.zero_le _, rfl, rfl, HS, HK1⟩
        case round =>
          clear HS HK1
          obtain ⟨e, k, hk, rfl, rfl, hE, hK⟩ := hrel
          by_cases he : e = 0
          · subst he
            obtain ⟨hf, hno⟩ : f0 = 0 ∧ ∀ j, j < k → cellErr (cs.getD j (0, false)) = 0 := by
              rcases hE.out with ⟨_, h1, h2⟩ | ⟨h, _⟩
              · exact ⟨h1, h2⟩
              · exact absurd rfl h
            have HGF : Hid (g0 = firstBad cellErr cs) := by show _ = _; rw [HGB.out, if_pos hf]
            have HFZ : Hid (f0 = 0) := hf
            clear hE hf
            by_cases hkl : k < cs.length
            · have hcw := HC.out.later hK.out.old
              obtain ⟨_, a', c', hva, hcc⟩ := hcw
              cases hva
              rcases hcc with h0 | ⟨b, o, rfl, hbl, hcc⟩
              · rw [h0] at hkl; simp at hkl
              obtain ⟨hc1, hc2⟩ := hcc k hkl
              clear hcc
              have hch := dCell_any (numC cs k) (fltC cs k) wr
              have HO2 : Hid (cellErr (cs.getD k (0, false)) = cellErr (numC cs k, fltC cs k)) := rfl
              have HNX : Hid ((cellErr (numC cs k, fltC cs k) = 0 ∧ f0 = 0 ∧ ∀ j, j < k + 1 → cellErr (cs.getD j (0, false)) = 0) ∨ (cellErr (numC cs k, fltC cs k) ≠ 0 ∧ cellErr (numC cs k, fltC cs k) = g0)) := by
                by_cases hz : cellErr (numC cs k, fltC cs k) = 0
                · refine Or.inl ⟨hz, HFZ.out, fun j hj => ?_⟩
                  by_cases ej : j = k
                  · rw [ej, HO2.out]; exact hz
                  · exact hno j (by omega)
                · exact Or.inr ⟨hz, by rw [HGF.out, ← HO2.out]; exact (firstBad_at cellErr (0, false) cs k hkl hno (by rw [HO2.out]; exact hz)).symm⟩
              have HKW := hK
              clear hno HO2 hK
              generalize numC cs k = x at *
              generalize fltC cs k = y at *
              generalize cellErr (x, y) = e2 at *
              go_wp2_with (go_at_call 5; refine hch.mono ?_; clear hch; rintro e w2 ⟨rfl, hb2⟩; have HK2 : Hid (KnC w t n w2) := HKW.out.later hb2; clear hb2)
              go_roundw
              case rel => exact ⟨e2, k + 1, by omega, rfl, by go_num, HNX, HK2⟩
              case measure => simp [intOf]; split <;> omega
            · have HF : Hid (g0 = 0) := HGF.out.trans (firstBad_none cellErr (0, false) cs (fun j hj => hno j (by omega)))
              clear hno
              go_wp2
              go_meet
              exact ⟨by rw [HF.out], hK⟩
          · have HF : Hid (e = g0) := by
              rcases hE.out with ⟨h, _⟩ | ⟨_, h⟩
              · exact absurd h he
              · exact h
            have hez : (e == (0 : Int)) = false := by simp [he]
            clear hE he
            by_cases hkl : k < cs.length
            all_goals
              go_wp2
              go_meet
              exact ⟨by rw [HF.out], hK⟩
      case rest => as_aux_lemma =>
        obtain ⟨rfl, HK2⟩ := hcut
        obtain ⟨w2, rfl⟩ : ∃ w2, w2 = wc := ⟨_, rfl⟩
        clear HK1 HF0 HGB
        obtain ⟨⟨x, f⟩, hR⟩ : ∃ c, c = doR (t, n) cs := ⟨_, rfl⟩
        have HR : Hid ((x, f) = doR (t, n) cs) := hR
        have HKA : Hid (KnC w t n (w2.alloc (.cells #[.int .i64 0, .bool false] 32))) := HK2.out.later ((Below.refl _ _).alloc (Nat.le_refl _) _)
        have HBA : Hid ((w2.alloc (.cells #[.int .i64 0, .bool false] 32)).heap[w2.heap.size]? = some (.cells #[.int .i64 0, .bool false] 32 (0, 0))) := new_pair w2 _ _ _
        have hlow : w.heap.size < w2.heap.size := HK2.out.size
        clear hR
        go_upto_if 53 with fail
        go_cut [] from 28 to 158 (fun wx => Hid (KnC w t n wx) ∧ Hid (wx.heap[w2.heap.size]? = some (.cells #[.int .i64 x, .bool f] 32 (0, 0))))
        case first => as_aux_lemma =>
          by_cases hg : g0 = 0
          · have hge : doErr (t, n) cs = 0 := by rw [← HG0.out]; exact hg
            have hgz : (g0 == 0) = true := by rw [beq_iff_eq]; exact hg
            obtain ⟨hop, hlen, hall⟩ : opErr (t, n) = 0 ∧ cs.length ≤ 30 ∧ ∀ c, c ∈ cs → cellErr c = 0 := by
              unfold doErr at hge
              split at hge
              · rename_i h1
                split at hge
                · omega
                · rename_i h2
                  exact ⟨h1, by omega, firstBad_zero.1 hge⟩
              · rename_i h1
                exact absurd hge h1
            obtain ⟨W, hW⟩ : ∃ W, W = w2.alloc (.cells #[.int .i64 0, .bool false] 32) := ⟨_, rfl⟩
            have hsz : w2.heap.size < W.heap.size := by rw [hW]; simp
            rw [← hW] at HKA HBA ⊢
            have hdo0 := dDo_any (t, n) _ cs W (HC.out.later HKA.out.old) hop hall
            rw [← doR_ok hge, ← HR.out] at hdo0
            have hdo : Calls Tryd.prog 6 #[.agg #[.int .i64 t, .int .i64 n], .slice ca cs.length cc] W fun e w' => e = .returned (.agg #[.int .i64 x, .bool f]) ∧ Below W.heap.size W w' := hdo0
            obtain ⟨a0, a1⟩ := HKA.out.op
            have HZ3 : Hid (∀ w3, Below W.heap.size W w3 → w3.heap[w2.heap.size]? = some (.cells #[.int .i64 0, .bool false] 32 (0, 0)) ∧ KnC w t n w3) := fun w3 h3 => ⟨(h3.block _ hsz).trans HBA.out, HKA.out.later h3⟩
            clear hW hdo0 hge hop hlen hall hg
            generalize w2.heap.size = Y at *
            go_wp2_with (go_at_call 6; refine hdo.mono ?_; clear hdo; rintro e w3 ⟨rfl, hb3⟩; obtain ⟨hy3, hk3⟩ := HZ3.out w3 hb3; have hpc := pair_cells hy3; have q0 := hpc.1; have q1 := hpc.2.1; have f0' := hpc.2.2 0; have f1' := hpc.2.2 1; have HY3 : Hid (w3.heap[Y]? = some (.cells #[.int .i64 0, .bool false] 32 (0, 0))) := hy3; have HK3 : Hid (KnC w t n w3) := hk3; clear hy3 hk3 hpc hb3)
            go_meet
            refine ⟨⟨(HK3.out.low.setCell (p := ⟨Y, 0, none⟩) (by show _ ≤ Y; omega) _).setCell (p := ⟨Y, 1, none⟩) (by show _ ≤ Y; omega) _⟩, setP_block HY3.out (.int .i64 x) (.bool f)⟩
          · have hge : doErr (t, n) cs ≠ 0 := by rw [← HG0.out]; exact hg
            have hgz : (g0 == 0) = false := by rw [beq_eq_false_iff_ne]; exact hg
            obtain ⟨rfl, rfl⟩ : x = 0 ∧ f = false := by
              have := HR.out
              rw [doR_bad hge] at this
              exact ⟨congrArg Prod.fst this, congrArg Prod.snd this⟩
            clear hge hg HR
            go_wp2
            go_meet
            exact ⟨HKA, HBA⟩
        case rest => as_aux_lemma =>
          obtain ⟨HK3, HB3⟩ := hcut
          obtain ⟨w3, rfl⟩ : ∃ w3, w3 = wc := ⟨_, rfl⟩
          clear HKA HBA HK2
          generalize w2.heap.size = Y at *
          have hdo0 := cDo_any (t, n) _ cs w3 (HC.out.later HK3.out.old)
          rw [← HG0.out, ← HR.out] at hdo0
          have hdo : Calls Tryd.prog 7 #[.agg #[.int .i64 t, .int .i64 n], .slice ca cs.length cc] w3 fun e w' => e = .returned (.tuple #[.agg #[.int .i64 x, .bool f], errV g0]) ∧ Below w3.heap.size w3 w' := hdo0
          obtain ⟨a0, a1⟩ := HK3.out.op
          have hY3 : Y < w3.heap.size := lt_of_block HB3.out
          clear hdo0 HG0 HR
          go_wp2_with fail
          refine hdo.mono ?_
          clear hdo
          rintro e w4 ⟨rfl, hb4⟩
          have HB4 : Hid (w4.heap[Y]? = some (.cells #[.int .i64 x, .bool f] 32 (0, 0))) := (hb4.block _ hY3).trans HB3.out
          have HK4 : Hid (KnC w t n w4) := HK3.out.later hb4
          have HK5 : Hid (KnC w t n (w4.alloc (.cells #[.int .i64 x, .bool f] 32))) := HK4.out.later ((Below.refl _ _).alloc (Nat.le_refl _) _)
          have her := error_one g0 (w4.alloc (.cells #[.int .i64 x, .bool f] 32)) (HT.out.later HK5.out.old)
          obtain ⟨W, hW⟩ : ∃ W, W = w4.alloc (.cells #[.int .i64 x, .bool f] 32) := ⟨_, rfl⟩
          have HGA : Hid (W.heap[w4.heap.size]? = some (.cells #[.int .i64 x, .bool f] 32 (0, 0))) := by rw [hW]; exact new_pair w4 _ _ _
          have HBW : Hid (W.heap[Y]? = some (.cells #[.int .i64 x, .bool f] 32 (0, 0))) := by rw [hW]; exact (Below.heap_alloc _ _ _ (lt_of_block HB4.out)).trans HB4.out
          rw [← hW] at her HK5
          have HWW : Hid (W = w4.alloc (.cells #[.int .i64 x, .bool f] 32)) := hW
          clear hb4 HK3 HB3 HK4 HB4 a0 a1 hY3 hW
          go_wp2_with fail
          rw [← HWW.out]
          generalize w4.heap.size = Z at *
          clear HWW
          refine her.mono ?_
          clear her
          rintro e w5 ⟨rfl, hb5⟩
          have q := pair_cells ((hb5.block _ (lt_of_block HGA.out)).trans HGA.out)
          have r := pair_cells ((hb5.block _ (lt_of_block HBW.out)).trans HBW.out)
          have q0 := q.1
          have q1 := q.2.1
          have r0 := r.1
          have r1 := r.2.1
          have HK6 : Hid (KnC w t n w5) := HK5.out.later hb5
          clear q r HGA HBW HK5 hb5
          have hops := dOps_any _ _ ts os w5 (HP.out.later HK6.out.old) (HO.out.later HK6.out.old)
          go_wp2_with fail
          refine hops.mono ?_
          clear hops
          rintro e w6 ⟨⟨p, q, hck, rfl⟩, hb6⟩
          have HK7 : Hid (KnC w t n w6) := HK6.out.later hb6
          have HCK : Hid (CheckIs ts p q) := hck
          obtain ⟨al, hal⟩ : ∃ al, al = allErr q ts.length os := ⟨_, rfl⟩
          have HAL : Hid (al = allErr q ts.length os) := hal
          rw [← hal]
          clear hb6 hck hal HK6 q0 q1 r0 r1
          go_upto_if 75 with fail
          go_cut [17] from 28 to 158 (fun s17 wx => Hid (CellsAt wx s17 (allL q ts os)) ∧ Hid (KnC w t n wx))
          case first => as_aux_lemma =>
            by_cases ha : al = 0
            · have haz : (al == 0) = true := by rw [beq_iff_eq]; exact ha
              have ha0 : allErr q ts.length os = 0 := by rw [← HAL.out]; exact ha
              obtain ⟨hq, _⟩ := allErr_zero ha0
              have hck0 : CheckIs ts 0 0 := by
                have h := HCK.out
                have hp0 := (h.ok hq).1
                rw [hp0, hq] at h
                exact h
              have hor := orderR_any _ ts w6 (HP.out.later HK7.out.old) hck0
              have HNX : Hid (∀ w7 rv7 ord, Below w6.heap.size w6 w7 → OrdIs ts ord → IntsAt w7 rv7 (intsOf ord) → Calls Tryd.prog 10 #[.slice pa ts.length pc, .slice oa os.length oc, rv7] w7 fun e w' => ∃ xv, e = .returned (.tuple #[xv, .bool true]) ∧ CellsAt w' xv (allL q ts os) ∧ KnC w t n w') := fun w7 rv7 ord h7 ho7 hi7 => by
                have hk := HK7.out.later h7
                refine (docAll_one (HP.out.later hk.old) (HO.out.later hk.old) hi7 HCK.out ha0 ho7).mono ?_
                rintro e w' ⟨xv, he, hc, hb⟩
                exact ⟨xv, he, hc, hk.later hb⟩
              clear ha ha0 hck0 hq
              go_wp2_with (first | (go_at_call 11; refine hor.mono ?_; clear hor; rintro e w7 ⟨⟨rv7, ord7, rfl, ho7, hi7, -⟩, hb7⟩; have hal7 := HNX.out w7 rv7 ord7 hb7 ho7 hi7; clear ho7 hi7 hb7) | (go_at_call 10; refine hal7.mono ?_; clear hal7; rintro e w8 ⟨xv8, rfl, hc8, hk8⟩; have HC8 : Hid (CellsAt w8 xv8 (allL q ts os)) := hc8; have HK8 : Hid (KnC w t n w8) := hk8; clear hc8 hk8))
              go_meet
              exact ⟨HC8, HK8⟩
            · have haz : (al == 0) = false := by rw [beq_eq_false_iff_ne]; exact ha
              have HE : Hid (allL q ts os = []) := allL_bad (by rw [← HAL.out]; exact ha)
              clear ha
              go_wp2
              go_meet
              exact ⟨by rw [HE.out]; exact CellsAt.nil _, HK7⟩
          case rest => as_aux_lemma =>
            obtain ⟨HA8, HK8⟩ := hcut
            obtain ⟨w8, rfl⟩ : ∃ w8, w8 = wc := ⟨_, rfl⟩
            have hall := all_one (HP.out.later HK8.out.old) (HO.out.later HK8.out.old) HCK.out
            rw [← HAL.out] at hall
            clear HK7
            go_wp2_with fail
            refine hall.mono ?_
            clear hall
            rintro e w9 ⟨xv9, rfl, hx9, hb9⟩
            have HX9 : Hid (CellsAt w9 xv9 (allL q ts os)) := hx9
            have HA9 := HA8.out.later hb9
            have HK9 : Hid (KnC w t n w9) := HK8.out.later hb9
            have her := error_one al w9 (HT.out.later HK9.out.old)
            clear hx9 hb9 HA8 HK8
            go_wp2_with fail
            refine her.mono ?_
            clear her
            rintro e w10 ⟨rfl, hb10⟩
            have HX10 := HX9.out.later hb10
            have HA10 := HA9.later hb10
            have HK10 : Hid (KnC w t n w10) := HK9.out.later hb10
            have hsa := sameCells_any _ _ _ w10 HX10 HA10
            clear hb10 HX9 HA9 HK9 HX10 HA10
            go_wp2_with fail
            refine hsa.mono ?_
            clear hsa
            rintro e w11 ⟨rfl, hb11⟩
            have HK11 : Hid (KnC w t n w11) := HK10.out.later hb11
            clear hb11 HK10
            go_upto_region 20 with fail
            go_cut [21] from 28 to 158 (fun s21 wx => ∃ bb : Bool, s21 = .bool bb ∧ Hid (bb = true ↔ (al = 0 ∧ EachZ ts.length zs)) ∧ Hid (KnC w t n wx))
            case first => as_aux_lemma =>
              by_cases ha : al = 0
              · have haz : (al == 0) = true := by rw [beq_iff_eq]; exact ha
                have ha0 : allErr q ts.length os = 0 := by rw [← HAL.out]; exact ha
                have h30 := (HCK.out.ok (allErr_zero ha0).1).2.1
                have hea := eachR_any _ zs ts.length w11 (HZ.out.later HK11.out.old) HCP.out h30
                have HAZ : Hid (al = 0) := ha
                obtain ⟨bb, hbb⟩ : ∃ bb : Bool, bb = @decide (EachZ ts.length zs) (Classical.propDecidable _) := ⟨_, rfl⟩
                rw [← hbb] at hea
                have HBB : Hid (bb = true ↔ EachZ ts.length zs) := by show _ ↔ _; rw [hbb]; exact @decide_eq_true_iff _ (Classical.propDecidable _)
                clear ha ha0 h30 hbb
                cases bb
                · go_wp2_with (go_at_call 14; refine hea.mono ?_; clear hea; rintro e w12 ⟨rfl, hb12⟩; have HK12 : Hid (KnC w t n w12) := HK11.out.later hb12; clear hb12)
                  go_meet
                  exact ⟨false, rfl, iff_of_false (by simp) (fun h => by have := HBB.out.2 h.2; cases this), HK12⟩
                · go_wp2_with (go_at_call 14; refine hea.mono ?_; clear hea; rintro e w12 ⟨rfl, hb12⟩; have HK12 : Hid (KnC w t n w12) := HK11.out.later hb12; clear hb12)
                  go_meet
                  exact ⟨true, rfl, iff_of_true rfl ⟨HAZ.out, HBB.out.1 (by trivial)⟩, HK12⟩
              · have haz : (al == 0) = false := by rw [beq_eq_false_iff_ne]; exact ha
                have HAZ : Hid (¬ al = 0) := ha
                clear ha
                go_wp2
                go_meet
                exact ⟨false, rfl, iff_of_false (by simp) (fun h => HAZ.out h.1), HK11⟩
            case rest => as_aux_lemma =>
              obtain ⟨bb, rfl, HBB, HK12⟩ := hcut
              obtain ⟨w12, rfl⟩ : ∃ w12, w12 = wc := ⟨_, rfl⟩
              clear HK11
              go_upto_region 21 with fail
              go_cut [109] from 28 to 158 (fun s109 wx => ∃ b2 : Bool, s109 = .bool b2 ∧ Hid (b2 = true ↔ (al = 0 ∧ ¬ EachZ ts.length zs)) ∧ w12 = wx)
              case first => as_aux_lemma =>
                by_cases ha : al = 0
                · have haz : (al == 0) = true := by rw [beq_iff_eq]; exact ha
                  have HAZ : Hid (al = 0) := ha
                  clear ha
                  cases bb
                  · go_wp2
                    go_meet
                    exact ⟨true, rfl, iff_of_true rfl ⟨HAZ.out, fun h => by have := HBB.out.2 ⟨HAZ.out, h⟩; cases this⟩, rfl⟩
                  · go_wp2
                    go_meet
                    exact ⟨false, rfl, iff_of_false (by simp) (fun h => h.2 (HBB.out.1 (by trivial)).2), rfl⟩
                · have haz : (al == 0) = false := by rw [beq_eq_false_iff_ne]; exact ha
                  have HAZ : Hid (¬ al = 0) := ha
                  clear ha
                  go_wp2
                  go_meet
                  exact ⟨false, rfl, iff_of_false (by simp) (fun h => HAZ.out h.1), rfl⟩
              case rest => as_aux_lemma =>
                obtain ⟨b2, rfl, hb2, rfl⟩ := hcut
                obtain ⟨b0, hb0⟩ : ∃ b0 : Int, b0 = if b2 = true then 3 else al := ⟨_, rfl⟩
                have HB0 : Hid (b0 = if b2 = true then 3 else al) := hb0
                have HB2 := hb2
                clear hb0 hb2 HBB
                go_upto_if 109 with fail
                go_cut [11] from 28 to 158 (fun s11 wx => s11 = .int .i64 b0 ∧ w12 = wx)
                case first => as_aux_lemma =>
                  cases b2
                  · have HX : Hid (b0 = al) := HB0.out
                    clear HB0
                    go_wp2
                    go_meet
                    exact ⟨by rw [HX.out], rfl⟩
                  · have HX : Hid (b0 = 3) := HB0.out
                    clear HB0
                    go_wp2
                    go_meet
                    exact ⟨by rw [HX.out], rfl⟩
                case rest => as_aux_lemma =>
                  obtain ⟨rfl, rfl⟩ := hcut
                  obtain ⟨z0, hz0⟩ : ∃ z0 : Int, z0 = alErr q ts os zs := ⟨_, rfl⟩
                  have HZ0 : Hid (z0 = alErr q ts os zs) := hz0
                  have HBZ : Hid (b0 = 0 → al = 0 ∧ EachZ ts.length zs) := fun h => by
                    have h1 := HB0.out
                    cases hb : b2 with
                    | true => rw [hb, if_pos rfl] at h1; omega
                    | false =>
                      rw [hb, if_neg (by simp)] at h1
                      have h2 : al = 0 := by omega
                      refine ⟨h2, ?_⟩
                      apply Classical.byContradiction
                      intro hn
                      have := HB2.out.2 ⟨h2, hn⟩
                      rw [hb] at this
                      cases this
                  have HBN : Hid (b0 ≠ 0 → z0 = b0) := fun h => by
                    have h1 := HB0.out
                    rw [hz0]
                    cases hb : b2 with
                    | true =>
                      rw [hb, if_pos rfl] at h1
                      obtain ⟨h2, h3⟩ := HB2.out.1 hb
                      rw [alErr_ok (by rw [← HAL.out]; exact h2), ordErr_shape h3, h1]
                    | false =>
                      rw [hb, if_neg (by simp)] at h1
                      rw [alErr_bad (by rw [← HAL.out, ← h1]; exact h), ← HAL.out, h1]
                  clear hz0 HB0 HB2
                  go_upto_if 111 with fail
                  go_cut [11, 17, 22, 23] from 28 to 158 (fun s11 s17 s22 s23 wx => s11 = .int .i64 z0 ∧ Hid (CellsAt wx s17 (alL q ts os zs)) ∧ Hid (KnC w t n wx))
                  case first => as_aux_lemma =>
                    by_cases hb : b0 = 0
                    · have hbz : (b0 == 0) = true := by rw [beq_iff_eq]; exact hb
                      obtain ⟨ha, hE⟩ := HBZ.out hb
                      have ha0 : allErr q ts.length os = 0 := by rw [← HAL.out]; exact ha
                      have hda := docAlong_one (HP.out.later HK12.out.old) (HO.out.later HK12.out.old) (HZ.out.later HK12.out.old) HCK.out ha0 hE
                      rw [← HZ0.out] at hda
                      clear hb ha hE ha0 HBZ HBN
                      go_wp2_with fail
                      refine hda.mono ?_
                      clear hda
                      rintro e w13 ⟨hcase, hb13⟩
                      have HK13 : Hid (KnC w t n w13) := HK12.out.later hb13
                      clear hb13
                      rcases hcase with ⟨h6, hn, rfl⟩ | ⟨h0, xv, rfl, hx⟩
                      · have HN : Hid (alL q ts os zs = []) := hn
                        have H6 : Hid (z0 = 6) := h6
                        clear hn h6
                        go_wp2
                        go_meet
                        exact ⟨by rw [H6.out], by rw [HN.out]; exact CellsAt.nil _, HK13⟩
                      · have HN : Hid (CellsAt w13 xv (alL q ts os zs)) := hx
                        have H6 : Hid (z0 = b0) := by rw [h0]; exact (beq_iff_eq.1 hbz).symm
                        clear hx h0
                        go_wp2
                        go_meet
                        exact ⟨by rw [H6.out], HN, HK13⟩
                    · have hbz : (b0 == 0) = false := by rw [beq_eq_false_iff_ne]; exact hb
                      have HX : Hid (z0 = b0) := HBN.out hb
                      have HN : Hid (alL q ts os zs = []) := by
                        show _ = _
                        unfold alL
                        rw [if_neg]
                        rw [← HZ0.out, HX.out]
                        exact hb
                      clear hb HBZ HBN
                      go_wp2
                      go_meet
                      exact ⟨by rw [HX.out], by rw [HN.out]; exact CellsAt.nil _, HK12⟩
                  case rest => as_aux_lemma =>
                    obtain ⟨rfl, HA13, HK13⟩ := hcut
                    obtain ⟨w13, rfl⟩ : ∃ w13, w13 = wc := ⟨_, rfl⟩
                    clear HK12 HBZ HBN
                    have hall := along_one (HP.out.later HK13.out.old) (HO.out.later HK13.out.old) (HZ.out.later HK13.out.old) HCK.out
                    rw [← HZ0.out] at hall
                    go_wp2_with fail
                    refine hall.mono ?_
                    clear hall
                    rintro e w14 ⟨xv14, rfl, hx14, hb14⟩
                    have HX14 : Hid (CellsAt w14 xv14 (alL q ts os zs)) := hx14
                    have HA14 := HA13.out.later hb14
                    have HK14 : Hid (KnC w t n w14) := HK13.out.later hb14
                    have her := error_one z0 w14 (HT.out.later HK14.out.old)
                    clear hx14 hb14 HA13 HK13
                    go_wp2_with fail
                    refine her.mono ?_
                    clear her
                    rintro e w15 ⟨rfl, hb15⟩
                    have HX15 := HX14.out.later hb15
                    have HA15 := HA14.later hb15
                    have HK15 : Hid (KnC w t n w15) := HK14.out.later hb15
                    have hsa := sameCells_any _ _ _ w15 HX15 HA15
                    clear hb15 HX14 HA14 HK14 HX15 HA15
                    go_wp2_with fail
                    refine hsa.mono ?_
                    clear hsa
                    rintro e w16 ⟨rfl, hb16⟩
                    have HK16 : Hid (KnC w t n w16) := HK15.out.later hb16
                    obtain ⟨a0, a1⟩ := HK16.out.op
                    have HKA : Hid (KnC w t n (w16.alloc (.cells #[.int .i64 n, .bool false] 32))) := HK16.out.later ((Below.refl _ _).alloc (Nat.le_refl _) _)
                    obtain ⟨W, hW⟩ : ∃ W, W = w16.alloc (.cells #[.int .i64 n, .bool false] 32) := ⟨_, rfl⟩
                    have hnb := new_pair w16 (.int .i64 n) (.bool false) 32
                    rw [← hW] at hnb HKA
                    have HNB : Hid (W.heap[w16.heap.size]? = some (.cells #[.int .i64 n, .bool false] 32 (0, 0))) := hnb
                    clear hb16 HK15 hnb
                    go_wp2
                    rw [← hW]
                    clear hW a0 a1 HK16
                    generalize w16.heap.size = V at *
                    obtain ⟨k0, k1, _⟩ := pair_cells HNB.out
                    obtain ⟨ce, hce⟩ : ∃ ce, ce = cellErr (n, false) := ⟨_, rfl⟩
                    have hch := fun wx => cCheck_any n false wx
                    have hcd := fun wx => dCell_any n false wx
                    rw [← hce] at hch hcd
                    have HLT : Hid (V < W.heap.size) := lt_of_block HNB.out
                    have HZA : Hid (∀ q wa, Below (W.drewN q).heap.size (W.drewN q) wa → wa.cell? ⟨V, 0, none⟩ = some (.int .i64 n) ∧ wa.cell? ⟨V, 1, none⟩ = some (.bool false) ∧ KnC w t n wa) := fun q wa h => by
                      have h2 : Below W.heap.size W wa := (drawn_below W.heap.size W q).trans h
                      have hb := pair_cells ((h2.block _ HLT.out).trans HNB.out)
                      exact ⟨hb.1, hb.2.1, HKA.out.later h2⟩
                    clear hce HNB HLT HKA
                    go_region_with (first | (go_at_call 16; refine (hch _).mono ?_; rintro e wa ⟨rfl, hba⟩; have hza := HZA.out _ wa hba; have ka0 := hza.1; have ka1 := hza.2.1; have HKa : Hid (KnC w t n wa) := hza.2.2; clear hza hba) | (go_at_call 5; refine (hcd _).mono ?_; rintro e wb ⟨rfl, hbb⟩; have HKb : Hid (KnC w t n wb) := HKa.out.later hbb; have her := error_one ce wb (HT.out.later HKb.out.old); clear hbb) | (go_at_call 8; refine her.mono ?_; rintro e wd ⟨rfl, hbd⟩; have HKd : Hid (Below w.heap.size w wd) := (HKb.out.later hbd).old; clear hbd))
                    all_goals go_wp2
                    all_goals go_ret
                    all_goals exact ⟨rfl, HKd.out⟩
end Go.Proofs.YtkdlhhogbpjplaaDoor
