/- The walk of LogKeeps. -/
import Derived.Test.YtbknbakbfblbiaaDoorLkm
import Derived.Test.YtbknbakbfblbiaaDoorLgs
import Derived.BigQuiet
import Derived.Deep.CutBlock
namespace Go.Proofs.YtbknbakbfblbiaaDoor
open Go.RowKit Go.Deep

/-- The law's own log of two tasks. -/
def Ls.k1 : Ls := ⟨[1], [], 0, -1, false⟩
def Ls.k2 : Ls := ⟨[1], [], 2, -1, false⟩
def Ls.k3 : Ls := ⟨[1, 0], [], 2, -1, false⟩
theorem two_err {l : List Nat} {x : Int} (h0 : 0 ≤ x) (h1 : x < 2) (hx : ¬ x.toNat ∈ l) : doneErr (besideTs 1 2) (inL l) x = 0 := by
  unfold doneErr
  rw [if_neg (by rw [besideTs_length]; omega)]
  have hm : missN (besideTs 1 2) (inL l) x.toNat = 0 := missN_zero.2 (fun y hy => by rw [beside_needs] at hy; simp at hy)
  have : readyB (besideTs 1 2) (inL l) x.toNat = true := by unfold readyB; simp [hm, inL, hx]
  rw [this]; rfl
theorem keeps_own : (Ls.new.doneE (besideTs 1 2) 1 = 0 ∧ Ls.new.done (besideTs 1 2) 1 = Ls.k1) ∧ (Ls.k1.syncE = 0 ∧ Ls.k1.sync = Ls.k2) ∧ (Ls.k2.doneE (besideTs 1 2) 0 = 0 ∧ Ls.k2.done (besideTs 1 2) 0 = Ls.k3) ∧ Ls.k3.crash 0 = Ls.k2 := by
  have e1 : doneErr (besideTs 1 2) (inL Ls.new.recs) 1 = 0 := two_err (by omega) (by omega) (by decide)
  have e2 : doneErr (besideTs 1 2) (inL Ls.k2.recs) 0 = 0 := two_err (by omega) (by omega) (by decide)
  refine ⟨?_, ⟨rfl, rfl⟩, ?_, rfl⟩ <;> unfold Ls.doneE Ls.done
  · rw [e1]; exact ⟨rfl, rfl⟩
  · rw [e2]; exact ⟨rfl, rfl⟩

theorem two_plan {w : World} {b : Nat} (h : w.heap[b]? = some (.cells #[.int .i64 1, .slice none 0 0, .int .i64 1, .slice none 0 0] 26 (0, 0))) : PlanAt w (.slice (some ⟨b, 0, none⟩) 2 2) (besideTs 1 2) := by
  refine ⟨by rw [besideTs_length]; omega, some ⟨b, 0, none⟩, 2, by rw [besideTs_length], Or.inr ⟨b, 0, rfl, (Array.getElem?_eq_some_iff.1 h).1, fun k hk => ?_⟩⟩
  rw [besideTs_length] at hk
  rw [besideTs_getD 1 2 k hk, beside_needs]
  refine ⟨?_, .slice none 0 0, ?_, by simp, none, 0, rfl, Or.inl rfl⟩
  · rcases (by omega : k = 0 ∨ k = 1) with rfl | rfl <;> simp [World.cell?, h]
  · rcases (by omega : k = 0 ∨ k = 1) with rfl | rfl <;> simp [World.cell?, h]

set_option maxRecDepth 100000 in
set_option maxHeartbeats 8000000 in
theorem logKeeps_any (pv lv sv fv kv : Value) (ts : List (Int × List Int)) (l syncs fails keeps : List Int) (w : World) (hp : PlanAt w pv ts) (hl : IntsAt w lv l) (hs : IntsAt w sv syncs) (hf : IntsAt w fv fails) (hk : IntsAt w kv keeps)
    (hfw : ∀ x, x ∈ fails → (Lit.int .i64 x).wf = true) (ht : Typed w) :
    Calls Tryd.prog 5 #[pv, lv, sv, fv, kv] w fun e w' => e = .returned (.bool true) ∧ Below w.heap.size w w' := by
  have HP : Hid (PlanAt w pv ts) := hp
  have HLV : Hid (IntsAt w lv l) := hl
  have HSV : Hid (IntsAt w sv syncs) := hs
  have HFV : Hid (IntsAt w fv fails) := hf
  have HKV : Hid (IntsAt w kv keeps) := hk
  have HFW : Hid (∀ x, x ∈ fails → (Lit.int .i64 x).wf = true) := hfw
  have HT : Hid (Typed w) := ht
  obtain ⟨_, pa, pc, rfl, _⟩ := hp
  obtain ⟨_, la, lc, rfl, _⟩ := hl
  obtain ⟨_, sa, sc, rfl, _⟩ := hs
  obtain ⟨_, fa, fc, rfl, _⟩ := hf
  obtain ⟨_, ka, kc, rfl, _⟩ := hk
  obtain ⟨p0, q0, hck0⟩ := chk_exists ts
  have HCK0 : Hid (CheckIs ts p0 q0) := hck0
  clear hck0 hfw ht
  go_enter Tryd.func5, Tryd.ntmps5
  obtain ⟨⟨o1, o2⟩, ⟨o3, o4⟩, ⟨o5, o6⟩, o7⟩ := keeps_own
  go_wp2_with fail
  have hbA : Below w.heap.size w (w.alloc (.cells #[.int .i64 1, .slice none 0 0, .int .i64 1, .slice none 0 0] 26)) := (Below.refl _ _).alloc (Nat.le_refl _) _
  have hnew := newW _ (besideTs 1 2) _ (two_plan (heap_alloc_new w (.cells #[.int .i64 1, .slice none 0 0, .int .i64 1, .slice none 0 0] 26))) (beside_right (by omega)) (HT.out.later hbA)
  refine hnew.mono ?_
  clear hnew
  rintro e w1 ⟨L0, rfl, h0⟩
  have HBA : Hid (∀ wx, Below (w.alloc (.cells #[.int .i64 1, .slice none 0 0, .int .i64 1, .slice none 0 0] 26)).heap.size (w.alloc (.cells #[.int .i64 1, .slice none 0 0, .int .i64 1, .slice none 0 0] 26)) wx → Below w.heap.size w wx) := fun wx h => hbA.trans (h.mono hbA.size)
  clear hbA
  generalize w.alloc (.cells #[.int .i64 1, .slice none 0 0, .int .i64 1, .slice none 0 0] 26) = wA at *
  have hd := doneW 1 h0
  rw [o1, o2, errV_zero] at hd
  clear h0 o1 o2
  go_wp2_with fail
  refine hd.mono ?_
  clear hd
  rintro e w2 ⟨rfl, h2⟩
  have hd := syncW h2
  rw [o3, o4, errV_zero] at hd
  clear h2 o3 o4
  go_wp2_with fail
  refine hd.mono ?_
  clear hd
  rintro e w3 ⟨rfl, h3⟩
  have hd := doneW 0 h3
  rw [o5, o6, errV_zero] at hd
  clear h3 o5 o6
  go_wp2_with fail
  refine hd.mono ?_
  clear hd
  rintro e w4 ⟨rfl, h4⟩
  have hd := crashW 0 h4
  rw [o7] at hd
  clear h4 o7
  go_wp2_with fail
  refine hd.mono ?_
  clear hd
  rintro e w5 ⟨rfl, h5⟩
  have hd := allW h5
  have H5 : Hid (LgW wA.heap.size L0 (besideTs 1 2) Ls.k2 wA w5) := h5
  clear h5
  go_wp2_with fail
  refine hd.mono ?_
  clear hd
  rintro e w6 ⟨⟨v6, rfl, hv6⟩, hb6⟩
  have h6 := H5.out.later hb6
  have H6 : Hid (LgW wA.heap.size L0 (besideTs 1 2) Ls.k2 wA w6) := h6
  have hby := bytesW h6
  have hsf : Calls Tryd.prog 15 #[.pointer (some ⟨L0, 0, none⟩)] w6 fun e w' => e = .returned (.int .i64 2) ∧ w' = w6 := by
    obtain ⟨T, X, hl⟩ := h6.1
    exact safe_any hl
  have ez : (dataOf Ls.k2.recs Ls.k2.half).length = 2 := rfl
  rw [ez] at hby
  have e1 : intsOf Ls.k2.recs = [1] := rfl
  rw [e1] at hv6
  obtain ⟨g6, c6, rfl, _, _, _⟩ := hv6.full (by simp)
  have hc6 := hv6.cell (k := 0) (by simp)
  have e2 : ([(1 : Int)] : List Int).getD 0 0 = 1 := rfl
  rw [e2] at hc6
  have e3 : ([(1 : Int)] : List Int).length = 1 := rfl
  rw [e3]
  clear h6 hv6 hb6 ez e1 e2 e3 H5
  go_wp2_with (first | (go_at_call 14; refine hby.mono ?_; clear hby; rintro e w6 ⟨rfl, rfl⟩) | (go_at_call 15; refine hsf.mono ?_; clear hsf; rintro e w6 ⟨rfl, rfl⟩) | fail)
  have HB6 : Hid (Below w.heap.size w w6) := HBA.out _ H6.out.below
  have HTY : Hid (Typed w6) := H6.out.typed
  clear hc6 H6 HBA
  by_cases hq0 : q0 = 0
  · subst hq0
    obtain rfl : p0 = 0 := (HCK0.out.ok rfl).1
    have hcall := newL_good _ ts w6 (HP.out.later HB6.out) HCK0.out
    go_wp2_with fail
    refine hcall.mono ?_
    clear hcall
    rintro e w7 ⟨⟨L, X, T, rfl, hlg⟩, hb7⟩
    have HG : Hid (Good ts) := HCK0.out.good
    have h30 := HG.out.le
    have hA7 : Below w7.heap.size w7 (w7.alloc (.cells #[.int .i64 0] 3)) := (Below.refl _ _).alloc (Nat.le_refl _) _
    have HK0 : Hid (KB w6.heap.size w7.heap.size L ts (.slice none 0 0) (.slice (some ⟨w7.heap.size, 0, none⟩) 1 1) w6 (w7.alloc (.cells #[.int .i64 0] 3))) := by
      refine ⟨Ls.new, ⟨T, X, hlg.later hA7, hlg.topT, fun b e => by simp [Value.ownBlock] at e, fun b e hx => ?_⟩, RowI.nil _ _, RowI.whole _ _ 1 (marksOf 0) rfl (by omega) (heap_alloc_new w7 _), fun b e => by simp [Value.ownBlock] at e, hb7.trans (hA7.mono hb7.size), hb7.size, HTY.out, HTY.out.pos⟩
      obtain ⟨⟨XJ, J, pv, dv, hM⟩, _⟩ := hlg
      have h1 := (hM.lt b hx).1
      simp only [Value.ownBlock, Option.some.injEq] at e
      omega
    have HBK : Hid (∀ wx, Below w6.heap.size w6 wx → Below w.heap.size w wx) := fun wx h => HB6.out.trans (h.mono HB6.out.size)
    clear hlg hb7 hA7
    go_wp2
    go_loopw [21, 22, 23, 24] (fun s21 s22 s23 s24 wr => ∃ (r i : Nat) (vd vm : Value), r ≤ 4 ∧ i ≤ l.length ∧ vd = s21 ∧ vm = s22 ∧ s23 = .int .i64 i ∧ s24 = .int .i64 r ∧ Hid (KB w6.heap.size w7.heap.size L ts vd vm w6 wr)) (fun _ _ _ s24 _ => 4 - (intOf s24).toNat)
    case atStart => exact ⟨0, 0, _, _, by omega, Nat.zero_le _, rfl, rfl, rfl, rfl, HK0⟩
    case round =>
      clear HK0
      obtain ⟨r, i, vd, vm, hr4, hil, rfl, rfl, rfl, rfl, hK⟩ := hrel
      by_cases hrf : r ≤ fails.length
      · by_cases hr44 : r < 4
        · have q1 : (r : Int) ≤ (fails.length : Int) := by omega
          have q2 : (r : Int) < 4 := by omega
          go_upto_if 116 with fail
          go_cut [] from 103 to 309 (fun wx => Hid (KB w6.heap.size w7.heap.size L ts vd vm w6 wx))
          case first => as_aux_lemma =>
            by_cases hrl : r < fails.length
            · obtain ⟨fb, fo, rfl, hfc, hfb⟩ := HFV.out.at hrl
              obtain ⟨s, hk⟩ := hK.out
              have hz := HFW.out (fails.getD r 0) (by rw [List.getD_eq_getElem?_getD, List.getElem?_eq_getElem hrl]; exact List.getElem_mem hrl)
              have hcr := ((HBK.out _ hk.below).cell (p := ⟨fb, fo + r, none⟩) hfb).trans hfc
              have hcall := hk.fail (fails.getD r 0) (wf_bounds hz)
              have q3 : (r : Int) < (fails.length : Int) := by omega
              clear hz hfc hk
              generalize fails.getD r 0 = z at *
              go_wp2_with (go_at_call 7; refine hcall.mono ?_; clear hcall; rintro e wf ⟨rfl, hkf⟩)
              go_meet
              exact ⟨_, hkf⟩
            · have q3 : ¬ (r : Int) < (fails.length : Int) := by omega
              go_wp2
              go_meet
              exact hK
          case rest => as_aux_lemma =>
            have hK1 : Hid (KB w6.heap.size w7.heap.size L ts vd vm w6 _) := hcut
            clear hK hcut
            go_upto_block 2 with fail
            go_cut [21, 22, 23, 25, 26, 27, 28, 29, 30, 31, 32] from 103 to 309 (fun s21 s22 s23 _ _ _ _ _ _ _ _ wx => ∃ (i2 : Nat) (vd2 vm2 : Value), i2 ≤ l.length ∧ vd2 = s21 ∧ vm2 = s22 ∧ s23 = .int .i64 i2 ∧ Hid (KB w6.heap.size w7.heap.size L ts vd2 vm2 w6 wx))
            case first => as_aux_lemma =>
              go_wp2_with fail
              go_loopw [21, 22, 23, 25] (fun s21 s22 s23 s25 wx => ∃ (k i2 : Nat) (vd2 vm2 : Value), k ≤ 20 ∧ i2 ≤ l.length ∧ vd2 = s21 ∧ vm2 = s22 ∧ s23 = .int .i64 i2 ∧ s25 = .int .i64 k ∧ Hid (KB w6.heap.size w7.heap.size L ts vd2 vm2 w6 wx)) (fun _ _ _ s25 _ => 20 - (intOf s25).toNat)
              case atStart => exact ⟨0, i, _, _, by omega, hil, rfl, rfl, rfl, rfl, hK1⟩
              case round =>
                clear hK1
                obtain ⟨k, i2, vd2, vm2, hk20, hi2, rfl, rfl, rfl, rfl, hK⟩ := hrel
                by_cases hk2 : k < 20
                · by_cases hil2 : i2 < l.length
                  · have p1 : (k : Int) < 20 := by omega
                    have p2 : (i2 : Int) < (l.length : Int) := by omega
                    obtain ⟨lb, lo, rfl, hlc, hlb⟩ := HLV.out.at hil2
                    have HLC : Hid (∀ wx, Below w6.heap.size w6 wx → wx.cell? ⟨lb, lo + i2, none⟩ = some (.int .i64 (l.getD i2 0))) := fun wx h => ((HBK.out _ h).cell (p := ⟨lb, lo + i2, none⟩) hlb).trans hlc
                    clear hlc
                    generalize l.getD i2 0 = x at *
                    go_upto_region 26 with fail
                    go_cut [155] from 123 to 221 (fun s155 wx => s155 = .bool false ∧ Hid (KB w6.heap.size w7.heap.size L ts vd2 vm2 w6 wx))
                    case first => as_aux_lemma =>
                      by_cases hsl : i2 < syncs.length
                      · obtain ⟨sb, so, rfl, hsc, hsb⟩ := HSV.out.at hsl
                        obtain ⟨s, hk⟩ := hK.out
                        have hcs := ((HBK.out _ hk.below).cell (p := ⟨sb, so + i2, none⟩) hsb).trans hsc
                        have q3 : (i2 : Int) < (syncs.length : Int) := by omega
                        clear hsc
                        generalize syncs.getD i2 0 = y at *
                        by_cases hy : y = 1
                        · subst hy
                          have hcall := hk.syncC
                          by_cases hse : s.syncE = 0
                          · rw [hse, errV_zero] at hcall
                            have HS2 : Hid (s.sync.recs = s.recs ∧ s.sync.safe = (dataOf s.sync.recs s.sync.half).length) := ⟨sync_recs s, sync_safe hse⟩
                            clear hk hse
                            go_wp2_with fail
                            refine hcall.mono ?_
                            clear hcall
                            rintro e ws ⟨rfl, hks⟩
                            have hb1 := hks.bytesC
                            have hb2 := hks.safeC
                            rw [HS2.out.2] at hb2
                            have HKS : Hid (KB w6.heap.size w7.heap.size L ts vd2 vm2 w6 ws) := by
                              refine ⟨s.sync, ?_⟩
                              rw [HS2.out.1]; exact hks
                            clear hks HS2
                            generalize (dataOf s.sync.recs s.sync.half).length = nn at *
                            go_wp2_with (first | (go_at_call 15; refine hb2.mono ?_; clear hb2; rintro e ws ⟨rfl, rfl⟩) | (go_at_call 14; refine hb1.mono ?_; clear hb1; rintro e ws ⟨rfl, rfl⟩) | fail)
                            go_meet
                            exact ⟨rfl, HKS⟩
                          · rw [errV_some hse] at hcall
                            have HS2 : Hid (s.sync.recs = s.recs) := sync_recs s
                            clear hk
                            generalize s.syncE = se at *
                            clear hse
                            go_wp2_with (go_at_call 10; refine hcall.mono ?_; clear hcall; rintro e ws ⟨rfl, hks⟩)
                            go_meet
                            exact ⟨rfl, s.sync, by rw [HS2.out]; exact hks⟩
                        · have hy2 : (y == 1) = false := by simp [hy]
                          clear hy
                          go_wp2
                          go_meet
                          exact ⟨rfl, hK⟩
                      · have q3 : ¬ (i2 : Int) < (syncs.length : Int) := by omega
                        go_wp2
                        go_meet
                        exact ⟨rfl, hK⟩
                    case rest => as_aux_lemma =>
                      obtain ⟨rfl, hK2⟩ := hcut
                      obtain ⟨s, hk⟩ := hK2.out
                      have hlc := HLC.out _ hk.below
                      have hlr := hk.ok.seq.len
                      have hcall := may_any _ _ ts s.recs x _ (HP.out.later (HBK.out _ hk.below)) HG.out (fun y hy => hk.ok.seq.lt hy) (hk.done.readI (by rw [intsOf_length]; omega)) (by omega)
                      obtain ⟨e0, he0⟩ : ∃ e0, e0 = doneErr ts (inL s.recs) x := ⟨_, rfl⟩
                      rw [← he0] at hcall
                      have HE0 : Hid (e0 = doneErr ts (inL s.recs) x) := he0
                      have HK2 : Hid (KM w6.heap.size w7.heap.size L ts s s.recs s.recs.length vd2 vm2 w6 _) := hk
                      have HOK : Hid (s.Ok ts) := hk.ok
                      clear hK hK2 hk he0
                      go_wp2_with fail
                      refine hcall.mono ?_
                      clear hcall
                      rintro e w8 ⟨rfl, hb8⟩
                      have hk8 := HK2.out.later hb8
                      have hcall := hk8.bytesC
                      have hlc8 := HLC.out _ hk8.below
                      have HK8 : Hid (KM w6.heap.size w7.heap.size L ts s s.recs s.recs.length vd2 vm2 w6 w8) := hk8
                      clear hk8 hb8 hlc HK2
                      obtain ⟨hdc1, hdc2⟩ := done_cases (ts := ts) (s := s) HOK.out x
                      by_cases hd : s.doneE ts x = 0
                      · obtain ⟨hx0, he, hr, hh1, hh2⟩ := hdc1 hd
                        have hn1 : (dataOf s.recs s.half).length = 2 * s.recs.length := by rw [hh1, dataOf_length]; simp
                        have hn2 : (dataOf (s.done ts x).recs (s.done ts x).half).length = 2 * (s.recs.length + 1) := by rw [hr, hh2, dataOf_length]; simp
                        have hez : e0 = 0 := HE0.out.trans he
                        subst hez
                        obtain ⟨y, rfl⟩ := Int.eq_ofNat_of_zero_le hx0
                        have HR : Hid ((s.done ts y).recs = s.recs ++ [y]) := hr
                        have HN2 : Hid ((dataOf (s.done ts y).recs (s.done ts y).half).length = 2 * (s.recs.length + 1)) := hn2
                        have HD : Hid (s.doneE ts y = 0) := hd
                        rw [hn1] at hcall
                        clear hdc1 hdc2 hx0 he hr hh1 hh2 hn1 hn2 hd HE0
                        obtain ⟨m, hm⟩ : ∃ m, m = s.recs.length := ⟨_, rfl⟩
                        have HM : Hid (m = s.recs.length) := hm
                        rw [← hm] at hcall HK8 HN2 hlr
                        clear hm
                        obtain ⟨ds, hds⟩ : ∃ ds, ds = s.recs := ⟨_, rfl⟩
                        rw [← hds] at HK8 HR HM
                        have HDS : Hid (ds = s.recs) := hds
                        clear hds
                        have hlt : ¬ (((2 * (m + 1) : Nat) : Int) < ((2 * m : Nat) : Int) + 2) := by omega
                        obtain ⟨N1, hN1⟩ : ∃ N1, N1 = 2 * m := ⟨_, rfl⟩
                        obtain ⟨N2, hN2⟩ : ∃ N2, N2 = 2 * (m + 1) := ⟨_, rfl⟩
                        rw [← hN1, ← hN2] at hlt
                        rw [← hN1] at hcall
                        have HNN : Hid (N2 = 2 * (m + 1)) := hN2
                        have hN1b : N1 ≤ 60 := by omega
                        have hN2b : N2 ≤ 62 := by omega
                        clear hN1 hN2
                        go_wp2_with fail
                        refine hcall.mono ?_
                        clear hcall
                        rintro e w8 ⟨rfl, rfl⟩
                        have hcall := HK8.out.doneC (y : Int)
                        rw [HD.out, errV_zero] at hcall
                        go_wp2_with fail
                        refine hcall.mono ?_
                        clear hcall
                        rintro e w9 ⟨rfl, hk9⟩
                        have hcall := hk9.errorC 0 6
                        rw [errV_zero] at hcall
                        clear hk9 hlc8 HK8
                        go_wp2_with fail
                        refine hcall.mono ?_
                        clear hcall
                        rintro e wA1 ⟨rfl, hkA⟩
                        have hcall := hkA.errorC 0 0
                        rw [errV_zero] at hcall
                        clear hkA
                        go_wp2_with fail
                        refine hcall.mono ?_
                        clear hcall
                        rintro e wB1 ⟨rfl, hkB⟩
                        have hcall := hkB.bytesC
                        rw [HN2.out, ← HNN.out] at hcall
                        have hlcB := HLC.out _ hkB.below
                        have HKB : Hid (KM w6.heap.size w7.heap.size L ts (s.done ts y) ds m vd2 vm2 w6 wB1) := hkB
                        have hdl : (intsOf ds).length ≤ 30 := by rw [intsOf_length, ← HM.out]; omega
                        have hszR : w7.heap.size ≤ wB1.heap.size := by
                          obtain ⟨g, c, hv, _, _, _⟩ := hkB.marks.full (by rw [marksOf_length]; omega)
                          have h1 := hkB.marks.low (k := g) (by rw [hv]; rfl)
                          omega
                        clear hkB
                        go_wp2_with fail
                        refine hcall.mono ?_
                        clear hcall
                        rintro e wB1 ⟨rfl, rfl⟩
                        have hoa := HKB.out.done.alloc (.cells #[.int .i64 y] 3)
                        have HO1 : Hid (Rds (fun _ => True) (wB1.alloc (.cells #[.int .i64 y] 3)) (.slice (some ⟨wB1.heap.size, 0, none⟩) 1 1) [(y : Int)]) := one_rds wB1 y
                        go_wp2_with (first | (at_builtin; refine wpList_append_rows rfl (.tmp 189) (.tmp 194) rfl w7.heap.size (fun _ => True) vd2 (.slice (some ⟨wB1.heap.size, 0, none⟩) 1 1) (intsOf ds) [(y : Int)] rfl rfl hoa HO1.out (by simp; omega) (by simp; omega) ?_; intro v3 wC hownC hgrC hatC) | fail)
                        have hkC := HKB.out.appD (wa := wB1.alloc (.cells #[.int .i64 y] 3)) ((Below.refl _ _).alloc (Nat.le_refl _) _) hownC hgrC hatC
                        have HKC : Hid (KM w6.heap.size w7.heap.size L ts (s.done ts y) (ds ++ [y]) m v3 vm2 w6 wC) := hkC
                        have hcall := hkC.bytesC
                        rw [HN2.out, ← HNN.out] at hcall
                        have hszC : w7.heap.size ≤ wC.heap.size := by
                          have := hgrC.size
                          simp at this
                          omega
                        obtain ⟨a3, c3, rfl, _⟩ := hkC.shapeD
                        clear hownC hgrC hatC hoa HO1 HKB hkC hlcB
                        go_wp2_with fail
                        refine hcall.mono ?_
                        clear hcall
                        rintro e wC ⟨rfl, rfl⟩
                        have hoa := HKC.out.marks.alloc (.cells #[.int .i64 N2] 3)
                        have HO1 : Hid (Rds (fun _ => True) (wC.alloc (.cells #[.int .i64 N2] 3)) (.slice (some ⟨wC.heap.size, 0, none⟩) 1 1) [(N2 : Int)]) := one_rds wC N2
                        go_wp2_with (first | (at_builtin; refine wpList_append_rows rfl (.tmp 196) (.tmp 199) rfl w7.heap.size (fun _ => True) vm2 (.slice (some ⟨wC.heap.size, 0, none⟩) 1 1) (marksOf m) [(N2 : Int)] rfl rfl hoa HO1.out (by rw [marksOf_length]; simp; omega) (by simp; omega) ?_; intro v4 wD hownD hgrD hatD) | fail)
                        have hkD := HKC.out.appM (wa := wC.alloc (.cells #[.int .i64 N2] 3)) ((Below.refl _ _).alloc (Nat.le_refl _) _) (by rw [← HNN.out]; exact hownD) hgrD hatD
                        have HT : Hid (KB w6.heap.size w7.heap.size L ts (.slice a3 (ds ++ [y]).length c3) v4 w6 wD) := by
                          refine ⟨s.done ts y, ?_⟩
                          rw [HR.out, List.length_append, List.length_singleton, ← HM.out]
                          rw [List.length_append, List.length_singleton, ← HM.out] at hkD
                          exact hkD
                        obtain ⟨g4, c4, rfl, _, _⟩ := hkD.shapeM
                        clear hownD hgrD hatD hoa HO1 HKC hkD
                        rw [show (ds ++ [y]).length = m + 1 by rw [List.length_append, List.length_singleton, ← HM.out]] at HT
                        rw [show ds.length = m from HM.out.symm]
                        clear HR HN2 HD HDS HM HNN hlt hdl hszR hszC HOK hlr
                        obtain ⟨s3, hk3⟩ := HT.out
                        have HO3 : Hid (s3.Ok ts) := hk3.ok
                        have hlr3 := hk3.ok.seq.len
                        have hcall := hk3.allC
                        have HK3 : Hid (KM w6.heap.size w7.heap.size L ts s3 s3.recs s3.recs.length (.slice a3 (m + 1) c3) (.slice (some ⟨g4, 0, none⟩) (m + 1 + 1) c4) w6 _) := hk3
                        clear HT hk3
                        go_wp2_with fail
                        refine hcall.mono ?_
                        clear hcall
                        rintro e wa ⟨⟨va3, rfl, hva3⟩, hba⟩
                        have hka := HK3.out.later hba
                        have hcall := sameInts_any _ _ _ _ wa hva3 (hka.done.readI (by rw [intsOf_length]; omega))
                        rw [decide_eq_true rfl] at hcall
                        have HKa : Hid (KM w6.heap.size w7.heap.size L ts s3 s3.recs s3.recs.length (.slice a3 (m + 1) c3) (.slice (some ⟨g4, 0, none⟩) (m + 1 + 1) c4) w6 wa) := hka
                        clear HK3 hka hba hva3
                        go_wp2_with fail
                        refine hcall.mono ?_
                        clear hcall
                        rintro e wb ⟨rfl, qb, rfl⟩
                        have hcall := (HKa.out.drewN qb).readyC
                        go_wp2_with fail
                        refine hcall.mono ?_
                        clear hcall
                        rintro e wc3 ⟨⟨vr3, rfl, hvr3⟩, hbc⟩
                        have hkc := (HKa.out.drewN qb).later hbc
                        have hcall := flags_any ts.length _ s3.recs wc3 h30 (fun x hx => HO3.out.seq.lt hx) (hkc.done.readI (by rw [intsOf_length]; omega)) (by omega)
                        have HKc : Hid (KM w6.heap.size w7.heap.size L ts s3 s3.recs s3.recs.length (.slice a3 (m + 1) c3) (.slice (some ⟨g4, 0, none⟩) (m + 1 + 1) c4) w6 wc3) := hkc
                        have HVR : Hid (IntsAt wc3 vr3 (intsOf (readyTo ts (inL s3.recs) ts.length))) := hvr3
                        clear HKa hkc hbc hvr3
                        go_wp2_with fail
                        refine hcall.mono ?_
                        clear hcall
                        rintro e wd ⟨⟨vb3, rfl, hvb3⟩, hbd⟩
                        have hkd := HKc.out.later hbd
                        have hcall := readyR_any _ vb3 ts (inL s3.recs) wd (HP.out.later (HBK.out _ hkd.below)) HG.out.rng h30 hvb3
                        have HKd : Hid (KM w6.heap.size w7.heap.size L ts s3 s3.recs s3.recs.length (.slice a3 (m + 1) c3) (.slice (some ⟨g4, 0, none⟩) (m + 1 + 1) c4) w6 wd) := hkd
                        have HVR2 : Hid (IntsAt wd vr3 (intsOf (readyTo ts (inL s3.recs) ts.length))) := HVR.out.later hbd
                        clear HKc hkd hbd hvb3 HVR
                        go_wp2_with fail
                        refine hcall.mono ?_
                        clear hcall
                        rintro e we ⟨⟨vo3, rfl, hvo3⟩, hbe⟩
                        have hke := HKd.out.later hbe
                        have hcall := sameInts_any _ _ _ _ we (HVR2.out.later hbe) (hvo3.readI (by rw [intsOf_length]; have := readyTo_len ts (inL s3.recs) ts.length; omega))
                        rw [decide_eq_true rfl] at hcall
                        have HKe : Hid (KM w6.heap.size w7.heap.size L ts s3 s3.recs s3.recs.length (.slice a3 (m + 1) c3) (.slice (some ⟨g4, 0, none⟩) (m + 1 + 1) c4) w6 we) := hke
                        clear HKd hke hbe hvo3 HVR2
                        go_wp2_with fail
                        refine hcall.mono ?_
                        clear hcall
                        rintro e wf ⟨rfl, qf, rfl⟩
                        have HKf : Hid (KB w6.heap.size w7.heap.size L ts (.slice a3 (m + 1) c3) (.slice (some ⟨g4, 0, none⟩) (m + 1 + 1) c4) w6 (we.drewN qf)) := ⟨s3, HKe.out.drewN qf⟩
                        clear HKe HO3 hlr3
                        go_wp2
                        go_roundw
                        case rel => exact ⟨k + 1, i2 + 1, _, _, by omega, by omega, rfl, rfl, by go_num, by go_num, HKf⟩
                        case measure => simp [intOf]; omega
                      · obtain ⟨hr, hor⟩ := hdc2 hd
                        have HR : Hid ((s.done ts x).recs = s.recs) := hr
                        have HV : Hid (s.doneE ts x = 6 ∨ s.doneE ts x = e0) := by
                          show _ ∨ _
                          rw [HE0.out]; exact hor
                        have hcd := HK8.out.doneC x
                        obtain ⟨d, hdd⟩ : ∃ d, d = s.doneE ts x := ⟨_, rfl⟩
                        rw [← hdd] at HV hcd hd
                        have hev := errV_some hd
                        rw [hev] at hcd
                        clear hdc1 hdc2 hr hor hdd HE0
                        generalize (dataOf s.recs s.half).length = nn at *
                        go_wp2_with fail
                        refine hcall.mono ?_
                        clear hcall
                        rintro e w8 ⟨rfl, rfl⟩
                        go_wp2_with fail
                        refine hcd.mono ?_
                        clear hcd
                        rintro e w9 ⟨rfl, hk9⟩
                        have hcall := hk9.errorC d 6
                        rw [hev] at hcall
                        clear hk9 hlc8 HK8
                        go_wp2_with fail
                        refine hcall.mono ?_
                        clear hcall
                        rintro e wA1 ⟨rfl, hkA⟩
                        have hcall := hkA.errorC d e0
                        rw [hev] at hcall
                        clear hkA
                        go_wp2_with fail
                        refine hcall.mono ?_
                        clear hcall
                        rintro e wB1 ⟨rfl, hkB⟩
                        have HT0 : Hid (KB w6.heap.size w7.heap.size L ts vd2 vm2 w6 wB1) := by
                          refine ⟨s.done ts x, ?_⟩
                          rw [HR.out]; exact hkB
                        have HST : Hid ((d == 6) = true ∨ (d == e0) = true) := by
                          rcases HV.out with h | h
                          · exact Or.inl (by rw [h]; rfl)
                          · exact Or.inr (by rw [h]; simp)
                        clear hkB HR HV hev hd HOK hlr
                        generalize (d == 6) = st at *
                        generalize (d == e0) = tl at *
                        go_upto_region 33 with fail
                        go_cut [29, 30, 181] from 123 to 221 (fun _ _ s181 wx => s181 = .bool false ∧ Hid (KB w6.heap.size w7.heap.size L ts vd2 vm2 w6 wx))
                        case first => as_aux_lemma =>
                          cases st
                          · cases tl
                            · exact absurd HST.out (by simp)
                            · go_wp2
                              go_meet
                              exact ⟨rfl, HT0⟩
                          · go_wp2
                            go_meet
                            exact ⟨rfl, HT0⟩
                        case rest => as_aux_lemma =>
                          obtain ⟨rfl, HT⟩ := hcut
                          clear HT0 HST
                          obtain ⟨s3, hk3⟩ := HT.out
                          have HO3 : Hid (s3.Ok ts) := hk3.ok
                          have hlr3 := hk3.ok.seq.len
                          have hcall := hk3.allC
                          have HK3 : Hid (KM w6.heap.size w7.heap.size L ts s3 s3.recs s3.recs.length vd2 vm2 w6 _) := hk3
                          clear HT hk3
                          go_wp2_with fail
                          refine hcall.mono ?_
                          clear hcall
                          rintro e wa ⟨⟨va3, rfl, hva3⟩, hba⟩
                          have hka := HK3.out.later hba
                          have hcall := sameInts_any _ _ _ _ wa hva3 (hka.done.readI (by rw [intsOf_length]; omega))
                          rw [decide_eq_true rfl] at hcall
                          have HKa : Hid (KM w6.heap.size w7.heap.size L ts s3 s3.recs s3.recs.length vd2 vm2 w6 wa) := hka
                          clear HK3 hka hba hva3
                          go_wp2_with fail
                          refine hcall.mono ?_
                          clear hcall
                          rintro e wb ⟨rfl, qb, rfl⟩
                          have hcall := (HKa.out.drewN qb).readyC
                          go_wp2_with fail
                          refine hcall.mono ?_
                          clear hcall
                          rintro e wc3 ⟨⟨vr3, rfl, hvr3⟩, hbc⟩
                          have hkc := (HKa.out.drewN qb).later hbc
                          have hcall := flags_any ts.length _ s3.recs wc3 h30 (fun x hx => HO3.out.seq.lt hx) (hkc.done.readI (by rw [intsOf_length]; omega)) (by omega)
                          have HKc : Hid (KM w6.heap.size w7.heap.size L ts s3 s3.recs s3.recs.length vd2 vm2 w6 wc3) := hkc
                          have HVR : Hid (IntsAt wc3 vr3 (intsOf (readyTo ts (inL s3.recs) ts.length))) := hvr3
                          clear HKa hkc hbc hvr3
                          go_wp2_with fail
                          refine hcall.mono ?_
                          clear hcall
                          rintro e wd ⟨⟨vb3, rfl, hvb3⟩, hbd⟩
                          have hkd := HKc.out.later hbd
                          have hcall := readyR_any _ vb3 ts (inL s3.recs) wd (HP.out.later (HBK.out _ hkd.below)) HG.out.rng h30 hvb3
                          have HKd : Hid (KM w6.heap.size w7.heap.size L ts s3 s3.recs s3.recs.length vd2 vm2 w6 wd) := hkd
                          have HVR2 : Hid (IntsAt wd vr3 (intsOf (readyTo ts (inL s3.recs) ts.length))) := HVR.out.later hbd
                          clear HKc hkd hbd hvb3 HVR
                          go_wp2_with fail
                          refine hcall.mono ?_
                          clear hcall
                          rintro e we ⟨⟨vo3, rfl, hvo3⟩, hbe⟩
                          have hke := HKd.out.later hbe
                          have hcall := sameInts_any _ _ _ _ we (HVR2.out.later hbe) (hvo3.readI (by rw [intsOf_length]; have := readyTo_len ts (inL s3.recs) ts.length; omega))
                          rw [decide_eq_true rfl] at hcall
                          have HKe : Hid (KM w6.heap.size w7.heap.size L ts s3 s3.recs s3.recs.length vd2 vm2 w6 we) := hke
                          clear HKd hke hbe hvo3 HVR2
                          go_wp2_with fail
                          refine hcall.mono ?_
                          clear hcall
                          rintro e wf ⟨rfl, qf, rfl⟩
                          have HKf : Hid (KB w6.heap.size w7.heap.size L ts vd2 vm2 w6 (we.drewN qf)) := ⟨s3, HKe.out.drewN qf⟩
                          clear HKe HO3 hlr3
                          go_wp2
                          go_roundw
                          case rel => exact ⟨k + 1, i2 + 1, _, _, by omega, by omega, rfl, rfl, by go_num, by go_num, HKf⟩
                          case measure => simp [intOf]; omega
                  · have p2 : ¬ (i2 : Int) < (l.length : Int) := by omega
                    have p1 : (k : Int) < 20 := by omega
                    go_wp2
                    go_meet
                    exact ⟨i2, _, _, hi2, rfl, rfl, rfl, hK⟩
                · have p1 : ¬ (k : Int) < 20 := by omega
                  go_wp2
                  go_meet
                  exact ⟨i2, _, _, hi2, rfl, rfl, rfl, hK⟩
            case rest => as_aux_lemma =>
              obtain ⟨i2, vd2, vm2, hi2, rfl, rfl, rfl, hK2⟩ := hcut
              clear hK1
              go_upto_if 225 with fail
              go_cut [33] from 103 to 309 (fun s33 wx => ∃ kp : Int, s33 = .int .i64 kp ∧ Hid (KB w6.heap.size w7.heap.size L ts vd2 vm2 w6 wx))
              case first => as_aux_lemma =>
                by_cases hkl : r < keeps.length
                · obtain ⟨kb, ko, rfl, hkc, hkb⟩ := HKV.out.at hkl
                  obtain ⟨s, hk⟩ := hK2.out
                  have hcr := ((HBK.out _ hk.below).cell (p := ⟨kb, ko + r, none⟩) hkb).trans hkc
                  have q3 : (r : Int) < (keeps.length : Int) := by omega
                  clear hkc hk
                  generalize keeps.getD r 0 = z at *
                  go_wp2
                  go_meet
                  exact ⟨_, rfl, hK2⟩
                · have q3 : ¬ (r : Int) < (keeps.length : Int) := by omega
                  go_wp2
                  go_meet
                  exact ⟨_, rfl, hK2⟩
              case rest => as_aux_lemma =>
                obtain ⟨kp, rfl, hK3⟩ := hcut
                clear hK2
                obtain ⟨s, hk⟩ := hK3.out
                have hb1 := hk.bytesC
                have hb2 := hk.safeC
                have hcall := hk.crashC kp
                obtain ⟨hqm, hcr, hcl, hcb, hcs⟩ := crash_facts hk.ok kp
                have hkp := kept_cases hk.ok kp
                have hlr := hk.ok.seq.len
                have hNl : (dataOf s.recs s.half).length ≤ 61 := by have := hk.ok.half; rw [dataOf_length]; omega
                have hFl : s.safe ≤ 60 := by have := hk.ok.safe; omega
                have hHl : s.kept kp ≤ 61 := by have := (hk.ok.kept_le kp).2; omega
                have HCR : Hid ((s.crash kp).recs = s.recs.take (s.kept kp / 2) ∧ (s.crash kp).recs.length = s.kept kp / 2 ∧ (dataOf (s.crash kp).recs (s.crash kp).half).length = 2 * (s.kept kp / 2) ∧ (s.crash kp).safe = 2 * (s.kept kp / 2)) := ⟨hcr, hcl, hcb, hcs⟩
                have HQM : Hid (s.kept kp / 2 ≤ s.recs.length) := hqm
                have HKP : Hid ((0 < kp ∧ kp < ((dataOf s.recs s.half).length : Int) - (s.safe : Int) → ((s.kept kp : Nat) : Int) = (s.safe : Int) + kp) ∧ (0 < kp ∧ ¬ kp < ((dataOf s.recs s.half).length : Int) - (s.safe : Int) → s.kept kp = (dataOf s.recs s.half).length) ∧ (¬ 0 < kp → s.kept kp = s.safe)) := hkp
                clear hK3 hk hcr hcl hcb hcs hqm hkp
                generalize s.kept kp = H at *
                generalize (dataOf s.recs s.half).length = NN at *
                generalize s.safe = FF at *
                go_wp2_with (first | (go_at_call 14; refine hb1.mono ?_; clear hb1; rintro e wb ⟨rfl, rfl⟩) | (go_at_call 15; refine hb2.mono ?_; clear hb2; rintro e wb ⟨rfl, rfl⟩) | fail)
                refine hcall.mono ?_
                clear hcall
                rintro e w9 ⟨rfl, hk9⟩
                obtain ⟨ds, hds⟩ : ∃ ds, ds = s.recs := ⟨_, rfl⟩
                rw [← hds] at hk9 HQM hlr
                have HK9 : Hid (KM w6.heap.size w7.heap.size L ts (s.crash kp) ds ds.length vd2 vm2 w6 w9) := hk9
                have HDS : Hid (ds = s.recs) := hds
                obtain ⟨va, vc, rfl, hvl⟩ := hk9.shapeD
                obtain ⟨ga, gc, rfl, hgl, hgc⟩ := hk9.shapeM
                have HGC : Hid (∀ k, k ≤ ds.length → w9.cell? ⟨ga, k, none⟩ = some (.int .i64 ((2 * k : Nat) : Int))) := hgc
                clear hk9 hds hgc
                generalize hm : ds.length = m at *
                have HM : Hid (ds.length = m) := hm
                clear hm
                go_upto_region 52 with fail
                go_cut [246] from 103 to 309 (fun s246 wx => ∃ bb : Bool, s246 = .bool bb ∧ Hid (bb = true ↔ (0 < kp ∧ kp < (NN : Int) - (FF : Int))) ∧ w9 = wx)
                case first => as_aux_lemma =>
                  by_cases h0 : 0 < kp
                  · have HZ0 : Hid (0 < kp) := h0
                    by_cases h1 : kp < (NN : Int) - (FF : Int)
                    · have HZ1 : Hid (kp < (NN : Int) - (FF : Int)) := h1
                      go_wp2
                      go_meet
                      exact ⟨_, rfl, iff_of_true rfl ⟨HZ0.out, HZ1.out⟩, rfl⟩
                    · have HZ1 : Hid (¬ kp < (NN : Int) - (FF : Int)) := h1
                      go_wp2
                      go_meet
                      exact ⟨_, rfl, iff_of_false (by simp) (fun h => by have h1 := HZ1.out; have h2 := h.2; omega), rfl⟩
                  · have HZ0 : Hid (¬ 0 < kp) := h0
                    go_wp2
                    go_meet
                    exact ⟨_, rfl, iff_of_false (by simp) (fun h => by have h1 := HZ0.out; have h2 := h.1; omega), rfl⟩
                case rest => as_aux_lemma =>
                  obtain ⟨bb, rfl, hbb, rfl⟩ := hcut
                  go_upto_if 246 with fail
                  go_cut [36] from 103 to 309 (fun s36 wx => s36 = .int .i64 (H : Int) ∧ w9 = wx)
                  case first => as_aux_lemma =>
                    cases bb
                    · have hn : ¬ (0 < kp ∧ kp < (NN : Int) - (FF : Int)) := fun h => by have := hbb.out.2 h; cases this
                      by_cases h0 : 0 < kp
                      · have HX : Hid (H = NN) := HKP.out.2.1 (by omega)
                        clear hn hbb HKP
                        go_wp2
                        go_meet
                        exact ⟨by rw [HX.out], rfl⟩
                      · have HX : Hid (H = FF) := HKP.out.2.2 (by omega)
                        clear hn hbb HKP
                        go_wp2
                        go_meet
                        exact ⟨by rw [HX.out], rfl⟩
                    · have hn := hbb.out.1 rfl
                      have hX := HKP.out.1 hn
                      have hX2 : (FF : Int) + kp = (H : Int) := hX.symm
                      have h0 := hn.1
                      clear hn hbb HKP hX
                      go_wp2
                      go_meet
                      exact ⟨rfl, rfl⟩
                  case rest => as_aux_lemma =>
                    obtain ⟨rfl, rfl⟩ := hcut
                    clear hbb HKP
                    have hHm : H / 2 ≤ m := HQM.out
                    go_wp2
                    go_loopw [37, 38] (fun s37 s38 wx => ∃ j lf : Nat, j ≤ m + 1 ∧ s38 = .int .i64 j ∧ s37 = .int .i64 lf ∧ Hid (lf = min (j - 1) (H / 2)) ∧ w9 = wx) (fun _ s38 _ => m + 1 - (intOf s38).toNat)
                    case atStart => exact ⟨0, 0, Nat.zero_le _, rfl, rfl, by show _ = _; omega, rfl⟩
                    case round =>
                      obtain ⟨j, lf, hj, rfl, rfl, hlf, rfl⟩ := hrel
                      by_cases hjm : j < m + 1
                      · have hcj := HGC.out j (by omega)
                        obtain ⟨tj, htj⟩ : ∃ tj, tj = 2 * j := ⟨_, rfl⟩
                        rw [← htj] at hcj
                        have hjm2 : (j : Int) < ((m + 1 : Nat) : Int) := by omega
                        by_cases hle : tj ≤ H
                        · have hle2 : (tj : Int) ≤ (H : Int) := by omega
                          have HL2 : Hid (j = min (j + 1 - 1) (H / 2)) := by show _ = _; omega
                          clear hle htj hlf
                          go_wp2
                          go_roundw
                          case rel => exact ⟨j + 1, j, by omega, by go_num, rfl, HL2, by first | trivial | rfl⟩
                          case measure => simp [intOf]; omega
                        · have hle2 : ¬ (tj : Int) ≤ (H : Int) := by omega
                          have HL2 : Hid (lf = min (j + 1 - 1) (H / 2)) := by show _ = _; have := hlf.out; omega
                          clear hle htj hlf
                          go_wp2
                          go_roundw
                          case rel => exact ⟨j + 1, lf, by omega, by go_num, rfl, HL2, by first | trivial | rfl⟩
                          case measure => simp [intOf]; omega
                      · obtain rfl : j = m + 1 := by omega
                        obtain rfl : lf = H / 2 := by have := hlf.out; omega
                        have hjm2 : ¬ ((m + 1 : Nat) : Int) < ((m + 1 : Nat) : Int) := by omega
                        obtain ⟨q, hq⟩ : ∃ q, q = H / 2 := ⟨_, rfl⟩
                        rw [← hq] at HCR hHm
                        rw [← hq]
                        have HKC : Hid (KM w6.heap.size w7.heap.size L ts (s.crash kp) (s.crash kp).recs (s.crash kp).recs.length (.slice va q vc) (.slice (some ⟨ga, 0, none⟩) (q + 1) gc) w6 w9) := by
                          have hk := HK9.out
                          rw [← HM.out] at hk
                          have := hk.cut (k := q) (by rw [HM.out]; exact hHm) (by rw [HM.out]; exact hHm)
                          rw [HCR.out.1, ← HDS.out]
                          have e1 : (ds.take q).length = q := by rw [List.length_take, HM.out]; omega
                          rw [e1]
                          exact this
                        have HCB : Hid ((dataOf (s.crash kp).recs (s.crash kp).half).length = 2 * q ∧ (s.crash kp).safe = 2 * q) := ⟨HCR.out.2.2.1, HCR.out.2.2.2⟩
                        clear hlf HK9 HCR HQM HGC hq
                        have hq1 : (q : Int) ≤ (vc : Int) := by omega
                        have hq2 : (q : Int) + 1 ≤ (gc : Int) := by omega
                        have hcall := HKC.out.allC
                        have hql := HKC.out.ok.seq.len
                        have h30 := HG.out.le
                        have HT : Hid (∃ s3, s3 = s.crash kp ∧ KM w6.heap.size w7.heap.size L ts s3 s3.recs s3.recs.length (.slice va q vc) (.slice (some ⟨ga, 0, none⟩) (q + 1) gc) w6 w9) := ⟨_, rfl, HKC.out⟩
                        clear hcall hql HKC
                        obtain ⟨s3, hs3, hk3⟩ := HT.out
                        rw [← hs3] at HCB
                        clear hs3
                        have HO3 : Hid (s3.Ok ts) := hk3.ok
                        have hlr3 := hk3.ok.seq.len
                        have hcall := hk3.allC
                        have HK3 : Hid (KM w6.heap.size w7.heap.size L ts s3 s3.recs s3.recs.length (.slice va q vc) (.slice (some ⟨ga, 0, none⟩) (q + 1) gc) w6 _) := hk3
                        clear HT hk3
                        go_wp2_with fail
                        refine hcall.mono ?_
                        clear hcall
                        rintro e wa ⟨⟨va3, rfl, hva3⟩, hba⟩
                        have hka := HK3.out.later hba
                        have hcall := sameInts_any _ _ _ _ wa hva3 (hka.done.readI (by rw [intsOf_length]; omega))
                        rw [decide_eq_true rfl] at hcall
                        have HKa : Hid (KM w6.heap.size w7.heap.size L ts s3 s3.recs s3.recs.length (.slice va q vc) (.slice (some ⟨ga, 0, none⟩) (q + 1) gc) w6 wa) := hka
                        clear HK3 hka hba hva3
                        go_wp2_with fail
                        refine hcall.mono ?_
                        clear hcall
                        rintro e wb ⟨rfl, qb, rfl⟩
                        have hcall := (HKa.out.drewN qb).readyC
                        go_wp2_with fail
                        refine hcall.mono ?_
                        clear hcall
                        rintro e wc3 ⟨⟨vr3, rfl, hvr3⟩, hbc⟩
                        have hkc := (HKa.out.drewN qb).later hbc
                        have hcall := flags_any ts.length _ s3.recs wc3 h30 (fun x hx => HO3.out.seq.lt hx) (hkc.done.readI (by rw [intsOf_length]; omega)) (by omega)
                        have HKc : Hid (KM w6.heap.size w7.heap.size L ts s3 s3.recs s3.recs.length (.slice va q vc) (.slice (some ⟨ga, 0, none⟩) (q + 1) gc) w6 wc3) := hkc
                        have HVR : Hid (IntsAt wc3 vr3 (intsOf (readyTo ts (inL s3.recs) ts.length))) := hvr3
                        clear HKa hkc hbc hvr3
                        go_wp2_with fail
                        refine hcall.mono ?_
                        clear hcall
                        rintro e wd ⟨⟨vb3, rfl, hvb3⟩, hbd⟩
                        have hkd := HKc.out.later hbd
                        have hcall := readyR_any _ vb3 ts (inL s3.recs) wd (HP.out.later (HBK.out _ hkd.below)) HG.out.rng h30 hvb3
                        have HKd : Hid (KM w6.heap.size w7.heap.size L ts s3 s3.recs s3.recs.length (.slice va q vc) (.slice (some ⟨ga, 0, none⟩) (q + 1) gc) w6 wd) := hkd
                        have HVR2 : Hid (IntsAt wd vr3 (intsOf (readyTo ts (inL s3.recs) ts.length))) := HVR.out.later hbd
                        clear HKc hkd hbd hvb3 HVR
                        go_wp2_with fail
                        refine hcall.mono ?_
                        clear hcall
                        rintro e we ⟨⟨vo3, rfl, hvo3⟩, hbe⟩
                        have hke := HKd.out.later hbe
                        have hcall := sameInts_any _ _ _ _ we (HVR2.out.later hbe) (hvo3.readI (by rw [intsOf_length]; have := readyTo_len ts (inL s3.recs) ts.length; omega))
                        rw [decide_eq_true rfl] at hcall
                        have HKe : Hid (KM w6.heap.size w7.heap.size L ts s3 s3.recs s3.recs.length (.slice va q vc) (.slice (some ⟨ga, 0, none⟩) (q + 1) gc) w6 we) := hke
                        clear HKd hke hbe hvo3 HVR2
                        go_wp2_with fail
                        refine hcall.mono ?_
                        clear hcall
                        rintro e wf ⟨rfl, qf, rfl⟩
                        have hkf := HKe.out.drewN qf
                        have HKf : Hid (KM w6.heap.size w7.heap.size L ts s3 s3.recs s3.recs.length (.slice va q vc) (.slice (some ⟨ga, 0, none⟩) (q + 1) gc) w6 (we.drewN qf)) := hkf
                        have hby : ∀ n, Calls Tryd.prog 14 #[.pointer (some ⟨L, 0, none⟩)] ((we.drewN qf).drewN n) fun e w' => e = .returned (.int .i64 ((2 * q : Nat) : Int)) ∧ w' = (we.drewN qf).drewN n := fun n => by
                          have := (hkf.drewN n).bytesC
                          rw [HCB.out.1] at this
                          exact this
                        have hsf : ∀ n, Calls Tryd.prog 15 #[.pointer (some ⟨L, 0, none⟩)] ((we.drewN qf).drewN n) fun e w' => e = .returned (.int .i64 ((2 * q : Nat) : Int)) ∧ w' = (we.drewN qf).drewN n := fun n => by
                          have := (hkf.drewN n).safeC
                          rw [HCB.out.2] at this
                          exact this
                        obtain ⟨g5, c5, hve, _, hmc⟩ := hkf.shapeM
                        have hrl : s3.recs.length = q := by
                          simp only [Value.slice.injEq] at hve
                          omega
                        simp only [Value.slice.injEq, Option.some.injEq, Addr.mk.injEq, and_true] at hve
                        obtain ⟨rfl, hdum, rfl⟩ := hve
                        clear hdum
                        have hcq := hmc q (by omega)
                        obtain ⟨tq, htq⟩ : ∃ tq, tq = 2 * q := ⟨_, rfl⟩
                        rw [← htq] at hby hsf hcq
                        clear hkf hmc hrl HKe HO3 hlr3 HCB htq
                        generalize we.drewN qf = WW at *
                        go_wp2
                        go_quiet (first | (go_at_call 14; exact Calls.quiet_of_same (hby _)) | (go_at_call 15; exact Calls.quiet_of_same (hsf _)))
                        go_wp2
                        go_roundw
                        case rel => exact ⟨r + 1, i2, _, _, by omega, hi2, rfl, rfl, rfl, by go_num, s3, HKf.out.drewN _⟩
                        case measure => simp [intOf]; omega
        · have q1 : (r : Int) ≤ (fails.length : Int) := by omega
          have q2 : ¬ (r : Int) < 4 := by omega
          have HF : Hid (Below w.heap.size w wr) := by
            obtain ⟨s, hk⟩ := hK.out
            exact HBK.out _ hk.below
          go_wp2
          go_ret
          exact ⟨rfl, HF.out⟩
      · have q1 : ¬ (r : Int) ≤ (fails.length : Int) := by omega
        have HF : Hid (Below w.heap.size w wr) := by
          obtain ⟨s, hk⟩ := hK.out
          exact HBK.out _ hk.below
        go_wp2
        go_ret
        exact ⟨rfl, HF.out⟩
  · have hcall := newL_bad _ ts w6 (HP.out.later HB6.out) HCK0.out hq0
    rw [errV_some hq0] at hcall
    go_wp2_with fail
    refine hcall.mono ?_
    clear hcall
    rintro e w7 ⟨rfl, hb7⟩
    have HB7 : Hid (Below w.heap.size w w7) := HB6.out.trans (hb7.mono HB6.out.size)
    have hcall := check_any _ ts w7 (HP.out.later HB7.out)
    clear hb7
    go_wp2_with fail
    refine hcall.mono ?_
    clear hcall
    rintro e w8 ⟨⟨p, q, rfl, hck⟩, hb8⟩
    have hqq : q = q0 := (hck.det HCK0.out).2
    subst hqq
    rw [errV_some hq0]
    have HF : Hid (Below w.heap.size w w8) := HB7.out.trans (hb8.mono HB7.out.size)
    clear hb8 hck hq0
    go_wp2
    go_ret
    exact ⟨rfl, HF.out⟩
end Go.Proofs.YtbknbakbfblbiaaDoor
