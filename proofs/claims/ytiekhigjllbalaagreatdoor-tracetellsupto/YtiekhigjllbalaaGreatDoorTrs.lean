/- The document's ReadDeeds: the walk. -/
import Derived.Test.YtiekhigjllbalaaGreatDoorTrr
import Derived.Deep.QuietTactic
import Derived.BigQuiet
namespace Go.Proofs.YtiekhigjllbalaaGreatDoor
open Go.RowKit Go.Deep

set_option maxRecDepth 100000 in
set_option maxHeartbeats 4000000 in
theorem readDeeds_any (t : List UInt8) (w : World) (ht : t.length ≤ 1048576) :
    Calls Tryz.prog 13 #[.string ⟨t.toArray⟩] w fun e w' => (∃ v, e = .returned (.tuple #[v, .int .i64 (pErr t)]) ∧ RowD w.heap.size w' v (pDeeds t)) ∧ Below w.heap.size w w' := by
  have hcut := fun W => cutS_any t 10 W ht
  obtain ⟨n, hn⟩ : ∃ n, (splitC 10 t).length = n + 1 := ⟨(splitC 10 t).length - 1, by have := List.length_pos_iff.2 (splitC_ne 10 t); omega⟩
  obtain ⟨hf1, hf2, hf3⟩ := lines_facts hn
  have hnt : n ≤ 1048576 := by have := splitC_len 10 t; omega
  have HSH : Hid (∀ i, i < n + 1 → ((splitC 10 t).getD i []).length ≤ 1048576) := fun i hi => by
    refine Nat.le_trans (split_short 10 t _ ?_) ht
    rw [List.getD_eq_getElem?_getD, List.getElem?_eq_getElem (by omega)]
    exact List.getElem_mem _
  have HTK : Hid (∀ i, i < n → (splitC 10 t).take (i + 1) = (splitC 10 t).take i ++ [(splitC 10 t).getD i []]) := fun i hi => take_snoc (by omega)
  have HT0 : Hid ((splitC 10 t).length = n + 1) := hn
  have HF1 : Hid ((splitC 10 t).getD n [] ≠ [] → pErr t = 2 ∧ pDeeds t = []) := hf1
  have HF2 : Hid (∀ i, i < n → deedOf ((splitC 10 t).getD i []) = none → pErr t = 2 ∧ pDeeds t = []) := hf2
  have HF3 : Hid ((splitC 10 t).getD n [] = [] → ∀ ds, allOf deedOf ((splitC 10 t).take n) = some ds → pErr t = deedsErr ds ∧ pDeeds t = if deedsErr ds = 0 then ds else []) := hf3
  clear hf1 hf2 hf3
  unfold StrsAt at hcut
  rw [hn] at hcut
  clear hn
  generalize splitC 10 t = ls at *
  generalize pErr t = pe at *
  generalize pDeeds t = pd at *
  go_enter Tryz.func13, Tryz.ntmps13
  go_wp2_with fail
  refine (hcut _).mono ?_
  clear hcut
  rintro e w1 ⟨⟨ov, rfl, g, c, rfl, hg, hcell⟩, hb1⟩
  have HBW : Hid (Below w.heap.size w w1) := ((Below.refl _ _).alloc (Nat.le_refl _) _).trans (hb1.mono (by simp))
  have HTB : Hid (∀ k, k < 7 → w1.cell? ⟨w.heap.size, k, none⟩ = some (wordsRow k)) := fun k hk => by
    refine (hb1.cell (p := ⟨w.heap.size, k, none⟩) (by simp)).trans ?_
    unfold World.cell?
    rw [blk_alloc_new]
    rcases (show k = 0 ∨ k = 1 ∨ k = 2 ∨ k = 3 ∨ k = 4 ∨ k = 5 ∨ k = 6 by omega) with rfl | rfl | rfl | rfl | rfl | rfl | rfl <;> rfl
  have HWS : Hid (w.heap.size < w1.heap.size) := (show _ < _ by have := hb1.size; rw [nblk_alloc] at this; omega)
  have HCE : Hid (∀ k, k < n + 1 → w1.cell? ⟨g, k, none⟩ = some (strV (ls.getD k []))) := hcell
  have hcn : w1.cell? ⟨g, n, none⟩ = some (.string ⟨(ls.getD n []).toArray⟩) := hcell n (by omega)
  clear hb1 hcell
  generalize hL : ls.getD n [] = ln at *
  clear hL
  by_cases hl0 : ln = []
  case neg =>
    have hne : ¬ (⟨ln.toArray⟩ : ByteArray) = ⟨#[]⟩ := fun e => hl0 (by have := congrArg (fun b : ByteArray => b.data.toList) e; simpa using this)
    have hbq : (ln == []) = false := by cases ln <;> simp_all
    have hbq2 : ([] == ln) = false := by cases ln <;> simp_all
    go_wp2
    go_ret2
    obtain ⟨e1, e2⟩ := HF1.out hl0
    subst e1 e2
    exact ⟨⟨_, rfl, RowD.nil _ _⟩, HBW.out⟩
  subst hl0
  go_wp2
  go_loopw [6, 7] (fun s6 s7 wr => ∃ ds : List Deed, ∃ i : Nat, i ≤ n ∧ s7 = .int .i64 i ∧ Hid (RowD w1.heap.size wr s6 ds) ∧ Hid (allOf deedOf (ls.take i) = some ds) ∧ Hid (Below w1.heap.size w1 wr)) (fun _ s7 _ => n - (intOf s7).toNat)
  case atStart => exact ⟨[], 0, Nat.zero_le _, rfl, RowD.nil _ _, rfl, Below.refl _ _⟩
  case round =>
    obtain ⟨ds, i, hi, rfl, hrow, hal, hb⟩ := hrel
    have HDL : Hid (ds.length = i) := by
      have h := allOf_len _ _ _ hal.out
      rw [List.length_take] at h
      have := HT0.out
      exact (show _ = _ by omega)
    by_cases hin : i < n
    · have hci : wr.cell? ⟨g, i, none⟩ = some (.string ⟨(ls.getD i []).toArray⟩) := (hb.out.cell (p := ⟨g, i, none⟩) hg).trans (HCE.out i (by omega))
      have hcw := cutS_any (ls.getD i []) 32 wr (HSH.out i (by omega))
      have HB2 := HF2.out i hin
      have HBAD : Hid (deedOf (ls.getD i []) = none → pe = 2 ∧ pd = []) := HB2
      have HAL2 : Hid (∀ d, deedOf (ls.getD i []) = some d → allOf deedOf (ls.take (i + 1)) = some (ds ++ [d])) := fun d hd => by rw [HTK.out i hin]; exact allOf_snoc _ _ _ _ _ hal.out hd
      have HLL : Hid ((ls.getD i []).length ≤ 1048576) := HSH.out i (by omega)
      clear HB2
      generalize ls.getD i [] = l at *
      obtain ⟨wd, ws, hsp⟩ : ∃ wd ws, splitC 32 l = wd :: ws := by
        cases h : splitC 32 l with
        | nil => exact absurd h (splitC_ne 32 l)
        | cons a b => exact ⟨a, b, rfl⟩
      rw [deedOf_words l hsp] at HBAD HAL2
      have HWL : Hid (∀ k, k < ws.length + 1 → ((wd :: ws).getD k []).length ≤ 1048576) := fun k hk => by
        refine Nat.le_trans (split_short 32 l _ ?_) (HLL.out)
        rw [hsp, List.getD_eq_getElem?_getD, List.getElem?_eq_getElem (by simpa using hk)]
        exact List.getElem_mem _
      unfold StrsAt at hcw
      rw [hsp] at hcw
      clear hsp
      go_wp2_with fail
      refine hcw.mono ?_
      clear hcw hci
      rintro e w2 ⟨⟨ov2, rfl, g2, c2, rfl, hg2, hc2⟩, hb2⟩
      have hc20 : w2.cell? ⟨g2, 0, none⟩ = some (.string ⟨wd.toArray⟩) := hc2 0 (by simp)
      have HC2 : Hid (∀ k, k < ws.length → w2.cell? ⟨g2, k + 1, none⟩ = some (.string ⟨(ws.getD k []).toArray⟩)) := fun k hk => hc2 (k + 1) (by simpa using hk)
      have HB2 : Hid (Below w1.heap.size w1 w2) := hb.out.trans (hb2.mono hb.out.size)
      have HROW2 : Hid (RowD w1.heap.size w2 u6 ds) := hrow.out.later hb2
      rw [List.length_cons]
      clear hc2 hb2 hrow hb
      go_wp2
      go_loopw [10] (fun s10 wr' => ∃ k : Nat, 1 ≤ k ∧ k ≤ 7 ∧ s10 = .int .i64 k ∧ Hid (wr'.heap[w2.heap.size]? = some (.cells #[.int .i64 (whatTo wd k), .int .i64 0, .int .i64 0, .int .i64 0] 34 (0, 0))) ∧ Hid (Below w2.heap.size w2 wr')) (fun s10 _ => 7 - (intOf s10).toNat)
      case atStart => exact ⟨1, by omega, by omega, rfl, (show _ = _ by rw [whatTo_one]; exact blk_alloc_new _ _), (Below.refl _ _).alloc (Nat.le_refl _) _⟩
      case round =>
        obtain ⟨k, hk1, hk7, rfl, hD, hbk⟩ := hrel
        by_cases hkk : k < 7
        · have d0 : wr.cell? ⟨g2, 0, none⟩ = some (.string ⟨wd.toArray⟩) := (hbk.out.cell (p := ⟨g2, 0, none⟩) hg2).trans hc20
          have dk : wr.cell? ⟨w.heap.size, k, none⟩ = some (wordsRow k) := (hbk.out.cell (p := ⟨w.heap.size, k, none⟩) (Nat.lt_of_lt_of_le HWS.out HB2.out.size)).trans ((HB2.out.cell (p := ⟨w.heap.size, k, none⟩) HWS.out).trans (HTB.out k hkk))
          unfold wordsRow at dk
          rw [if_neg (by omega)] at dk
          have hkI : (k : Int) < 7 := by omega
          by_cases he : whatD wd = (k : Int)
          · have hwd := (word_is hk1 (by omega)).2 he
            rw [← hwd] at dk
            have HQ : Hid (∀ q, (wr.drewN q).heap[w2.heap.size]? = some (.cells #[.int .i64 (whatTo wd k), .int .i64 0, .int .i64 0, .int .i64 0] 34 (0, 0)) ∧ Below w2.heap.size w2 (wr.drewN q)) := fun q => ⟨hD.out, hbk.out.trans ⟨rfl, rfl, rfl, Nat.le_refl _, fun _ _ => rfl⟩⟩
            have HNX : Hid (whatTo wd (k + 1) = (k : Int)) := whatTo_hit he
            clear hwd he hD hbk
            go_wp2
            go_quiet (fail)
            generalize hWq : wr.drewN _ = Wq
            obtain ⟨hDq, hbq⟩ := HQ.out _
            rw [hWq] at hDq hbq
            have q0 : Wq.cell? ⟨w2.heap.size, 0, none⟩ = some (.int .i64 (whatTo wd k)) := by simp [World.cell?, hDq]
            have f0 : Wq.frozen? ⟨w2.heap.size, 0, none⟩ = false := by simp [World.frozen?, hDq]
            have HDN : Hid ((Wq.setCell ⟨w2.heap.size, 0, none⟩ (.int .i64 (k : Int))).heap[w2.heap.size]? = some (.cells #[.int .i64 (whatTo wd (k + 1)), .int .i64 0, .int .i64 0, .int .i64 0] 34 (0, 0))) := (show _ = _ by rw [HNX.out]; exact blk_set_same Wq w2.heap.size 0 _ _ _ hDq)
            have HBN : Hid (Below w2.heap.size w2 (Wq.setCell ⟨w2.heap.size, 0, none⟩ (.int .i64 (k : Int)))) := hbq.setCell (p := ⟨w2.heap.size, 0, none⟩) (Nat.le_refl _) _
            clear hDq hbq hWq HQ
            go_wp2
            go_roundw
            case rel => exact ⟨k + 1, by omega, by omega, by go_num, HDN, HBN⟩
            case measure => simp [intOf]; omega
          · have hwd := fun e => he ((word_is hk1 (by omega)).1 e)
            have hne : ¬ (⟨wd.toArray⟩ : ByteArray) = ⟨(wordD (k : Int)).toArray⟩ := fun e => hwd (by have := congrArg (fun b : ByteArray => b.data.toList) e; simpa using this)
            have hbq : (wd == wordD (k : Int)) = false := beq_eq_false_iff_ne.2 hwd
            have HQ : Hid (∀ q, (wr.drewN q).heap[w2.heap.size]? = some (.cells #[.int .i64 (whatTo wd k), .int .i64 0, .int .i64 0, .int .i64 0] 34 (0, 0)) ∧ Below w2.heap.size w2 (wr.drewN q)) := fun q => ⟨hD.out, hbk.out.trans ⟨rfl, rfl, rfl, Nat.le_refl _, fun _ _ => rfl⟩⟩
            have HNX : Hid (whatTo wd (k + 1) = whatTo wd k) := whatTo_miss hk1 he
            clear hwd he hD hbk
            go_wp2
            go_quiet (fail)
            go_wp2
            go_roundw
            case rel => exact ⟨k + 1, by omega, by omega, by go_num, (show _ = _ by rw [HNX.out]; exact (HQ.out _).1), (HQ.out _).2⟩
            case measure => simp [intOf]; omega
        · have hk8 : k = 7 := by omega
          rw [hk8, whatTo_end] at hD
          clear hk8
          have HBADS : Hid (∀ j a b c, NumP ws j a b c → j < ws.length → ws.length = numsD (whatD wd) → num2 (ws.getD j []) = none → pe = 2 ∧ pd = []) := fun j a b c h1 h2 h3 h4 => HBAD.out (h1.bad h2 h3 h4)
          have HDONE : Hid (∀ a b c, NumP ws ws.length a b c → ws.length = numsD (whatD wd) → whatD wd ≠ 0 → allOf deedOf (ls.take (i + 1)) = some (ds ++ [(whatD wd, a, b, c)])) := fun a b c h1 h2 h3 => HAL2.out _ (h1.done rfl h2 h3)
          have HMANY : Hid (ws.length ≠ numsD (whatD wd) → pe = 2 ∧ pd = []) := fun h => HBAD.out (deedW_many h)
          have HZERO : Hid (whatD wd = 0 → pe = 2 ∧ pd = []) := fun h => HBAD.out (deedW_none h)
          have hwr : 0 ≤ whatD wd ∧ whatD wd ≤ 6 := by rcases whatD_cases wd with h | ⟨h, _⟩ <;> omega
          have HFB : Hid (∀ wx, Below w2.heap.size w2 wx → Below w.heap.size w wx) := fun wx h => HBW.out.trans ((HB2.out.trans (h.mono HB2.out.size)).mono HBW.out.size)
          clear HBAD HAL2 hal
          generalize whatD wd = wt at *
          have e0 : wr.cell? ⟨w2.heap.size, 0, none⟩ = some (.int .i64 wt) := by simp [World.cell?, hD.out]
          by_cases hz : wt = 0
          · have HZ : Hid (pe = 2 ∧ pd = []) := HZERO.out hz
            clear HZERO HMANY HDONE HBADS
            subst hz
            go_wp2
            go_ret2
            obtain ⟨e1, e2⟩ := HZ.out
            subst e1 e2
            exact ⟨⟨_, rfl, RowD.nil _ _⟩, HFB.out _ hbk.out⟩
          have hzb : (wt == 0) = false := by simpa using hz
          rcases (show wt = 2 ∨ (¬ wt = 2 ∧ 4 < wt) ∨ (¬ wt = 2 ∧ ¬ 4 < wt) by omega) with h2 | ⟨h2, h4⟩ | ⟨h2, h4⟩
          · subst h2
            have HND : Hid (numsD 2 = 3) := rfl
            by_cases hlen : ws.length = 3
            · have HLEN : Hid (ws.length = 3) := hlen
              have hlB : (((ws.length : Int) + 1) != 4) = false := by rw [hlen]; rfl
              clear hlen
              go_wp2
              go_loopw [12] (fun s12 wx => ∃ j : Nat, ∃ a b c : Int, j ≤ 3 ∧ s12 = .int .i64 ((j : Int) + 1) ∧ Hid (NumP ws j a b c) ∧ Hid (wx.heap[w2.heap.size]? = some (.cells #[.int .i64 2, .int .i64 a, .int .i64 b, .int .i64 c] 34 (0, 0))) ∧ Hid (Below w2.heap.size w2 wx)) (fun s12 _ => 3 + 1 - (intOf s12).toNat)
              case atStart => exact ⟨0, 0, 0, 0, Nat.zero_le _, rfl, NumP.zero ws, hD, hbk⟩
              case round =>
                clear hD hbk e0
                obtain ⟨j, a, b, c, hj, rfl, hnp, hD, hbk⟩ := hrel
                by_cases hjl : j < 3
                · have hcj : wr.cell? ⟨g2, j + 1, none⟩ = some (.string ⟨(ws.getD j []).toArray⟩) := (hbk.out.cell (p := ⟨g2, j + 1, none⟩) hg2).trans (HC2.out j (by have := HLEN.out; omega))
                  have hnum := numberR_any (ws.getD j []) wr (by have := HWL.out (j + 1) (by have := HLEN.out; omega); simpa using this)
                  have HX := HBADS.out j a b c hnp.out (by have := HLEN.out; omega) (by rw [HND.out]; exact HLEN.out)
                  have HXX : Hid (num2 (ws.getD j []) = none → pe = 2 ∧ pd = []) := HX
                  have hjI : (j : Int) < 3 := by omega
                  have hjw : j < ws.length := by have := HLEN.out; omega
                  obtain ⟨x, hx⟩ : ∃ x, x = ws.getD j [] := ⟨_, rfl⟩
                  rw [← hx] at hcj hnum HXX
                  clear HX
                  cases hm : num2 x
                  case none =>
                    rw [hm] at hnum
                    obtain ⟨e1, e2⟩ := HXX.out hm
                    clear HXX hm hx
                    subst e1 e2
                    go_wp2_with fail
                    refine hnum.mono ?_
                    rintro e w4 ⟨rfl, hb4⟩
                    clear hnum
                    have HB4 : Hid (Below w.heap.size w w4) := HFB.out _ (hbk.out.trans (hb4.mono hbk.out.size))
                    clear hb4
                    go_wp2
                    go_ret2
                    exact ⟨⟨_, rfl, RowD.nil _ _⟩, HB4.out⟩
                  case some m =>
                    rw [hm] at hnum
                    clear HXX
                    have HM : Hid (num2 (ws.getD j []) = some m) := (show _ = _ by rw [← hx]; exact hm)
                    clear hm hx
                    go_wp2_with fail
                    refine hnum.mono ?_
                    rintro e w4 ⟨rfl, hb4⟩
                    clear hnum
                    have hD4 := (hb4.block w2.heap.size (Array.getElem?_eq_some_iff.1 hD.out).1).trans hD.out
                    have HB4 : Hid (Below w2.heap.size w2 w4) := hbk.out.trans (hb4.mono hbk.out.size)
                    clear hb4 hD hbk
                    by_cases hq0 : j = 0
                    · subst hq0
                      have q0 : w4.cell? ⟨w2.heap.size, 1, none⟩ = some (.int .i64 a) := by simp [World.cell?, hD4]
                      have f0 : w4.frozen? ⟨w2.heap.size, 1, none⟩ = false := by simp [World.frozen?, hD4]
                      have HDN : Hid ((w4.setCell ⟨w2.heap.size, 1, none⟩ (.int .i64 (m : Int))).heap[w2.heap.size]? = some (.cells #[.int .i64 2, .int .i64 (m : Int), .int .i64 b, .int .i64 c] 34 (0, 0))) := blk_set_same w4 w2.heap.size 1 _ _ _ hD4
                      have HBN : Hid (Below w2.heap.size w2 (w4.setCell ⟨w2.heap.size, 1, none⟩ (.int .i64 (m : Int)))) := HB4.out.setCell (p := ⟨w2.heap.size, 1, none⟩) (Nat.le_refl _) _
                      have HNP : Hid (NumP ws 1 (m : Int) b c) := hnp.out.first hjw HM.out
                      clear hD4 HB4 hnp HM
                      go_wp2
                      go_roundw
                      case rel => exact ⟨1, (m : Int), b, c, by omega, by go_num, HNP, HDN, HBN⟩
                      case measure => simp [intOf]
                    by_cases hq1 : j = 1
                    · subst hq1
                      have q0 : w4.cell? ⟨w2.heap.size, 2, none⟩ = some (.int .i64 b) := by simp [World.cell?, hD4]
                      have f0 : w4.frozen? ⟨w2.heap.size, 2, none⟩ = false := by simp [World.frozen?, hD4]
                      have HDN : Hid ((w4.setCell ⟨w2.heap.size, 2, none⟩ (.int .i64 (m : Int))).heap[w2.heap.size]? = some (.cells #[.int .i64 2, .int .i64 a, .int .i64 (m : Int), .int .i64 c] 34 (0, 0))) := blk_set_same w4 w2.heap.size 2 _ _ _ hD4
                      have HBN : Hid (Below w2.heap.size w2 (w4.setCell ⟨w2.heap.size, 2, none⟩ (.int .i64 (m : Int)))) := HB4.out.setCell (p := ⟨w2.heap.size, 2, none⟩) (Nat.le_refl _) _
                      have HNP : Hid (NumP ws 2 a (m : Int) c) := hnp.out.second hjw HM.out
                      clear hD4 HB4 hnp HM
                      go_wp2
                      go_roundw
                      case rel => exact ⟨2, a, (m : Int), c, by omega, by go_num, HNP, HDN, HBN⟩
                      case measure => simp [intOf]
                    obtain rfl : j = 2 := by omega
                    have q0 : w4.cell? ⟨w2.heap.size, 3, none⟩ = some (.int .i64 c) := by simp [World.cell?, hD4]
                    have f0 : w4.frozen? ⟨w2.heap.size, 3, none⟩ = false := by simp [World.frozen?, hD4]
                    have HDN : Hid ((w4.setCell ⟨w2.heap.size, 3, none⟩ (.int .i64 (m : Int))).heap[w2.heap.size]? = some (.cells #[.int .i64 2, .int .i64 a, .int .i64 b, .int .i64 (m : Int)] 34 (0, 0))) := blk_set_same w4 w2.heap.size 3 _ _ _ hD4
                    have HBN : Hid (Below w2.heap.size w2 (w4.setCell ⟨w2.heap.size, 3, none⟩ (.int .i64 (m : Int)))) := HB4.out.setCell (p := ⟨w2.heap.size, 3, none⟩) (Nat.le_refl _) _
                    have HNP : Hid (NumP ws 3 a b (m : Int)) := hnp.out.third hjw HM.out
                    clear hD4 HB4 hnp HM
                    go_wp2
                    go_roundw
                    case rel => exact ⟨3, a, b, (m : Int), by omega, by go_num, HNP, HDN, HBN⟩
                    case measure => simp [intOf]
                · obtain rfl : j = 3 := by omega
                  have hAL := HDONE.out a b c (by rw [HLEN.out]; exact hnp.out) (by rw [HND.out]; exact HLEN.out) (by omega)
                  have HAL : Hid (allOf deedOf (ls.take (i + 1)) = some (ds ++ [(2, a, b, c)])) := hAL
                  have q0 : wr.cell? ⟨w2.heap.size, 0, none⟩ = some (.int .i64 2) := by simp [World.cell?, hD.out]
                  have q1 : wr.cell? ⟨w2.heap.size, 1, none⟩ = some (.int .i64 a) := by simp [World.cell?, hD.out]
                  have q2 : wr.cell? ⟨w2.heap.size, 2, none⟩ = some (.int .i64 b) := by simp [World.cell?, hD.out]
                  have q3 : wr.cell? ⟨w2.heap.size, 3, none⟩ = some (.int .i64 c) := by simp [World.cell?, hD.out]
                  obtain ⟨i3, hi3, hz0, hz1, hz2⟩ := info_parts Tryz.infoDeed
                  have hR2 : (wr.alloc (.cells #[.int .i64 2, .int .i64 a, .int .i64 b, .int .i64 c] 34)).ownsRow w1.heap.size 34 4 u6 ds.length (flat4 ds) := (HROW2.out.later hbk.out).alloc _
                  have hbA : Below w1.heap.size w1 (wr.alloc (.cells #[.int .i64 2, .int .i64 a, .int .i64 b, .int .i64 c] 34)) := (HB2.out.trans (hbk.out.mono HB2.out.size)).alloc (HB2.out.trans (hbk.out.mono HB2.out.size)).size _
                  have hsz1 : w1.heap.size ≤ wr.heap.size := (HB2.out.trans (hbk.out.mono HB2.out.size)).size
                  have hsrc := cell_four_new wr wr.heap.size rfl (.int .i64 2) (.int .i64 a) (.int .i64 b) (.int .i64 c) 34
                  have hdl := HDL.out
                  clear hAL hD hbk hnp
                  go_wp2_with (at_builtin; refine wpList_append_own _ rfl (.tmp 95) (.tmp 97) 24 rfl w1.heap.size 34 i3 (.agg #[.int .i64 0, .int .i64 0, .int .i64 0, .int .i64 0]) 4 32 Tryz.underlying24 hi3 hz0 hz1 hz2 rfl (by decide) _ ds.length (flat4 ds) rfl hR2 ⟨wr.heap.size, 0, none⟩ 1 1 [.int .i64 2, .int .i64 a, .int .i64 b, .int .i64 c] rfl rfl hsrc ?d2 ?d3 ?d4 ?d5 ?_)
                  case d2 => intro u hu; simp at hu; rcases hu with rfl | rfl | rfl | rfl <;> rfl
                  case d3 => unfold maxLen; omega
                  case d4 => omega
                  case d5 => first | omega | (simp; omega)
                  intro v' w5 hown' hgrow _
                  have HB5 : Hid (Below w1.heap.size w1 w5) := hbA.grown hgrow (by simp; omega) (fun k e => (hR2.lt k e).1)
                  have HN5 : Hid (RowD w1.heap.size w5 v' (ds ++ [(2, a, b, c)])) := by
                    show w5.ownsRow _ _ _ _ _ _
                    rw [List.length_append, flat4_append, flat4_one, HDL.out]
                    exact hown'
                  clear hown' hgrow hR2 hbA
                  go_wp2
                  go_roundw
                  case rel => exact ⟨ds ++ [(2, a, b, c)], i + 1, by omega, by go_num, HN5, HAL, HB5⟩
                  case measure => simp [intOf]; omega
            · have hlI : ¬ (ws.length : Int) = 3 := by omega
              have hlI2 : ¬ (ws.length : Int) + 1 = 4 := by omega
              have hlI3 : (((ws.length : Int) + 1) != 4) = true := by simp; omega
              go_wp2
              go_ret2
              obtain ⟨e1, e2⟩ := HMANY.out (by rw [HND.out]; exact hlen)
              subst e1 e2
              exact ⟨⟨_, rfl, RowD.nil _ _⟩, HFB.out _ hbk.out⟩
          · have HND : Hid (numsD wt = 1) := (show _ = _ by unfold numsD; rw [if_neg h2, if_pos h4])
            have h2b : (wt == 2) = false := by simpa using h2
            by_cases hlen : ws.length = 1
            · have HLEN : Hid (ws.length = 1) := hlen
              have hlB : (((ws.length : Int) + 1) != 2) = false := by rw [hlen]; rfl
              clear hlen
              go_wp2
              go_loopw [12] (fun s12 wx => ∃ j : Nat, ∃ a b c : Int, j ≤ 1 ∧ s12 = .int .i64 ((j : Int) + 1) ∧ Hid (NumP ws j a b c) ∧ Hid (wx.heap[w2.heap.size]? = some (.cells #[.int .i64 wt, .int .i64 a, .int .i64 b, .int .i64 c] 34 (0, 0))) ∧ Hid (Below w2.heap.size w2 wx)) (fun s12 _ => 1 + 1 - (intOf s12).toNat)
              case atStart => exact ⟨0, 0, 0, 0, Nat.zero_le _, rfl, NumP.zero ws, hD, hbk⟩
              case round =>
                clear hD hbk e0
                obtain ⟨j, a, b, c, hj, rfl, hnp, hD, hbk⟩ := hrel
                by_cases hjl : j < 1
                · have hcj : wr.cell? ⟨g2, j + 1, none⟩ = some (.string ⟨(ws.getD j []).toArray⟩) := (hbk.out.cell (p := ⟨g2, j + 1, none⟩) hg2).trans (HC2.out j (by have := HLEN.out; omega))
                  have hnum := numberR_any (ws.getD j []) wr (by have := HWL.out (j + 1) (by have := HLEN.out; omega); simpa using this)
                  have HX := HBADS.out j a b c hnp.out (by have := HLEN.out; omega) (by rw [HND.out]; exact HLEN.out)
                  have HXX : Hid (num2 (ws.getD j []) = none → pe = 2 ∧ pd = []) := HX
                  have hjI : (j : Int) < 1 := by omega
                  have hjw : j < ws.length := by have := HLEN.out; omega
                  obtain ⟨x, hx⟩ : ∃ x, x = ws.getD j [] := ⟨_, rfl⟩
                  rw [← hx] at hcj hnum HXX
                  clear HX
                  cases hm : num2 x
                  case none =>
                    rw [hm] at hnum
                    obtain ⟨e1, e2⟩ := HXX.out hm
                    clear HXX hm hx
                    subst e1 e2
                    go_wp2_with fail
                    refine hnum.mono ?_
                    rintro e w4 ⟨rfl, hb4⟩
                    clear hnum
                    have HB4 : Hid (Below w.heap.size w w4) := HFB.out _ (hbk.out.trans (hb4.mono hbk.out.size))
                    clear hb4
                    go_wp2
                    go_ret2
                    exact ⟨⟨_, rfl, RowD.nil _ _⟩, HB4.out⟩
                  case some m =>
                    rw [hm] at hnum
                    clear HXX
                    have HM : Hid (num2 (ws.getD j []) = some m) := (show _ = _ by rw [← hx]; exact hm)
                    clear hm hx
                    go_wp2_with fail
                    refine hnum.mono ?_
                    rintro e w4 ⟨rfl, hb4⟩
                    clear hnum
                    have hD4 := (hb4.block w2.heap.size (Array.getElem?_eq_some_iff.1 hD.out).1).trans hD.out
                    have HB4 : Hid (Below w2.heap.size w2 w4) := hbk.out.trans (hb4.mono hbk.out.size)
                    clear hb4 hD hbk
                    obtain rfl : j = 0 := by omega
                    have q0 : w4.cell? ⟨w2.heap.size, 1, none⟩ = some (.int .i64 a) := by simp [World.cell?, hD4]
                    have f0 : w4.frozen? ⟨w2.heap.size, 1, none⟩ = false := by simp [World.frozen?, hD4]
                    have HDN : Hid ((w4.setCell ⟨w2.heap.size, 1, none⟩ (.int .i64 (m : Int))).heap[w2.heap.size]? = some (.cells #[.int .i64 wt, .int .i64 (m : Int), .int .i64 b, .int .i64 c] 34 (0, 0))) := blk_set_same w4 w2.heap.size 1 _ _ _ hD4
                    have HBN : Hid (Below w2.heap.size w2 (w4.setCell ⟨w2.heap.size, 1, none⟩ (.int .i64 (m : Int)))) := HB4.out.setCell (p := ⟨w2.heap.size, 1, none⟩) (Nat.le_refl _) _
                    have HNP : Hid (NumP ws 1 (m : Int) b c) := hnp.out.first hjw HM.out
                    clear hD4 HB4 hnp HM
                    go_wp2
                    go_roundw
                    case rel => exact ⟨1, (m : Int), b, c, by omega, by go_num, HNP, HDN, HBN⟩
                    case measure => simp [intOf]
                · obtain rfl : j = 1 := by omega
                  have hAL := HDONE.out a b c (by rw [HLEN.out]; exact hnp.out) (by rw [HND.out]; exact HLEN.out) (by omega)
                  have HAL : Hid (allOf deedOf (ls.take (i + 1)) = some (ds ++ [(wt, a, b, c)])) := hAL
                  have q0 : wr.cell? ⟨w2.heap.size, 0, none⟩ = some (.int .i64 wt) := by simp [World.cell?, hD.out]
                  have q1 : wr.cell? ⟨w2.heap.size, 1, none⟩ = some (.int .i64 a) := by simp [World.cell?, hD.out]
                  have q2 : wr.cell? ⟨w2.heap.size, 2, none⟩ = some (.int .i64 b) := by simp [World.cell?, hD.out]
                  have q3 : wr.cell? ⟨w2.heap.size, 3, none⟩ = some (.int .i64 c) := by simp [World.cell?, hD.out]
                  obtain ⟨i3, hi3, hz0, hz1, hz2⟩ := info_parts Tryz.infoDeed
                  have hR2 : (wr.alloc (.cells #[.int .i64 wt, .int .i64 a, .int .i64 b, .int .i64 c] 34)).ownsRow w1.heap.size 34 4 u6 ds.length (flat4 ds) := (HROW2.out.later hbk.out).alloc _
                  have hbA : Below w1.heap.size w1 (wr.alloc (.cells #[.int .i64 wt, .int .i64 a, .int .i64 b, .int .i64 c] 34)) := (HB2.out.trans (hbk.out.mono HB2.out.size)).alloc (HB2.out.trans (hbk.out.mono HB2.out.size)).size _
                  have hsz1 : w1.heap.size ≤ wr.heap.size := (HB2.out.trans (hbk.out.mono HB2.out.size)).size
                  have hsrc := cell_four_new wr wr.heap.size rfl (.int .i64 wt) (.int .i64 a) (.int .i64 b) (.int .i64 c) 34
                  have hdl := HDL.out
                  clear hAL hD hbk hnp
                  go_wp2_with (at_builtin; refine wpList_append_own _ rfl (.tmp 95) (.tmp 97) 24 rfl w1.heap.size 34 i3 (.agg #[.int .i64 0, .int .i64 0, .int .i64 0, .int .i64 0]) 4 32 Tryz.underlying24 hi3 hz0 hz1 hz2 rfl (by decide) _ ds.length (flat4 ds) rfl hR2 ⟨wr.heap.size, 0, none⟩ 1 1 [.int .i64 wt, .int .i64 a, .int .i64 b, .int .i64 c] rfl rfl hsrc ?d2 ?d3 ?d4 ?d5 ?_)
                  case d2 => intro u hu; simp at hu; rcases hu with rfl | rfl | rfl | rfl <;> rfl
                  case d3 => unfold maxLen; omega
                  case d4 => omega
                  case d5 => first | omega | (simp; omega)
                  intro v' w5 hown' hgrow _
                  have HB5 : Hid (Below w1.heap.size w1 w5) := hbA.grown hgrow (by simp; omega) (fun k e => (hR2.lt k e).1)
                  have HN5 : Hid (RowD w1.heap.size w5 v' (ds ++ [(wt, a, b, c)])) := by
                    show w5.ownsRow _ _ _ _ _ _
                    rw [List.length_append, flat4_append, flat4_one, HDL.out]
                    exact hown'
                  clear hown' hgrow hR2 hbA
                  go_wp2
                  go_roundw
                  case rel => exact ⟨ds ++ [(wt, a, b, c)], i + 1, by omega, by go_num, HN5, HAL, HB5⟩
                  case measure => simp [intOf]; omega
            · have hlI : ¬ (ws.length : Int) = 1 := by omega
              have hlI2 : ¬ (ws.length : Int) + 1 = 2 := by omega
              have hlI3 : (((ws.length : Int) + 1) != 2) = true := by simp; omega
              go_wp2
              go_ret2
              obtain ⟨e1, e2⟩ := HMANY.out (by rw [HND.out]; exact hlen)
              subst e1 e2
              exact ⟨⟨_, rfl, RowD.nil _ _⟩, HFB.out _ hbk.out⟩
          · have HND : Hid (numsD wt = 2) := (show _ = _ by unfold numsD; rw [if_neg h2, if_neg h4])
            have h2b : (wt == 2) = false := by simpa using h2
            by_cases hlen : ws.length = 2
            · have HLEN : Hid (ws.length = 2) := hlen
              have hlB : (((ws.length : Int) + 1) != 3) = false := by rw [hlen]; rfl
              clear hlen
              go_wp2
              go_loopw [12] (fun s12 wx => ∃ j : Nat, ∃ a b c : Int, j ≤ 2 ∧ s12 = .int .i64 ((j : Int) + 1) ∧ Hid (NumP ws j a b c) ∧ Hid (wx.heap[w2.heap.size]? = some (.cells #[.int .i64 wt, .int .i64 a, .int .i64 b, .int .i64 c] 34 (0, 0))) ∧ Hid (Below w2.heap.size w2 wx)) (fun s12 _ => 2 + 1 - (intOf s12).toNat)
              case atStart => exact ⟨0, 0, 0, 0, Nat.zero_le _, rfl, NumP.zero ws, hD, hbk⟩
              case round =>
                clear hD hbk e0
                obtain ⟨j, a, b, c, hj, rfl, hnp, hD, hbk⟩ := hrel
                by_cases hjl : j < 2
                · have hcj : wr.cell? ⟨g2, j + 1, none⟩ = some (.string ⟨(ws.getD j []).toArray⟩) := (hbk.out.cell (p := ⟨g2, j + 1, none⟩) hg2).trans (HC2.out j (by have := HLEN.out; omega))
                  have hnum := numberR_any (ws.getD j []) wr (by have := HWL.out (j + 1) (by have := HLEN.out; omega); simpa using this)
                  have HX := HBADS.out j a b c hnp.out (by have := HLEN.out; omega) (by rw [HND.out]; exact HLEN.out)
                  have HXX : Hid (num2 (ws.getD j []) = none → pe = 2 ∧ pd = []) := HX
                  have hjI : (j : Int) < 2 := by omega
                  have hjw : j < ws.length := by have := HLEN.out; omega
                  obtain ⟨x, hx⟩ : ∃ x, x = ws.getD j [] := ⟨_, rfl⟩
                  rw [← hx] at hcj hnum HXX
                  clear HX
                  cases hm : num2 x
                  case none =>
                    rw [hm] at hnum
                    obtain ⟨e1, e2⟩ := HXX.out hm
                    clear HXX hm hx
                    subst e1 e2
                    go_wp2_with fail
                    refine hnum.mono ?_
                    rintro e w4 ⟨rfl, hb4⟩
                    clear hnum
                    have HB4 : Hid (Below w.heap.size w w4) := HFB.out _ (hbk.out.trans (hb4.mono hbk.out.size))
                    clear hb4
                    go_wp2
                    go_ret2
                    exact ⟨⟨_, rfl, RowD.nil _ _⟩, HB4.out⟩
                  case some m =>
                    rw [hm] at hnum
                    clear HXX
                    have HM : Hid (num2 (ws.getD j []) = some m) := (show _ = _ by rw [← hx]; exact hm)
                    clear hm hx
                    go_wp2_with fail
                    refine hnum.mono ?_
                    rintro e w4 ⟨rfl, hb4⟩
                    clear hnum
                    have hD4 := (hb4.block w2.heap.size (Array.getElem?_eq_some_iff.1 hD.out).1).trans hD.out
                    have HB4 : Hid (Below w2.heap.size w2 w4) := hbk.out.trans (hb4.mono hbk.out.size)
                    clear hb4 hD hbk
                    by_cases hq0 : j = 0
                    · subst hq0
                      have q0 : w4.cell? ⟨w2.heap.size, 1, none⟩ = some (.int .i64 a) := by simp [World.cell?, hD4]
                      have f0 : w4.frozen? ⟨w2.heap.size, 1, none⟩ = false := by simp [World.frozen?, hD4]
                      have HDN : Hid ((w4.setCell ⟨w2.heap.size, 1, none⟩ (.int .i64 (m : Int))).heap[w2.heap.size]? = some (.cells #[.int .i64 wt, .int .i64 (m : Int), .int .i64 b, .int .i64 c] 34 (0, 0))) := blk_set_same w4 w2.heap.size 1 _ _ _ hD4
                      have HBN : Hid (Below w2.heap.size w2 (w4.setCell ⟨w2.heap.size, 1, none⟩ (.int .i64 (m : Int)))) := HB4.out.setCell (p := ⟨w2.heap.size, 1, none⟩) (Nat.le_refl _) _
                      have HNP : Hid (NumP ws 1 (m : Int) b c) := hnp.out.first hjw HM.out
                      clear hD4 HB4 hnp HM
                      go_wp2
                      go_roundw
                      case rel => exact ⟨1, (m : Int), b, c, by omega, by go_num, HNP, HDN, HBN⟩
                      case measure => simp [intOf]
                    obtain rfl : j = 1 := by omega
                    have q0 : w4.cell? ⟨w2.heap.size, 2, none⟩ = some (.int .i64 b) := by simp [World.cell?, hD4]
                    have f0 : w4.frozen? ⟨w2.heap.size, 2, none⟩ = false := by simp [World.frozen?, hD4]
                    have HDN : Hid ((w4.setCell ⟨w2.heap.size, 2, none⟩ (.int .i64 (m : Int))).heap[w2.heap.size]? = some (.cells #[.int .i64 wt, .int .i64 a, .int .i64 (m : Int), .int .i64 c] 34 (0, 0))) := blk_set_same w4 w2.heap.size 2 _ _ _ hD4
                    have HBN : Hid (Below w2.heap.size w2 (w4.setCell ⟨w2.heap.size, 2, none⟩ (.int .i64 (m : Int)))) := HB4.out.setCell (p := ⟨w2.heap.size, 2, none⟩) (Nat.le_refl _) _
                    have HNP : Hid (NumP ws 2 a (m : Int) c) := hnp.out.second hjw HM.out
                    clear hD4 HB4 hnp HM
                    go_wp2
                    go_roundw
                    case rel => exact ⟨2, a, (m : Int), c, by omega, by go_num, HNP, HDN, HBN⟩
                    case measure => simp [intOf]
                · obtain rfl : j = 2 := by omega
                  have hAL := HDONE.out a b c (by rw [HLEN.out]; exact hnp.out) (by rw [HND.out]; exact HLEN.out) (by omega)
                  have HAL : Hid (allOf deedOf (ls.take (i + 1)) = some (ds ++ [(wt, a, b, c)])) := hAL
                  have q0 : wr.cell? ⟨w2.heap.size, 0, none⟩ = some (.int .i64 wt) := by simp [World.cell?, hD.out]
                  have q1 : wr.cell? ⟨w2.heap.size, 1, none⟩ = some (.int .i64 a) := by simp [World.cell?, hD.out]
                  have q2 : wr.cell? ⟨w2.heap.size, 2, none⟩ = some (.int .i64 b) := by simp [World.cell?, hD.out]
                  have q3 : wr.cell? ⟨w2.heap.size, 3, none⟩ = some (.int .i64 c) := by simp [World.cell?, hD.out]
                  obtain ⟨i3, hi3, hz0, hz1, hz2⟩ := info_parts Tryz.infoDeed
                  have hR2 : (wr.alloc (.cells #[.int .i64 wt, .int .i64 a, .int .i64 b, .int .i64 c] 34)).ownsRow w1.heap.size 34 4 u6 ds.length (flat4 ds) := (HROW2.out.later hbk.out).alloc _
                  have hbA : Below w1.heap.size w1 (wr.alloc (.cells #[.int .i64 wt, .int .i64 a, .int .i64 b, .int .i64 c] 34)) := (HB2.out.trans (hbk.out.mono HB2.out.size)).alloc (HB2.out.trans (hbk.out.mono HB2.out.size)).size _
                  have hsz1 : w1.heap.size ≤ wr.heap.size := (HB2.out.trans (hbk.out.mono HB2.out.size)).size
                  have hsrc := cell_four_new wr wr.heap.size rfl (.int .i64 wt) (.int .i64 a) (.int .i64 b) (.int .i64 c) 34
                  have hdl := HDL.out
                  clear hAL hD hbk hnp
                  go_wp2_with (at_builtin; refine wpList_append_own _ rfl (.tmp 95) (.tmp 97) 24 rfl w1.heap.size 34 i3 (.agg #[.int .i64 0, .int .i64 0, .int .i64 0, .int .i64 0]) 4 32 Tryz.underlying24 hi3 hz0 hz1 hz2 rfl (by decide) _ ds.length (flat4 ds) rfl hR2 ⟨wr.heap.size, 0, none⟩ 1 1 [.int .i64 wt, .int .i64 a, .int .i64 b, .int .i64 c] rfl rfl hsrc ?d2 ?d3 ?d4 ?d5 ?_)
                  case d2 => intro u hu; simp at hu; rcases hu with rfl | rfl | rfl | rfl <;> rfl
                  case d3 => unfold maxLen; omega
                  case d4 => omega
                  case d5 => first | omega | (simp; omega)
                  intro v' w5 hown' hgrow _
                  have HB5 : Hid (Below w1.heap.size w1 w5) := hbA.grown hgrow (by simp; omega) (fun k e => (hR2.lt k e).1)
                  have HN5 : Hid (RowD w1.heap.size w5 v' (ds ++ [(wt, a, b, c)])) := by
                    show w5.ownsRow _ _ _ _ _ _
                    rw [List.length_append, flat4_append, flat4_one, HDL.out]
                    exact hown'
                  clear hown' hgrow hR2 hbA
                  go_wp2
                  go_roundw
                  case rel => exact ⟨ds ++ [(wt, a, b, c)], i + 1, by omega, by go_num, HN5, HAL, HB5⟩
                  case measure => simp [intOf]; omega
            · have hlI : ¬ (ws.length : Int) = 2 := by omega
              have hlI2 : ¬ (ws.length : Int) + 1 = 3 := by omega
              have hlI3 : (((ws.length : Int) + 1) != 3) = true := by simp; omega
              go_wp2
              go_ret2
              obtain ⟨e1, e2⟩ := HMANY.out (by rw [HND.out]; exact hlen)
              subst e1 e2
              exact ⟨⟨_, rfl, RowD.nil _ _⟩, HFB.out _ hbk.out⟩
    · obtain rfl : i = n := by omega
      obtain ⟨hp1, hp2⟩ := HF3.out (by first | trivial | rfl) ds hal.out
      have hds : ds.length ≤ 1048576 := by have := HDL.out; omega
      have hde := dDeeds_any u6 ds wr (hrow.out.at (by omega))
      have HBF : Hid (∀ wx, Below wr.heap.size wr wx → Below w.heap.size w wx) := fun wx h => HBW.out.trans ((hb.out.trans (h.mono hb.out.size)).mono HBW.out.size)
      have HRF : Hid (∀ wx, Below wr.heap.size wr wx → RowD w.heap.size wx u6 ds) := fun wx h => (hrow.out.later h).mono (HBW.out.size)
      have HP1 : Hid (pe = deedsErr ds) := hp1
      have HP2 : Hid (pd = if deedsErr ds = 0 then ds else []) := hp2
      clear hp1 hp2 hrow hb hal
      generalize deedsErr ds = de at *
      go_wp2_with fail
      refine hde.mono ?_
      clear hde
      rintro e w6 ⟨rfl, hb6⟩
      have HB6 : Hid (Below w.heap.size w w6) := HBF.out _ hb6
      have HR6 : Hid (RowD w.heap.size w6 u6 ds) := HRF.out _ hb6
      clear hb6 HBF HRF
      by_cases hd0 : de = 0
      · subst hd0
        have h2 := HP2.out
        rw [if_pos rfl] at h2
        obtain rfl := HP1.out
        subst h2
        go_wp2
        go_ret2
        exact ⟨⟨_, rfl, HR6.out⟩, HB6.out⟩
      · have h2 := HP2.out
        rw [if_neg hd0] at h2
        have h1 := HP1.out
        go_wp2
        go_ret2
        subst h1 h2
        exact ⟨⟨_, rfl, RowD.nil _ _⟩, HB6.out⟩
end Go.Proofs.YtiekhigjllbalaaGreatDoor
