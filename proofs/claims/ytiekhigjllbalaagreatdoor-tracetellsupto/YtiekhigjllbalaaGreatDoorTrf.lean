/- trace.Parse: the contract of readLine. -/
import Derived.Test.YtiekhigjllbalaaGreatDoorTre
namespace Go.Proofs.YtiekhigjllbalaaGreatDoor
open Go.RowKit Go.Deep

theorem nsD_snoc (ns : List Nat) (m k : Nat) : (if k = ns.length then m else ns.getD k 0) = (ns ++ [m]).getD k 0 := by
  rw [List.getD_eq_getElem?_getD, List.getD_eq_getElem?_getD]
  by_cases e : k = ns.length
  · rw [if_pos e, e]; simp
  · rw [if_neg e]
    by_cases h : k < ns.length
    · rw [List.getElem?_append_left h]
    · rw [List.getElem?_eq_none (by omega), List.getElem?_eq_none (by simp; omega)]
def numRow (ns : List Nat) : Nat → Value := fun k => .int .i64 ((ns.getD k 0 : Nat) : Int)
theorem numRow_set (ns : List Nat) (m i : Nat) (h : ns.length = i) (j : Nat) : (if j = i then Value.int .i64 (m : Int) else numRow ns j) = numRow (ns ++ [m]) j := by
  unfold numRow
  rw [← nsD_snoc, h]
  by_cases e : j = i
  · rw [if_pos e, if_pos e]
  · rw [if_neg e, if_neg e]
set_option maxRecDepth 100000 in
set_option maxHeartbeats 8000000 in
theorem readLine_any (l : List UInt8) (hl : l.length ≤ 9223372036854775806) (w : World) (hf : FormsAt w) (hs : Synt w) : Calls Tryz.prog 29 #[strL l] w (LineOut l w) := by
  obtain ⟨W, hW⟩ : ∃ W, W = w.alloc (.cells #[.int .i64 0, .int .i64 0, .int .i64 0, .int .i64 0] 34) := ⟨_, rfl⟩
  have hbW : Below w.heap.size w W := by rw [hW]; exact (Below.refl _ _).alloc (Nat.le_refl _) _
  have hrb : W.heap[w.heap.size]? = some (.cells #[.int .i64 0, .int .i64 0, .int .i64 0, .int .i64 0] 34 (0, 0)) := by rw [hW]; exact blk_alloc_new _ _
  have hcs := cutNl_any l hl W
  have hll : (sufN l).1.length ≤ l.length := by unfold sufN; split <;> simp
  have hcb := fun wx => cut_blank (sufN l).1 (by omega) wx
  have HRW : Hid (∀ wx, Below W.heap.size W wx → Calls Tryz.prog 47 #[strL (cutB 32 (sufN l).1).1] wx fun e w' => e = .returned (.tuple #[.int .i64 (whatD (cutB 32 (sufN l).1).1), .bool (decide (whatD (cutB 32 (sufN l).1).1 ≠ 0))]) ∧ Below wx.heap.size wx w') := fun wx hb => readWord_any _ wx ((hf.later hbW).later hb)
  have HB0 : Hid (∀ wx, Below W.heap.size W wx → Below w.heap.size w wx ∧ wx.heap[w.heap.size]? = some (.cells #[.int .i64 0, .int .i64 0, .int .i64 0, .int .i64 0] 34 (0, 0)) ∧ FormsAt wx ∧ Synt wx) := fun wx hb => ⟨hbW.trans (hb.mono hbW.size), (hb.block _ (lt_of_block hrb)).trans hrb, (hf.later hbW).later hb, (hs.later hbW).later hb⟩
  have HW : Hid (W = w.alloc (.cells #[.int .i64 0, .int .i64 0, .int .i64 0, .int .i64 0] 34)) := hW
  obtain ⟨ws, hsp, hrem⟩ := RemW.cut (sufN l).1
  have hcl := cutB_len 32 (sufN l).1
  clear hW hbW hrb hf hs
  unfold strL at hcs ⊢
  by_cases hend : l.getLast? = some 10
  case neg =>
    have HN : Hid (lineD l = none) := if_neg hend
    have he : (sufN l).2 = false := by unfold sufN; rw [if_neg hend]
    rw [he] at hcs
    clear hsp hrem hcl hend he
    unfold strL at hcb HRW
    generalize (cutB 32 (sufN l).1).1 = wd at *
    generalize (cutB 32 (sufN l).1).2.1 = rs at *
    generalize (cutB 32 (sufN l).1).2.2 = mr at *
    generalize (sufN l).1 = ln at *
    generalize whatD wd = wh at *
    generalize decide (wh ≠ 0) = ok at *
    go_enter Tryz.func29, Tryz.ntmps29
    go_upto_region 1 with fail
    rw [← HW.out]
    go_wp2_with (first | (go_at_call 45; refine hcs.mono ?_; clear hcs; rintro e w1 ⟨rfl, rfl⟩) | (go_at_call 46; refine (hcb _).mono ?_; clear hcb; rintro e w2 ⟨rfl, hb2⟩; have hrw := HRW.out w2 hb2; have HB2 : Hid (Below w1.heap.size w1 w2) := hb2; clear HRW hb2) | (go_at_call 47; refine hrw.mono ?_; clear hrw; rintro e w3 ⟨rfl, hb3⟩; obtain ⟨hB, hrs, -, -⟩ := HB0.out w3 (HB2.out.trans (hb3.mono HB2.out.size)); have q0 : w3.cell? ⟨w.heap.size, 0, none⟩ = some (.int .i64 0) := (by simp [World.cell?, hrs]); have q1 : w3.cell? ⟨w.heap.size, 1, none⟩ = some (.int .i64 0) := (by simp [World.cell?, hrs]); have q2 : w3.cell? ⟨w.heap.size, 2, none⟩ = some (.int .i64 0) := (by simp [World.cell?, hrs]); have q3 : w3.cell? ⟨w.heap.size, 3, none⟩ = some (.int .i64 0) := (by simp [World.cell?, hrs]); have ff : ∀ j, w3.frozen? ⟨w.heap.size, j, none⟩ = false := (fun j => by simp [World.frozen?, hrs]); have HRS : Hid (Below w.heap.size w w3 ∧ w3.heap[w.heap.size]? = some (.cells #[.int .i64 0, .int .i64 0, .int .i64 0, .int .i64 0] 34 (0, 0))) := ⟨hB, hrs⟩; clear hb3 hB hrs))
    exact deed_ret2 Tryz.results29 (deed4_block HRS.out.2 _ _ _ _) rfl rfl rfl (LineOut.no HN.out _ _ _ _ (deed4_below HRS.out.1 (Nat.le_refl _) _ _ _ _))
  case pos =>
    have he : (sufN l).2 = true := by unfold sufN; rw [if_pos hend]
    have hln : (sufN l).1 = l.dropLast := by unfold sufN; rw [if_pos hend]
    have hLD : lineD l = deedW (cutB 32 (sufN l).1).1 ws := by unfold lineD; rw [if_pos hend, ← hln]; exact deedOf_words _ hsp
    rw [he] at hcs
    clear hend he hln hsp
    by_cases hw0 : whatD (cutB 32 (sufN l).1).1 = 0
    · have HN : Hid (lineD l = none) := (show lineD l = none by rw [hLD]; unfold deedW; rw [if_pos hw0])
      rw [hw0] at HRW
      clear hLD hrem hcl hw0
      unfold strL at hcb HRW
      generalize (cutB 32 (sufN l).1).1 = wd at *
      generalize (cutB 32 (sufN l).1).2.1 = rs at *
      generalize (cutB 32 (sufN l).1).2.2 = mr at *
      generalize (sufN l).1 = ln at *
      go_enter Tryz.func29, Tryz.ntmps29
      go_upto_region 1 with fail
      rw [← HW.out]
      go_wp2_with (first | (go_at_call 45; refine hcs.mono ?_; clear hcs; rintro e w1 ⟨rfl, rfl⟩) | (go_at_call 46; refine (hcb _).mono ?_; clear hcb; rintro e w2 ⟨rfl, hb2⟩; have hrw := HRW.out w2 hb2; have HB2 : Hid (Below w1.heap.size w1 w2) := hb2; clear HRW hb2) | (go_at_call 47; refine hrw.mono ?_; clear hrw; rintro e w3 ⟨rfl, hb3⟩; obtain ⟨hB, hrs, -, -⟩ := HB0.out w3 (HB2.out.trans (hb3.mono HB2.out.size)); have q0 : w3.cell? ⟨w.heap.size, 0, none⟩ = some (.int .i64 0) := (by simp [World.cell?, hrs]); have q1 : w3.cell? ⟨w.heap.size, 1, none⟩ = some (.int .i64 0) := (by simp [World.cell?, hrs]); have q2 : w3.cell? ⟨w.heap.size, 2, none⟩ = some (.int .i64 0) := (by simp [World.cell?, hrs]); have q3 : w3.cell? ⟨w.heap.size, 3, none⟩ = some (.int .i64 0) := (by simp [World.cell?, hrs]); have ff : ∀ j, w3.frozen? ⟨w.heap.size, j, none⟩ = false := (fun j => by simp [World.frozen?, hrs]); have HRS : Hid (Below w.heap.size w w3 ∧ w3.heap[w.heap.size]? = some (.cells #[.int .i64 0, .int .i64 0, .int .i64 0, .int .i64 0] 34 (0, 0))) := ⟨hB, hrs⟩; clear hb3 hB hrs))
      exact deed_ret2 Tryz.results29 (deed4_block HRS.out.2 _ _ _ _) rfl rfl rfl (LineOut.no HN.out _ _ _ _ (deed4_below HRS.out.1 (Nat.le_refl _) _ _ _ _))
    · obtain ⟨h1, -⟩ : (1 ≤ whatD (cutB 32 (sufN l).1).1 ∧ whatD (cutB 32 (sufN l).1).1 ≤ 6) ∧ True := by
        rcases whatD_cases (cutB 32 (sufN l).1).1 with h | h
        · exact absurd h hw0
        · exact ⟨h.1, trivial⟩
      unfold deedW at hLD
      rw [if_neg hw0] at hLD
      rw [decide_eq_true hw0] at HRW
      unfold strL at hcb HRW
      have hnl := numsD_le (whatD (cutB 32 (sufN l).1).1)
      have HRL : Hid ((cutB 32 (sufN l).1).2.1.length ≤ 9223372036854775806) := (show _ ≤ _ by omega)
      generalize (cutB 32 (sufN l).1).1 = wd at *
      generalize (cutB 32 (sufN l).1).2.1 = rs at *
      generalize (cutB 32 (sufN l).1).2.2 = mr at *
      generalize (sufN l).1 = ln at *
      obtain ⟨k, hk⟩ : ∃ k : Nat, whatD wd = (k : Int) + 1 := ⟨(whatD wd - 1).toNat, by omega⟩
      have hk6 : k < 6 := by omega
      have hki : (k : Int) < 6 := by omega
      generalize whatD wd = wh at *
      have hsub : IntKind.i64.wrap (wh - 1) = (k : Int) := by rw [hk, Int.add_sub_cancel]; rw [IntKind.wrap_i64]; omega
      have HFM : Hid (∀ wx, FormsAt wx → wx.cell? ⟨0, k * 2 + 1, none⟩ = some (.int .i64 ((numsD wh : Nat) : Int))) := fun wx h => by rw [hk]; exact (h.2 k hk6).2
      generalize hnn : numsD wh = n at *
      have HLD : Hid (lineD l = match numsR n ws with | some (ns, []) => some (wh, ((ns.getD 0 0 : Nat) : Int), ((ns.getD 1 0 : Nat) : Int), ((ns.getD 2 0 : Nat) : Int)) | _ => none) := hLD
      have HRM : Hid (RemW rs mr ws) := hrem
      clear hLD hrem hcl hw0 h1 hk hnn hll hl
      go_enter Tryz.func29, Tryz.ntmps29
      go_upto_region 1 with fail
      rw [← HW.out]
      go_wp2_with (first | (go_at_call 45; refine hcs.mono ?_; clear hcs; rintro e w1 ⟨rfl, rfl⟩) | (go_at_call 46; refine (hcb _).mono ?_; clear hcb; rintro e w2 ⟨rfl, hb2⟩; have hrw := HRW.out w2 hb2; have HB2 : Hid (Below w1.heap.size w1 w2) := hb2; clear HRW hb2) | (go_at_call 47; refine hrw.mono ?_; clear hrw; rintro e w3 ⟨rfl, hb3⟩; have hb13 := HB2.out.trans (hb3.mono HB2.out.size); have hfm := HFM.out _ (HB0.out _ (hb13.alloc hb13.size (.cells #[.int .i64 0, .int .i64 0, .int .i64 0] 93))).2.2.1; have HB3 : Hid (Below w1.heap.size w1 w3) := hb13; clear hb3 hb13 HB2 HFM))
      have HR0 : Hid ((w3.alloc (.cells #[.int .i64 0, .int .i64 0, .int .i64 0] 93)).rowIs w3.heap.size 93 3 (numRow [])) := World.rowIs_alloc w3 #[.int .i64 0, .int .i64 0, .int .i64 0] 93 (numRow []) (fun i hi => by
        have hi3 : i < 3 := hi
        rcases (by omega : i = 0 ∨ i = 1 ∨ i = 2) with rfl | rfl | rfl <;> rfl)
      have HB4 : Hid (Below w1.heap.size w1 (w3.alloc (.cells #[.int .i64 0, .int .i64 0, .int .i64 0] 93))) := HB3.out.alloc HB3.out.size _
      have HLT : Hid (w1.heap.size ≤ w3.heap.size ∧ w.heap.size < w1.heap.size) := ⟨HB3.out.size, lt_of_block (HB0.out w1 (Below.refl _ _)).2.1⟩
      clear hfm HW HB3
      go_loopw [6, 7, 40] (fun s6 s7 s40 wr => ∃ (i : Nat) (ns : List Nat) (rest : List UInt8) (more : Bool) (r : List (List UInt8)), i ≤ n ∧ s40 = .int .i64 i ∧ s6 = .string ⟨rest.toArray⟩ ∧ s7 = .bool more ∧ Hid (numsR i ws = some (ns, r) ∧ RemW rest more r ∧ rest.length ≤ 9223372036854775806) ∧ Hid (wr.rowIs w3.heap.size 93 3 (numRow ns)) ∧ Hid (Below w1.heap.size w1 wr)) (fun _ _ s40 _ => n - (intOf s40).toNat)
      case atStart => exact ⟨0, [], rs, mr, ws, Nat.zero_le _, rfl, rfl, rfl, ⟨rfl, HRM.out, HRL.out⟩, HR0, HB4⟩
      case round =>
        clear HR0 HB4 HRM HRL
        obtain ⟨i, ns, rest, more, r, hi, rfl, rfl, rfl, hN, hrow, hB⟩ := hrel
        obtain ⟨hBw, hrs, hfr, hsr⟩ := HB0.out wr hB.out
        have hnlen := numsR_len i ws ns r hN.out.1
        by_cases hin : i < n
        · have hi3 : i < 3 := by omega
          have hi3i : (i : Int) < 3 := by omega
          have hcut := fun wx => cut_blank rest hN.out.2.2 wx
          have HNM : Hid (∀ wx, Below wr.heap.size wr wx → Calls Tryz.prog 48 #[strL (cutB 32 rest).1] wx fun e w' => (∃ n : Int, e = .returned (.tuple #[.int .i64 n, .bool (num2 (cutB 32 rest).1).isSome]) ∧ ∀ m : Nat, num2 (cutB 32 rest).1 = some m → n = m) ∧ Below wx.heap.size wx w') := fun wx hb => readNum_any _ (by have := (cutB_len 32 rest).1; have := hN.out.2.2; omega) wx (hsr.later hb)
          have HKP : Hid (∀ wx, Below wr.heap.size wr wx → wx.rowIs w3.heap.size 93 3 (numRow ns) ∧ Below w1.heap.size w1 wx) := fun wx hb => ⟨hrow.out.of_block (hb.block _ hrow.out.lt), hB.out.trans (hb.mono hB.out.size)⟩
          cases hm : num2 (cutB 32 rest).1
          case none =>
            have HBAD : Hid (lineD l = none) := by
              have : numsR n ws = none := by
                rcases hN.out.2.1.next with ⟨e, _, _⟩ | ⟨r', e, _, _⟩
                · exact numsR_stop i ws ns (by rw [hN.out.1, e]) n hin
                · exact numsR_bad i ws ns _ r' (by rw [hN.out.1, e]) hm n hin
              show lineD l = none
              rw [HLD.out, this]
            rw [hm] at HNM
            unfold strL at hcut HNM
            clear hm hN hrow hB hnlen hfr hsr HLD hBw hrs
            generalize (cutB 32 rest).1 = wd2 at *
            generalize (cutB 32 rest).2.1 = rs2 at *
            generalize (cutB 32 rest).2.2 = mr2 at *
            go_wp2_with (first | (go_at_call 46; refine (hcut _).mono ?_; clear hcut; rintro e w5 ⟨rfl, hb5⟩; have hnm := HNM.out w5 hb5; have HB5 : Hid (Below wr.heap.size wr w5) := hb5; clear HNM hb5) | (go_at_call 48; refine hnm.mono ?_; clear hnm; rintro e w6 ⟨⟨z, rfl, -⟩, hb6⟩; obtain ⟨hrw6, hb16⟩ := HKP.out w6 (HB5.out.trans (hb6.mono HB5.out.size)); have cc := hrw6.cell hi3; have cf := hrw6.frozen i; unfold numRow at cc; have HQ : Hid (Below w.heap.size w (w6.setCell ⟨w3.heap.size, i, none⟩ (.int .i64 z)) ∧ (w6.setCell ⟨w3.heap.size, i, none⟩ (.int .i64 z)).heap[w.heap.size]? = some (.cells #[.int .i64 0, .int .i64 0, .int .i64 0, .int .i64 0] 34 (0, 0))) := ⟨(HB0.out w6 hb16).1.setCell (p := ⟨w3.heap.size, i, none⟩) (by have := HLT.out; show w.heap.size ≤ w3.heap.size; omega) _, (Below.heap_setCell _ _ _ _ (by have := HLT.out; show w.heap.size ≠ w3.heap.size; omega)).trans (HB0.out w6 hb16).2.1⟩; have hrs := HQ.out.2; have q0 : (w6.setCell ⟨w3.heap.size, i, none⟩ (.int .i64 z)).cell? ⟨w.heap.size, 0, none⟩ = some (.int .i64 0) := (by simp [World.cell?, hrs]); have q1 : (w6.setCell ⟨w3.heap.size, i, none⟩ (.int .i64 z)).cell? ⟨w.heap.size, 1, none⟩ = some (.int .i64 0) := (by simp [World.cell?, hrs]); have q2 : (w6.setCell ⟨w3.heap.size, i, none⟩ (.int .i64 z)).cell? ⟨w.heap.size, 2, none⟩ = some (.int .i64 0) := (by simp [World.cell?, hrs]); have q3 : (w6.setCell ⟨w3.heap.size, i, none⟩ (.int .i64 z)).cell? ⟨w.heap.size, 3, none⟩ = some (.int .i64 0) := (by simp [World.cell?, hrs]); have ff : ∀ j, (w6.setCell ⟨w3.heap.size, i, none⟩ (.int .i64 z)).frozen? ⟨w.heap.size, j, none⟩ = false := (fun j => by simp [World.frozen?, hrs]); clear hb6 hrw6 hb16 hrs))
            exact deed_ret2 Tryz.results29 (deed4_block HQ.out.2 _ _ _ _) rfl rfl rfl (LineOut.no HBAD.out _ _ _ _ (deed4_below HQ.out.1 (Nat.le_refl _) _ _ _ _))
          case some m =>
            have HST : Hid (∃ r', numsR (i + 1) ws = some (ns ++ [m], r') ∧ RemW (cutB 32 rest).2.1 (cutB 32 rest).2.2 r' ∧ (cutB 32 rest).2.1.length ≤ 9223372036854775806) := by
              rcases hN.out.2.1.next with ⟨_, e, _⟩ | ⟨r', e, hr', _⟩
              · rw [e] at hm; cases hm
              · exact ⟨r', numsR_step i ws ns _ r' m (by rw [hN.out.1, e]) hm, hr', by have := (cutB_len 32 rest).2; have := hN.out.2.2; omega⟩
            rw [hm] at HNM
            unfold strL at hcut HNM
            have HLEN : Hid (ns.length = i) := hnlen
            clear hm hN hrow hB hfr hsr hBw hrs hnlen
            generalize (cutB 32 rest).1 = wd2 at *
            generalize (cutB 32 rest).2.1 = rs2 at *
            generalize (cutB 32 rest).2.2 = mr2 at *
            go_wp2_with (first | (go_at_call 46; refine (hcut _).mono ?_; clear hcut; rintro e w5 ⟨rfl, hb5⟩; have hnm := HNM.out w5 hb5; have HB5 : Hid (Below wr.heap.size wr w5) := hb5; clear HNM hb5) | (go_at_call 48; refine hnm.mono ?_; clear hnm; rintro e w6 ⟨⟨z, rfl, hz⟩, hb6⟩; have hzm := hz m rfl; subst hzm; clear hz; obtain ⟨hrw6, hb16⟩ := HKP.out w6 (HB5.out.trans (hb6.mono HB5.out.size)); have cc := hrw6.cell hi3; have cf := hrw6.frozen i; unfold numRow at cc; have HR6 : Hid ((w6.setCell ⟨w3.heap.size, i, none⟩ (.int .i64 (m : Int))).rowIs w3.heap.size 93 3 (numRow (ns ++ [m]))) := (hrw6.set i _).congr (fun j _ => numRow_set ns m i HLEN.out j); have HB6 : Hid (Below w1.heap.size w1 (w6.setCell ⟨w3.heap.size, i, none⟩ (.int .i64 (m : Int)))) := hb16.setCell (p := ⟨w3.heap.size, i, none⟩) HLT.out.1 _; clear hb6 hrw6 hb16))
            go_roundw
            case rel =>
              obtain ⟨r', h1, h2, h3⟩ := HST.out
              exact ⟨i + 1, ns ++ [m], rs2, mr2, r', by omega, by go_num, rfl, rfl, ⟨h1, h2, h3⟩, HR6, HB6⟩
            case measure => simp [intOf]; omega
        · have hie : i = n := by omega
          subst hie
          have c0 := hrow.out.cell (i := 0) (by omega)
          have c1 := hrow.out.cell (i := 1) (by omega)
          have c2 := hrow.out.cell (i := 2) (by omega)
          unfold numRow at c0 c1 c2
          have q0 : wr.cell? ⟨w.heap.size, 0, none⟩ = some (.int .i64 0) := by simp [World.cell?, hrs]
          have q1 : wr.cell? ⟨w.heap.size, 1, none⟩ = some (.int .i64 0) := by simp [World.cell?, hrs]
          have q2 : wr.cell? ⟨w.heap.size, 2, none⟩ = some (.int .i64 0) := by simp [World.cell?, hrs]
          have q3 : wr.cell? ⟨w.heap.size, 3, none⟩ = some (.int .i64 0) := by simp [World.cell?, hrs]
          have ff : ∀ j, wr.frozen? ⟨w.heap.size, j, none⟩ = false := fun j => by simp [World.frozen?, hrs]
          have HQ : Hid (Below w.heap.size w wr ∧ wr.heap[w.heap.size]? = some (.cells #[.int .i64 0, .int .i64 0, .int .i64 0, .int .i64 0] 34 (0, 0))) := ⟨hBw, hrs⟩
          have hrem := hN.out.2.1
          have hNs := hN.out.1
          cases r
          case nil =>
            have hmo := hrem.none
            subst hmo
            have HY : Hid (lineD l = some (wh, ((ns.getD 0 0 : Nat) : Int), ((ns.getD 1 0 : Nat) : Int), ((ns.getD 2 0 : Nat) : Int))) := (show _ = _ by rw [HLD.out, hNs])
            clear hrem hNs hN HLD hB hrow hBw hrs hfr hsr hnlen
            generalize ns.getD 0 0 = z0 at *
            generalize ns.getD 1 0 = z1 at *
            generalize ns.getD 2 0 = z2 at *
            go_wp2
            exact deed_ret2 Tryz.results29 (deed4_block HQ.out.2 _ _ _ _) rfl rfl rfl (LineOut.yes HY.out (deed4_below HQ.out.1 (Nat.le_refl _) _ _ _ _))
          case cons x r =>
            have hmo := hrem.some
            subst hmo
            have HN : Hid (lineD l = none) := (show _ = _ by rw [HLD.out, hNs])
            clear hrem hNs hN HLD hB hrow hBw hrs hfr hsr hnlen
            generalize ns.getD 0 0 = z0 at *
            generalize ns.getD 1 0 = z1 at *
            generalize ns.getD 2 0 = z2 at *
            go_wp2
            exact deed_ret2 Tryz.results29 (deed4_block HQ.out.2 _ _ _ _) rfl rfl rfl (LineOut.no HN.out _ _ _ _ (deed4_below HQ.out.1 (Nat.le_refl _) _ _ _ _))
end Go.Proofs.YtiekhigjllbalaaGreatDoor
