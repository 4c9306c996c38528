/- The walk of TraceTells. -/
import Derived.Test.YtiekhigjllbalaaGreatDoorTrt
import Derived.Test.YtiekhigjllbalaaGreatDoorTdb
import Derived.Test.YtiekhigjllbalaaGreatDoorTpr
import Derived.Test.YtiekhigjllbalaaGreatDoorTco
import Derived.Test.YtiekhigjllbalaaGreatDoorTds
import Derived.Test.YtiekhigjllbalaaGreatDoorTke
import Derived.Test.YtiekhigjllbalaaGreatDoorI
import Derived.Test.YtiekhigjllbalaaGreatDoorRgt
import Derived.Test.YtiekhigjllbalaaGreatDoorM
import Derived.Deep.CutRange
import Derived.Deep.CutBlock
namespace Go.Proofs.YtiekhigjllbalaaGreatDoor
open Go.RowKit Go.Deep

/-- Counts of deeds by their words, so many. -/
def cntI (ds : List Deed) (n : Nat) : List Int := (List.range n).map (fun (k : Nat) => ((cntD ((k : Int) + 1) ds : Nat) : Int))
theorem cntI_succ (ds : List Deed) (n : Nat) : cntI ds (n + 1) = cntI ds n ++ [((cntD ((n : Int) + 1) ds : Nat) : Int)] := by
  unfold cntI; rw [List.range_succ, List.map_append]; rfl
theorem cntD_hit {ds : List Deed} {i : Nat} {a : Int} (hi : i < ds.length) (h : (ds.getD i (0, 0, 0, 0)).1 = a) : cntD a (ds.take (i + 1)) = cntD a (ds.take i) + 1 := by
  unfold cntD
  rw [List.take_add_one, List.filter_append, List.length_append, List.getElem?_eq_getElem hi]
  rw [List.getD_eq_getElem?_getD, List.getElem?_eq_getElem hi] at h
  simp only [Option.getD_some] at h
  simp [h]
theorem cntD_miss {ds : List Deed} {i : Nat} {a : Int} (hi : i < ds.length) (h : ¬ (ds.getD i (0, 0, 0, 0)).1 = a) : cntD a (ds.take (i + 1)) = cntD a (ds.take i) := by
  unfold cntD
  rw [List.take_add_one, List.filter_append, List.length_append, List.getElem?_eq_getElem hi]
  rw [List.getD_eq_getElem?_getD, List.getElem?_eq_getElem hi] at h
  simp only [Option.getD_some] at h
  simp [h]
theorem deedsText_snoc (ds : List Deed) (d : Deed) : deedsText (ds ++ [d]) = deedsText ds ++ deedText d ++ [10] := by
  unfold deedsText; simp

theorem pDeeds_len (t : List UInt8) : (pDeeds t).length ≤ 1000 := by
  unfold pDeeds
  split
  · rename_i h
    unfold pErr at h
    cases hd : deedsOf t with
    | none => rw [hd] at h; simp at h
    | some ds => rw [hd] at h; exact (deedsErr_zero h).1
  · simp
theorem RowI.readT {b : Nat} {w : World} {v : Value} {zs : List Int} (h : RowI b w v zs) (hl : zs.length ≤ 1000) : IntsAt w v zs := by
  refine ⟨by omega, ?_⟩
  by_cases h0 : zs = []
  · subst h0
    obtain ⟨a, c, hv⟩ := h.shape
    exact ⟨a, c, hv, Or.inl rfl⟩
  · obtain ⟨g, c, hv, _, hg, _⟩ := h.full (List.length_pos_iff.2 h0)
    subst hv
    exact ⟨_, c, rfl, Or.inr ⟨g, 0, rfl, hg, fun k hk => by rw [Nat.zero_add]; exact h.cell hk⟩⟩

set_option maxRecDepth 100000 in
set_option maxHeartbeats 4000000 in
theorem traceTells_any (pv dv : Value) (ts : List (Int × List Int)) (hands : Int) (ds : List Deed) (t : List UInt8) (w : World) (hp : PlanAt w pv ts) (hd : DeedsAt w dv ds) (ht : t.length ≤ 1048576) (hT : Typed w) (hF : FormsAt w) (hS : Synt w) :
    Calls Tryz.prog 3 #[pv, .int .i64 hands, dv, .string ⟨t.toArray⟩] w fun e w' => e = .returned (.bool true) ∧ Below w.heap.size w w' := by
  have hR := rightR_any pv ts w hp
  have HP : Hid (PlanAt w pv ts) := hp
  have HD : Hid (DeedsAt w dv ds) := hd
  have HK : Hid (Typed w ∧ FormsAt w ∧ Synt w) := ⟨hT, hF, hS⟩
  obtain ⟨_, da, dc, rfl, _⟩ := hd
  clear hp hT hF hS
  go_enter Tryz.func3, Tryz.ntmps3
  go_wp2_with fail
  refine hR.mono ?_
  clear hR
  rintro e w1 ⟨⟨p, q, rfl, hc⟩, hb1⟩
  have HB1 : Hid (Below w.heap.size w w1) := hb1
  have HC : Hid (CheckIs ts p q) := hc
  clear hb1 hc
  have HE : Hid (trChk q hands ts ds = if q = 0 ∧ (hands < 1 ∨ 6 < hands) then 1 else if q = 0 then toldErr ts hands.toNat ds else q) := (show _ = _ by unfold trChk; by_cases h : q = 0 <;> simp [h])
  go_upto_region 2 with fail
  go_cut [39] from 28 to 155 (fun s39 wx => (∃ bb : Bool, s39 = .bool bb ∧ Hid (bb = true ↔ q = 0 ∧ (hands < 1 ∨ 6 < hands))) ∧ w1 = wx)
  case first => as_aux_lemma =>
    by_cases hq : q = 0
    · have HQ : Hid (q = 0) := hq
      subst hq
      by_cases hh : hands < 1
      · go_wp2
        go_meet
        case rel => exact ⟨⟨true, rfl, iff_of_true rfl ⟨by first | trivial | rfl, Or.inl hh⟩⟩, rfl⟩
      by_cases hh6 : 6 < hands
      · go_wp2
        go_meet
        case rel => exact ⟨⟨true, rfl, iff_of_true rfl ⟨by first | trivial | rfl, Or.inr hh6⟩⟩, rfl⟩
      · go_wp2
        go_meet
        case rel => exact ⟨⟨false, rfl, iff_of_false (by simp) (fun h => by omega)⟩, rfl⟩
    · have hqb : (q == 0) = false := by simpa using hq
      go_wp2
      go_meet
      case rel => exact ⟨⟨false, rfl, iff_of_false (by simp) (fun h => hq h.1)⟩, rfl⟩
  case rest => as_aux_lemma =>
  obtain ⟨⟨bb, rfl, HBB⟩, rfl⟩ := hcut
  go_upto_if 39 with fail
  go_cut [9] from 28 to 155 (fun s9 wx => s9 = .int .i64 (if q = 0 ∧ (hands < 1 ∨ 6 < hands) then 1 else q) ∧ w1 = wx)
  case first => as_aux_lemma =>
    cases bb
    · go_wp2
      go_meet
      case rel => exact ⟨by rw [if_neg (fun h => absurd (HBB.out.2 h) (by simp))], rfl⟩
    · go_wp2
      go_meet
      case rel => exact ⟨by rw [if_pos (HBB.out.1 (by first | trivial | rfl))], rfl⟩
  case rest => as_aux_lemma =>
  obtain ⟨rfl, rfl⟩ := hcut
  clear HBB
  obtain ⟨e1, he1⟩ : ∃ e1, e1 = (if q = 0 ∧ (hands < 1 ∨ 6 < hands) then 1 else q : Int) := ⟨_, rfl⟩
  rw [← he1]
  have HE1 : Hid (e1 = (if q = 0 ∧ (hands < 1 ∨ 6 < hands) then 1 else q)) := he1
  clear he1
  go_upto_region 4 with fail
  go_cut [41] from 28 to 155 (fun s41 wx => s41 = .bool (e1 == 0) ∧ w1 = wx)
  case first => as_aux_lemma =>
    go_wp2
    go_meet
    case rel => exact ⟨rfl, rfl⟩
  case rest => as_aux_lemma =>
  obtain ⟨rfl, rfl⟩ := hcut
  go_upto_if 41 with fail
  go_cut [9] from 28 to 155 (fun s9 wx => s9 = .int .i64 (trChk q hands ts ds) ∧ Hid (Below w.heap.size w wx))
  case first => as_aux_lemma =>
    by_cases h0 : e1 = 0
    · have hq : q = 0 ∧ 1 ≤ hands ∧ hands ≤ 6 := by
        have h := HE1.out
        rw [h0] at h
        by_cases hb : q = 0 ∧ (hands < 1 ∨ 6 < hands)
        · rw [if_pos hb] at h; omega
        · rw [if_neg hb] at h; omega
      obtain ⟨hq, h1, h6⟩ := hq
      obtain ⟨hn, rfl⟩ := Int.eq_ofNat_of_zero_le (show 0 ≤ hands by omega)
      have HE2 : Hid (trChk q (hn : Int) ts ds = toldErr ts hn ds) := (show _ = _ by rw [HE.out, if_neg (by omega), if_pos hq]; rfl)
      obtain ⟨_, h30, hz, _⟩ := HC.out.ok hq
      have hto := told_any2 pv (.slice da ds.length dc) ts hn ds w1 (HP.out.later HB1.out) (inRange_of hz) h30 (by omega) (HD.out.later HB1.out)
      rw [h0]
      clear hz h30 h0
      go_wp2_with fail
      refine hto.mono ?_
      clear hto
      rintro e w2 ⟨rfl, hb2⟩
      have HB2 : Hid (Below w.heap.size w w2) := HB1.out.trans (hb2.mono HB1.out.size)
      clear hb2
      go_wp2
      go_meet
      case rel => exact ⟨by rw [HE2.out], HB2⟩
    · have HE2 : Hid (trChk q hands ts ds = e1) := (show _ = _ by
        have h := HE1.out
        rw [HE.out]
        by_cases hb : q = 0 ∧ (hands < 1 ∨ 6 < hands)
        · rw [if_pos hb] at h ⊢; exact h.symm
        · rw [if_neg hb] at h ⊢; rw [h] at h0; rw [if_neg h0]; exact h.symm)
      have h0b : (e1 == 0) = false := by simpa using h0
      rw [h0b]
      go_wp2
      go_meet
      case rel => exact ⟨by rw [HE2.out], HB1⟩
  case rest => as_aux_lemma =>
  obtain ⟨rfl, HB2⟩ := hcut
  have hck := trCheck_any pv (.slice da ds.length dc) ts hands ds wc (HP.out.later HB2.out) (HD.out.later HB2.out) p q HC.out
  clear HE HE1
  generalize trChk q hands ts ds = e2 at *
  go_wp2_with fail
  refine hck.mono ?_
  clear hck
  rintro e w3 ⟨rfl, hb3⟩
  have HB3 : Hid (Below w.heap.size w w3) := HB2.out.trans (hb3.mono HB2.out.size)
  have her := error_any e2 e2 w3 (HK.out.1.later HB3.out)
  clear hb3
  go_wp2_with fail
  refine her.mono ?_
  clear her
  rintro e w4 ⟨rfl, hb4⟩
  have HB4 : Hid (Below w.heap.size w w4) := HB3.out.trans (hb4.mono HB3.out.size)
  have hde := dDeeds_any (.slice da ds.length dc) ds w4 (HD.out.later HB4.out)
  rw [beq_self_eq_true]
  clear hb4
  go_wp2_with fail
  refine hde.mono ?_
  clear hde
  rintro e w5 ⟨rfl, hb5⟩
  have HB5 : Hid (Below w.heap.size w w5) := HB4.out.trans (hb5.mono HB4.out.size)
  clear hb5
  have hdl : ds.length * 32 ≤ 140737488351232 := HD.out.1
  obtain ⟨de, hde⟩ : ∃ de, de = deedsErr ds := ⟨_, rfl⟩
  rw [← hde]
  have HDE : Hid (de = deedsErr ds) := hde
  clear hde
  go_upto_block 0 with fail
  go_cut [12, 13, 14, 15] from 28 to 155 (fun s12 _ _ _ wx => ∃ (K : Nat) (vc : Value), vc = s12 ∧ ((de = 0 ∧ K = 6) ∨ (de ≠ 0 ∧ K = 0)) ∧ Hid (RowI w5.heap.size wx vc (cntI ds K)) ∧ Hid (Below w5.heap.size w5 wx))
  case first => as_aux_lemma =>
    go_wp2_with fail
    go_loopw [12, 13] (fun s12 s13 wr => ∃ k : Nat, k ≤ 6 ∧ (de ≠ 0 → k = 0) ∧ s13 = .int .i64 ((k : Int) + 1) ∧ Hid (RowI w5.heap.size wr s12 (cntI ds k)) ∧ Hid (Below w5.heap.size w5 wr)) (fun _ s13 _ => 7 - (intOf s13).toNat)
    case atStart => exact ⟨0, by omega, fun _ => rfl, rfl, RowI.nil _ _, Below.refl _ _⟩
    case round =>
      obtain ⟨k, hk, hk0, rfl, hrow, hb⟩ := hrel
      by_cases hcont : k < 6 ∧ de = 0
      · obtain ⟨hk6, hd0⟩ := hcont
        have hkI : (k : Int) + 1 ≤ 6 := by omega
        have hdb : (de == 0) = true := by simpa using hd0
        have HD0 : Hid (de = 0) := hd0
        clear hk0 hd0
        go_wp2
        go_loopw [14, 15] (fun s14 s15 wr' => ∃ j : Nat, j ≤ ds.length ∧ s15 = .int .i64 (j : Int) ∧ s14 = .int .i64 ((cntD ((k : Int) + 1) (ds.take j) : Nat) : Int) ∧ cntD ((k : Int) + 1) (ds.take j) ≤ j ∧ wr = wr') (fun _ s15 _ => ds.length - (intOf s15).toNat)
        case atStart => exact ⟨0, Nat.zero_le _, rfl, rfl, Nat.le_refl _, rfl⟩
        case round =>
          obtain ⟨j, hj, rfl, rfl, hcj, rfl⟩ := hrel
          have HBr : Hid (Below w.heap.size w wr) := HB5.out.trans (hb.out.mono HB5.out.size)
          by_cases hjl : j < ds.length
          · obtain ⟨b, o, hda, -, c0, -, -, -⟩ := (HD.out.later HBr.out).four hjl
            subst hda
            by_cases hx : (ds.getD j (0, 0, 0, 0)).1 = (k : Int) + 1
            · have HN : Hid (cntD ((k : Int) + 1) (ds.take (j + 1)) = cntD ((k : Int) + 1) (ds.take j) + 1) := cntD_hit hjl hx
              rw [hx] at c0
              clear hx
              generalize cntD ((k : Int) + 1) (ds.take j) = cj at *
              go_wp2
              go_roundw
              case rel => exact ⟨j + 1, by omega, by go_num, by rw [HN.out]; go_num, by rw [HN.out]; omega, by first | trivial | rfl⟩
              case measure => simp [intOf]; omega
            · have HN : Hid (cntD ((k : Int) + 1) (ds.take (j + 1)) = cntD ((k : Int) + 1) (ds.take j)) := cntD_miss hjl hx
              generalize (ds.getD j (0, 0, 0, 0)).1 = x at *
              have hxb : (x == (k : Int) + 1) = false := by simpa using hx
              generalize cntD ((k : Int) + 1) (ds.take j) = cj at *
              go_wp2
              go_roundw
              case rel => exact ⟨j + 1, by omega, by go_num, by rw [HN.out], by rw [HN.out]; omega, by first | trivial | rfl⟩
              case measure => simp [intOf]; omega
          · obtain rfl : j = ds.length := by omega
            rw [List.take_length] at hcj ⊢
            have HCN : Hid (cntI ds (k + 1) = cntI ds k ++ [((cntD ((k : Int) + 1) ds : Nat) : Int)]) := cntI_succ ds k
            generalize cntD ((k : Int) + 1) ds = cj at *
            obtain ⟨i3, hi3, hz0, hz1, hz2⟩ := info_parts Tryz.infoIntC
            have hR2 : (wr.alloc (.cells #[.int .i64 (cj : Int)] 3)).ownsRow w5.heap.size 3 1 u12 (cntI ds k).length ((cntI ds k).map (Value.int .i64)) := hrow.out.alloc _
            have hkl : (cntI ds k).length = k := by simp [cntI]
            have hbA : Below w5.heap.size w5 (wr.alloc (.cells #[.int .i64 (cj : Int)] 3)) := hb.out.alloc hb.out.size _
            have hsz : w5.heap.size ≤ wr.heap.size := hb.out.size
            go_wp2_with (at_builtin; refine wpList_append_own _ rfl (.tmp 77) (.tmp 79) 32 rfl w5.heap.size 3 i3 (.int .i64 0) 1 8 Tryz.underlying32 hi3 hz0 hz1 hz2 rfl (by decide) _ (cntI ds k).length ((cntI ds k).map (Value.int .i64)) rfl hR2 ⟨wr.heap.size, 0, none⟩ 1 1 [.int .i64 (cj : Int)] rfl rfl ?d1 ?d2 ?d3 ?d4 ?d5 ?_)
            case d1 =>
              have h2 := cell_one_new wr (.int .i64 (cj : Int)) 3
              exact h2
            case d2 => intro u hu; simp at hu; subst hu; rfl
            case d3 => unfold maxLen; omega
            case d4 => omega
            case d5 => simp; omega
            intro v' w6 hown' hgrow _
            have hb6 : Below w5.heap.size w5 w6 := hbA.grown hgrow (by simp; omega) (fun j e => (hR2.lt j e).1)
            have HR6 : Hid (RowI w5.heap.size w6 v' (cntI ds (k + 1))) := by
              show RowI _ _ _ _
              rw [HCN.out]
              show w6.ownsRow w5.heap.size 3 1 v' (cntI ds k ++ [(cj : Int)]).length ((cntI ds k ++ [(cj : Int)]).map (Value.int .i64))
              rw [show (cntI ds k ++ [(cj : Int)]).length = k + 1 by rw [List.length_append, hkl]; rfl, List.map_append]
              exact hown'
            clear hown' hgrow hR2 hbA
            go_wp2
            go_roundw
            case rel => exact ⟨k + 1, by omega, fun h => absurd HD0.out h, by go_num, HR6, hb6⟩
            case measure => simp [intOf]; omega
      · by_cases hk6 : k < 6
        · have hd0 : ¬ de = 0 := fun h => hcont ⟨hk6, h⟩
          have hdb : (de == 0) = false := by simpa using hd0
          have hz := hk0 hd0
          have hkI : (k : Int) + 1 ≤ 6 := by omega
          have HD0 : Hid (de ≠ 0 ∧ k = 0) := ⟨hd0, hz⟩
          clear hcont hd0 hk0 hz
          go_wp2
          go_meet
          exact ⟨k, _, rfl, Or.inr HD0.out, hrow, hb⟩
        · have hkI : ¬ (k : Int) + 1 ≤ 6 := by omega
          have HD0 : Hid (de = 0 ∧ k = 6) := by
            by_cases hd : de = 0
            · exact ⟨hd, by omega⟩
            · exact absurd (hk0 hd) (by omega)
          clear hcont hk0
          go_wp2
          go_meet
          exact ⟨k, _, rfl, Or.inl HD0.out, hrow, hb⟩
  case rest => as_aux_lemma =>
  obtain ⟨K, vc, rfl, hK, hrow, hb⟩ := hcut
  obtain ⟨wa, hwa⟩ : ∃ wa, wa = wc := ⟨_, rfl⟩
  subst hwa
  have HKK : Hid ((de = 0 ∧ K = 6) ∨ (de ≠ 0 ∧ K = 0)) := hK
  have HBA : Hid (Below w.heap.size w wa) := HB5.out.trans (hb.out.mono HB5.out.size)
  have HDZ : Hid (de = 0 → ds.length ≤ 1000 ∧ ∀ d, d ∈ ds → deedE d = 0) := fun h => deedsErr_zero (by rw [← HDE.out]; exact h)
  clear hK
  go_upto_block 4 with fail
  go_cut [11, 16, 17] from 28 to 155 (fun s11 _ _ wx => s11 = .string ⟨(if de = 0 then deedsText ds else []).toArray⟩ ∧ Hid (Below wa.heap.size wa wx))
  case first => as_aux_lemma =>
    go_wp2_with fail
    go_loopw [11, 16] (fun s11 s16 wx => ∃ i : Nat, i ≤ ds.length ∧ (de ≠ 0 → i = 0) ∧ s11 = .string ⟨(deedsText (ds.take i)).toArray⟩ ∧ s16 = .int .i64 (i : Int) ∧ Hid (Below wa.heap.size wa wx)) (fun _ s16 _ => ds.length - (intOf s16).toNat)
    case atStart => exact ⟨0, Nat.zero_le _, fun _ => rfl, rfl, rfl, Below.refl _ _⟩
    case round =>
      obtain ⟨i, hi, hi0, rfl, rfl, hB3⟩ := hrel
      by_cases hil : i < ds.length
      · have hiI : (i : Int) < (ds.length : Int) := by omega
        by_cases hd0 : de = 0
        · have hdb : (de == 0) = true := by simpa using hd0
          obtain ⟨hz1, hz2⟩ := HDZ.out hd0
          have HBr : Hid (Below w.heap.size w wr) := HBA.out.trans (hB3.out.mono HBA.out.size)
          obtain ⟨b, o, hda, -, c0, c1, c2, c3⟩ := (HD.out.later HBr.out).four hil
          subst hda
          have hE := hz2 _ (show ds.getD i (0, 0, 0, 0) ∈ ds by rw [List.getD_eq_getElem?_getD, List.getElem?_eq_getElem hil]; exact List.getElem_mem hil)
          have htx := dText_any (ds.getD i (0, 0, 0, 0)) hE wr
          have hl1 := deedText_len hE
          have hl2 : (deedsText (ds.take i)).length ≤ 18000 := by
            have := deedsText_len (ds.take i) (fun d hd => hz2 d (List.mem_of_mem_take hd))
            rw [List.length_take] at this
            omega
          have HTX : Hid (deedsText (ds.take (i + 1)) = deedsText (ds.take i) ++ (deedText (ds.getD i (0, 0, 0, 0)) ++ [10])) := deedsText_take hil
          have HD0 : Hid (de = 0) := hd0
          clear hz1 hz2 hE hi0 hd0
          generalize ds.getD i (0, 0, 0, 0) = dd at *
          generalize deedsText (ds.take i) = A at *
          generalize deedText dd = B at *
          go_wp2_with (go_at_call 9; refine htx.mono ?_; clear htx; rintro e w7 ⟨rfl, hb7⟩)
          have HB7 : Hid (Below wa.heap.size wa w7) := hB3.out.trans (hb7.mono hB3.out.size)
          clear hb7 hB3
          go_roundw
          case rel => exact ⟨i + 1, by omega, fun h => absurd HD0.out h, val_string (by rw [HTX.out, show (⟨#[10]⟩ : ByteArray) = ⟨([10] : List UInt8).toArray⟩ from rfl]; simp only [bytes_app, List.append_assoc]), by go_num, HB7⟩
          case measure => simp [intOf]; omega
        · have hdb : (de == 0) = false := by simpa using hd0
          have HD0 : Hid (de ≠ 0 ∧ i = 0) := ⟨hd0, hi0 hd0⟩
          clear hd0 hi0
          go_wp2
          go_meet
          exact ⟨val_string (by rw [if_neg HD0.out.1, HD0.out.2]; rfl), hB3⟩
      · have hiI : ¬ (i : Int) < (ds.length : Int) := by omega
        have HTE : Hid (deedsText (ds.take i) = if de = 0 then deedsText ds else []) := by
          show _ = _
          by_cases hd : de = 0
          · rw [if_pos hd, List.take_of_length_le (by omega)]
          · rw [if_neg hd, hi0 hd]; rfl
        clear hi0
        go_wp2
        go_meet
        exact ⟨val_string (by rw [HTE.out]), hB3⟩
  case rest => as_aux_lemma =>
  obtain ⟨rfl, hB8⟩ := hcut
  obtain ⟨wb, hwb⟩ : ∃ wb, wb = wc := ⟨_, rfl⟩
  subst hwb
  have HB8 : Hid (Below w.heap.size w wb) := HBA.out.trans (hB8.out.mono HBA.out.size)
  have HRW : Hid (RowI w5.heap.size wb vc (cntI ds K)) := hrow.out.of_blocks (fun b e => hB8.out.block b (hrow.out.low e).2)
  have hpr := print_any (.slice da ds.length dc) ds wb (HD.out.later HB8.out) (HK.out.2.1.later HB8.out)
  rw [← HDE.out] at hpr
  obtain ⟨TX, hTX⟩ : ∃ TX, TX = (if de = 0 then deedsText ds else []) := ⟨_, rfl⟩
  rw [← hTX] at hpr ⊢
  clear hTX hrow hb hB8
  go_wp2_with fail
  refine hpr.mono ?_
  clear hpr
  rintro e w9 ⟨rfl, hb9⟩
  have HB9 : Hid (Below w.heap.size w w9) := HB8.out.trans (hb9.mono HB8.out.size)
  have HR9 : Hid (RowI w5.heap.size w9 vc (cntI ds K)) := HRW.out.of_blocks (fun b e => hb9.block b (HRW.out.low e).2)
  have her := error_any de de w9 (HK.out.1.later HB9.out)
  rw [beq_self_eq_true] at her
  clear hb9 HRW
  go_wp2_with fail
  refine her.mono ?_
  clear her
  rintro e w10 ⟨rfl, hb10⟩
  have HB10 : Hid (Below w.heap.size w w10) := HB9.out.trans (hb10.mono HB9.out.size)
  have HR10 : Hid (RowI w5.heap.size w10 vc (cntI ds K)) := HR9.out.of_blocks (fun b e => hb10.block b (HR9.out.low e).2)
  have hct : Calls Tryz.prog 11 #[.slice da ds.length dc] w10 fun e w' => (∃ cv, e = .returned (.tuple #[cv, errV de]) ∧ IntsAt w' cv (cntI ds K)) ∧ Below w10.heap.size w10 w' := by
    refine (counts_any _ ds w10 (HD.out.later HB10.out)).mono ?_
    rintro e w' ⟨hc, hb⟩
    refine ⟨?_, hb⟩
    rcases HKK.out with ⟨h0, hk6⟩ | ⟨h0, hk6⟩
    · rcases hc with ⟨hn, _⟩ | ⟨_, b, rfl, _, hr⟩
      · exact absurd (HDE.out.symm.trans h0) hn
      · refine ⟨.slice (some ⟨b, 0, none⟩) 6 6, by rw [h0, errV_zero], ?_⟩
        rw [hk6]
        refine ⟨by simp [cntI], some ⟨b, 0, none⟩, 6, by simp [cntI], Or.inr ⟨b, 0, rfl, hr.lt, fun k hk => ?_⟩⟩
        have hkl : k < 6 := by simpa [cntI] using hk
        rw [Nat.zero_add, hr.cell hkl]
        simp [cntRow, cntI, List.getD_eq_getElem?_getD, hkl]
    · rcases hc with ⟨_, rfl⟩ | ⟨hz, _⟩
      · refine ⟨.slice none 0 0, by rw [HDE.out], ?_⟩
        rw [hk6]
        exact ⟨by simp [cntI], none, 0, by simp [cntI], Or.inl (by simp [cntI])⟩
      · exact absurd (HDE.out.trans hz) h0
  clear hb10 HR9
  go_wp2_with fail
  refine hct.mono ?_
  clear hct
  rintro e w11 ⟨⟨cv, rfl, hcv⟩, hb11⟩
  have HB11 : Hid (Below w.heap.size w w11) := HB10.out.trans (hb11.mono HB10.out.size)
  have HR11 : Hid (RowI w5.heap.size w11 vc (cntI ds K)) := HR10.out.of_blocks (fun b e => hb11.block b (HR10.out.low e).2)
  have HCV : Hid (IntsAt w11 cv (cntI ds K)) := hcv
  have her := error_any de de w11 (HK.out.1.later HB11.out)
  rw [beq_self_eq_true] at her
  clear hb11 hcv HR10
  go_wp2_with fail
  refine her.mono ?_
  clear her
  rintro e w12 ⟨rfl, hb12⟩
  have HB12 : Hid (Below w.heap.size w w12) := HB11.out.trans (hb12.mono HB11.out.size)
  have HR12 : Hid (RowI w5.heap.size w12 vc (cntI ds K)) := HR11.out.of_blocks (fun b e => hb12.block b (HR11.out.low e).2)
  have hsi := sameInts_any _ _ _ _ w12 (HCV.out.later hb12) (RowI.readT HR12.out (by simp [cntI]; have := HKK.out; omega))
  rw [decide_eq_true rfl] at hsi
  clear hb12 HR11 HCV
  go_wp2_with fail
  refine hsi.mono ?_
  clear hsi
  rintro e w13 ⟨rfl, q, rfl⟩
  have hrd := readDeeds_any t (w12.drewN q) ht
  have HB13 : Hid (Below w.heap.size w (w12.drewN q)) := ⟨HB12.out.os, HB12.out.tape, HB12.out.output, HB12.out.size, HB12.out.block⟩
  go_wp2_with fail
  refine hrd.mono ?_
  clear hrd
  rintro e w14 ⟨⟨v14, rfl, hv14⟩, hb14⟩
  have HB14 : Hid (Below w.heap.size w w14) := HB13.out.trans (hb14.mono HB13.out.size)
  have hpa := parse_any t (by omega) w14 (HK.out.2.1.later HB14.out) (HK.out.2.2.later HB14.out)
  unfold strL at hpa
  have HV14 : Hid (DeedsAt w14 v14 (pDeeds t)) := hv14.at (by have := pDeeds_len t; omega)
  clear hv14 hb14
  go_wp2_with fail
  refine hpa.mono ?_
  clear hpa
  rintro e w15 ⟨⟨v15, rfl, hv15⟩, hb15⟩
  have HB15 : Hid (Below w.heap.size w w15) := HB14.out.trans (hb15.mono HB14.out.size)
  have HV15 : Hid (DeedsAt w15 v15 (pDeeds t)) := hv15.at (by have := pDeeds_len t; omega)
  have HW15 : Hid (DeedsAt w15 v14 (pDeeds t)) := HV14.out.later hb15
  have her := error_any (pErr t) (pErr t) w15 (HK.out.1.later HB15.out)
  rw [beq_self_eq_true] at her
  clear hv15 hb15 HV14
  generalize pErr t = pe at *
  go_wp2_with fail
  refine her.mono ?_
  clear her
  rintro e w16 ⟨rfl, hb16⟩
  have HB16 : Hid (Below w.heap.size w w16) := HB15.out.trans (hb16.mono HB15.out.size)
  have hsd := sameDeeds_at _ _ (pDeeds t) w16 (HV15.out.later hb16) (HW15.out.later hb16)
  clear hb16
  go_wp2_with fail
  refine hsd.mono ?_
  clear hsd
  rintro e w17 ⟨rfl, hb17⟩
  have HB17 : Hid (Below w.heap.size w w17) := HB16.out.trans (hb17.mono HB16.out.size)
  clear hb17
  go_wp2
  go_ret
  exact ⟨rfl, HB17.out⟩
end Go.Proofs.YtiekhigjllbalaaGreatDoor
