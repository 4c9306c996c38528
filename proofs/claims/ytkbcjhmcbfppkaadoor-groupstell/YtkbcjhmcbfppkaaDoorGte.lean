/- The walk of GroupsTell. -/
import Derived.Test.YtkbcjhmcbfppkaaDoorGda
import Derived.Deep.CutRange
import Derived.Deep.CutBlock
namespace Go.Proofs.YtkbcjhmcbfppkaaDoor
open Go.RowKit Go.Deep

theorem placeErr_by (gs : List Grp) (i : Int) : (grpErr gs = 0 ∧ inRange i gs.length = false → placeErr gs i = 1) ∧ (¬ (grpErr gs = 0 ∧ inRange i gs.length = false) → placeErr gs i = grpErr gs) := by
  refine ⟨fun h => placeErr_out h.1 h.2, fun h => ?_⟩
  by_cases h1 : grpErr gs = 0
  · cases hi : inRange i gs.length with
    | false => exact absurd ⟨h1, hi⟩ h
    | true => rw [placeErr_in h1 hi, h1]
  · exact placeErr_bad h1
/-- What is wrong so far: with a plan, groups, how many places there are. -/
def firstL (q : Int) (gs : List Grp) (n : Nat) (ofs : List Int) : Int := if (if q = 0 then grpErr gs else q) = 0 ∧ ofs.length ≠ n then 3 else (if q = 0 then grpErr gs else q)
theorem liveErr_by (q : Int) (gs : List Grp) (n : Nat) (ofs : List Int) : liveErr q gs n ofs = if firstL q gs n ofs = 0 then (if ofs.any (fun i => !inRange i gs.length) then 1 else 0) else firstL q gs n ofs := by
  unfold liveErr placesErr firstL
  by_cases hq : q = 0
  · simp only [if_pos hq]
    by_cases he : grpErr gs = 0
    · simp only [he, if_pos]
      by_cases hl : ofs.length = n
      · simp [hl]
      · simp [hl]
    · simp [he]
  · simp [hq]
/-- How the places stand, the first k of them looked at. -/
def LookL (gs : List Grp) (ofs : List Int) (f2 : Int) (k : Nat) (f : Int) : Prop :=
  (f = f2 ∧ (f2 = 0 → ∀ j, j < k → inRange (ofs.getD j 0) gs.length = true)) ∨ (f2 = 0 ∧ f = 1 ∧ ofs.any (fun i => !inRange i gs.length) = true)
theorem LookL.ends {gs : List Grp} {ofs : List Int} {q : Int} {n k : Nat} {f : Int} (h : LookL gs ofs (firstL q gs n ofs) k f) (hx : f ≠ 0 ∨ ofs.length ≤ k) : f = liveErr q gs n ofs := by
  rw [liveErr_by]
  rcases h with ⟨h1, h2⟩ | ⟨h1, h2, h3⟩
  · by_cases h0 : firstL q gs n ofs = 0
    · rw [if_pos h0]
      have hk : ofs.length ≤ k := hx.resolve_left (fun e => e (h1.trans h0))
      have : ofs.any (fun i => !inRange i gs.length) = false := by
        rw [List.any_eq_false]
        intro z hz
        obtain ⟨j, hj, rfl⟩ := List.getElem_of_mem hz
        have := h2 h0 j (by omega)
        rw [List.getD_eq_getElem?_getD, List.getElem?_eq_getElem hj] at this
        simpa using this
      rw [this, h1, h0]
      rfl
    · rw [if_neg h0]; exact h1
  · rw [if_pos h1, h3]; exact h2

/-- Can a task be done, by the first j that it may hang on? -/
def okTo (D : Nat → Bool) (S : Nat → Nat → Bool) (k : Nat) : Nat → Bool
  | 0 => !D k
  | j + 1 => okTo D S k j && !(S k j && D j)
theorem okTo_iff (D : Nat → Bool) (S : Nat → Nat → Bool) (k j : Nat) : okTo D S k j = true ↔ D k = false ∧ ∀ m, m < j → S k m = true → D m = false := by
  induction j with
  | zero => simp [okTo]
  | succ j ih =>
    rw [okTo, Bool.and_eq_true, ih]
    constructor
    · rintro ⟨⟨h1, h2⟩, h3⟩
      refine ⟨h1, fun m hm hs => ?_⟩
      by_cases e : m = j
      · subst e
        rw [hs] at h3
        simpa using h3
      · exact h2 m (by omega) hs
    · rintro ⟨h1, h2⟩
      refine ⟨⟨h1, fun m hm => h2 m (by omega)⟩, ?_⟩
      cases hs : S k j with
      | false => rfl
      | true => rw [h2 j (by omega) hs]; rfl
theorem okTo_live {ts : List (Int × List Int)} {D : Nat → Bool} {S : Nat → Nat → Bool} (hr : InRange ts) (hs : Sound ts S) (hf : Full ts ts.length S) {k : Nat} (hk : k < ts.length) : okTo D S k ts.length = liveB ts D k := by
  rw [Bool.eq_iff_iff, okTo_iff, liveB_true]
  refine and_congr_right fun _ => ⟨fun h m hm => ?_, fun h m hm hS => ?_⟩
  · have hml := (reach_path hr hk hm).1
    exact h m hml ((full_reach hr hs hf hk hml).2 hm)
  · exact h m ((full_reach hr hs hf hk hm).1 hS)
theorem Tryd.infoB : (Tryd.prog.info? 4).map (fun i => (i.zero, i.size, i.bytes)) = some (some (.bool false), 1, 1) := by kernel_rfl
theorem rdB_row {b : Nat} {w : World} {v : Value} {n : Nat} {T : Nat → Bool} (h : w.ownsRow b 4 1 v n ((List.range n).map (fun j => .bool (T j)))) : RdB w v n T := by
  rcases h.2 with ⟨hv, h0⟩ | ⟨g, cap, cur, hv, _, hh, _⟩
  · subst h0
    exact ⟨none, 0, hv, fun k hk => by omega⟩
  · subst hv
    refine ⟨_, _, rfl, fun k hk => ⟨g, 0, rfl, lt_of_block hh, ?_⟩⟩
    have := World.ownsRow.cellAt h k (by omega)
    rw [Nat.zero_add, this]
    simp [hk]

set_option maxRecDepth 100000 in
set_option maxHeartbeats 8000000 in
theorem groupsTell_any (gv pv ov : Value) (gs : List Grp) (i : Int) (ts : List (Int × List Int)) (ofs : List Int) (w : World) (ht : Typed w) (hg : GrpsAt w gv gs) (hp : PlanAt w pv ts) (ho : IntsAt w ov ofs) :
    Calls Tryd.prog 3 #[gv, .int .i64 i, pv, ov] w fun e w' => e = .returned (.bool true) ∧ Below w.heap.size w w' := by
  have HT : Hid (Typed w) := ht
  have HG : Hid (GrpsAt w gv gs) := hg
  have HP : Hid (PlanAt w pv ts) := hp
  have HO : Hid (IntsAt w ov ofs) := ho
  have hdg := dGroups_any gv gs w hg
  have hck := gcheck_any gv gs w hg
  obtain ⟨e0, he0⟩ : ∃ e0, e0 = grpErr gs := ⟨_, rfl⟩
  have HE0 : Hid (e0 = grpErr gs) := he0
  rw [← he0] at hdg hck
  obtain ⟨hl, ga, gc, rfl, hg⟩ := hg
  clear hg ht he0
  obtain ⟨hpl, pa, pc, rfl, hp⟩ := hp
  clear hp
  obtain ⟨hol, oa, oc, rfl, ho⟩ := ho
  clear ho
  go_enter Tryd.func3, Tryd.ntmps3
  go_wp2_with fail
  refine hdg.mono ?_
  clear hdg
  rintro e w ⟨rfl, rfl⟩
  go_wp2_with fail
  refine hck.mono ?_
  clear hck
  rintro e w1 ⟨rfl, hb1⟩
  have her := error_one e0 w1 (HT.out.later hb1)
  go_wp2_with fail
  refine her.mono ?_
  clear her
  rintro e w2 ⟨rfl, hb2⟩
  have hB2 : Below w.heap.size w w2 := hb1.trans (hb2.mono hb1.size)
  clear hb1 hb2
  go_upto_region 4 with fail
  go_cut [47] from 29 to 194 (fun s47 wx => ∃ bb : Bool, s47 = .bool bb ∧ Hid (bb = true ↔ (e0 = 0 ∧ inRange i gs.length = false)) ∧ w2 = wx)
  case first => as_aux_lemma =>
    by_cases he : e0 = 0
    · have hez : (e0 == 0) = true := by rw [beq_iff_eq]; exact he
      have HEZ : Hid (e0 = 0) := he
      clear he
      by_cases hi0 : i < 0
      · have HI : Hid (inRange i gs.length = false) := by show _ = _; unfold inRange; rw [show decide (0 ≤ i) = false from decide_eq_false (by omega)]; rfl
        have hd0 : decide (i < 0) = true := decide_eq_true hi0
        clear hi0
        go_wp2
        go_meet
        exact ⟨true, rfl, iff_of_true rfl ⟨HEZ.out, HI.out⟩, rfl⟩
      · have hd0 : decide (i < 0) = false := decide_eq_false hi0
        by_cases hil : i < (gs.length : Int)
        · have HI : Hid (inRange i gs.length = true) := by show _ = _; unfold inRange; simp; omega
          have hd1 : decide ((gs.length : Int) ≤ i) = false := decide_eq_false (by omega)
          clear hil hi0
          go_wp2
          go_meet
          exact ⟨false, rfl, iff_of_false (by simp) (fun h => by have h2 := h.2; rw [HI.out] at h2; cases h2), rfl⟩
        · have HI : Hid (inRange i gs.length = false) := by show _ = _; unfold inRange; rw [show decide (i < (gs.length : Int)) = false from decide_eq_false hil]; simp
          have hd1 : decide ((gs.length : Int) ≤ i) = true := decide_eq_true (by omega)
          clear hil hi0
          go_wp2
          go_meet
          exact ⟨true, rfl, iff_of_true rfl ⟨HEZ.out, HI.out⟩, rfl⟩
    · have hne : (e0 == 0) = false := by rw [beq_eq_false_iff_ne]; exact he
      have HEZ : Hid (¬ e0 = 0) := he
      clear he
      go_wp2
      go_meet
      exact ⟨false, rfl, iff_of_false (by simp) (fun h => HEZ.out h.1), rfl⟩
  case rest => as_aux_lemma =>
    obtain ⟨bb, rfl, hbb, rfl⟩ := hcut
    obtain ⟨f0, hf0⟩ : ∃ f0, f0 = placeErr gs i := ⟨_, rfl⟩
    have HF0 : Hid (f0 = placeErr gs i) := hf0
    have HF1 : Hid (bb = true → f0 = 1) := fun h => by rw [hf0]; refine (placeErr_by gs i).1 ?_; rw [← HE0.out]; exact hbb.out.1 h
    have HF2 : Hid (bb = false → f0 = e0) := fun h => by rw [hf0, HE0.out]; refine (placeErr_by gs i).2 ?_; rw [← HE0.out]; intro h2; rw [hbb.out.2 h2] at h; cases h
    clear hf0 hbb
    go_upto_if 47 with fail
    go_cut [11] from 29 to 194 (fun s11 wx => s11 = .int .i64 f0 ∧ w2 = wx)
    case first => as_aux_lemma =>
      cases bb
      · have HX : Hid (f0 = e0) := HF2.out rfl
        clear HF1 HF2
        go_wp2
        go_meet
        exact ⟨by rw [HX.out], rfl⟩
      · have HX : Hid (f0 = 1) := HF1.out rfl
        clear HF1 HF2
        go_wp2
        go_meet
        exact ⟨by rw [HX.out], rfl⟩
    case rest => as_aux_lemma =>
      obtain ⟨rfl, rfl⟩ := hcut
      clear HF1 HF2
      go_upto_if 49 with fail
      go_cut [12, 13] from 29 to 194 (fun s12 s13 wx => s13 = .bool (gB gs i) ∧ Hid (GrpsAt wx s12 (cG gs i)) ∧ Hid (Below w.heap.size w wx))
      case first => as_aux_lemma =>
        by_cases hf : f0 = 0
        · have hz : placeErr gs i = 0 := by rw [← HF0.out]; exact hf
          have HGB : Hid (gB gs i = goneG gs i.toNat) := by show _ = _; unfold gB; rw [if_pos hz]
          have HCG : Hid (cG gs i = setC gs i.toNat) := by show _ = _; unfold cG; rw [if_pos hz]
          obtain ⟨h12, hr, k, rfl, hk⟩ := placeErr_zero hz
          have hGw := HG.out.later hB2
          have hgo := dGone_any _ gs k w2 hGw hr hk
          obtain ⟨-, a3, c3, e3, hgc⟩ := hGw
          simp only [Value.slice.injEq] at e3
          obtain ⟨rfl, -, rfl⟩ := e3
          rcases hgc with h0 | ⟨gb, go, rfl, hgbl, hgc⟩
          · exfalso
            subst h0
            simp at hk
          have hsrc := grps_cells hgc
          rw [Int.toNat_natCast] at HGB HCG
          subst hf
          clear hgc hz hr
          obtain ⟨iG, hiG, hz0, hz1, hz2⟩ := info_parts Tryd.info33
          generalize goneG gs k = gg at *
          have hnil := World.ownsRow_nil w2 w2.heap.size 33 2
          go_wp2_with (first | (go_at_call 8; refine hgo.mono ?_; clear hgo; rintro e w2 ⟨rfl, rfl⟩) | (at_builtin; refine wpList_append_own _ rfl (.tmp 53) (.tmp 54) 22 rfl w2.heap.size 33 iG (.agg #[.int .i64 0, .bool false]) 2 16 Tryd.underlying22 hiG hz0 hz1 hz2 rfl (by decide) _ 0 [] rfl hnil ⟨gb, go, none⟩ gs.length gc (flatG gs) rfl (flatG_length gs) hsrc (flatG_one gs) ?c3 ?c4 (Nat.le_refl _) ?_))
          case c3 => unfold maxLen; omega
          case c4 => omega
          intro v' w3 hown' hgrow _
          replace hown' : w3.ownsRow w2.heap.size 33 2 v' gs.length (flatG gs) := by simpa using hown'
          obtain ⟨vg, vc, rfl, hvg, -⟩ := RowG.shape hown' (by omega)
          have hB3 : Below w.heap.size w w3 := hB2.grown hgrow hB2.size (fun j e => by simp [Value.ownBlock] at e)
          have hst := World.ownsRow.stored hown' (k * 2 + 1) (.bool true)
          have hfz := World.ownsRow.frozenAt hown' (k * 2 + 1)
          have hcell := (World.ownsRow.cellAt hown' (k * 2 + 1) (by omega)).trans (flatG_at gs k hk).2
          rw [flatG_setC hk] at hst
          have hst2 : Hid (GrpsAt (w3.setCell ⟨vg, k * 2 + 1, none⟩ (.bool true)) (.slice (some ⟨vg, 0, none⟩) gs.length vc) (setC gs k)) := by
            have h1 : RowG w2.heap.size (w3.setCell ⟨vg, k * 2 + 1, none⟩ (.bool true)) (.slice (some ⟨vg, 0, none⟩) gs.length vc) (setC gs k) := by
              unfold RowG
              rw [setC_length]
              exact hst.1
            exact h1.grps (by rw [setC_length]; exact hl)
          have hB4 : Hid (Below w.heap.size w (w3.setCell ⟨vg, k * 2 + 1, none⟩ (.bool true))) := hB3.setCell (Nat.le_trans hB2.size hvg) _
          clear hst hown' hgrow hsrc hnil
          generalize canG gs k = cc at *
          go_wp2
          go_meet
          exact ⟨by rw [HGB.out], by rw [HCG.out]; exact hst2, hB4⟩
        · have hz : placeErr gs i ≠ 0 := by rw [← HF0.out]; exact hf
          have HGB : Hid (gB gs i = false) := by show _ = _; unfold gB; rw [if_neg hz]
          have HCG : Hid (cG gs i = []) := by show _ = _; unfold cG; rw [if_neg hz]
          have hne : (f0 == 0) = false := by rw [beq_eq_false_iff_ne]; exact hf
          have HB2 : Hid (Below w.heap.size w w2) := hB2
          clear hz
          go_wp2
          go_meet
          exact ⟨by rw [HGB.out], by rw [HCG.out]; exact ⟨by simp, none, 0, rfl, Or.inl rfl⟩, HB2⟩
      case rest => as_aux_lemma =>
        obtain ⟨rfl, hwv, hBw⟩ := hcut
        obtain ⟨w3, rfl⟩ : ∃ w3, w3 = wc := ⟨_, rfl⟩
        have HWV := hwv.out
        clear hwv hB2
        have hgo := gone_one (i := i) (HG.out.later hBw.out)
        rw [← HF0.out] at hgo
        generalize gB gs i = gb at *
        go_wp2_with fail
        refine hgo.mono ?_
        clear hgo
        rintro e w4 ⟨rfl, hb4⟩
        have hB4 : Below w.heap.size w w4 := hBw.out.trans (hb4.mono hBw.out.size)
        have HWV4 := HWV.later hb4
        have her := error_one f0 w4 (HT.out.later hB4)
        clear hb4 hBw HWV
        go_wp2_with fail
        refine her.mono ?_
        clear her
        rintro e w5 ⟨rfl, hb5⟩
        have hB5 : Below w.heap.size w w5 := hB4.trans (hb5.mono hB4.size)
        have HWV5 := HWV4.later hb5
        have hca := cancel_one (i := i) (HG.out.later hB5)
        rw [← HF0.out] at hca
        clear hb5 hB4 HWV4
        go_wp2_with fail
        refine hca.mono ?_
        clear hca
        rintro e w6 ⟨cv, rfl, hcv, hb6⟩
        have hB6 : Below w.heap.size w w6 := hB5.trans (hb6.mono hB5.size)
        have HWV6 := HWV5.later hb6
        have her := error_one f0 w6 (HT.out.later hB6)
        clear hb6 hB5 HWV5
        go_wp2_with fail
        refine her.mono ?_
        clear her
        rintro e w7 ⟨rfl, hb7⟩
        have hB7 : Below w.heap.size w w7 := hB6.trans (hb7.mono hB6.size)
        have hsg := sameGroups_any _ _ (cG gs i) w7 (hcv.later hb7) (HWV6.later hb7)
        clear hb7 hB6 HWV6 hcv
        go_wp2_with fail
        refine hsg.mono ?_
        clear hsg
        rintro e w8 ⟨rfl, hb8⟩
        have hB8 : Below w.heap.size w w8 := hB7.trans (hb8.mono hB7.size)
        have hri := rightR_any _ ts w8 (HP.out.later hB8)
        clear hb8 hB7 HF0
        go_wp2_with fail
        refine hri.mono ?_
        clear hri
        rintro e w9 ⟨⟨p, q, rfl, hc⟩, hb9⟩
        have hB9 : Below w.heap.size w w9 := hB8.trans (hb9.mono hB8.size)
        have HC : Hid (CheckIs ts p q) := hc
        clear hb9 hB8 hc
        obtain ⟨f1, hf1⟩ : ∃ f1, f1 = if q = 0 then e0 else q := ⟨_, rfl⟩
        have HF1 : Hid (f1 = if q = 0 then e0 else q) := hf1
        clear hf1
        go_upto_if 89 with fail
        go_cut [11] from 29 to 194 (fun s11 wx => s11 = .int .i64 f1 ∧ w9 = wx)
        case first => as_aux_lemma =>
          by_cases hq : q = 0
          · have hez : (q == 0) = true := by rw [beq_iff_eq]; exact hq
            have HX : Hid (f1 = e0) := by show _ = _; rw [HF1.out, if_pos hq]
            clear hq HF1
            go_wp2
            go_meet
            exact ⟨by rw [HX.out], rfl⟩
          · have hez : (q == 0) = false := by rw [beq_eq_false_iff_ne]; exact hq
            have HX : Hid (f1 = q) := by show _ = _; rw [HF1.out, if_neg hq]
            clear hq HF1
            go_wp2
            go_meet
            exact ⟨by rw [HX.out], rfl⟩
        case rest => as_aux_lemma =>
          obtain ⟨rfl, rfl⟩ := hcut
          go_upto_region 20 with fail
          go_cut [99] from 29 to 194 (fun s99 wx => ∃ bb : Bool, s99 = .bool bb ∧ Hid (bb = true ↔ (f1 = 0 ∧ ofs.length ≠ ts.length)) ∧ w9 = wx)
          case first => as_aux_lemma =>
            by_cases hq : f1 = 0
            · have hez : (f1 == 0) = true := by rw [beq_iff_eq]; exact hq
              have HQ : Hid (f1 = 0) := hq
              clear hq
              by_cases hlen : ofs.length = ts.length
              · have HL : Hid (ofs.length = ts.length) := hlen
                have hb1 : ((ofs.length : Int) == (ts.length : Int)) = true := by rw [beq_iff_eq]; omega
                have hb2 : ((ofs.length : Int) != (ts.length : Int)) = false := by rw [bne, hb1]; rfl
                clear hlen
                go_wp2
                go_meet
                exact ⟨false, rfl, iff_of_false (by simp) (fun h => h.2 HL.out), rfl⟩
              · have HL : Hid (¬ ofs.length = ts.length) := hlen
                have hb1 : ((ofs.length : Int) == (ts.length : Int)) = false := by rw [beq_eq_false_iff_ne]; omega
                have hb2 : ((ofs.length : Int) != (ts.length : Int)) = true := by rw [bne, hb1]; rfl
                clear hlen
                go_wp2
                go_meet
                exact ⟨true, rfl, iff_of_true rfl ⟨HQ.out, HL.out⟩, rfl⟩
            · have hez : (f1 == 0) = false := by rw [beq_eq_false_iff_ne]; exact hq
              have HQ : Hid (¬ f1 = 0) := hq
              clear hq
              go_wp2
              go_meet
              exact ⟨false, rfl, iff_of_false (by simp) (fun h => HQ.out h.1), rfl⟩
          case rest => as_aux_lemma =>
            obtain ⟨bb, rfl, hbb, rfl⟩ := hcut
            obtain ⟨f2, hf2⟩ : ∃ f2, f2 = firstL q gs ts.length ofs := ⟨_, rfl⟩
            have HF2 : Hid (f2 = firstL q gs ts.length ofs) := hf2
            have HF2b : Hid (f2 = if f1 = 0 ∧ ofs.length ≠ ts.length then 3 else f1) := by show _ = _; rw [hf2, HF1.out, HE0.out]; rfl
            have HT3 : Hid (bb = true → f2 = 3) := fun h => by rw [HF2b.out, if_pos (hbb.out.1 h)]
            have HT1 : Hid (bb = false → f2 = f1) := fun h => by rw [HF2b.out, if_neg (fun h2 => by rw [hbb.out.2 h2] at h; cases h)]
            clear hf2 HF2b hbb HF1
            go_upto_if 99 with fail
            go_cut [11] from 29 to 194 (fun s11 wx => s11 = .int .i64 f2 ∧ w9 = wx)
            case first => as_aux_lemma =>
              cases bb
              · have HX : Hid (f2 = f1) := HT1.out rfl
                clear HT1 HT3
                go_wp2
                go_meet
                exact ⟨by rw [HX.out], rfl⟩
              · have HX : Hid (f2 = 3) := HT3.out rfl
                clear HT1 HT3
                go_wp2
                go_meet
                exact ⟨by rw [HX.out], rfl⟩
            case rest => as_aux_lemma =>
              obtain ⟨rfl, rfl⟩ := hcut
              clear HT1 HT3
              obtain ⟨lv, hlv⟩ : ∃ lv, lv = liveErr q gs ts.length ofs := ⟨_, rfl⟩
              have HLV : Hid (lv = liveErr q gs ts.length ofs) := hlv
              clear hlv
              go_upto_block 0 with fail
              go_cut [11, 20] from 29 to 194 (fun s11 _ wx => s11 = .int .i64 lv ∧ w9 = wx)
              case first => as_aux_lemma =>
                go_wp2_with fail
                go_loop [11, 20] (fun s11 s20 => ∃ k : Nat, ∃ f : Int, k ≤ ofs.length ∧ s11 = .int .i64 f ∧ s20 = .int .i64 k ∧ Hid (LookL gs ofs f2 k f)) (fun _ s20 => ofs.length - (intOf s20).toNat)
                case atStart => exact ⟨0, f2, Nat.zero_le _, rfl, rfl, Or.inl ⟨rfl, fun _ j hj => by omega⟩⟩
                case round =>
                  obtain ⟨k, f, hk, rfl, rfl, hL⟩ := hrel
                  by_cases hkl : k < ofs.length
                  · by_cases hf : f = 0
                    · have hez : (f == 0) = true := by rw [beq_iff_eq]; exact hf
                      obtain ⟨-, a3, c3, e3, hoc⟩ := HO.out.later hB9
                      simp only [Value.slice.injEq] at e3
                      obtain ⟨rfl, -, rfl⟩ := e3
                      rcases hoc with h0 | ⟨ob, oo, rfl, hobl, hoc⟩
                      · exfalso
                        subst h0
                        simp at hkl
                      have hck := hoc k hkl
                      have HLL : Hid (f2 = 0 ∧ ∀ j, j < k → inRange (ofs.getD j 0) gs.length = true) := by
                        rcases hL.out with ⟨h1, h2⟩ | ⟨_, h2, _⟩
                        · exact ⟨h1.symm.trans hf, h2 (h1.symm.trans hf)⟩
                        · omega
                      have HMEM : Hid (ofs.getD k 0 ∈ ofs) := by
                        show _ ∈ _
                        rw [List.getD_eq_getElem?_getD, List.getElem?_eq_getElem hkl]
                        exact List.getElem_mem _
                      have HZ : Hid (∀ z, z = ofs.getD k 0 → inRange z gs.length = true → LookL gs ofs f2 (k + 1) f) := fun z hz hi => Or.inl ⟨hf.trans HLL.out.1.symm, fun _ j hj => by
                        by_cases e : j = k
                        · rw [e, ← hz]; exact hi
                        · exact HLL.out.2 j (by omega)⟩
                      have HB : Hid (∀ z, z = ofs.getD k 0 → inRange z gs.length = false → LookL gs ofs f2 (k + 1) 1) := fun z hz hi => Or.inr ⟨HLL.out.1, rfl, List.any_eq_true.2 ⟨_, HMEM.out, by rw [← hz, hi]; rfl⟩⟩
                      obtain ⟨z, hz⟩ : ∃ z, z = ofs.getD k 0 := ⟨_, rfl⟩
                      have HZE : Hid (z = ofs.getD k 0) := hz
                      rw [← hz] at hck
                      have HF0 : Hid (f = 0) := hf
                      clear hoc hL HLL HMEM hz hf
                      by_cases hz0 : z < 0
                      · have HX := HB.out z HZE.out (by unfold inRange; rw [show decide (0 ≤ z) = false from decide_eq_false (by omega)]; rfl)
                        have HXX : Hid (LookL gs ofs f2 (k + 1) 1) := HX
                        clear HB HZ HX
                        go_wp2
                        go_round
                        case rel => exact ⟨k + 1, 1, by omega, rfl, by go_num, HXX⟩
                        case measure => simp [intOf]; omega
                      · by_cases hzl : z < (gs.length : Int)
                        · have HXX : Hid (LookL gs ofs f2 (k + 1) f) := HZ.out z HZE.out (by unfold inRange; simp; omega)
                          clear HB HZ
                          go_wp2
                          go_round
                          case rel => exact ⟨k + 1, f, by omega, rfl, by go_num, HXX⟩
                          case measure => simp [intOf]; omega
                        · have HXX : Hid (LookL gs ofs f2 (k + 1) 1) := HB.out z HZE.out (by unfold inRange; rw [show decide (z < (gs.length : Int)) = false from decide_eq_false hzl]; simp)
                          clear HB HZ
                          go_wp2
                          go_round
                          case rel => exact ⟨k + 1, 1, by omega, rfl, by go_num, HXX⟩
                          case measure => simp [intOf]; omega
                    · have hez : (f == 0) = false := by rw [beq_eq_false_iff_ne]; exact hf
                      have HX : Hid (f = lv) := by
                        show _ = _
                        rw [HLV.out]
                        have := hL.out
                        rw [HF2.out] at this
                        exact this.ends (Or.inl hf)
                      clear hL hf
                      go_wp2
                      go_meet
                      exact ⟨by rw [HX.out], rfl⟩
                  · have HX : Hid (f = lv) := by
                      show _ = _
                      rw [HLV.out]
                      have := hL.out
                      rw [HF2.out] at this
                      exact this.ends (Or.inr (by omega))
                    clear hL
                    go_wp2
                    go_meet
                    exact ⟨by rw [HX.out], rfl⟩
              case rest => as_aux_lemma =>
                obtain ⟨rfl, rfl⟩ := hcut
                clear HF2
                go_upto_if 125 with fail
                go_cut [21, 22, 23, 24, 25] from 29 to 194 (fun s21 _ _ _ _ wx => Hid (RdB wx s21 (nL q gs ts.length ofs) (liveB ts (deadG gs ofs))) ∧ Hid (Below w.heap.size w wx))
                case first => as_aux_lemma =>
                  by_cases hz : lv = 0
                  · have hez : (lv == 0) = true := by rw [beq_iff_eq]; exact hz
                    have h0 : liveErr q gs ts.length ofs = 0 := by rw [← HLV.out]; exact hz
                    have HN : Hid (nL q gs ts.length ofs = ts.length) := by show _ = _; unfold nL; rw [if_pos h0]
                    have hq0 : q = 0 := by
                      unfold liveErr at h0
                      by_cases hq : q = 0
                      · exact hq
                      · rw [if_neg hq] at h0; exact absurd h0 hq
                    have hpe : placesErr gs ts.length ofs = 0 := by
                      unfold liveErr at h0
                      rw [if_pos hq0] at h0
                      exact h0
                    obtain ⟨h12, hr, hlen, hin⟩ := placesErr_zero hpe
                    have hc := HC.out
                    rw [hq0] at hc
                    obtain ⟨-, h30, herr, -⟩ := hc.ok rfl
                    have hrng := inRange_of herr
                    have hab := aboveR_any _ ts w9 (HP.out.later hB9) h30 hrng
                    have HRNG : Hid (InRange ts) := hrng
                    have HR : Hid (RightG gs) := hr
                    have HLEN : Hid (ofs.length = ts.length) := hlen
                    have HOF : Hid (∀ m, m < ts.length → ∃ j : Nat, ofs.getD m 0 = j ∧ j < gs.length ∧ deadG gs ofs m = goneG gs j) := fun m hm => by
                      have hmem : ofs.getD m 0 ∈ ofs := by
                        rw [List.getD_eq_getElem?_getD, List.getElem?_eq_getElem (by omega)]
                        exact List.getElem_mem _
                      have := hin _ hmem
                      refine ⟨(ofs.getD m 0).toNat, by omega, by omega, rfl⟩
                    have HB9 : Hid (Below w.heap.size w w9) := hB9
                    obtain ⟨iB, hiB, hz0, hz1, hz2⟩ := info_parts Tryd.infoB
                    clear hz h0 hq0 hpe hr hlen hin hc herr hrng hB9
                    go_wp2_with fail
                    refine hab.mono ?_
                    clear hab
                    rintro e w10 ⟨⟨av, bl, S, rfl, hmat, hso, hfu⟩, hb10⟩
                    have HOK : Hid (∀ k, k < ts.length → okTo (deadG gs ofs) S k ts.length = liveB ts (deadG gs ofs) k) := fun k hk => okTo_live HRNG.out hso hfu hk
                    have HM : Hid (Mat w9.heap.size ts.length w10 av ts.length bl S) := hmat
                    obtain ⟨aa, ac, rfl⟩ := mat_shape hmat
                    have HB10 : Hid (Below w.heap.size w w10) := HB9.out.trans (hb10.mono HB9.out.size)
                    clear hmat hso hfu hb10 HB9
                    generalize hLB : liveB ts (deadG gs ofs) = Lv at *
                    clear hLB
                    have HDG : Hid (∀ m, m < ts.length → ∃ j : Nat, ofs.getD m 0 = j ∧ j < gs.length ∧ deadG gs ofs m = goneG gs j) := HOF
                    clear HOF
                    generalize deadG gs ofs = D at *
                    go_wp2
                    go_loopw [21, 23] (fun s21 s23 wr => ∃ k : Nat, k ≤ ts.length ∧ s23 = .int .i64 k ∧ (∃ a c, s21 = .slice a k c) ∧ Hid (wr.ownsRow w10.heap.size 4 1 s21 k ((List.range k).map (fun j => .bool (Lv j)))) ∧ Below w10.heap.size w10 wr) (fun _ s23 _ => ts.length - (intOf s23).toNat)
                    case atStart => exact ⟨0, Nat.zero_le _, rfl, ⟨none, 0, rfl⟩, World.ownsRow_nil _ _ _ _, Below.refl _ _⟩
                    case round =>
                      obtain ⟨k, hk, rfl, ⟨ra, rc, rfl⟩, hrow, hbr⟩ := hrel
                      have HBR : Hid (Below w.heap.size w wr) := HB10.out.trans (hbr.mono HB10.out.size)
                      by_cases hkl : k < ts.length
                      · obtain ⟨-, a3, c3, e3, hoc⟩ := HO.out.later HBR.out
                        simp only [Value.slice.injEq] at e3
                        obtain ⟨rfl, -, rfl⟩ := e3
                        rcases hoc with h0 | ⟨ob, oo, rfl, hobl, hoc⟩
                        · exfalso
                          have h1 := HLEN.out
                          rw [h0] at h1
                          simp at h1
                          omega
                        have HOC : Hid (∀ m, m < ts.length → m < ofs.length ∧ wr.cell? ⟨ob, oo + m, none⟩ = some (.int .i64 (ofs.getD m 0))) := fun m hm => ⟨by rw [HLEN.out]; exact hm, hoc m (by rw [HLEN.out]; exact hm)⟩
                        obtain ⟨hko, hck⟩ := HOC.out k hkl
                        obtain ⟨j, hj, hjl, hdj⟩ := HDG.out k hkl
                        rw [hj] at hck
                        have hgo := dGone_any _ gs j wr (HG.out.later HBR.out) HR.out hjl
                        rw [← hdj] at hgo
                        have HMr : Hid (Mat w9.heap.size ts.length wr (.slice aa ts.length ac) ts.length bl S) := HM.out.later hbr
                        obtain ⟨ag, ac2, e4, hagl, hac⟩ := HMr.out.row hkl
                        simp only [Value.slice.injEq] at e4
                        obtain ⟨rfl, -, rfl⟩ := e4
                        have hak := hac k hkl
                        have HSK : Hid (∀ m, m < ts.length → wr.cell? ⟨bl k, m, none⟩ = some (.bool (S k m))) := fun m hm => (HMr.out.2.1 k hkl).2.cell hm
                        have HD0 : Hid (okTo D S k 0 = !D k) := rfl
                        clear hoc hac hj hdj
                        generalize D k = dk at *
                        go_wp2_with (go_at_call 8; refine hgo.mono ?_; rintro e wq ⟨rfl, rfl⟩)
                        clear hgo hck hko
                        go_loop [24, 25] (fun s24 s25 => ∃ m : Nat, m ≤ ts.length ∧ s25 = .int .i64 m ∧ s24 = .bool (okTo D S k m)) (fun _ s25 => ts.length - (intOf s25).toNat)
                        case atStart => exact ⟨0, Nat.zero_le _, rfl, by rw [HD0.out]⟩
                        case round =>
                          obtain ⟨m, hm, rfl, rfl⟩ := hrel
                          by_cases hml : m < ts.length
                          · have hsm := HSK.out m hml
                            cases hS : S k m
                            · have HX : Hid (okTo D S k (m + 1) = okTo D S k m) := by show _ = _; rw [okTo, hS]; simp
                              rw [hS] at hsm
                              clear hS
                              generalize hgen : okTo D S k m = ok at *
                              clear hgen
                              go_wp2
                              go_round
                              case rel => exact ⟨m + 1, by omega, by go_num, by rw [HX.out]⟩
                              case measure => simp [intOf]; omega
                            · obtain ⟨hmo, hcm⟩ := HOC.out m hml
                              obtain ⟨j2, hj2, hjl2, hdj2⟩ := HDG.out m hml
                              rw [hj2] at hcm
                              have hgo := dGone_any _ gs j2 wq (HG.out.later HBR.out) HR.out hjl2
                              rw [← hdj2] at hgo
                              rw [hS] at hsm
                              cases hD : D m
                              · have HX : Hid (okTo D S k (m + 1) = okTo D S k m) := by show _ = _; rw [okTo, hS, hD]; simp
                                rw [hD] at hgo
                                clear hS hD hj2 hdj2
                                generalize hgen : okTo D S k m = ok at *
                                clear hgen
                                go_wp2_with (go_at_call 8; refine hgo.mono ?_; rintro e wq ⟨rfl, rfl⟩)
                                go_round
                                case rel => exact ⟨m + 1, by omega, by go_num, by rw [HX.out]⟩
                                case measure => simp [intOf]; omega
                              · have HX : Hid (okTo D S k (m + 1) = false) := by show _ = _; rw [okTo, hS, hD]; simp
                                rw [hD] at hgo
                                clear hS hD hj2 hdj2
                                generalize hgen : okTo D S k m = ok at *
                                clear hgen
                                go_wp2_with (go_at_call 8; refine hgo.mono ?_; rintro e wq ⟨rfl, rfl⟩)
                                go_round
                                case rel => exact ⟨m + 1, by omega, by go_num, by rw [HX.out]⟩
                                case measure => simp [intOf]; omega
                          · obtain rfl : m = ts.length := by omega
                            have hok := HOK.out k hkl
                            rw [hok]
                            have hA := hrow.out.alloc (.cells #[.bool (Lv k)] 4)
                            have hbs := hbr.size
                            clear HSK HOC hak
                            go_wp2_with (at_builtin; refine wpList_append_own _ rfl (.tmp 162) (.tmp 164) 40 rfl w10.heap.size 4 iB (.bool false) 1 1 Tryd.underlying40 hiB hz0 hz1 hz2 rfl (by decide) _ k _ rfl hA ⟨wq.heap.size, 0, none⟩ 1 1 [.bool (Lv k)] rfl rfl (cell_one_new _ _ _) ?c2 ?c3 ?c4 ?c5 ?_)
                            case c2 => rfl
                            case c3 => unfold maxLen; omega
                            case c4 => omega
                            case c5 => omega
                            intro v' w11 hown' hgrow _
                            have hB11 : Below w10.heap.size w10 w11 := (hbr.alloc hbs _).grown hgrow (by simp; omega) (fun j e => (World.ownsRow.lt hA j e).1)
                            have hR11 : Hid (w11.ownsRow w10.heap.size 4 1 v' (k + 1) ((List.range (k + 1)).map (fun j => .bool (Lv j)))) := by
                              show World.ownsRow _ _ _ _ _ _ _
                              rw [List.range_succ, List.map_append, List.map_singleton]
                              exact hown'
                            obtain ⟨va, vc, rfl⟩ : ∃ va vc, v' = .slice va (k + 1) vc := by
                              rcases hown'.2 with ⟨_, h0⟩ | ⟨g, cap, cur, hv, _⟩
                              · omega
                              · exact ⟨_, _, hv⟩
                            clear hown' hgrow hA hrow hbr
                            go_wp2
                            go_roundw
                            case rel => exact ⟨k + 1, by omega, by go_num, ⟨_, _, rfl⟩, hR11, hB11⟩
                            case measure => simp [intOf]; omega
                      · obtain rfl : k = ts.length := by omega
                        have HRD : Hid (RdB wr (.slice ra ts.length rc) ts.length Lv) := rdB_row hrow.out
                        clear hrow
                        go_wp2
                        go_meet
                        exact ⟨by rw [HN.out]; exact HRD, HBR⟩
                  · have hez : (lv == 0) = false := by rw [beq_eq_false_iff_ne]; exact hz
                    have HN : Hid (nL q gs ts.length ofs = 0) := by show _ = _; unfold nL; rw [← HLV.out, if_neg hz]
                    have HB9 : Hid (Below w.heap.size w w9) := hB9
                    clear hz
                    go_wp2
                    go_meet
                    exact ⟨by rw [HN.out]; exact RdB.none _ _, HB9⟩
                case rest => as_aux_lemma =>
                  obtain ⟨hrd, hBc⟩ := hcut
                  obtain ⟨wd, rfl⟩ : ∃ wd, wd = wc := ⟨_, rfl⟩
                  have hli := live_one (HP.out.later hBc.out) (HG.out.later hBc.out) (HO.out.later hBc.out) HC.out
                  rw [← HLV.out] at hli
                  have HN30 : Hid (nL q gs ts.length ofs ≤ 30) := by
                    show _ ≤ _
                    unfold nL
                    by_cases h0 : liveErr q gs ts.length ofs = 0
                    · rw [if_pos h0]
                      have hq0 : q = 0 := by
                        unfold liveErr at h0
                        by_cases hq : q = 0
                        · exact hq
                        · rw [if_neg hq] at h0; exact absurd h0 hq
                      have := HC.out
                      rw [hq0] at this
                      exact (this.ok rfl).2.1
                    · rw [if_neg h0]; omega
                  go_wp2_with fail
                  refine hli.mono ?_
                  clear hli
                  rintro e wf ⟨lvv, rfl, hlr, hbf⟩
                  have hBf : Below w.heap.size w wf := hBc.out.trans (hbf.mono hBc.out.size)
                  have her := error_one lv wf (HT.out.later hBf)
                  have hrd2 := hrd.out.later hbf
                  clear hbf hBc hrd hB9
                  go_wp2_with fail
                  refine her.mono ?_
                  clear her
                  rintro e wg ⟨rfl, hbg⟩
                  have hBg : Below w.heap.size w wg := hBf.trans (hbg.mono hBf.size)
                  have hsb := sameBools_any _ _ _ _ wg HN30.out (hlr.later hbg) (hrd2.later hbg)
                  clear hbg hBf hlr hrd2 HN30
                  go_wp2_with fail
                  refine hsb.mono ?_
                  clear hsb
                  rintro e wh ⟨rfl, hbh⟩
                  have hBh : Below w.heap.size w wh := hBg.trans (hbh.mono hBg.size)
                  clear hbh hBg
                  go_wp2
                  go_ret
                  exact ⟨rfl, hBh⟩
end Go.Proofs.YtkbcjhmcbfppkaaDoor
