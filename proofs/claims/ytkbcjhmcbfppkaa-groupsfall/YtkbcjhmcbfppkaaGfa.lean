/- The walk of GroupsFall. -/
import Derived.Test.YtkbcjhmcbfppkaaGrpg
namespace Go.Proofs.Ytkbcjhmcbfppkaa
open Go.RowKit Go.Deep

/-- The law's own groups. -/
def exG : List Grp := [(-1, false), (0, false), (-1, false)]
theorem exG_at (w : World) : GrpsAt (w.alloc (.cells #[.int .i64 (-1), .bool false, .int .i64 0, .bool false, .int .i64 (-1), .bool false] 27)) (.slice (some ⟨w.heap.size, 0, none⟩) 3 3) exG := by
  have h : RowG w.heap.size (w.alloc (.cells #[.int .i64 (-1), .bool false, .int .i64 0, .bool false, .int .i64 (-1), .bool false] 27)) (.slice (some ⟨w.heap.size, 0, none⟩) 3 3) exG :=
    World.ownsRow_lit (base := w.heap.size) (e := 27) (size := 2) w #[.int .i64 (-1), .bool false, .int .i64 0, .bool false, .int .i64 (-1), .bool false] 3 (Nat.le_refl _) (by unfold maxLen; omega) rfl
  exact h.grps (by decide)
/-- Is one a part of another one, or is it none? -/
def partZ (gs : List Grp) (z : Int) (i : Nat) : Bool := if z < 0 then false else partG gs z.toNat i
theorem partZ_nat (gs : List Grp) (k i : Nat) : partZ gs (k : Int) i = partG gs k i := by
  unfold partZ
  rw [if_neg (by omega), Int.toNat_natCast]
theorem partZ_step {gs : List Grp} (hr : RightG gs) {k i : Nat} (hk : k < gs.length) (h : k ≠ i) : partZ gs (k : Int) i = partZ gs (parG gs k) i := by
  rw [partZ_nat, partG_eq hr hk, show decide (k = i) = false from decide_eq_false h]
  unfold partZ
  by_cases hp : parG gs k < 0
  · rw [if_pos hp]; rfl
  · rw [if_neg hp]; rfl

theorem liveErr_zero {q : Int} {gs : List Grp} {n : Nat} {ofs : List Int} (h : liveErr q gs n ofs = 0) : q = 0 ∧ placesErr gs n ofs = 0 := by
  unfold liveErr at h
  by_cases hq : q = 0
  · rw [if_pos hq] at h; exact ⟨hq, h⟩
  · rw [if_neg hq] at h; exact absurd h hq
theorem below_drew {B : Nat} {w w' : World} (h : Below B w w') (q : Nat) : Below B w (w'.drewN q) := ⟨h.os, h.tape, h.output, h.size, h.block⟩

set_option maxRecDepth 100000 in
set_option maxHeartbeats 8000000 in
theorem groupsFall_any (gv pv ov : Value) (gs : List Grp) (i : Int) (ts : List (Int × List Int)) (ofs : List Int) (w : World) (hg : GrpsAt w gv gs) (hp : PlanAt w pv ts) (ho : IntsAt w ov ofs) :
    Calls Try.prog 3 #[gv, .int .i64 i, pv, ov] w fun e w' => e = .returned (.bool true) ∧ Below w.heap.size w w' := by
  have HG : Hid (GrpsAt w gv gs) := hg
  have HP : Hid (PlanAt w pv ts) := hp
  have HO : Hid (IntsAt w ov ofs) := ho
  obtain ⟨hl, ga, gc, rfl, hg⟩ := hg
  clear hg
  obtain ⟨hpl, pa, pc, rfl, hp⟩ := hp
  clear hp
  obtain ⟨hol, oa, oc, rfl, ho⟩ := ho
  clear ho
  have hb0 : Below w.heap.size w (w.alloc (.cells #[.int .i64 (-1), .bool false, .int .i64 0, .bool false, .int .i64 (-1), .bool false] 27)) := (Below.refl _ _).alloc (Nat.le_refl _) _
  obtain ⟨cp, cq, hck⟩ := check_some HP.out
  have HCK : Hid (CheckIs ts cp cq) := hck
  clear hck
  have hc0 := cancel_ok (exG_at w) (show placeErr exG 0 = 0 by decide)
  go_enter Try.func3, Try.ntmps3
  go_wp2_with fail
  refine hc0.mono ?_
  clear hc0
  rintro e w1 ⟨g1, c1, rfl, hrow1, hb1⟩
  rw [show exG.length = 3 from rfl] at hrow1 ⊢
  have hg1 := gone_ok (hrow1.grps (by decide)) (show placeErr (setC exG (0 : Int).toNat) 1 = 0 by decide)
  rw [show goneG (setC exG (0 : Int).toNat) (1 : Int).toNat = true by decide] at hg1
  have hB1 : Below w.heap.size w w1 := hb0.trans (hb1.mono hb0.size)
  clear hrow1 hb0 hb1
  go_wp2_with fail
  refine hg1.mono ?_
  clear hg1
  rintro e w2 ⟨rfl, hb2⟩
  have hB2 : Below w.heap.size w w2 := hB1.trans (hb2.mono hB1.size)
  clear hB1 hb2
  by_cases hq : placeErr gs i = 0
  · have hca := cancel_ok (HG.out.later hB2) hq
    obtain ⟨h12, hr, k, rfl, hk⟩ := placeErr_zero hq
    have HE : Hid (grpErr gs = 0) := right_grpErr h12 hr
    have HR : Hid (RightG gs) := hr
    rw [Int.toNat_natCast] at hca
    clear hq hr
    go_wp2_with fail
    refine hca.mono ?_
    clear hca
    rintro e w3 ⟨g3, c3, rfl, hrow3, hb3⟩
    have HH : Hid (GrpsAt w3 (.slice (some ⟨g3, 0, none⟩) gs.length c3) (setC gs k)) := hrow3.grps (by rw [setC_length]; exact hl)
    have hB3 : Below w.heap.size w w3 := hB2.trans (hb3.mono hB2.size)
    have HPE : Hid (∀ j : Nat, j < gs.length → placeErr gs (j : Int) = 0) := fun j hj => placeErr_in HE.out (by unfold inRange; simp; omega)
    have HPE2 : Hid (∀ j : Nat, j < gs.length → placeErr (setC gs k) (j : Int) = 0) := fun j hj => placeErr_in (right_grpErr (by rw [setC_length]; exact h12) (HR.out.set hk)) (by rw [setC_length]; unfold inRange; simp; omega)
    clear hrow3 hb3 hB2
    go_wp2
    go_loopw [15] (fun s15 wr => ∃ j : Nat, j ≤ gs.length ∧ s15 = .int .i64 j ∧ Below w3.heap.size w3 wr) (fun s15 _ => gs.length - (intOf s15).toNat)
    case atStart => exact ⟨0, Nat.zero_le _, rfl, Below.refl _ _⟩
    case round =>
      obtain ⟨j, hj, rfl, hbr⟩ := hrel
      have hBr : Below w.heap.size w wr := hB3.trans (hbr.mono hB3.size)
      by_cases hjl : j < gs.length
      · have ha := gone_ok (HG.out.later hBr) (HPE.out j hjl)
        have HGC : Hid (goneG (setC gs k) j = (goneG gs j || partG gs j k)) := gone_cancel HR.out hk j hjl
        rw [Int.toNat_natCast] at ha
        go_wp2_with fail
        refine ha.mono ?_
        clear ha
        rintro e w4 ⟨rfl, hb4⟩
        have hbr4 : Below w3.heap.size w3 w4 := hbr.trans (hb4.mono hbr.size)
        have hc := gone_ok (HH.out.later hbr4) (HPE2.out j hjl)
        rw [Int.toNat_natCast, HGC.out] at hc
        clear hb4 hbr
        go_wp2_with fail
        refine hc.mono ?_
        clear hc
        rintro e w5 ⟨rfl, hb5⟩
        have hbr5 : Below w3.heap.size w3 w5 := hbr4.trans (hb5.mono hbr4.size)
        have hBr5 : Below w.heap.size w w5 := hB3.trans (hbr5.mono hB3.size)
        obtain ⟨-, a6, c6, e6, hgc⟩ := HG.out.later hBr5
        simp only [Value.slice.injEq] at e6
        obtain ⟨rfl, -, rfl⟩ := e6
        rcases hgc with h0 | ⟨gb, go, rfl, hgbl, hgc⟩
        · exfalso
          subst h0
          simp at hjl
        have HGCS : Hid (∀ n, n < gs.length → w5.cell? ⟨gb, go + n * 2, none⟩ = some (.int .i64 (parG gs n)) ∧ w5.cell? ⟨gb, go + n * 2 + 1, none⟩ = some (.bool (canG gs n))) := hgc
        clear hgc hb5 hbr4 HGC hBr
        generalize hA : goneG gs j = A at *
        have HPT : Hid (partG gs j k = partZ gs (j : Int) k) := (partZ_nat gs j k).symm
        clear hA
        generalize partG gs j k = P at *
        go_wp2
        go_loop [20] (fun s20 => ∃ z : Int, s20 = .int .i64 z ∧ -1 ≤ z ∧ z < gs.length ∧ Hid (P = partZ gs z k)) (fun s20 => (intOf s20 + 1).toNat)
        case atStart => exact ⟨j, rfl, by omega, by omega, HPT⟩
        case round =>
          clear HPT
          obtain ⟨z, rfl, hz1, hz2, hP⟩ := hrel
          by_cases h0 : 0 ≤ z
          · obtain ⟨n, rfl⟩ := Int.eq_ofNat_of_zero_le h0
            have hn : n < gs.length := by omega
            by_cases hnk : n = k
            · subst hnk
              have hPt : P = true := by rw [hP.out, partZ_nat]; exact part_self HR.out hn
              subst hPt
              clear hP HGCS
              cases A
              all_goals
                go_wp2
                go_roundw
                case rel => exact ⟨j + 1, by omega, by go_num, hbr5⟩
                case measure => simp [intOf]; omega
            · have hne : ((n : Int) == (k : Int)) = false := by rw [beq_eq_false_iff_ne]; omega
              obtain ⟨hc1, -⟩ := HGCS.out n hn
              have hrn := HR.out n hn
              have HE2 : Hid (P = partZ gs (parG gs n) k) := hP.out.trans (partZ_step HR.out hn hnk)
              clear hP
              generalize parG gs n = p at *
              go_wp2
              go_round
              case rel => exact ⟨p, rfl, by omega, by omega, HE2⟩
              case measure => simp [intOf]; omega
          · have hPf : P = false := by rw [hP.out]; unfold partZ; rw [if_pos (by omega)]
            subst hPf
            have hne : (z == (k : Int)) = false := by rw [beq_eq_false_iff_ne]; omega
            clear hP HGCS
            cases A
            all_goals
              go_wp2
              go_roundw
              case rel => exact ⟨j + 1, by omega, by go_num, hbr5⟩
              case measure => simp [intOf]; omega
      · by_cases hle : liveErr cq gs ts.length ofs = 0
        · obtain ⟨hq0, hpl0⟩ := liveErr_zero hle
          subst hq0
          obtain ⟨-, -, hlen, hin⟩ := placesErr_zero hpl0
          obtain ⟨-, h30, herr, -⟩ := HCK.out.ok rfl
          have HRNG : Hid (InRange ts) := inRange_of herr
          have HLESS : Hid (∀ m, m < ts.length → liveB ts (deadG (setC gs k) ofs) m = true → liveB ts (deadG gs ofs) m = true) := fun m hm h => live_less HRNG.out HR.out hk hlen hin hm h
          have hl1 := live_ok (HP.out.later hBr) (HG.out.later hBr) (HO.out.later hBr) HCK.out hpl0
          have HPS : Hid (placesErr (setC gs k) ts.length ofs = 0) := by show _ = _; rw [placesErr_set hk HE.out]; exact hpl0
          clear hle hpl0 hlen hin herr
          go_wp2_with fail
          refine hl1.mono ?_
          clear hl1
          rintro e w6 ⟨xb, xo, xc, rfl, hX, hb6⟩
          have hbr6 : Below w3.heap.size w3 w6 := hbr.trans (hb6.mono hbr.size)
          have hBr6 : Below w.heap.size w w6 := hBr.trans (hb6.mono hBr.size)
          have hl2 := live_ok (HP.out.later hBr6) (HH.out.later hbr6) (HO.out.later hBr6) HCK.out HPS.out
          clear hb6 hbr hBr HPS
          go_wp2_with fail
          refine hl2.mono ?_
          clear hl2
          rintro e w7 ⟨yb, yo, yc, rfl, hY, hb7⟩
          have hBr7 : Below w.heap.size w w7 := hBr6.trans (hb7.mono hBr6.size)
          obtain ⟨xb2, xo2, xc2, ex, -, hX⟩ := hX.later hb7
          simp only [Value.slice.injEq, Option.some.injEq, Addr.mk.injEq] at ex
          obtain ⟨⟨rfl, rfl, -⟩, -, rfl⟩ := ex
          obtain ⟨yb2, yo2, yc2, ey, -, hY⟩ := hY
          simp only [Value.slice.injEq, Option.some.injEq, Addr.mk.injEq] at ey
          obtain ⟨⟨rfl, rfl, -⟩, -, rfl⟩ := ey
          have HX : Hid (∀ m, m < ts.length → w7.cell? ⟨xb, xo + m, none⟩ = some (.bool (liveB ts (deadG gs ofs) m))) := hX
          have HY : Hid (∀ m, m < ts.length → w7.cell? ⟨yb, yo + m, none⟩ = some (.bool (liveB ts (deadG (setC gs k) ofs) m))) := hY
          have HND : Hid (∀ m n, Need ts m n → liveB ts (deadG (setC gs k) ofs) m = true → liveB ts (deadG (setC gs k) ofs) n = true) := fun m n h1 h2 => live_needs h1 h2
          have HP7 : Hid (PlanAt w7 (.slice pa ts.length pc) ts) := HP.out.later hBr7
          clear hX hY hb7 hBr6 hbr6 HP HG HO HH HCK HPE HPE2 HR HE
          generalize liveB ts (deadG gs ofs) = X at *
          generalize liveB ts (deadG (setC gs k) ofs) = Y at *
          go_wp2
          go_loop [24] (fun s24 => ∃ m : Nat, m ≤ ts.length ∧ s24 = .int .i64 m) (fun s24 => ts.length - (intOf s24).toNat)
          case atStart => exact ⟨0, Nat.zero_le _, rfl⟩
          case round =>
            obtain ⟨m, hm, rfl⟩ := hrel
            by_cases hml : m < ts.length
            · have hx := HX.out m hml
              have hy := HY.out m hml
              obtain ⟨-, a8, c8, e8, hpc⟩ := HP7.out
              simp only [Value.slice.injEq] at e8
              obtain ⟨rfl, -, rfl⟩ := e8
              rcases hpc with h0 | ⟨pb, po, rfl, hpbl, hpc⟩
              · exfalso
                subst h0
                simp at hml
              obtain ⟨-, nv, hp2, -, na, nc, rfl, hns⟩ := hpc m hml
              have HNS : Hid (∀ d, d < (needsOf ts m).length → ∃ nb no, na = some ⟨nb, no, none⟩ ∧ w7.cell? ⟨nb, no + d, none⟩ = some (.int .i64 ((needsOf ts m).getD d 0))) := fun d hd => by
                rcases hns with h0 | ⟨nb, no, h1, -, h2⟩
                · rw [h0] at hd; simp at hd
                · exact ⟨nb, no, h1, h2 d hd⟩
              have HNR : Hid (∀ d, d < (needsOf ts m).length → ∃ n : Nat, (needsOf ts m).getD d 0 = n ∧ n < ts.length ∧ Need ts m n) := fun d hd => by
                have hme : (needsOf ts m).getD d 0 ∈ needsOf ts m := by
                  rw [List.getD_eq_getElem?_getD, List.getElem?_eq_getElem hd]
                  exact List.getElem_mem _
                have := HRNG.out m hml _ hme
                refine ⟨((needsOf ts m).getD d 0).toNat, by omega, by omega, ?_⟩
                unfold Need
                rw [Int.toNat_of_nonneg this.1]
                exact hme
              have hnl : (needsOf ts m).length ≤ 9223372036854775000 := by
                have := HP7.out
                obtain ⟨-, _, _, e9, h9⟩ := this
                rcases h9 with h9 | ⟨_, _, _, _, h9⟩
                · rw [h9] at hml; simp at hml
                · obtain ⟨-, _, -, h10, -⟩ := h9 m hml
                  omega
              clear hpc hns
              generalize (needsOf ts m).length = nl at *
              cases hYm : Y m
              · rw [hYm] at hy
                go_wp2
                go_loop [25] (fun s25 => ∃ d : Nat, d ≤ nl ∧ s25 = .int .i64 d) (fun s25 => nl - (intOf s25).toNat)
                case atStart => exact ⟨0, Nat.zero_le _, rfl⟩
                case round =>
                  obtain ⟨d, hd, rfl⟩ := hrel
                  by_cases hdl : d < nl
                  · obtain ⟨nb, no, rfl, hcn⟩ := HNS.out d hdl
                    obtain ⟨n, hn, hnt, -⟩ := HNR.out d hdl
                    rw [hn] at hcn
                    clear hn
                    go_wp2
                    go_round
                    case rel => exact ⟨d + 1, by omega, by go_num⟩
                    case measure => simp [intOf]; omega
                  · go_wp2
                    go_round
                    case rel => exact ⟨m + 1, by omega, by go_num⟩
                    case measure => simp [intOf]; omega
              · have hXm := HLESS.out m hml hYm
                rw [hYm] at hy
                rw [hXm] at hx
                go_wp2
                go_loop [25] (fun s25 => ∃ d : Nat, d ≤ nl ∧ s25 = .int .i64 d) (fun s25 => nl - (intOf s25).toNat)
                case atStart => exact ⟨0, Nat.zero_le _, rfl⟩
                case round =>
                  obtain ⟨d, hd, rfl⟩ := hrel
                  by_cases hdl : d < nl
                  · obtain ⟨nb, no, rfl, hcn⟩ := HNS.out d hdl
                    obtain ⟨n, hn, hnt, hne⟩ := HNR.out d hdl
                    rw [hn] at hcn
                    have hyn := HY.out n hnt
                    rw [HND.out m n hne hYm] at hyn
                    clear hn hne
                    go_wp2
                    go_round
                    case rel => exact ⟨d + 1, by omega, by go_num⟩
                    case measure => simp [intOf]; omega
                  · go_wp2
                    go_round
                    case rel => exact ⟨m + 1, by omega, by go_num⟩
                    case measure => simp [intOf]; omega
            · clear HX HY
              go_wp2
              go_ret
              exact ⟨rfl, hBr7⟩
        · have hl1 := live_no (HP.out.later hBr) (HG.out.later hBr) (HO.out.later hBr) HCK.out hle
          have HLE2 : Hid (liveErr cq (setC gs k) ts.length ofs ≠ 0) := by
            show _ ≠ _
            unfold liveErr at hle ⊢
            rw [placesErr_set hk HE.out]
            exact hle
          clear hle
          go_wp2_with fail
          refine hl1.mono ?_
          clear hl1
          rintro e w6 ⟨rfl, hb6⟩
          have hbr6 : Below w3.heap.size w3 w6 := hbr.trans (hb6.mono hbr.size)
          have hBr6 : Below w.heap.size w w6 := hBr.trans (hb6.mono hBr.size)
          have hl2 := live_no (HP.out.later hBr6) (HH.out.later hbr6) (HO.out.later hBr6) HCK.out HLE2.out
          clear hb6 hbr hBr HLE2 HP HG HO HH HCK HPE HPE2 HR HE
          generalize liveErr cq gs ts.length ofs = q1 at *
          generalize liveErr cq (setC gs k) ts.length ofs = q2 at *
          go_wp2_with fail
          refine hl2.mono ?_
          clear hl2
          rintro e w7 ⟨rfl, hb7⟩
          go_wp2
          go_quiet (fail)
          go_wp2
          go_ret
          exact ⟨rfl, below_drew (hBr6.trans (hb7.mono hBr6.size)) _⟩
  · have hca := cancel_no (HG.out.later hB2) hq
    clear hq HG HP HO
    generalize placeErr gs i = q at *
    go_wp2_with fail
    refine hca.mono ?_
    clear hca
    rintro e w3 ⟨rfl, hb3⟩
    go_wp2
    go_ret
    exact ⟨rfl, hB2.trans (hb3.mono hB2.size)⟩
end Go.Proofs.Ytkbcjhmcbfppkaa
