/- JudgeTells answers true. -/
import Derived.Test.YtkgdhfdahafaoaaDoorJg
import Derived.Test.YtkgdhfdahafaoaaDoorJs
import Derived.Test.YtkgdhfdahafaoaaDoorI
import Derived.Test.YtkgdhfdahafaoaaDoorRh
namespace Go.Proofs.YtkgdhfdahafaoaaDoor
open Go.RowKit Go.Deep

/-- What stays known between the calls. -/
structure KnJ (w : World) (v lv sv : Value) (ts : List (Int × List Int)) (l : List BitZ) (s : List StyZ) (W : World) : Prop where
  below : Below w.heap.size w W
  typed : Typed W
  plan : PlanAt W v ts
  bits : BitsAt W lv l
  stays : StaysAt W sv s
section
variable {w : World} {v lv sv : Value} {ts : List (Int × List Int)} {l : List BitZ} {s : List StyZ} {W : World}
theorem KnJ.later {W' : World} (h : KnJ w v lv sv ts l s W) (hb : Below W.heap.size W W') : KnJ w v lv sv ts l s W' :=
  ⟨h.below.trans (hb.mono h.below.size), h.typed.later hb, h.plan.later hb, h.bits.later hb, h.stays.later hb⟩
theorem j_error (q : Int) (h : KnJ w v lv sv ts l s W) : Calls Tryd.prog 8 #[errV q, .int .i64 q] W fun e W' => e = .returned (.bool true) ∧ Below W.heap.size W W' :=
  (error_any q q W h.typed).mono fun e W' ⟨he, hb⟩ => ⟨by rw [he]; simp, hb⟩
/-- The error that all tell: Check's, the hands', or that of the bits. -/
def AllErr (_ts : List (Int × List Int)) (hands q : Int) (r : Int) : Int := if jErr q hands = 0 then r else jErr q hands
theorem j_bits {p q hands : Int} (hc : CheckIs ts p q) (h : KnJ w v lv sv ts l s W) : Calls Tryd.prog 9 #[v, .int .i64 hands, lv] W fun e W' => e = .returned (errV (AllErr ts hands q (bitsErr ts hands.toNat l))) ∧ Below W.heap.size W W' :=
  (bits_any v lv ts l hands W h.plan h.bits).mono fun e W' ⟨he, hb⟩ => ⟨by
    rcases he with ⟨p', q', hc', hne, rfl⟩ | ⟨hc', h1, h6, rfl⟩
    · rw [(hc.det hc').2]
      unfold AllErr
      rw [if_neg hne]
    · rw [(hc.det hc').2]
      unfold AllErr
      rw [if_pos (by unfold jErr; rw [if_pos rfl, if_neg (by omega)])], hb⟩
theorem j_stays {p q hands : Int} (hc : CheckIs ts p q) (h : KnJ w v lv sv ts l s W) : Calls Tryd.prog 13 #[v, .int .i64 hands, sv] W fun e W' => e = .returned (errV (AllErr ts hands q (staysErr ts hands.toNat s))) ∧ Below W.heap.size W W' :=
  (stays_any v sv ts s hands W h.plan h.stays).mono fun e W' ⟨he, hb⟩ => ⟨by
    rcases he with ⟨p', q', hc', hne, rfl⟩ | ⟨hc', h1, h6, rfl⟩
    · rw [(hc.det hc').2]
      unfold AllErr
      rw [if_neg hne]
    · rw [(hc.det hc').2]
      unfold AllErr
      rw [if_pos (by unfold jErr; rw [if_pos rfl, if_neg (by omega)])], hb⟩
/-- The last steps, or nothing. -/
def lastsL (ts : List (Int × List Int)) (l : List BitZ) (e : Int) : List Int := if e = 0 then listOf (fun x => lastB l (x : Int)) ts.length else []
theorem ints_none (W : World) : IntsAt W (.slice none 0 0) [] := ⟨by simp, none, 0, rfl, Or.inl rfl⟩
theorem j_ends {p q hands : Int} (hc : CheckIs ts p q) (h : KnJ w v lv sv ts l s W) : Calls Tryd.prog 10 #[v, .int .i64 hands, lv] W fun e W' => (∃ u, e = .returned (.tuple #[u, errV (AllErr ts hands q (bitsErr ts hands.toNat l))]) ∧ IntsAt W' u (lastsL ts l (AllErr ts hands q (bitsErr ts hands.toNat l)))) ∧ Below W.heap.size W W' :=
  (ends_any v lv ts l hands W h.plan h.bits).mono fun e W' ⟨he, hb⟩ => ⟨by
    rcases he with ⟨p', q', hc', hne, rfl⟩ | ⟨hc', h1, h6, hne, rfl⟩ | ⟨hc', h1, h6, hz, g, _, rfl, hrow⟩
    · rw [(hc.det hc').2]
      have e1 : AllErr ts hands q' (bitsErr ts hands.toNat l) = jErr q' hands := by unfold AllErr; rw [if_neg hne]
      rw [e1]
      refine ⟨_, rfl, ?_⟩
      unfold lastsL
      rw [if_neg hne]
      exact ints_none _
    · rw [(hc.det hc').2]
      have e1 : AllErr ts hands 0 (bitsErr ts hands.toNat l) = bitsErr ts hands.toNat l := by
        unfold AllErr
        rw [if_pos (by unfold jErr; rw [if_pos rfl, if_neg (by omega)])]
      rw [e1]
      refine ⟨_, rfl, ?_⟩
      unfold lastsL
      rw [if_neg hne]
      exact ints_none _
    · rw [(hc.det hc').2]
      have e1 : AllErr ts hands 0 (bitsErr ts hands.toNat l) = 0 := by
        unfold AllErr
        rw [if_pos (by unfold jErr; rw [if_pos rfl, if_neg (by omega)]), hz]
      rw [e1, errV_zero]
      refine ⟨_, rfl, ?_⟩
      unfold lastsL
      rw [if_pos rfl]
      exact row_ints hrow (by have := hc'.worksJ.1.1; omega), hb⟩
theorem j_ref {hn : Nat} (hc : CheckIs ts 0 0) (h : KnJ w v lv sv ts l s W) : Calls Tryd.prog 7 #[v, .int .i64 (hn : Int), lv] W fun e W' => (∃ u, e = .returned (.tuple #[u, .int .i64 (bitsErr ts hn l)]) ∧ IntsAt W' u (lastsL ts l (bitsErr ts hn l))) ∧ Below W.heap.size W W' :=
  (refBits_any v lv ts l hn W h.plan h.bits hc.worksJ.1 hc.worksJ.2.1).mono fun e W' ⟨he, hb⟩ => ⟨by
    rcases he with ⟨hne, rfl⟩ | ⟨hz, g, _, rfl, hrow⟩
    · refine ⟨_, rfl, ?_⟩
      unfold lastsL
      rw [if_neg hne]
      exact ints_none _
    · rw [hz]
      refine ⟨_, rfl, ?_⟩
      unfold lastsL
      rw [if_pos rfl]
      exact row_ints hrow (by have := hc.worksJ.1.1; omega), hb⟩
theorem j_same {a b : Value} {U : List Int} (ha : IntsAt W a U) (hb : IntsAt W b U) : Calls Tryd.prog 11 #[a, b] W fun e W' => e = .returned (.bool true) ∧ Below W.heap.size W W' :=
  (sameInts_any a b U U W ha hb).mono fun e W' ⟨he, n, hn⟩ => ⟨by rw [he]; simp, by rw [hn]; exact below_drewJ (Below.refl _ _) n⟩
end

set_option maxRecDepth 100000 in
set_option maxHeartbeats 8000000 in
theorem judgeTells_any (v lv sv : Value) (ts : List (Int × List Int)) (l : List BitZ) (s : List StyZ) (hands : Int) (w : World) (hp : PlanAt w v ts) (hl : BitsAt w lv l) (hs : StaysAt w sv s) (ht : Typed w) :
    Calls Tryd.prog 3 #[v, .int .i64 hands, lv, sv] w fun e w' => e = .returned (.bool true) ∧ Below w.heap.size w w' := by
  have HK0 : Hid (KnJ w v lv sv ts l s w) := ⟨Below.refl _ _, ht, hp, hl, hs⟩
  have c6 := rightR_any v ts w hp
  obtain ⟨hl0, a, c, rfl, hp⟩ := hp
  obtain ⟨hl1, la, lc, rfl, hl⟩ := hl
  obtain ⟨hl2, sa, sc, rfl, hs⟩ := hs
  clear hp hl hs ht hl0 hl1 hl2
  go_enter Tryd.func3, Tryd.ntmps3
  go_wp2_with fail
  refine c6.mono ?_
  clear c6
  rintro e w1 ⟨⟨p, q, rfl, hc⟩, hb⟩
  have HK1 : Hid (KnJ w (.slice a ts.length c) (.slice la l.length lc) (.slice sa s.length sc) ts l s w1) := HK0.out.later hb
  have HC : Hid (CheckIs ts p q) := hc
  clear hb HK0
  by_cases hq : q = 0
  · subst hq
    by_cases h1 : hands < 1
    · have hz : ((0 : Int) == 0) = true := rfl
      have HJ : Hid (jErr 0 hands = (1 : Int)) := by show _ = _; unfold jErr; rw [if_pos rfl, if_pos (Or.inl h1)]
      have HNZ : Hid ((1 : Int) ≠ 0) := by show _ ≠ _; omega
      have HEB : Hid (AllErr ts hands 0 (bitsErr ts hands.toNat l) = (1 : Int)) := by show _ = _; unfold AllErr; rw [HJ.out, if_neg HNZ.out]
      have HSE : Hid (AllErr ts hands 0 (staysErr ts hands.toNat s) = (1 : Int)) := by show _ = _; unfold AllErr; rw [HJ.out, if_neg HNZ.out]
      obtain ⟨wS, hwS⟩ : ∃ wS, wS = w1 := ⟨_, rfl⟩
      have HKS : Hid (KnJ w (.slice a ts.length c) (.slice la l.length lc) (.slice sa s.length sc) ts l s wS) := by rw [hwS]; exact HK1.out
      have HUS : Hid (∀ wx, Below wS.heap.size wS wx → IntsAt wx (.slice none 0 0) (lastsL ts l (1 : Int))) := fun wx _ => by unfold lastsL; rw [if_neg HNZ.out]; exact ints_none _
      rw [← hwS]
      clear hwS HK1
      clear hz
      obtain ⟨ev, hev⟩ : ∃ ev, ev = errV (1 : Int) := ⟨_, rfl⟩
      have HEV : Hid (errV (1 : Int) = ev) := hev.symm
      clear hev
      have c9 := j_bits (hands := hands) HC.out HKS.out
      rw [HEB.out, HEV.out] at c9
      go_wp2_with fail
      refine c9.mono ?_
      clear c9
      rintro e wA ⟨rfl, hb⟩
      have HBA : Hid (Below wS.heap.size wS wA) := hb
      have c8 := j_error (1 : Int) (HKS.out.later HBA.out)
      rw [HEV.out] at c8
      clear hb
      go_wp2_with fail
      refine c8.mono ?_
      clear c8
      rintro e wB ⟨rfl, hb⟩
      have HBB : Hid (Below wS.heap.size wS wB) := HBA.out.trans (hb.mono HBA.out.size)
      have c10 := j_ends (hands := hands) HC.out (HKS.out.later HBB.out)
      rw [HEB.out, HEV.out] at c10
      clear hb
      go_wp2_with fail
      refine c10.mono ?_
      clear c10
      rintro e wC ⟨⟨x, rfl, hx⟩, hb⟩
      have HBC : Hid (Below wS.heap.size wS wC) := HBB.out.trans (hb.mono HBB.out.size)
      have HXC : Hid (IntsAt wC x (lastsL ts l (1 : Int))) := hx
      obtain ⟨_, xa, xc, rfl, _⟩ := hx
      have c8 := j_error (1 : Int) (HKS.out.later HBC.out)
      rw [HEV.out] at c8
      clear hb
      generalize hxl : (lastsL ts l (1 : Int)).length = xl at *
      clear hxl
      go_wp2_with fail
      refine c8.mono ?_
      clear c8
      rintro e wD ⟨rfl, hb⟩
      have HBD : Hid (Below wS.heap.size wS wD) := HBC.out.trans (hb.mono HBC.out.size)
      have c11 := j_same (HXC.out.later hb) (HUS.out wD HBD.out)
      clear hb
      go_wp2_with fail
      refine c11.mono ?_
      clear c11
      rintro e wE ⟨rfl, hb⟩
      have HBE : Hid (Below wS.heap.size wS wE) := HBD.out.trans (hb.mono HBD.out.size)
      clear hb
      obtain ⟨wF, hwF⟩ : ∃ wF, wF = wE := ⟨_, rfl⟩
      have HBF : Hid (Below wS.heap.size wS wF) := by rw [hwF]; exact HBE.out
      rw [← hwF]
      clear hwF
      obtain ⟨sv2, hsv2⟩ : ∃ sv2, sv2 = errV (1 : Int) := ⟨_, rfl⟩
      have HSV : Hid (errV (1 : Int) = sv2) := hsv2.symm
      clear hsv2
      have c13 := j_stays (hands := hands) HC.out (HKS.out.later HBF.out)
      rw [HSE.out, HSV.out] at c13
      go_wp2_with fail
      refine c13.mono ?_
      clear c13
      rintro e wG ⟨rfl, hb⟩
      have HBG : Hid (Below wS.heap.size wS wG) := HBF.out.trans (hb.mono HBF.out.size)
      have c8 := j_error (1 : Int) (HKS.out.later HBG.out)
      rw [HSV.out] at c8
      clear hb
      go_wp2_with fail
      refine c8.mono ?_
      clear c8
      rintro e wH ⟨rfl, hb⟩
      have HBH : Hid (Below wS.heap.size wS wH) := HBG.out.trans (hb.mono HBG.out.size)
      clear hb
      go_wp2
      go_ret
      exact ⟨rfl, (HKS.out.later HBH.out).below⟩
    · by_cases h6 : 6 < hands
      · skip
        have HJ : Hid (jErr 0 hands = (1 : Int)) := by show _ = _; unfold jErr; rw [if_pos rfl, if_pos (Or.inr h6)]
        have HNZ : Hid ((1 : Int) ≠ 0) := by show _ ≠ _; omega
        have HEB : Hid (AllErr ts hands 0 (bitsErr ts hands.toNat l) = (1 : Int)) := by show _ = _; unfold AllErr; rw [HJ.out, if_neg HNZ.out]
        have HSE : Hid (AllErr ts hands 0 (staysErr ts hands.toNat s) = (1 : Int)) := by show _ = _; unfold AllErr; rw [HJ.out, if_neg HNZ.out]
        obtain ⟨wS, hwS⟩ : ∃ wS, wS = w1 := ⟨_, rfl⟩
        have HKS : Hid (KnJ w (.slice a ts.length c) (.slice la l.length lc) (.slice sa s.length sc) ts l s wS) := by rw [hwS]; exact HK1.out
        have HUS : Hid (∀ wx, Below wS.heap.size wS wx → IntsAt wx (.slice none 0 0) (lastsL ts l (1 : Int))) := fun wx _ => by unfold lastsL; rw [if_neg HNZ.out]; exact ints_none _
        rw [← hwS]
        clear hwS HK1
        obtain ⟨ev, hev⟩ : ∃ ev, ev = errV (1 : Int) := ⟨_, rfl⟩
        have HEV : Hid (errV (1 : Int) = ev) := hev.symm
        clear hev
        have c9 := j_bits (hands := hands) HC.out HKS.out
        rw [HEB.out, HEV.out] at c9
        go_wp2_with fail
        refine c9.mono ?_
        clear c9
        rintro e wA ⟨rfl, hb⟩
        have HBA : Hid (Below wS.heap.size wS wA) := hb
        have c8 := j_error (1 : Int) (HKS.out.later HBA.out)
        rw [HEV.out] at c8
        clear hb
        go_wp2_with fail
        refine c8.mono ?_
        clear c8
        rintro e wB ⟨rfl, hb⟩
        have HBB : Hid (Below wS.heap.size wS wB) := HBA.out.trans (hb.mono HBA.out.size)
        have c10 := j_ends (hands := hands) HC.out (HKS.out.later HBB.out)
        rw [HEB.out, HEV.out] at c10
        clear hb
        go_wp2_with fail
        refine c10.mono ?_
        clear c10
        rintro e wC ⟨⟨x, rfl, hx⟩, hb⟩
        have HBC : Hid (Below wS.heap.size wS wC) := HBB.out.trans (hb.mono HBB.out.size)
        have HXC : Hid (IntsAt wC x (lastsL ts l (1 : Int))) := hx
        obtain ⟨_, xa, xc, rfl, _⟩ := hx
        have c8 := j_error (1 : Int) (HKS.out.later HBC.out)
        rw [HEV.out] at c8
        clear hb
        generalize hxl : (lastsL ts l (1 : Int)).length = xl at *
        clear hxl
        go_wp2_with fail
        refine c8.mono ?_
        clear c8
        rintro e wD ⟨rfl, hb⟩
        have HBD : Hid (Below wS.heap.size wS wD) := HBC.out.trans (hb.mono HBC.out.size)
        have c11 := j_same (HXC.out.later hb) (HUS.out wD HBD.out)
        clear hb
        go_wp2_with fail
        refine c11.mono ?_
        clear c11
        rintro e wE ⟨rfl, hb⟩
        have HBE : Hid (Below wS.heap.size wS wE) := HBD.out.trans (hb.mono HBD.out.size)
        clear hb
        obtain ⟨wF, hwF⟩ : ∃ wF, wF = wE := ⟨_, rfl⟩
        have HBF : Hid (Below wS.heap.size wS wF) := by rw [hwF]; exact HBE.out
        rw [← hwF]
        clear hwF
        obtain ⟨sv2, hsv2⟩ : ∃ sv2, sv2 = errV (1 : Int) := ⟨_, rfl⟩
        have HSV : Hid (errV (1 : Int) = sv2) := hsv2.symm
        clear hsv2
        have c13 := j_stays (hands := hands) HC.out (HKS.out.later HBF.out)
        rw [HSE.out, HSV.out] at c13
        go_wp2_with fail
        refine c13.mono ?_
        clear c13
        rintro e wG ⟨rfl, hb⟩
        have HBG : Hid (Below wS.heap.size wS wG) := HBF.out.trans (hb.mono HBF.out.size)
        have c8 := j_error (1 : Int) (HKS.out.later HBG.out)
        rw [HSV.out] at c8
        clear hb
        go_wp2_with fail
        refine c8.mono ?_
        clear c8
        rintro e wH ⟨rfl, hb⟩
        have HBH : Hid (Below wS.heap.size wS wH) := HBG.out.trans (hb.mono HBG.out.size)
        clear hb
        go_wp2
        go_ret
        exact ⟨rfl, (HKS.out.later HBH.out).below⟩
      · obtain ⟨rfl, -⟩ := hc.ok rfl
        have hJ : jErr 0 hands = 0 := by unfold jErr; rw [if_pos rfl, if_neg (by omega)]
        have HWR : Hid (Works ts ∧ InRange ts) := ⟨hc.worksJ.1, hc.worksJ.2.1⟩
        have HTN : Hid (((hands.toNat : Nat) : Int) = hands) := Int.toNat_of_nonneg (by omega)
        obtain ⟨eb, heb⟩ : ∃ eb : Int, eb = bitsErr ts hands.toNat l := ⟨_, rfl⟩
        obtain ⟨se, hse⟩ : ∃ se : Int, se = staysErr ts hands.toNat s := ⟨_, rfl⟩
        have HEB : Hid (AllErr ts hands 0 (bitsErr ts hands.toNat l) = eb) := by show _ = _; unfold AllErr; rw [hJ, if_pos rfl, heb]
        have HSE : Hid (AllErr ts hands 0 (staysErr ts hands.toNat s) = se) := by show _ = _; unfold AllErr; rw [hJ, if_pos rfl, hse]
        have HSE0 : Hid (staysErr ts hands.toNat s = se) := hse.symm
        have c7 := j_ref (hn := hands.toNat) hc HK1.out
        rw [HTN.out, ← heb] at c7
        clear heb hse hJ hc
        go_wp2_with fail
        refine c7.mono ?_
        clear c7
        rintro e wS ⟨⟨u, rfl, hu⟩, hb⟩
        have HKS : Hid (KnJ w (.slice a ts.length c) (.slice la l.length lc) (.slice sa s.length sc) ts l s wS) := HK1.out.later hb
        have HUS : Hid (∀ wx, Below wS.heap.size wS wx → IntsAt wx u (lastsL ts l eb)) := fun wx h => hu.later h
        obtain ⟨_, ua, uc, rfl, _⟩ := hu
        clear hb HK1
        generalize hul : (lastsL ts l eb).length = ul at *
        clear hul
        obtain ⟨ev, hev⟩ : ∃ ev, ev = errV eb := ⟨_, rfl⟩
        have HEV : Hid (errV eb = ev) := hev.symm
        clear hev
        have c9 := j_bits (hands := hands) HC.out HKS.out
        rw [HEB.out, HEV.out] at c9
        go_wp2_with fail
        refine c9.mono ?_
        clear c9
        rintro e wA ⟨rfl, hb⟩
        have HBA : Hid (Below wS.heap.size wS wA) := hb
        have c8 := j_error eb (HKS.out.later HBA.out)
        rw [HEV.out] at c8
        clear hb
        go_wp2_with fail
        refine c8.mono ?_
        clear c8
        rintro e wB ⟨rfl, hb⟩
        have HBB : Hid (Below wS.heap.size wS wB) := HBA.out.trans (hb.mono HBA.out.size)
        have c10 := j_ends (hands := hands) HC.out (HKS.out.later HBB.out)
        rw [HEB.out, HEV.out] at c10
        clear hb
        go_wp2_with fail
        refine c10.mono ?_
        clear c10
        rintro e wC ⟨⟨x, rfl, hx⟩, hb⟩
        have HBC : Hid (Below wS.heap.size wS wC) := HBB.out.trans (hb.mono HBB.out.size)
        have HXC : Hid (IntsAt wC x (lastsL ts l eb)) := hx
        obtain ⟨_, xa, xc, rfl, _⟩ := hx
        have c8 := j_error eb (HKS.out.later HBC.out)
        rw [HEV.out] at c8
        clear hb
        generalize hxl : (lastsL ts l eb).length = xl at *
        clear hxl
        go_wp2_with fail
        refine c8.mono ?_
        clear c8
        rintro e wD ⟨rfl, hb⟩
        have HBD : Hid (Below wS.heap.size wS wD) := HBC.out.trans (hb.mono HBC.out.size)
        have c11 := j_same (HXC.out.later hb) (HUS.out wD HBD.out)
        clear hb
        go_wp2_with fail
        refine c11.mono ?_
        clear c11
        rintro e wE ⟨rfl, hb⟩
        have HBE : Hid (Below wS.heap.size wS wE) := HBD.out.trans (hb.mono HBD.out.size)
        clear hb
        have c12 := refStays_any _ _ ts s hands.toNat wE (HKS.out.later HBE.out).plan (HKS.out.later HBE.out).stays HWR.out.1 HWR.out.2
        rw [HTN.out, HSE0.out] at c12
        go_wp2_with fail
        refine c12.mono ?_
        clear c12
        rintro e wF ⟨rfl, hb⟩
        have HBF : Hid (Below wS.heap.size wS wF) := HBE.out.trans (hb.mono HBE.out.size)
        clear hb
        obtain ⟨sv2, hsv2⟩ : ∃ sv2, sv2 = errV se := ⟨_, rfl⟩
        have HSV : Hid (errV se = sv2) := hsv2.symm
        clear hsv2
        have c13 := j_stays (hands := hands) HC.out (HKS.out.later HBF.out)
        rw [HSE.out, HSV.out] at c13
        go_wp2_with fail
        refine c13.mono ?_
        clear c13
        rintro e wG ⟨rfl, hb⟩
        have HBG : Hid (Below wS.heap.size wS wG) := HBF.out.trans (hb.mono HBF.out.size)
        have c8 := j_error se (HKS.out.later HBG.out)
        rw [HSV.out] at c8
        clear hb
        go_wp2_with fail
        refine c8.mono ?_
        clear c8
        rintro e wH ⟨rfl, hb⟩
        have HBH : Hid (Below wS.heap.size wS wH) := HBG.out.trans (hb.mono HBG.out.size)
        clear hb
        go_wp2
        go_ret
        exact ⟨rfl, (HKS.out.later HBH.out).below⟩
  · have hqz : (q == (0 : Int)) = false := by simp [hq]
    have HJ : Hid (jErr q hands = q) := by show _ = _; unfold jErr; rw [if_neg hq]
    have HNZ : Hid (q ≠ 0) := by show _ ≠ _; exact hq
    have HEB : Hid (AllErr ts hands q (bitsErr ts hands.toNat l) = q) := by show _ = _; unfold AllErr; rw [HJ.out, if_neg HNZ.out]
    have HSE : Hid (AllErr ts hands q (staysErr ts hands.toNat s) = q) := by show _ = _; unfold AllErr; rw [HJ.out, if_neg HNZ.out]
    obtain ⟨wS, hwS⟩ : ∃ wS, wS = w1 := ⟨_, rfl⟩
    have HKS : Hid (KnJ w (.slice a ts.length c) (.slice la l.length lc) (.slice sa s.length sc) ts l s wS) := by rw [hwS]; exact HK1.out
    have HUS : Hid (∀ wx, Below wS.heap.size wS wx → IntsAt wx (.slice none 0 0) (lastsL ts l q)) := fun wx _ => by unfold lastsL; rw [if_neg HNZ.out]; exact ints_none _
    rw [← hwS]
    clear hwS HK1
    obtain ⟨ev, hev⟩ : ∃ ev, ev = errV q := ⟨_, rfl⟩
    have HEV : Hid (errV q = ev) := hev.symm
    clear hev
    have c9 := j_bits (hands := hands) HC.out HKS.out
    rw [HEB.out, HEV.out] at c9
    go_wp2_with fail
    refine c9.mono ?_
    clear c9
    rintro e wA ⟨rfl, hb⟩
    have HBA : Hid (Below wS.heap.size wS wA) := hb
    have c8 := j_error q (HKS.out.later HBA.out)
    rw [HEV.out] at c8
    clear hb
    go_wp2_with fail
    refine c8.mono ?_
    clear c8
    rintro e wB ⟨rfl, hb⟩
    have HBB : Hid (Below wS.heap.size wS wB) := HBA.out.trans (hb.mono HBA.out.size)
    have c10 := j_ends (hands := hands) HC.out (HKS.out.later HBB.out)
    rw [HEB.out, HEV.out] at c10
    clear hb
    go_wp2_with fail
    refine c10.mono ?_
    clear c10
    rintro e wC ⟨⟨x, rfl, hx⟩, hb⟩
    have HBC : Hid (Below wS.heap.size wS wC) := HBB.out.trans (hb.mono HBB.out.size)
    have HXC : Hid (IntsAt wC x (lastsL ts l q)) := hx
    obtain ⟨_, xa, xc, rfl, _⟩ := hx
    have c8 := j_error q (HKS.out.later HBC.out)
    rw [HEV.out] at c8
    clear hb
    generalize hxl : (lastsL ts l q).length = xl at *
    clear hxl
    go_wp2_with fail
    refine c8.mono ?_
    clear c8
    rintro e wD ⟨rfl, hb⟩
    have HBD : Hid (Below wS.heap.size wS wD) := HBC.out.trans (hb.mono HBC.out.size)
    have c11 := j_same (HXC.out.later hb) (HUS.out wD HBD.out)
    clear hb
    go_wp2_with fail
    refine c11.mono ?_
    clear c11
    rintro e wE ⟨rfl, hb⟩
    have HBE : Hid (Below wS.heap.size wS wE) := HBD.out.trans (hb.mono HBD.out.size)
    clear hb
    obtain ⟨wF, hwF⟩ : ∃ wF, wF = wE := ⟨_, rfl⟩
    have HBF : Hid (Below wS.heap.size wS wF) := by rw [hwF]; exact HBE.out
    rw [← hwF]
    clear hwF
    obtain ⟨sv2, hsv2⟩ : ∃ sv2, sv2 = errV q := ⟨_, rfl⟩
    have HSV : Hid (errV q = sv2) := hsv2.symm
    clear hsv2
    have c13 := j_stays (hands := hands) HC.out (HKS.out.later HBF.out)
    rw [HSE.out, HSV.out] at c13
    go_wp2_with fail
    refine c13.mono ?_
    clear c13
    rintro e wG ⟨rfl, hb⟩
    have HBG : Hid (Below wS.heap.size wS wG) := HBF.out.trans (hb.mono HBF.out.size)
    have c8 := j_error q (HKS.out.later HBG.out)
    rw [HSV.out] at c8
    clear hb
    go_wp2_with fail
    refine c8.mono ?_
    clear c8
    rintro e wH ⟨rfl, hb⟩
    have HBH : Hid (Below wS.heap.size wS wH) := HBG.out.trans (hb.mono HBG.out.size)
    clear hb
    go_wp2
    go_ret
    exact ⟨rfl, (HKS.out.later HBH.out).below⟩
end Go.Proofs.YtkgdhfdahafaoaaDoor
