/- The walk of WeaveCounts. -/
import Derived.Test.YtefkglgccllbeabDoorWl
import Derived.Test.YtefkglgccllbeabDoorWn
import Derived.Test.YtefkglgccllbeabDoorDi
import Derived.Test.YtefkglgccllbeabDoorDo
namespace Go.Proofs.YtefkglgccllbeabDoor
open Go.RowKit Go.Deep

theorem work_weave {l : List UInt8} {t : Tree} (v : Value) (w : World) (hok : WeaveOk l t) (hp : PlanAt w v (t.lay V1 [])) :
    Calls Tryd.prog 11 #[v] w fun e w' => e = .returned (.tuple #[.int .i64 (t.work V1), .nilIface]) ∧ Below w.heap.size w w' := by
  refine (work_any v _ w hp).mono ?_
  rintro e w' ⟨h, hb⟩
  refine ⟨?_, hb⟩
  rcases h with ⟨p, q, hq, hc', _⟩ | ⟨_, rfl⟩
  · exact absurd (hok.check.det hc').2.symm hq
  · rw [t.lay_work]
theorem span_weave {l : List UInt8} {t : Tree} (v : Value) (w : World) (hok : WeaveOk l t) (hp : PlanAt w v (t.lay V1 [])) :
    Calls Tryd.prog 12 #[v] w fun e w' => e = .returned (.tuple #[.int .i64 (t.span V1), .nilIface]) ∧ Below w.heap.size w w' := by
  refine (span_any v _ w hp).mono ?_
  rintro e w' ⟨h, hb⟩
  refine ⟨?_, hb⟩
  rcases h with ⟨p, q, hq, hc', _⟩ | ⟨_, ord, ho, rfl⟩
  · exact absurd (hok.check.det hc').2.symm hq
  · rw [t.lay_span V1 (Ready.of hok.check ho).deep (fun ds hd => (hok.facts.2 ds hd).1)]
/-- A text that is a weave with right numbers: it is measured, or it is too long, or of too many tasks. -/
theorem measure_weave {l : List UInt8} {t : Tree} (w : World) (hl : l.length ≤ 9223372036854775807) (hw : Whole l t) (hv : ∀ ds, ds ∈ t.leaves → V1 ds ≤ 20) :
    Calls Tryd.prog 10 #[.string ⟨l.toArray⟩] w fun e w' => (e = .returned (.tuple #[.int .i64 (t.work V1), .int .i64 (t.span V1), .nilIface]) ∨ e = .returned (.tuple #[.int .i64 0, .int .i64 0, .iface 48 (.int .i64 4)])) ∧ Below w.heap.size w w' := by
  refine (measure_any l w hl).mono ?_
  rintro e w' ⟨hb, h⟩
  refine ⟨?_, hb⟩
  rcases h with ⟨q, hq, he, rfl⟩ | ⟨t', hok, rfl⟩
  · right
    have : q = 4 := by
      rcases he with ⟨_, h⟩ | ⟨_, hB, _⟩ | ⟨t', _, hw', hne, h⟩
      · exact h
      · exact (hB.not t hw).elim
      · obtain rfl := hw.det hw'
        rw [h]
        exact boundErr_four hne hv
    rw [this, errV_some (by decide)]
  · left
    rw [hok.2.1.det hw]

theorem work_small {l : List UInt8} {t : Tree} (hok : WeaveOk l t) : 0 ≤ t.work V1 ∧ t.work V1 ≤ 630 ∧ 0 ≤ t.span V1 ∧ t.span V1 ≤ 630 := by
  have h1 := t.work_le V1_le
  have h2 := t.span_le V1_le
  have h3 := hok.facts.1
  omega
theorem fact_cell {w : World} {a : Option Addr} {c : Nat} (h : PlanAt w (.slice a factT.count c) (factT.lay V1 [])) : ∃ b o na nc, a = some ⟨b, o, none⟩ ∧ w.cell? ⟨b, o + 3 * 2 + 1, none⟩ = some (.slice na 2 nc) := by
  rw [fact_lay] at h
  obtain ⟨_, a', c', he, hz⟩ := h
  rcases hz with hz | ⟨b, o, h1, h2, h3⟩
  · simp at hz
  · obtain ⟨_, nv, g2, g3⟩ := h3 3 (by decide)
    obtain ⟨_, na, nc, rfl, _⟩ := g3
    simp only [Value.slice.injEq] at he
    exact ⟨b, o, na, nc, he.1.trans h1, g2⟩

set_option maxRecDepth 100000 in
set_option maxHeartbeats 4000000 in
theorem weaveCounts_any (la lb : List UInt8) (w : World) (hla : la.length ≤ 9223372036854775807) (hlb : lb.length ≤ 9223372036854775807) (hg : Typed w) :
    Calls Tryd.prog 4 #[.string ⟨la.toArray⟩, .string ⟨lb.toArray⟩] w fun e w' => e = .returned (.bool true) ∧ Below w.heap.size w w' := by
  have HG : Hid (Typed w) := hg
  clear hg
  go_enter Tryd.func4, Tryd.ntmps4
  go_wp2_with fail
  refine (parse_ok (l := [50, 59, 40, 51, 124, 52, 41, 59, 49]) w fact_ok).mono ?_
  rintro e w1 ⟨⟨fa, fc, rfl, hfp⟩, hb1⟩
  obtain ⟨fb, fo, na, nc, rfl, hcell⟩ := fact_cell hfp
  have e1 : factT.work V1 = 10 := by decide
  have e2 : factT.span V1 = 7 := by decide
  have e3 : factT.count = 4 := rfl
  rw [e1, e2, e3]
  clear e1 e2 e3 hfp
  go_wp2_with fail
  refine (parse_any la w1 hla).mono ?_
  rintro e w2 ⟨hb2, h⟩
  have hB2 : Below w.heap.size w w2 := hb1.trans (hb2.mono hb1.size)
  clear hb1 hb2 hcell
  rcases h with ⟨q, hq, _, rfl⟩ | ⟨ta, tv, hoka, rfl, hp⟩
  · rw [errV_some hq]
    go_wp2
    go_ret
    exact ⟨rfl, hB2⟩
  have hwk := work_weave tv w2 hoka hp
  have HP : Hid (PlanAt w2 tv (ta.lay V1 [])) := hp
  have HOKA : Hid (WeaveOk la ta) := hoka
  have hla2 := hoka.1
  have hcta := ta.count_pos
  have hba := work_small hoka
  obtain ⟨_, pa, pc, rfl, _⟩ := hp
  rw [lay_count] at HP hwk ⊢
  go_wp2_with fail
  refine hwk.mono ?_
  rintro e w3 ⟨rfl, hb3⟩
  clear hwk
  have hsp := span_weave _ w3 HOKA.out (HP.out.later hb3)
  have hB3 : Below w.heap.size w w3 := hB2.trans (hb3.mono hB2.size)
  clear hb3 HP hB2 hoka
  go_wp2_with fail
  refine hsp.mono ?_
  rintro e w4 ⟨rfl, hb4⟩
  clear hsp
  have hB4 : Below w.heap.size w w4 := hB3.trans (hb4.mono hB3.size)
  clear hb4 hB3
  have g1 : (ta.work V1 != ta.work V1) = false := by simp
  have g2 : (ta.span V1 != ta.span V1) = false := by simp
  go_wp2_with fail
  refine (measure_any lb w4 hlb).mono ?_
  rintro e w5 ⟨hb5, h⟩
  have hB5 : Below w.heap.size w w5 := hB4.trans (hb5.mono hB4.size)
  clear hb5 hB4
  rcases h with ⟨q, hq, _, rfl⟩ | ⟨tb, hokb, rfl⟩
  · rw [errV_some hq]
    go_wp2
    go_ret
    exact ⟨rfl, hB5⟩
  have hlb2 := hokb.1
  have hbb := work_small hokb
  obtain ⟨T, hTw, hTs⟩ := whole_beside HOKA.out.2.1 hokb.2.1
  have hvb : ∀ ds, ds ∈ (Tree.seq ta tb).leaves → V1 ds ≤ 20 := fun ds hd => by
    simp only [Tree.leaves, List.mem_append] at hd
    exact hd.elim (fun h => (HOKA.out.facts.2 ds h).2) (fun h => (hokb.facts.2 ds h).2)
  have hm1 := measure_weave (l := behindText la lb) w5 (by simp [behindText]; omega) (whole_behind HOKA.out.2.1 hokb.2.1) hvb
  have HM2 : Hid (∀ w6 : World, Calls Tryd.prog 10 #[.string ⟨(la ++ 124 :: lb).toArray⟩] w6 fun e w' => (e = .returned (.tuple #[.int .i64 (T.work V1), .int .i64 (T.span V1), .nilIface]) ∨ e = .returned (.tuple #[.int .i64 0, .int .i64 0, .iface 48 (.int .i64 4)])) ∧ Below w6.heap.size w6 w') := fun w6 => measure_weave w6 (by simp; omega) hTw (fun ds hd => by rw [hTs.leaves] at hd; exact hvb ds hd)
  have HT : Hid (T.work V1 = ta.work V1 + tb.work V1 ∧ T.span V1 = max (ta.span V1) (tb.span V1)) := ⟨hTs.work, hTs.span⟩
  have HS1 : Hid ((⟨#[40]⟩ : ByteArray) ++ ⟨la.toArray⟩ ++ ⟨#[41, 59, 40]⟩ ++ ⟨lb.toArray⟩ ++ ⟨#[41]⟩ = ⟨(behindText la lb).toArray⟩) := by
    show _ = _
    rw [show (⟨#[40]⟩ : ByteArray) = ⟨[40].toArray⟩ from rfl, show (⟨#[41]⟩ : ByteArray) = ⟨[41].toArray⟩ from rfl, show (⟨#[41, 59, 40]⟩ : ByteArray) = ⟨[41, 59, 40].toArray⟩ from rfl, bytes_app, bytes_app, bytes_app, bytes_app]
    simp [behindText]
  have HS2 : Hid ((⟨la.toArray⟩ : ByteArray) ++ ⟨#[124]⟩ ++ ⟨lb.toArray⟩ = ⟨(la ++ 124 :: lb).toArray⟩) := by
    show _ = _
    rw [show (⟨#[124]⟩ : ByteArray) = ⟨[124].toArray⟩ from rfl, bytes_app, bytes_app]
    simp
  simp only [Tree.work, Tree.span] at hm1
  rw [← HS1.out] at hm1
  clear hTw hTs hvb hokb
  generalize ta.work V1 = wa at *
  generalize ta.span V1 = sa at *
  generalize tb.work V1 = wb at *
  generalize tb.span V1 = sb at *
  go_wp2_with fail
  refine hm1.mono ?_
  rintro e w6 ⟨h1, hb6⟩
  clear hm1
  have hB6 : Below w.heap.size w w6 := hB5.trans (hb6.mono hB5.size)
  clear hb6 hB5
  have hm2 := HM2.out w6
  rw [← HS2.out, HT.out.1, HT.out.2] at hm2
  obtain ⟨mx, hmx⟩ : ∃ mx, mx = max sa sb := ⟨_, rfl⟩
  rw [← hmx] at hm2
  have m1 : ¬ mx < sa := by omega
  have m2 : ¬ mx < sb := by omega
  have m3 : ¬ sa < mx ∨ (sa < mx ∧ ¬ sb < mx) := by omega
  have hcI : (0 : Int) < (ta.count : Int) := by omega
  clear hmx
  have g3 : ((wa + wb : Int) != wa + wb) = false := by simp
  have g4 : ((sa + sb : Int) != sa + sb) = false := by simp
  have HE : Hid (∀ w7 : World, Below w.heap.size w w7 → Calls Tryd.prog 8 #[.iface 48 (.int .i64 4), .int .i64 4] w7 fun ev w' => ev = .returned (.bool true) ∧ Below w7.heap.size w7 w') := fun w7 hb => by
    have := error_any 4 4 w7 (HG.out.later hb)
    rwa [errV_some (by decide)] at this
  rcases h1 with rfl | rfl
  · go_wp2_with fail
    refine hm2.mono ?_
    rintro e w7 ⟨h2, hb7⟩
    clear hm2
    have hB7 : Below w.heap.size w w7 := hB6.trans (hb7.mono hB6.size)
    clear hb7 hB6
    rcases h2 with rfl | rfl
    · rcases m3 with m3 | ⟨m3, m4⟩
      all_goals
        go_wp2
        go_ret
        exact ⟨rfl, hB7⟩
    · have herr := HE.out w7 hB7
      go_wp2_with (go_at_call 8; refine herr.mono ?_; rintro e w8 ⟨rfl, hb8⟩)
      go_ret
      exact ⟨rfl, hB7.trans (hb8.mono hB7.size)⟩
  · go_wp2_with fail
    refine hm2.mono ?_
    rintro e w7 ⟨h2, hb7⟩
    clear hm2
    have hB7 : Below w.heap.size w w7 := hB6.trans (hb7.mono hB6.size)
    have herr := HE.out w7 hB7
    clear hb7 hB6
    rcases h2 with rfl | rfl
    · rcases m3 with m3 | ⟨m3, m4⟩
      all_goals
        go_wp2_with (go_at_call 8; refine herr.mono ?_; rintro e w8 ⟨rfl, hb8⟩)
        go_ret
        exact ⟨rfl, hB7.trans (hb8.mono hB7.size)⟩
    · go_wp2_with fail
      refine herr.mono ?_
      rintro e w8 ⟨rfl, hb8⟩
      have hB8 : Below w.heap.size w w8 := hB7.trans (hb8.mono hB7.size)
      have herr2 := HE.out w8 hB8
      clear herr hb8 hB7
      go_wp2_with fail
      refine herr2.mono ?_
      rintro e w9 ⟨rfl, hb9⟩
      clear herr2
      go_wp2
      go_ret
      exact ⟨rfl, hB8.trans (hb9.mono hB8.size)⟩
end Go.Proofs.YtefkglgccllbeabDoor
