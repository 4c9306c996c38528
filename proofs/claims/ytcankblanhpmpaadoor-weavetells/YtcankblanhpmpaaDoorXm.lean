/- The walk of WeaveTells. -/
import Derived.Test.YtcankblanhpmpaaDoorXl
import Derived.Test.YtcankblanhpmpaaDoorWl
namespace Go.Proofs.YtcankblanhpmpaaDoor
open Go.RowKit Go.Deep

theorem WeaveErr.det {l : List UInt8} {q q' : Int} (h : WeaveErr l q) (h' : WeaveErr l q') : q = q' := by
  rcases h with ⟨h1, rfl⟩ | ⟨h1, h2, rfl⟩ | ⟨t, h1, h2, h3, rfl⟩
  · rcases h' with ⟨g1, rfl⟩ | ⟨g1, g2, rfl⟩ | ⟨t', g1, g2, g3, rfl⟩
    · rfl
    · omega
    · omega
  · rcases h' with ⟨g1, rfl⟩ | ⟨g1, g2, rfl⟩ | ⟨t', g1, g2, g3, rfl⟩
    · omega
    · rfl
    · exact (h2.not t' g2).elim
  · rcases h' with ⟨g1, rfl⟩ | ⟨g1, g2, rfl⟩ | ⟨t', g1, g2, g3, rfl⟩
    · omega
    · exact (g2.not t h2).elim
    · obtain rfl := h2.det g2
      rfl
theorem plan_nil (w : World) : PlanAt w (.slice none 0 0) [] := ⟨by simp, none, 0, rfl, Or.inl rfl⟩

set_option maxRecDepth 100000 in
set_option maxHeartbeats 4000000 in
theorem weaveTells_any (l : List UInt8) (w : World) (hl : l.length ≤ 9223372036854775807) (hg : Typed w) :
    Calls Tryd.prog 3 #[.string ⟨l.toArray⟩] w fun e w' => e = .returned (.bool true) ∧ Below w.heap.size w w' := by
  have HG : Hid (Typed w) := hg
  clear hg
  go_enter Tryd.func3, Tryd.ntmps3
  go_wp2_with fail
  refine (readWeave_any l w hl).mono ?_
  rintro e w1 ⟨hb1, h⟩
  rcases h with ⟨q, hq, hE, rfl⟩ | ⟨t, tv, hok, rfl, hp1⟩
  · go_wp2_with fail
    refine (parse_any l w1 hl).mono ?_
    rintro e w2 ⟨hb2, h⟩
    have hB2 : Below w.heap.size w w2 := hb1.trans (hb2.mono hb1.size)
    rcases h with ⟨q', hq', hE', rfl⟩ | ⟨t', tv', hok', rfl, _⟩
    case inr => exact (hE.not_ok hq hok').elim
    obtain rfl := hE.det hE'
    have he := error_any q q w2 (HG.out.later hB2)
    have hqq : (q == q) = true := by simp
    rw [hqq] at he
    have HQ : Hid (q ≠ 0) := hq
    have hE2 : Hid (WeaveErr l q) := hE
    clear hq hq' hE hE' hqq
    obtain ⟨ev, hev⟩ : ∃ ev, ev = errV q := ⟨_, rfl⟩
    have HEV : Hid (ev = errV q) := hev
    rw [← hev] at he ⊢
    clear hev
    go_wp2_with fail
    refine he.mono ?_; clear he
    rintro e w3 ⟨rfl, hb3⟩
    have hB3 : Below w.heap.size w w3 := hB2.trans (hb3.mono hB2.size)
    have hpl := samePlan_any _ _ [] [] w3 (plan_nil _) (plan_nil _)
    go_wp2_with fail
    refine hpl.mono ?_; clear hpl
    rintro e w4 ⟨rfl, n4, rfl⟩
    have hB4 : Below w.heap.size w (w3.drewN n4) := hB3.trans ⟨rfl, rfl, rfl, Nat.le_refl _, fun _ _ => rfl⟩
    go_wp2_with fail
    refine (measure_any l _ hl).mono ?_
    rintro e w5 ⟨hb5, h⟩
    have hB5 : Below w.heap.size w w5 := hB4.trans (hb5.mono hB4.size)
    rcases h with ⟨q', hq', hE', rfl⟩ | ⟨t', hok', rfl⟩
    case inr => exact (hE2.out.not_ok HQ.out hok').elim
    obtain rfl := hE2.out.det hE'
    have he := error_any q q w5 (HG.out.later hB5)
    have hqq : (q == q) = true := by simp
    rw [hqq] at he
    clear hq' hE' hqq hb5
    rw [← HEV.out] at he ⊢
    go_wp2_with fail
    refine he.mono ?_; clear he
    rintro e w6 ⟨rfl, hb6⟩
    have hB6 : Below w.heap.size w w6 := hB5.trans (hb6.mono hB5.size)
    go_wp2
    go_ret
    exact ⟨rfl, hB6⟩
  · have HP1 : Hid (PlanAt w1 tv (t.lay V1 [])) := hp1
    obtain ⟨_, pa, pc, rfl, _⟩ := hp1
    go_wp2_with fail
    refine (parse_any l w1 hl).mono ?_
    rintro e w2 ⟨hb2, h⟩
    have hB2 : Below w.heap.size w w2 := hb1.trans (hb2.mono hb1.size)
    rcases h with ⟨q', hq', hE', rfl⟩ | ⟨t', tv', hok', rfl, hp2⟩
    · exact (hE'.not_ok hq' hok).elim
    obtain rfl := hok.det hok'
    have HP2 : Hid (PlanAt w2 tv' (t.lay V1 [])) := hp2
    obtain ⟨_, pa2, pc2, rfl, _⟩ := hp2
    have he := error_any 0 0 w2 (HG.out.later hB2)
    rw [errV_zero] at he
    change Calls Tryd.prog 8 _ w2 (fun ev w' => ev = .returned (.bool true) ∧ _) at he
    have HOK : Hid (WeaveOk l t) := hok
    have HP12 : Hid (PlanAt w2 (.slice pa (t.lay V1 []).length pc) (t.lay V1 [])) := HP1.out.later hb2
    have h1 : (t.work V1 == t.work V1) = true := by simp
    have h2 : (t.span V1 == t.span V1) = true := by simp
    clear hok hok' HP1
    go_wp2_with fail
    refine he.mono ?_; clear he
    rintro e w3 ⟨rfl, hb3⟩
    have hB3 : Below w.heap.size w w3 := hB2.trans (hb3.mono hB2.size)
    have hpl := samePlan_any _ _ _ _ w3 (HP2.out.later hb3) (HP12.out.later hb3)
    go_wp2_with fail
    refine hpl.mono ?_; clear hpl
    rintro e w4 ⟨rfl, n4, rfl⟩
    have hB4 : Below w.heap.size w (w3.drewN n4) := hB3.trans ⟨rfl, rfl, rfl, Nat.le_refl _, fun _ _ => rfl⟩
    clear HP2 HP12
    go_wp2_with fail
    refine (measure_any l _ hl).mono ?_
    rintro e w5 ⟨hb5, h⟩
    have hB5 : Below w.heap.size w w5 := hB4.trans (hb5.mono hB4.size)
    rcases h with ⟨q', hq', hE', rfl⟩ | ⟨t', hok', rfl⟩
    · exact (hE'.not_ok hq' HOK.out).elim
    obtain rfl := HOK.out.det hok'
    have he := error_any 0 0 w5 (HG.out.later hB5)
    rw [errV_zero] at he
    change Calls Tryd.prog 8 _ w5 (fun ev w' => ev = .returned (.bool true) ∧ _) at he
    clear hb5 hok'
    go_wp2_with fail
    refine he.mono ?_; clear he
    rintro e w6 ⟨rfl, hb6⟩
    have hB6 : Below w.heap.size w w6 := hB5.trans (hb6.mono hB5.size)
    go_wp2
    go_ret
    exact ⟨rfl, hB6⟩
end Go.Proofs.YtcankblanhpmpaaDoor
