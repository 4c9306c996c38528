/- The walk of ListBound. -/
import Derived.Test.YtkgdhfdahafaoaaBl0
namespace Go.Proofs.Ytkgdhfdahafaoaa
open Go.RowKit Go.Deep Classical

set_option maxRecDepth 100000 in
set_option maxHeartbeats 8000000 in
theorem listBound_any (v ov : Value) (ts : List (Int × List Int)) (zs : List Int) (hands : Int) (w : World) (hp : PlanAt w v ts) (ho : IntsAt w ov zs) (hwf : ∀ x, x ∈ zs → (Lit.int .i64 x).wf = true) :
    Calls Try.prog 4 #[v, .int .i64 hands, ov] w fun e w' => e = .returned (.bool true) ∧ Below w.heap.size w w' := by
  have HP : Hid (∀ wx, Below w.heap.size w wx → PlanAt wx v ts) := fun wx hx => hp.later hx
  have HO : Hid (∀ wx, Below w.heap.size w wx → IntsAt wx ov zs) := fun wx hx => ho.later hx
  have HWF : Hid (∀ x, x ∈ zs → (Lit.int .i64 x).wf = true) := hwf
  obtain ⟨hl, a, c, rfl, hp⟩ := hp
  obtain ⟨hl2, oa, oc, rfl, ho⟩ := ho
  clear hp ho hwf
  have hB0 : Below w.heap.size w ((w.alloc (.cells #[.int .i64 0] 3)).alloc (.cells #[.int .i64 3, .slice none 0 0, .int .i64 2, .slice (some ⟨w.heap.size, 0, none⟩) 1 1] 26)) := ((Below.refl _ _).alloc (Nat.le_refl _) _).alloc (by simp) _
  have HB0 : Hid (Below w.heap.size w ((w.alloc (.cells #[.int .i64 0] 3)).alloc (.cells #[.int .i64 3, .slice none 0 0, .int .i64 2, .slice (some ⟨w.heap.size, 0, none⟩) 1 1] 26))) := hB0
  have hrun0 : Calls Try.prog 11 #[.slice (some ⟨w.heap.size + 1, 0, none⟩) 2 2, .int .i64 2, .slice (some ⟨w.heap.size + 1 + 1, 0, none⟩) 2 2] (((w.alloc (.cells #[.int .i64 0] 3)).alloc (.cells #[.int .i64 3, .slice none 0 0, .int .i64 2, .slice (some ⟨w.heap.size, 0, none⟩) 1 1] 26)).alloc (.cells #[.int .i64 1, .int .i64 0] 3)) fun e w' => (∃ g c, e = .returned (.tuple #[.slice (some ⟨g, 0, none⟩) 2 c, .nilIface]) ∧ 2 ≤ c ∧ w'.cell? ⟨g, 1, none⟩ = some (.int .i64 0) ∧ w'.cell? ⟨g, 6, none⟩ = some (.int .i64 3)) ∧ Below w.heap.size w w' := by
    have hi := two_ints ((w.alloc (.cells #[.int .i64 0] 3)).alloc (.cells #[.int .i64 3, .slice none 0 0, .int .i64 2, .slice (some ⟨w.heap.size, 0, none⟩) 1 1] 26))
    rw [show ((w.alloc (.cells #[.int .i64 0] 3)).alloc (.cells #[.int .i64 3, .slice none 0 0, .int .i64 2, .slice (some ⟨w.heap.size, 0, none⟩) 1 1] 26)).heap.size = w.heap.size + 1 + 1 by simp] at hi
    have hb3 := (Below.refl _ ((w.alloc (.cells #[.int .i64 0] 3)).alloc (.cells #[.int .i64 3, .slice none 0 0, .int .i64 2, .slice (some ⟨w.heap.size, 0, none⟩) 1 1] 26))).alloc (Nat.le_refl _) (.cells #[.int .i64 1, .int .i64 0] 3)
    have hb4 : Below w.heap.size w (((w.alloc (.cells #[.int .i64 0] 3)).alloc (.cells #[.int .i64 3, .slice none 0 0, .int .i64 2, .slice (some ⟨w.heap.size, 0, none⟩) 1 1] 26)).alloc (.cells #[.int .i64 1, .int .i64 0] 3)) := hB0.alloc hB0.size _
    refine (two_run _ _ _ ((two_plan w).later hb3) hi).mono (fun e w' h => ⟨h.1, hb4.trans (h.2.mono hb4.size)⟩)
  clear hB0 HB0
  go_enter Try.func4, Try.ntmps4
  go_wp2_with fail
  refine hrun0.mono ?_
  clear hrun0
  rintro e w1 ⟨⟨g, gc, rfl, hgc, hg1, hg6⟩, hB1⟩
  have hrun := lrun_any _ _ ts zs hands w1 (HP.out _ hB1) (HO.out _ hB1) HWF.out
  go_wp2_with fail
  refine hrun.mono ?_
  clear hrun
  rintro e w2 ⟨hro, hb2⟩
  have hB2 : Below w.heap.size w w2 := hB1.trans (hb2.mono hB1.size)
  clear hg1 hg6
  rcases hro with ⟨p, q, hc, hq, rfl⟩ | ⟨hc, h1, h6, hez, sv, rfl, hrow⟩
  · have hev := errV_some hq
    rw [hev]
    clear hev hc hq
    generalize lErr q hands (decide (EachZ ts.length zs)) = gg at *
    go_wp2
    go_ret
    exact ⟨rfl, hB2⟩
  · have HROW : Hid (RowS w1.heap.size w2 sv (listOut ts hands.toNat (natsOf zs))) := hrow
    obtain ⟨ba, bc, rfl⟩ := hrow.shape
    have HC : Hid (CheckIs ts 0 0) := hc
    have HZ : Hid (EachZ ts.length zs) := hez
    have hwk := (hc.worksJ.1).all
    have HJ : Hid (∀ wx, Below w2.heap.size w2 wx → Calls Try.prog 13 #[.slice a ts.length c, .int .i64 hands, .slice ba (listOut ts hands.toNat (natsOf zs)).length bc] wx fun e w' => e = .returned .nilIface ∧ Below wx.heap.size wx w') := fun wx hx => ljudge_is (HP.out _ (hB2.trans (hx.mono hB2.size))) HC.out h1 h6 HZ.out (HROW.out.later hx)
    have c12 := llong_is (HP.out _ hB2) (HO.out _ hB2) HWF.out hc h1 h6 hez
    have HB2 : Hid (Below w.heap.size w w2) := hB2
    clear hrow hc hez hb2 hB1
    generalize hle : (listOut ts hands.toNat (natsOf zs)).length = bl at *
    clear hle
    go_wp2_with fail
    refine c12.mono ?_
    clear c12
    rintro e w3 ⟨rfl, hb3⟩
    have HB3 : Hid (Below w2.heap.size w2 w3) := hb3
    have c8 := lwork_is (HP.out _ (HB2.out.trans (hb3.mono HB2.out.size))) HC.out
    clear hb3
    go_wp2_with fail
    refine c8.mono ?_
    clear c8
    rintro e w5 ⟨rfl, hb5⟩
    have HB5 : Hid (Below w2.heap.size w2 w5) := HB3.out.trans (hb5.mono HB3.out.size)
    have c9 := lspan_is (zs := zs) (HP.out _ (HB2.out.trans (HB5.out.mono HB2.out.size))) HC.out h1 h6 HZ.out
    clear hb5
    go_wp2_with fail
    refine c9.mono ?_
    clear c9
    rintro e w6 ⟨⟨sp, rfl, hsp0, hsp, hlow, hup, hm0, hm1⟩, hb6⟩
    have HB6 : Hid (Below w2.heap.size w2 w6) := HB5.out.trans (hb6.mono HB5.out.size)
    have c13 := HJ.out w6 HB6.out
    clear hb6
    have hlg0 : (0 : Int) ≤ ((endsOf (listOut ts hands.toNat (natsOf zs)) : Nat) : Int) := Int.natCast_nonneg _
    generalize ((endsOf (listOut ts hands.toNat (natsOf zs)) : Nat) : Int) = lg at *
    generalize workTo ts ts.length = wk at *
    have hlg6 : lg ≤ 600 := by
      have : hands = 1 ∨ hands = 2 ∨ hands = 3 ∨ hands = 4 ∨ hands = 5 ∨ hands = 6 := by omega
      rcases this with rfl | rfl | rfl | rfl | rfl | rfl <;> omega
    have hpp0 : 0 ≤ hands * lg ∧ hands * lg ≤ 3600 := by
      have : hands = 1 ∨ hands = 2 ∨ hands = 3 ∨ hands = 4 ∨ hands = 5 ∨ hands = 6 := by omega
      rcases this with rfl | rfl | rfl | rfl | rfl | rfl <;> omega
    have hone : hands = 1 → lg = wk := fun e => by subst e; omega
    have HONE : Hid (hands = 1 → lg = wk) := hone
    clear hone
    generalize hpq : (hands - 1) * sp = qq at *
    generalize hpp : hands * lg = pp at *
    have k1 : ¬ lg < 0 := by omega
    have k2 : ¬ 600 < lg := by omega
    have k3 : ¬ lg < sp := by omega
    have k4 : ¬ pp < wk := by omega
    have k5 : ¬ wk + qq < pp := by omega
    have k7 : ¬ hands < 1 := by omega
    have k8 : ¬ 6 < hands := by omega
    by_cases e1 : hands = 1
    · have k9 : (lg == wk) = true := by rw [HONE.out e1]; simp
      have k10 : (hands != (1 : Int)) = false := by simp [e1]
      clear e1
      go_wp2_with (go_at_call 13; refine c13.mono ?_; clear c13; rintro e w7 ⟨rfl, hb7⟩)
      go_ret
      exact ⟨rfl, HB2.out.trans ((HB6.out.trans (hb7.mono HB6.out.size)).mono HB2.out.size)⟩
    · have k10 : (hands != (1 : Int)) = true := by simp [e1]
      clear e1
      go_wp2_with (go_at_call 13; refine c13.mono ?_; clear c13; rintro e w7 ⟨rfl, hb7⟩)
      go_ret
      exact ⟨rfl, HB2.out.trans ((HB6.out.trans (hb7.mono HB6.out.size)).mono HB2.out.size)⟩
end Go.Proofs.Ytkgdhfdahafaoaa
