/- The document's readers together; ReadWeave. -/
import Derived.Test.YtcankblanhpmpaaDoorXk
import Derived.Test.YtcankblanhpmpaaDoorWk
namespace Go.Proofs.YtcankblanhpmpaaDoor
open Go.RowKit Go.Deep

theorem tell_all : ∀ n, TellOk 32 .link n ∧ TellOk 21 .chain n ∧ TellOk 13 .weave n := by
  intro n
  induction n with
  | zero => exact ⟨one_zero, behind_of 0 one_zero, beside_of 0 (behind_of 0 one_zero)⟩
  | succ n ih =>
    have h1 := one_of n ih.2.2
    exact ⟨h1, behind_of _ h1, beside_of _ (behind_of _ h1)⟩

/-- What ReadWeave answers. -/
def TellOut (l : List UInt8) (w : World) (e : Ending) (w' : World) : Prop :=
  Below w.heap.size w w' ∧ ((∃ q, q ≠ 0 ∧ WeaveErr l q ∧ e = .returned (.tuple #[.slice none 0 0, .int .i64 0, .int .i64 0, .int .i64 q])) ∨
    (∃ t tv, WeaveOk l t ∧ e = .returned (.tuple #[tv, .int .i64 (t.work V1), .int .i64 (t.span V1), .int .i64 0]) ∧ PlanAt w' tv (t.lay V1 [])))

theorem rowT_work {b : Nat} {A : Nat → Prop} {w : World} {v : Value} {ts : List (Int × List Int)} (h : RowT b A w v ts) : ∃ a c, v = .slice a ts.length c ∧ ∀ j, j < ts.length → ∃ g, a = some ⟨g, 0, none⟩ ∧ w.cell? ⟨g, j * 2, none⟩ = some (.int .i64 (ts.getD j (0, [])).1) := by
  obtain ⟨xs, ho, hx⟩ := h
  rcases ho.2 with ⟨hv, hn⟩ | ⟨g, cap, cur, hv, hg, hh, _⟩
  · exact ⟨none, 0, by rw [hv, hn], fun j hj => by omega⟩
  · subst hv
    exact ⟨_, cap, rfl, fun j hj => ⟨g, rfl, by rw [ho.cellAt (j * 2) (by omega)]; exact (hx j hj).1⟩⟩
theorem lay_same {t : Tree} (h : big (t.lay V2 []) = false) : t.lay V2 [] = t.lay V1 [] ∧ t.work V2 = t.work V1 ∧ t.span V2 = t.span V1 := by
  rw [big_same] at h
  have hs := leaf_same h
  exact ⟨t.lay_congr hs [], t.work_congr hs, t.span_congr hs⟩

set_option maxRecDepth 100000 in
set_option maxHeartbeats 4000000 in
theorem readWeave_any (l : List UInt8) (w : World) (hl : l.length ≤ 9223372036854775807) : Calls Tryd.prog 6 #[.string ⟨l.toArray⟩] w (TellOut l w) := by
  by_cases h200 : 200 < l.length
  · have h2 : (200 : Int) < (l.length : Int) := by omega
    go_enter Tryd.func6, Tryd.ntmps6
    go_wp2
    refine bodyPost_ret (v := .tuple #[.slice none 0 0, .int .i64 0, .int .i64 0, .int .i64 4]) (by simp [results, go_sem]) rfl ?_
    exact ⟨Below.refl _ _, Or.inl ⟨4, by decide, Or.inl ⟨h200, rfl⟩, rfl⟩⟩
  · have h2 : ¬ (200 : Int) < (l.length : Int) := by omega
    have hl2 : l.length ≤ 200 := by omega
    have hr0 : Rw w.heap.size l 0 0 [] (w.alloc (.cells #[.string ⟨l.toArray⟩, .int .i64 0, .slice none 0 0, .int .i64 0] 44)) := ⟨_, blk_alloc_new _ _, RowT.nil _ _ _⟩
    have hch := (tell_all l.length).2.2 w.heap.size l 0 [] _ hl2 (Nat.zero_le _) (by omega) (Nat.zero_le _) hr0
    clear hr0
    go_enter Tryd.func6, Tryd.ntmps6
    go_wp2_with fail
    refine hch.mono ?_; clear hch
    rintro e w1 ⟨hk, k, fv, lv, zf, zl, wk, sp, rfl, hik, hkl, hcl, hc⟩
    obtain ⟨fa, fc, rfl⟩ := hcl.first.shape
    obtain ⟨la, lc, rfl⟩ := hcl.last.shape
    have hb1 : Below w.heap.size w w1 := by
      have := hk.below (by simp)
      exact ((Below.refl w.heap.size w).alloc (Nat.le_refl _) _).trans this
    have hs1 : w.heap.size < w1.heap.size := by have := hk.size; simp at this; omega
    unfold clothV
    clear hcl hk
    have HB : Hid (Below w.heap.size w (w1.alloc (.cells #[.slice fa zf.length fc, .slice la zl.length lc, .int .i64 wk, .int .i64 sp] 46))) := hb1.alloc hb1.size _
    obtain ⟨q0, q1, q2, q3, _⟩ := cloth_cells (blk_alloc_new w1 (.cells #[.slice fa zf.length fc, .slice la zl.length lc, .int .i64 wk, .int .i64 sp] 46))
    rcases hc with ⟨hg, ts', hts, hr⟩ | ⟨t, hg, hct, hzf, hzl, hwk, hsp, hr⟩
    · have hrA := hr.alloc (.cells #[.slice fa zf.length fc, .slice la zl.length lc, .int .i64 wk, .int .i64 sp] 46)
      obtain ⟨_, c1, c3, _⟩ := hrA.cells
      have HER : Hid (WeaveErr l 2) := Or.inr (Or.inl ⟨hl2, ⟨none, by simpa using hg, fun t h => by cases h⟩, rfl⟩)
      clear hr hrA hg
      go_wp2
      refine bodyPost_ret (v := .tuple #[.slice none 0 0, .int .i64 0, .int .i64 0, .int .i64 2]) (by simp [results, go_sem]) rfl ?_
      exact ⟨HB.out, Or.inl ⟨2, by decide, HER.out, rfl⟩⟩
    · rw [List.drop_zero] at hg
      have hrA := hr.alloc (.cells #[.slice fa zf.length fc, .slice la zl.length lc, .int .i64 wk, .int .i64 sp] 46)
      obtain ⟨_, c1, c3, _⟩ := hrA.cells
      have HRA := hrA
      obtain ⟨tv, hRb, htr⟩ := hrA
      have HTR : Hid (RowT (w.heap.size + 1) (fun _ => True) (w1.alloc (.cells #[.slice fa zf.length fc, .slice la zl.length lc, .int .i64 wk, .int .i64 sp] 46)) tv (t.lay V2 [])) := htr
      have c2 : (w1.alloc (.cells #[.slice fa zf.length fc, .slice la zl.length lc, .int .i64 wk, .int .i64 sp] 46)).cell? ⟨w.heap.size, 2, none⟩ = some tv := by simp only [World.cell?, hRb]; rfl
      have HZ : Hid (wk = t.work V2 ∧ sp = t.span V2) := ⟨hwk, hsp⟩
      obtain ⟨pa, pc, rfl, hpc⟩ := rowT_work htr
      have HPC : Hid (∀ j, j < (t.lay V2 []).length → ∃ g, pa = some ⟨g, 0, none⟩ ∧ (w1.alloc (.cells #[.slice fa zf.length fc, .slice la zl.length lc, .int .i64 wk, .int .i64 sp] 46)).cell? ⟨g, j * 2, none⟩ = some (.int .i64 ((t.lay V2 []).getD j (0, [])).1)) := hpc
      have hlen : (t.lay V2 []).length = t.count := by rw [t.lay_length]; simp
      have hcnt : t.count ≤ 200 := by simp at hct; omega
      clear hr HRA hRb htr hpc hwk hsp hzf hzl
      by_cases hkk : k < l.length
      · have hkI : (k : Int) < (l.length : Int) := by omega
        have HER : Hid (WeaveErr l 2) := Or.inr (Or.inl ⟨hl2, ⟨some (t, l.drop k), hg, fun t' h => by
          simp only [Option.some.injEq, Prod.mk.injEq] at h
          have := congrArg List.length h.2
          simp at this
          omega⟩, rfl⟩)
        clear hg
        go_wp2
        refine bodyPost_ret (v := .tuple #[.slice none 0 0, .int .i64 0, .int .i64 0, .int .i64 2]) (by simp [results, go_sem]) rfl ?_
        exact ⟨HB.out, Or.inl ⟨2, by decide, HER.out, rfl⟩⟩
      · have hkI : ¬ (k : Int) < (l.length : Int) := by omega
        have HW : Hid (Whole l t) := by
          have hke : k = l.length := by omega
          rw [hke, List.drop_length] at hg
          exact hg
        clear hg
        obtain ⟨T, hT⟩ : ∃ T, T = t.lay V2 [] := ⟨_, rfl⟩
        rw [← hT] at HTR c2 HPC hlen
        have hTl : T.length ≤ 200 := by omega
        have HT : Hid (T = t.lay V2 []) := hT
        clear hT hlen
        go_wp2
        go_loop [8] (fun s8 => ∃ j : Nat, j ≤ T.length ∧ s8 = .int .i64 j ∧ Hid (∀ m, m < j → (T.getD m (0, [])).1 ≤ 20)) (fun s8 => T.length - (intOf s8).toNat)
        case atStart => exact ⟨0, Nat.zero_le _, rfl, fun m hm => by omega⟩
        case round =>
          obtain ⟨j, hj, rfl, hno⟩ := hrel
          by_cases hjl : j < T.length
          · obtain ⟨g, rfl, hcj⟩ := HPC.out j hjl
            have hjI : (j : Int) < (T.length : Int) := by omega
            generalize hx : (T.getD j (0, [])).1 = x at hcj
            have HX : Hid ((T.getD j (0, [])).1 = x) := hx
            clear hx
            by_cases hgt : 20 < x
            · have HER : Hid (WeaveErr l 1) := by
                have hbig : big (t.lay V1 []) = true := by
                  rw [← big_same, ← HT.out]
                  exact big_yes hjl (by rw [HX.out]; exact hgt)
                have hbe : boundErr (t.lay V1 []) = 1 := by unfold boundErr; rw [hbig]; rfl
                exact Or.inr (Or.inr ⟨t, hl2, HW.out, by rw [hbe]; decide, hbe.symm⟩)
              go_wp2
              refine bodyPost_ret (v := .tuple #[.slice none 0 0, .int .i64 0, .int .i64 0, .int .i64 1]) (by simp [results, go_sem]) rfl ?_
              exact ⟨HB.out, Or.inl ⟨1, by decide, HER.out, rfl⟩⟩
            · go_wp2
              go_round
              case rel =>
                refine ⟨j + 1, by omega, by go_num, fun m hm => ?_⟩
                by_cases e : m = j
                · subst e; rw [HX.out]; omega
                · exact hno.out m (by omega)
              case measure => simp [intOf]; omega
          · have hjI : ¬ (j : Int) < (T.length : Int) := by omega
            have hnb : big T = false := big_no (fun m hm => hno.out m (by omega))
            rw [HT.out] at hnb
            obtain ⟨e1, e2, e3⟩ := lay_same hnb
            have hb1' : big (t.lay V1 []) = false := by rw [← big_same]; exact hnb
            by_cases h30 : 30 < T.length
            · have h30I : (30 : Int) < (T.length : Int) := by omega
              have HER : Hid (WeaveErr l 4) := by
                have hbe : boundErr (t.lay V1 []) = 4 := by unfold boundErr; rw [hb1', ← e1, ← HT.out, if_pos h30]; rfl
                exact Or.inr (Or.inr ⟨t, hl2, HW.out, by rw [hbe]; decide, hbe.symm⟩)
              clear e1 e2 e3 hnb hb1'
              go_wp2
              refine bodyPost_ret (v := .tuple #[.slice none 0 0, .int .i64 0, .int .i64 0, .int .i64 4]) (by simp [results, go_sem]) rfl ?_
              exact ⟨HB.out, Or.inl ⟨4, by decide, HER.out, rfl⟩⟩
            · have h30I : ¬ (30 : Int) < (T.length : Int) := by omega
              have HOK : Hid (WeaveOk l t) := ⟨hl2, HW.out, by unfold boundErr; rw [hb1', ← e1, ← HT.out, if_neg h30]; rfl⟩
              have HPL : Hid (PlanAt (w1.alloc (.cells #[.slice fa zf.length fc, .slice la zl.length lc, .int .i64 wk, .int .i64 sp] 46)) (.slice pa T.length pc) (t.lay V1 [])) := by
                have := HTR.out
                rw [HT.out, e1] at this
                rw [HT.out, e1]
                exact this.weave hcnt
              have HWS : Hid (wk = t.work V1 ∧ sp = t.span V1) := ⟨HZ.out.1.trans e2, HZ.out.2.trans e3⟩
              clear e1 e2 e3 hnb hb1'
              go_wp2
              go_quiet (fail)
              go_wp2
              refine bodyPost_ret (v := .tuple #[.slice pa T.length pc, .int .i64 wk, .int .i64 sp, .int .i64 0]) (by simp [results, go_sem]) rfl ?_
              refine ⟨HB.out.trans ⟨rfl, rfl, rfl, Nat.le_refl _, fun _ _ => rfl⟩, Or.inr ⟨t, .slice pa T.length pc, HOK.out, by rw [HWS.out.1, HWS.out.2], ?_⟩⟩
              exact HPL.out.later ⟨rfl, rfl, rfl, Nat.le_refl _, fun _ _ => rfl⟩
end Go.Proofs.YtcankblanhpmpaaDoor
