/- The contracts of weave's check, Parse, Measure. -/
import Derived.Test.YtkcpimbhfmhjgaaWi
import Derived.Test.YtkcpimbhfmhjgaaPln
namespace Go.Proofs.Ytkcpimbhfmhjgaa
open Go.RowKit Go.Deep

/-- A work is above its bound. -/
def big (ts : List (Int × List Int)) : Bool := ts.any fun t => decide (20 < t.1)
theorem big_no {ts : List (Int × List Int)} (h : ∀ k, k < ts.length → (ts.getD k (0, [])).1 ≤ 20) : big ts = false := by
  unfold big
  rw [List.any_eq_false]
  intro x hx
  obtain ⟨k, hk, rfl⟩ := List.getElem_of_mem hx
  have := h k hk
  rw [List.getD_eq_getElem?_getD, List.getElem?_eq_getElem hk] at this
  simp only [Option.getD_some] at this
  simp; omega
theorem big_yes {ts : List (Int × List Int)} {k : Nat} (hk : k < ts.length) (h : 20 < (ts.getD k (0, [])).1) : big ts = true := by
  unfold big
  rw [List.any_eq_true]
  refine ⟨ts[k], List.getElem_mem hk, ?_⟩
  rw [List.getD_eq_getElem?_getD, List.getElem?_eq_getElem hk] at h
  simpa using h

theorem closure_big (wk : Int) (nv : Value) (w : World) (hs : ∃ a n c, nv = .slice a n c) : Calls Try.prog 34 #[.agg #[.int .i64 wk, nv]] w fun e w' => e = .returned (.bool (decide (20 < wk))) ∧ w' = w.alloc (.cells #[.int .i64 wk, nv] 45) := by
  obtain ⟨a, n, c, rfl⟩ := hs
  by_cases h : 20 < wk
  all_goals
    go_enter Try.func34, Try.ntmps34
    go_wp2
    go_ret
    exact ⟨by simp [h], rfl⟩

theorem entersW34 : ∀ args w, (callFunc 34 args).run Try.prog w = .ok (.enter 34 args) w := enters_of Try.func34 (by kernel_rfl) rfl

set_option maxRecDepth 100000 in
set_option maxHeartbeats 1000000 in
theorem indexBig_any (v : Value) (ts : List (Int × List Int)) (w : World) (hp : PlanAt w v ts) :
    Calls Try.prog 52 #[v, .func (.func 34) #[] #[]] w fun e w' => (∃ r : Int, e = .returned (.int .i64 r) ∧ decide (0 ≤ r) = big ts) ∧ Below w.heap.size w w' := by
  obtain ⟨hl, a, c, rfl, hp⟩ := hp
  have eg := entersW34
  go_enter Try.func52, Try.ntmps52
  go_wp2
  go_loopw [8] (fun s8 wr => ∃ k : Nat, k ≤ ts.length ∧ s8 = .int .i64 k ∧ Below w.heap.size w wr ∧ Hid (∀ j, j < k → (ts.getD j (0, [])).1 ≤ 20)) (fun s8 _ => ts.length - (intOf s8).toNat)
  case atStart => exact ⟨0, Nat.zero_le _, rfl, Below.refl _ _, fun j hj => by omega⟩
  case round =>
    obtain ⟨k, hk, rfl, hB, hno⟩ := hrel
    by_cases hkl : k < ts.length
    · rcases hp with rfl | ⟨b, o, rfl, hbl, hc⟩
      · simp at hkl
      obtain ⟨hc1, nv, hc2, hin⟩ := hc k hkl
      obtain ⟨a2, c2, rfl⟩ : ∃ a2 c2, nv = .slice a2 (needsOf ts k).length c2 := by
        obtain ⟨_, a2, c2, h, _⟩ := hin
        exact ⟨a2, c2, h⟩
      have hc1' := (hB.cell (p := ⟨b, o + k * 2, none⟩) hbl).trans hc1
      have hc2' := (hB.cell (p := ⟨b, o + k * 2 + 1, none⟩) hbl).trans hc2
      have HW : Hid ((ts.getD k (0, [])).1 = (ts.getD k (0, [])).1) := rfl
      have hcall := closure_big (ts.getD k (0, [])).1 (.slice a2 (needsOf ts k).length c2) wr ⟨_, _, _, rfl⟩
      clear hc hc1 hc2 hin
      by_cases hb : 20 < (ts.getD k (0, [])).1
      · have HBIG : Hid (big ts = true) := big_yes hkl hb
        have hd : decide (20 < (ts.getD k (0, [])).1) = true := decide_eq_true hb
        rw [hd] at hcall
        generalize (ts.getD k (0, [])).1 = wk at *
        clear hd hb HW
        go_wp2_with (go_at_fn 34; refine hcall.mono ?_; rintro e w' ⟨rfl, rfl⟩)
        go_ret
        exact ⟨⟨k, rfl, by rw [HBIG.out]; simp⟩, hB.alloc hB.size _⟩
      · have hd : decide (20 < (ts.getD k (0, [])).1) = false := decide_eq_false hb
        have HN : Hid ((ts.getD k (0, [])).1 ≤ 20) := by show _ ≤ _; omega
        rw [hd] at hcall
        generalize hwk : (ts.getD k (0, [])).1 = wk at *
        clear hd hb HW
        have HWK : Hid ((ts.getD k (0, [])).1 = wk) := hwk
        clear hwk
        go_wp2_with (go_at_fn 34; refine hcall.mono ?_; rintro e w' ⟨rfl, rfl⟩)
        go_roundw
        case rel =>
          refine ⟨k + 1, by omega, by go_num, hB.alloc hB.size _, fun j hj => ?_⟩
          by_cases e : j = k
          · subst e; rw [HWK.out]; exact HN.out
          · exact hno.out j (by omega)
        case measure => simp [intOf]; omega
    · have HBIG : Hid (big ts = false) := big_no (fun j hj => hno.out j (by omega))
      go_wp2
      go_ret
      exact ⟨⟨-1, rfl, by rw [HBIG.out]; simp⟩, hB⟩

theorem containsBig_any (v : Value) (ts : List (Int × List Int)) (w : World) (hp : PlanAt w v ts) :
    Calls Try.prog 33 #[v, .func (.func 34) #[] #[]] w fun e w' => e = .returned (.bool (big ts)) ∧ Below w.heap.size w w' := by
  have hcall := indexBig_any v ts w hp
  obtain ⟨hl, a, c, rfl, hp⟩ := hp
  clear hp
  go_enter Try.func33, Try.ntmps33
  go_wp2_with fail
  refine hcall.mono ?_
  rintro e w' ⟨⟨r, rfl, hr⟩, hb⟩
  have HR : Hid (decide (0 ≤ r) = big ts) := hr
  clear hcall hr
  by_cases h : 0 ≤ r
  all_goals
    go_wp2
    go_ret
    exact ⟨by rw [← HR.out]; simp [h], hb⟩

/-- What is wrong with what was read, by its bounds. -/
def boundErr (ts : List (Int × List Int)) : Int := if big ts then 1 else if 30 < ts.length then 4 else 0

theorem checkW_any (v : Value) (ts : List (Int × List Int)) (w : World) (hp : PlanAt w v ts) :
    Calls Try.prog 15 #[v] w fun e w' => e = .returned (errV (boundErr ts)) ∧ Below w.heap.size w w' := by
  have hcall := containsBig_any v ts w hp
  obtain ⟨hl, a, c, rfl, hp⟩ := hp
  clear hp
  unfold boundErr
  cases hb : big ts
  · rw [hb] at hcall
    have HB : Hid (big ts = false) := hb
    clear hb
    by_cases h30 : 30 < ts.length
    · have h30' : (30 : Int) < (ts.length : Int) := by omega
      go_enter Try.func15, Try.ntmps15
      go_wp2_with (go_at_call 33; refine hcall.mono ?_; rintro e w' ⟨rfl, hb⟩)
      go_ret
      exact ⟨by simp [errV], hb⟩
    · have h30' : ¬ (30 : Int) < (ts.length : Int) := by omega
      go_enter Try.func15, Try.ntmps15
      go_wp2_with (go_at_call 33; refine hcall.mono ?_; rintro e w' ⟨rfl, hb⟩)
      go_ret
      exact ⟨by simp [errV], hb⟩
  · rw [hb] at hcall
    clear hb
    go_enter Try.func15, Try.ntmps15
    go_wp2_with (go_at_call 33; refine hcall.mono ?_; rintro e w' ⟨rfl, hb⟩)
    go_ret
    exact ⟨by simp [errV], hb⟩

/-- What tasks need are no more than the tasks. -/
theorem Tree.lay_needs (V : List UInt8 → Int) (t : Tree) : ∀ ts x, ts.length ≤ x → (needsOf (t.lay V ts) x).length ≤ t.count := by
  induction t with
  | num ds =>
    intro ts x hx
    unfold needsOf
    simp only [Tree.lay]
    by_cases e : x = ts.length
    · subst e; simp
    · rw [List.getD_eq_getElem?_getD, List.getElem?_eq_none (by simp; omega)]; simp
  | seq a b iha ihb =>
    intro ts x hx
    simp only [Tree.count]
    by_cases hl : x < (b.lay V (a.lay V ts)).length
    · unfold needsOf
      simp only [Tree.lay]
      rw [setAll_getD _ _ _ _ hl]
      split
      · have := a.last_len ts.length
        simp only [ofNats, List.length_map]; omega
      · by_cases h2 : x < (a.lay V ts).length
        · rw [b.lay_old V _ _ h2]
          have := iha ts x hx
          unfold needsOf at this
          omega
        · have := ihb (a.lay V ts) x (by omega)
          unfold needsOf at this
          omega
    · unfold needsOf
      rw [List.getD_eq_getElem?_getD, List.getElem?_eq_none (by simp only [Tree.lay, setAll_length]; omega)]
      simp
  | par a b iha ihb =>
    intro ts x hx
    simp only [Tree.count]
    unfold needsOf
    simp only [Tree.lay]
    by_cases h2 : x < (a.lay V ts).length
    · rw [b.lay_old V _ _ h2]
      have := iha ts x hx
      unfold needsOf at this
      omega
    · have := ihb (a.lay V ts) x (by omega)
      unfold needsOf at this
      omega

theorem RowT.weave {b : Nat} {A : Nat → Prop} {w : World} {v : Value} {t : Tree} (h : RowT b A w v (t.lay V1 [])) (hc : t.count ≤ 200) : PlanAt w v (t.lay V1 []) := by
  refine h.planAt ?_ (fun j _ => ?_)
  · rw [t.lay_length]; simp; omega
  · have := t.lay_needs V1 [] j (Nat.zero_le _)
    omega

/-- What is wrong with a text. -/
def WeaveErr (l : List UInt8) (q : Int) : Prop :=
  (200 < l.length ∧ q = 4) ∨ (l.length ≤ 200 ∧ Broken l ∧ q = 2) ∨ ∃ t, l.length ≤ 200 ∧ Whole l t ∧ boundErr (t.lay V1 []) ≠ 0 ∧ q = boundErr (t.lay V1 [])
/-- Nothing is wrong with a text; it is this weave. -/
def WeaveOk (l : List UInt8) (t : Tree) : Prop := l.length ≤ 200 ∧ Whole l t ∧ boundErr (t.lay V1 []) = 0

/-- What Parse answers. -/
def ParseOut (l : List UInt8) (w : World) (e : Ending) (w' : World) : Prop :=
  Below w.heap.size w w' ∧ ((∃ q, q ≠ 0 ∧ WeaveErr l q ∧ e = .returned (.tuple #[.slice none 0 0, .int .i64 0, .int .i64 0, errV q])) ∨
    (∃ t tv, WeaveOk l t ∧ e = .returned (.tuple #[tv, .int .i64 (t.work V1), .int .i64 (t.span V1), .nilIface]) ∧ PlanAt w' tv (t.lay V1 [])))

set_option maxRecDepth 100000 in
set_option maxHeartbeats 1000000 in
theorem parse_any (l : List UInt8) (w : World) (hl : l.length ≤ 9223372036854775807) : Calls Try.prog 5 #[.string ⟨l.toArray⟩] w (ParseOut l w) := by
  by_cases h200 : 200 < l.length
  · have h2 : (200 : Int) < (l.length : Int) := by omega
    go_enter Try.func5, Try.ntmps5
    go_wp2
    refine bodyPost_ret (v := .tuple #[.slice none 0 0, .int .i64 0, .int .i64 0, .iface 47 (.int .i64 4)]) (by simp [results, Try.results5, go_sem]) rfl ?_
    exact ⟨Below.refl _ _, Or.inl ⟨4, by decide, Or.inl ⟨h200, rfl⟩, rfl⟩⟩
  · have h2 : ¬ (200 : Int) < (l.length : Int) := by omega
    have hrd := read_any l w (by omega)
    go_enter Try.func5, Try.ntmps5
    go_wp2_with fail
    refine hrd.mono ?_
    rintro e w1 ⟨hb1, h⟩
    clear hrd
    rcases h with ⟨t, tv, fv, lv, hw, hct, rfl, ⟨fg, fn, fc, lg, ln, lc, rfl, rfl⟩, htr⟩ | ⟨hB, rfl⟩
    · have hp1 := htr.weave (by omega)
      have HP : Hid (PlanAt w1 tv (t.lay V1 [])) := hp1
      obtain ⟨_, a, c, rfl, _⟩ := hp1
      unfold partV
      have hbA : Below w1.heap.size w1 (w1.alloc (.cells #[.int .i64 (t.work V1), .int .i64 (t.span V1), .slice (some ⟨fg, 0, none⟩) fn fc, .slice (some ⟨lg, 0, none⟩) ln lc] 49)) := (Below.refl _ _).alloc (Nat.le_refl _) _
      have hck := checkW_any _ _ _ (HP.out.later hbA)
      clear htr
      go_wp2_with fail
      refine hck.mono ?_
      rintro e w2 ⟨rfl, hb2⟩
      clear hck
      have hB2 : Below w.heap.size w w2 := (hb1.trans (hbA.mono hb1.size)).trans (hb2.mono (Nat.le_trans hb1.size hbA.size))
      have HP2 := (HP.out.later hbA).later hb2
      have hblk : w2.heap[w1.heap.size]? = some (.cells #[.int .i64 (t.work V1), .int .i64 (t.span V1), .slice (some ⟨fg, 0, none⟩) fn fc, .slice (some ⟨lg, 0, none⟩) ln lc] 49 (0, 0)) := (hb2.block _ (by simp)).trans (blk_alloc_new _ _)
      obtain ⟨q0, q1, q2, q3, _⟩ := part_cells hblk
      have HPP : Hid (PlanAt w2 (.slice a (t.lay V1 []).length c) (t.lay V1 [])) := HP2
      by_cases hq : boundErr (t.lay V1 []) = 0
      · have HOK : Hid (WeaveOk l t) := ⟨by omega, hw, hq⟩
        rw [hq, errV_zero]
        clear hq HP2 hbA hb2
        go_wp2
        go_quiet (fail)
        go_wp2
        refine bodyPost_ret (v := .tuple #[.slice a (t.lay V1 []).length c, .int .i64 (t.work V1), .int .i64 (t.span V1), .nilIface]) (by simp [results, Try.results5, go_sem]) rfl ?_
        exact ⟨hB2.trans ⟨rfl, rfl, rfl, Nat.le_refl _, fun _ _ => rfl⟩, Or.inr ⟨t, _, HOK.out, rfl, HPP.out⟩⟩
      · have HER : Hid (WeaveErr l (boundErr (t.lay V1 []))) := Or.inr (Or.inr ⟨t, by omega, hw, hq, rfl⟩)
        have HQ : Hid (boundErr (t.lay V1 []) ≠ 0) := hq
        have hev := errV_some hq
        rw [hev]
        have HV : Hid (errV (boundErr (t.lay V1 [])) = .iface 47 (.int .i64 (boundErr (t.lay V1 [])))) := hev
        clear hev hq HP2 hbA hb2
        generalize boundErr (t.lay V1 []) = q at *
        go_wp2
        refine bodyPost_ret (v := .tuple #[.slice none 0 0, .int .i64 0, .int .i64 0, .iface 47 (.int .i64 q)]) (by simp [results, Try.results5, go_sem]) rfl ?_
        exact ⟨hB2, Or.inl ⟨q, HQ.out, HER.out, by rw [HV.out]⟩⟩
    · unfold synErr
      go_wp2
      refine bodyPost_ret (v := .tuple #[.slice none 0 0, .int .i64 0, .int .i64 0, .iface 47 (.int .i64 2)]) (by simp [results, Try.results5, go_sem]) rfl ?_
      exact ⟨hb1.alloc hb1.size _, Or.inl ⟨2, by decide, Or.inr (Or.inl ⟨by omega, hB, rfl⟩), rfl⟩⟩

/-- What Measure answers. -/
def MeasureOut (l : List UInt8) (w : World) (e : Ending) (w' : World) : Prop :=
  Below w.heap.size w w' ∧ ((∃ q, q ≠ 0 ∧ WeaveErr l q ∧ e = .returned (.tuple #[.int .i64 0, .int .i64 0, errV q])) ∨
    (∃ t, WeaveOk l t ∧ e = .returned (.tuple #[.int .i64 (t.work V1), .int .i64 (t.span V1), .nilIface])))

end Go.Proofs.Ytkcpimbhfmhjgaa
