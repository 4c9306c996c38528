/- The contracts of depth.Span and depth.Longest. -/
import Derived.Test.YtefkglgccllbeaaDoorDh
namespace Go.Proofs.YtefkglgccllbeaaDoor
open Go.RowKit Go.Deep

set_option maxHeartbeats 2000000 in
theorem span_any (v : Value) (ts : List (Int × List Int)) (w : World) (hp : PlanAt w v ts) :
    Calls Tryd.prog 22 #[v] w fun e w' => ((∃ p q, q ≠ 0 ∧ CheckIs ts p q ∧ e = .returned (.tuple #[.int .i64 0, errV q])) ∨
      (CheckIs ts 0 0 ∧ ∃ ord, OrdIs ts ord ∧ e = .returned (.tuple #[.int .i64 (maxTo (tailsOf ts ord) ts.length), .nilIface]))) ∧ Below w.heap.size w w' := by
  have ht := tails_any v ts w hp
  obtain ⟨hl, a, c, rfl, hp⟩ := hp
  clear hp
  go_enter Tryd.func22, Tryd.ntmps22
  go_wp2_with fail
  refine ht.mono ?_
  rintro e w1 ⟨h, hb1⟩
  clear ht
  rcases h with ⟨p, q, hq, hc, rfl⟩ | ⟨hc, ord, rv, ho, rfl, hi⟩
  · have hev := errV_some hq
    rw [hev]
    have HV : Hid (errV q = .iface 57 (.int .i64 q)) := hev
    clear hev
    go_wp2
    go_ret2
    exact ⟨Or.inl ⟨p, q, hq, hc, by rw [HV.out]; rfl⟩, hb1⟩
  · have hg := greatest_any rv (tailsOf ts ord) ts.length w1 hi
    obtain ⟨_, ra, rc, rfl, _⟩ := hi
    go_wp2_with (go_at_call 42; refine hg.mono ?_; rintro e w' ⟨rfl, rfl⟩)
    go_ret2
    exact ⟨Or.inr ⟨hc, ord, ho, rfl⟩, hb1⟩

theorem firstOf_goes {ts : List (Int × List Int)} {T : Nat → Int} {r : Int} (h : firstOf (listOf T ts.length) (maxTo T ts.length) r) : LeastIs ts.length (goesOn ts T none) r := by
  unfold firstOf at h
  rw [listOf_length] at h
  rcases h with ⟨k, h1, h2, h3, rfl⟩ | ⟨h, rfl⟩
  · refine Or.inl ⟨k, h1, fun j hj => ?_, ?_, rfl⟩
    · have := h2 j hj
      dsimp only at this
      rw [listOf_getD T (by omega)] at this
      exact this
    · dsimp only at h3
      rw [listOf_getD T h1] at h3
      exact h3
  · refine Or.inr ⟨fun j hj => ?_, rfl⟩
    have := h j hj
    dsimp only at this
    rw [listOf_getD T hj] at this
    exact this

theorem getLast?_snoc {l : List Nat} {y : Nat} : (l ++ [y]).getLast? = some y := by simp

set_option maxRecDepth 100000 in
set_option maxHeartbeats 4000000 in
theorem longest_any (v : Value) (ts : List (Int × List Int)) (w : World) (hp : PlanAt w v ts) :
    Calls Tryd.prog 25 #[v] w fun e w' => ((∃ p q, q ≠ 0 ∧ CheckIs ts p q ∧ e = .returned (.tuple #[.slice none 0 0, errV q])) ∨
      (CheckIs ts 0 0 ∧ ∃ ord way wv, OrdIs ts ord ∧ WayIs ts (tailsOf ts ord) way ∧ e = .returned (.tuple #[wv, .nilIface]) ∧ way.length ≤ 601 ∧ IntsAt w' wv (intsOf way))) ∧ Below w.heap.size w w' := by
  have HP : Hid (PlanAt w v ts) := hp
  have ht := tails_any v ts w hp
  obtain ⟨hl, a, c, rfl, hp⟩ := hp
  clear hp
  obtain ⟨i3, hi3, hz0, hz1, hz2⟩ := info_parts Tryd.info3
  go_enter Tryd.func25, Tryd.ntmps25
  go_wp2_with fail
  refine ht.mono ?_
  rintro e w1 ⟨h, hb1⟩
  clear ht
  rcases h with ⟨p, q, hq, hc, rfl⟩ | ⟨hc, ord, rv, ho, rfl, hi⟩
  · have hev := errV_some hq
    rw [hev]
    have HV : Hid (errV q = .iface 57 (.int .i64 q)) := hev
    clear hev
    go_wp2
    go_ret2
    exact ⟨Or.inl ⟨p, q, hq, hc, by rw [HV.out]; rfl⟩, hb1⟩
  · have hd := (Ready.of hc ho).deep
    have HD : Hid (Deep ts (ranksOf ts ord) (tailsOf ts ord)) := hd
    have HO : Hid (OrdIs ts ord) := ho
    have HCK : Hid (CheckIs ts 0 0) := hc
    have HI : Hid (IntsAt w1 rv (listOf (tailsOf ts ord) ts.length)) := hi
    clear hd hc ho
    generalize hT : tailsOf ts ord = T at *
    have HT : Hid (tailsOf ts ord = T) := hT
    clear hT
    have hg := greatest_any rv T ts.length w1 hi
    have hx := index_any rv _ (maxTo T ts.length) w1 hi
    obtain ⟨_, ra, rc, rfl, _⟩ := hi
    go_wp2_with (first | (go_at_call 42; refine hg.mono ?_; rintro e w' ⟨rfl, rfl⟩) | (go_at_call 44; fail))
    refine hx.mono ?_
    rintro e w' ⟨⟨r, rfl, hr⟩, rfl⟩
    clear hx hg
    have HR : Hid (LeastIs ts.length (goesOn ts T none) r) := firstOf_goes hr
    clear hr
    go_wp2
    go_loopg [6, 7] 601 (fun gg s6 s7 wr => ∃ way r, s7 = .int .i64 r ∧ Hid (wr.ownsRow w'.heap.size 3 1 s6 way.length (way.map natV)) ∧ Hid (Ways ts T way) ∧ Hid (LeastIs ts.length (goesOn ts T way.getLast?) r) ∧ Below w'.heap.size w' wr ∧ Hid (0 ≤ leftOf ts T way.getLast? ∧ leftOf ts T way.getLast? ≤ gg) ∧ way.length + gg ≤ 601)
    case atStart => exact ⟨[], r, rfl, World.ownsRow_nil _ _ _ _, Ways.nil _ _, HR, Below.refl _ _, ⟨maxTo_nonneg _ _, by have := maxTo_le T ts.length 600 (by omega) (fun x _ => (HD.out.tlow x).2); show maxTo T ts.length ≤ _; omega⟩, by simp⟩
    case round =>
      clear HR
      obtain ⟨way, r, rfl, hown, hw, hn, hB, hlf, hlen⟩ := hrel
      by_cases hr : 0 ≤ r
      · obtain ⟨x, rfl, hxl, hgo⟩ := hn.out.pos hr
        have HN : Hid (LeastIs ts.length (goesOn ts T way.getLast?) (x : Nat)) := hn.out
        have HW : Hid (Ways ts T (way ++ [x])) := hw.out.snoc hn.out
        have hle := goesOn_left hgo
        have hwk := HD.out.wk x hxl
        have htw := HD.out.twk x hxl
        have HL : Hid (0 ≤ leftOf ts T (way ++ [x]).getLast? ∧ leftOf ts T (way ++ [x]).getLast? + 1 ≤ gk) := by
          have h2 := hlf.out.2
          rw [← hle] at h2
          rw [getLast?_snoc]
          exact ⟨by show 0 ≤ T x - wkOf ts x; omega, by show T x - wkOf ts x + 1 ≤ gk; omega⟩
        have hg1 : 1 ≤ gk := by have := HL.out; omega
        clear hn hw hle hgo hlf hwk htw
        have hoa := hown.out.alloc (.cells #[.int .i64 (x : Nat)] 3)
        go_wp2_with (at_builtin; refine wpList_append_own _ rfl (.tmp 22) (.tmp 24) 28 rfl w'.heap.size 3 i3 (.int .i64 0) 1 8 Tryd.underlying28 hi3 hz0 hz1 hz2 rfl (by decide) _ way.length (way.map natV) rfl hoa ⟨wr.heap.size, 0, none⟩ 1 1 [.int .i64 (x : Nat)] rfl rfl ?c1 ?c2 ?c3 ?c4 ?c5 ?_)
        case c1 =>
          have hone := cell_one_new wr (.int .i64 (x : Nat)) 3
          simpa using hone
        case c2 => intro u hu; simp at hu; subst hu; rfl
        case c3 => unfold maxLen; omega
        case c4 => omega
        case c5 => have := hB.size; simp; omega
        intro v' w3 hown' hgrow _
        have hB3 : Below w'.heap.size w' w3 := (hB.alloc hB.size _).grown hgrow (by have := hB.size; simp; omega) (fun j e => (hown.out.lt j e).1)
        have HOWN : Hid (w3.ownsRow w'.heap.size 3 1 v' (way ++ [x]).length ((way ++ [x]).map natV)) := by
          show w3.ownsRow _ _ _ _ _ _
          rw [List.length_append, List.map_append]; exact hown'
        obtain ⟨g3, cap3, rfl⟩ := shape_of_owns hown' (by omega)
        clear hown' hgrow hoa hown hB
        have hBw : Below w.heap.size w w3 := hb1.trans (hB3.mono hb1.size)
        have hon := onward_any _ _ ts T x w3 (HP.out.later hBw) (HI.out.later hB3) hxl HD.out.tlow HD.out.wk
        go_wp2_with (go_at_call 45; refine hon.mono ?_; rintro e w4 ⟨⟨r4, rfl, hr4⟩, hb4⟩)
        have HR4 : Hid (LeastIs ts.length (goesOn ts T (way ++ [x]).getLast?) r4) := by
          show LeastIs _ _ _
          rw [getLast?_snoc]; exact hr4
        go_roundg (gk - 1)
        case measure => omega
        case rel =>
          refine ⟨way ++ [x], r4, rfl, HOWN.out.kept (row := none) ⟨hb4.os, hb4.tape, hb4.output, hb4.size, fun k hk _ => hb4.block k hk⟩ (by simp [Value.ownBlock]), HW.out, HR4.out, hB3.trans (hb4.mono hB3.size), ⟨HL.out.1, by have := HL.out.2; omega⟩, by simp; omega⟩
      · obtain ⟨rfl, hno⟩ := hn.out.neg hr
        clear hno
        go_wp2
        have hints := ints_of_owns hown.out (by omega)
        have HIN := hints
        obtain ⟨_, wa, wc, rfl, _⟩ := hints
        go_ret2
        exact ⟨Or.inr ⟨HCK.out, ord, HO.out, way, by rw [HT.out]; exact ⟨hw.out, hn.out⟩, _, rfl, by omega, HIN⟩, hb1.trans (hB.mono hb1.size)⟩
end Go.Proofs.YtefkglgccllbeaaDoor
