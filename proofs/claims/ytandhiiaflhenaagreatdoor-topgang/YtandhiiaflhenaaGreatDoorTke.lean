/- trace.Check. -/
import Derived.Test.YtandhiiaflhenaaGreatDoorTkd
import Derived.Test.YtandhiiaflhenaaGreatDoorOrdr
import Derived.Test.YtandhiiaflhenaaGreatDoorDepa
namespace Go.Proofs.YtandhiiaflhenaaGreatDoor
open Go.RowKit Go.Deep Go.Maps

/-- What Check tells of deeds, where the plan's own Check tells q. -/
def trChk (q hands : Int) (ts : List (Int × List Int)) (ds : List Deed) : Int := if q = 0 then (if hands < 1 ∨ 6 < hands then 1 else toldErr ts hands.toNat ds) else q
set_option maxRecDepth 100000 in
set_option maxHeartbeats 8000000 in
theorem trCheck_in (v dv : Value) (ts : List (Int × List Int)) (hands : Nat) (ds : List Deed) (w : World) (hp : PlanAt w v ts) (hd : DeedsAt w dv ds) (hc : CheckIs ts 0 0) (h1 : 1 ≤ hands) (h6 : hands ≤ 6) :
    Calls Tryz.prog 15 #[v, .int .i64 (hands : Int), dv] w fun e w' => e = .returned (errV (toldErr ts hands ds)) ∧ Below w.heap.size w w' := by
  have hck : Calls Tryz.prog 27 #[v] w fun e w' => e = .returned (.tuple #[.int .i64 0, .nilIface]) ∧ Below w.heap.size w w' := (check_any v ts w hp).mono (fun e w' ⟨⟨p', q', he, hc'⟩, hb⟩ => by
    obtain ⟨rfl, rfl⟩ := hc.det hc'
    exact ⟨he, hb⟩)
  have h30 := hc.good.le
  have HR : Hid (InRange ts) := inRange_of (by
    rcases hc with ⟨_, _, h⟩ | ⟨k, _, _, _, h4, _, h⟩ | ⟨k, _, _, _, _, _, _, h⟩ | ⟨_, h, _⟩
    · exact absurd h (by decide)
    · exact absurd h.symm h4
    · exact absurd h (by decide)
    · exact h)
  have HP : Hid (PlanAt w v ts) := hp
  have HD : Hid (DeedsAt w dv ds) := hd
  have HCD : Hid (∀ w1, Below w.heap.size w w1 → Calls Tryz.prog 33 #[dv] w1 fun e w' => e = .returned (errV (deedsErr ds)) ∧ Below w1.heap.size w1 w') := fun w1 hb => checkDeeds_any dv ds w1 (hd.later hb)
  obtain ⟨_, pa, pc, rfl, _⟩ := hp
  obtain ⟨_, da, dc, rfl, _⟩ := hd
  have g1 : ¬ (hands : Int) < 1 := by omega
  have g6 : ¬ (6 : Int) < (hands : Int) := by omega
  clear hc
  by_cases he : deedsErr ds = 0
  case neg =>
    have HT : Hid (errV (toldErr ts hands ds) = .iface 80 (.int .i64 (deedsErr ds))) := by rw [show toldErr ts hands ds = deedsErr ds from if_neg he]; exact errV_some he
    rw [errV_some he] at HCD
    generalize deedsErr ds = de at *
    clear he
    go_enter Tryz.func15, Tryz.ntmps15
    go_wp2_with (first | (go_at_call 27; refine hck.mono ?_; clear hck; rintro e w1 ⟨rfl, hb1⟩; have hcd := HCD.out w1 hb1; have HB1 : Hid (Below w.heap.size w w1) := hb1; clear hb1) | (go_at_call 33; refine hcd.mono ?_; clear hcd; rintro e w2 ⟨rfl, hb2⟩; have HB2 : Hid (Below w.heap.size w w2) := HB1.out.trans (hb2.mono HB1.out.size); clear hb2))
    go_ret
    exact ⟨by rw [HT.out]; rfl, HB2.out⟩
  case pos =>
    have HT : Hid (toldErr ts hands ds = trErrs ts hands trNew ds) := if_pos he
    have HA : Hid (∀ k, k < ds.length → deedE (ds.getD k (0, 0, 0, 0)) = 0) := fun k hk => (deedsErr_zero he).2 _ (by rw [List.getD_eq_getElem?_getD, List.getElem?_eq_getElem hk]; exact List.getElem_mem hk)
    have hl1000 : ds.length ≤ 1000 := (deedsErr_zero he).1
    rw [he, errV_zero] at HCD
    clear he
    go_enter Tryz.func15, Tryz.ntmps15
    go_wp2_with (first | (go_at_call 27; refine hck.mono ?_; clear hck; rintro e w1 ⟨rfl, hb1⟩; have hcd := HCD.out w1 hb1; have HB1 : Hid (Below w.heap.size w w1) := hb1; clear hb1) | (go_at_call 33; refine hcd.mono ?_; clear hcd; rintro e w2 ⟨rfl, hb2⟩; have HB2 : Hid (Below w.heap.size w w2) := HB1.out.trans (hb2.mono HB1.out.size); clear hb2) | (go_at_call 38; refine (begun_any pa pc ts.length hands _).mono ?_; rintro e w3 ⟨rfl, hM3⟩; have HM3 : Hid (SM w2.heap.size pa pc hands ts.length 0 w2 w3 trNew) := hM3; clear hM3))
    clear HCD HB1
    have hHw : w.heap.size ≤ w2.heap.size := HB2.out.size
    generalize w2.heap.size = H at *
    go_loopw [39] (fun s39 wr => ∃ k : Nat, k ≤ ds.length ∧ s39 = .int .i64 k ∧ Hid (SM H pa pc hands ts.length (2 * k) w2 wr (trEnd trNew (ds.take k))) ∧ Hid (trErrs ts hands trNew (ds.take k) = 0)) (fun s39 _ => ds.length - (intOf s39).toNat)
    case atStart => exact ⟨0, Nat.zero_le _, rfl, HM3, rfl⟩
    case round =>
      clear HM3
      obtain ⟨k, hk, rfl, hM, hE⟩ := hrel
      have hBw : Below w.heap.size w wr := HB2.out.trans (hM.out.below.mono hHw)
      by_cases hkl : k < ds.length
      · obtain ⟨b, o, rfl, hbl, c0, c1, c2, c3⟩ := (HD.out.later hBw).four hkl
        obtain ⟨⟨d1, d2⟩, ⟨d3, d4⟩, ⟨d5, d6⟩, d7⟩ := deed_parts (HA.out k hkl)
        have HBAD : Hid (∀ q, trErr ts hands (trEnd trNew (ds.take k)) (ds.getD k (0, 0, 0, 0)) = q → q ≠ 0 → toldErr ts hands ds = q) := fun q h1 h2 => by rw [HT.out]; exact trErrs_hit hkl hE.out h1 h2
        have HGOOD : Hid (trErr ts hands (trEnd trNew (ds.take k)) (ds.getD k (0, 0, 0, 0)) = 0 → ∀ wx, SM H pa pc hands ts.length (2 * k + 2) w2 wx (trNext (trEnd trNew (ds.take k)) (ds.getD k (0, 0, 0, 0))) → Hid (SM H pa pc hands ts.length (2 * (k + 1)) w2 wx (trEnd trNew (ds.take (k + 1)))) ∧ Hid (trErrs ts hands trNew (ds.take (k + 1)) = 0)) := fun h1 wx hx => by
          obtain ⟨h2, h3⟩ := trErrs_more hkl hE.out h1
          exact ⟨by rw [h3]; exact hx, h2⟩
        obtain ⟨x2, e2⟩ : ∃ x2 : Nat, (ds.getD k (0, 0, 0, 0)).2.1 = x2 := ⟨_, (Int.toNat_of_nonneg d3).symm⟩
        obtain ⟨x3, e3⟩ : ∃ x3 : Nat, (ds.getD k (0, 0, 0, 0)).2.2.1 = x3 := ⟨_, (Int.toNat_of_nonneg d5).symm⟩
        obtain ⟨x4, e4⟩ : ∃ x4 : Nat, (ds.getD k (0, 0, 0, 0)).2.2.2 = x4 := ⟨_, (Int.toNat_of_nonneg d7).symm⟩
        obtain ⟨x1, e1⟩ : ∃ x1 : Int, (ds.getD k (0, 0, 0, 0)).1 = x1 := ⟨_, rfl⟩
        have HDD : Hid (ds.getD k (0, 0, 0, 0) = (x1, (x2 : Int), (x3 : Int), (x4 : Int))) := Prod.ext e1 (Prod.ext e2 (Prod.ext e3 e4))
        rw [HDD.out] at HBAD HGOOD
        rw [e1] at c0 d1 d2
        rw [e2] at c1
        rw [e3] at c2
        rw [e4] at c3
        clear e1 e2 e3 e4 d3 d4 d5 d6 d7 HDD
        have hte := tell_any (hM.out.later ((Below.refl _ _).alloc (Nat.le_refl _) (.cells #[.int .i64 x1, .int .i64 (x2 : Int), .int .i64 (x3 : Int), .int .i64 (x4 : Int)] 43))) (HP.out.later (hBw.alloc hBw.size _)) HR.out (by omega) h6 h30 x1 x2 x3 x4 ⟨d1, d2⟩ _ rfl
        clear hM hE hBw d1 d2
        generalize htr : trErr ts hands (trEnd trNew (ds.take k)) (x1, (x2 : Int), (x3 : Int), (x4 : Int)) = er at *
        generalize trNext (trEnd trNew (ds.take k)) (x1, (x2 : Int), (x3 : Int), (x4 : Int)) = s' at *
        clear htr
        by_cases hz : er = 0
        · subst hz
          have hte2 := hte.mono (R' := fun e w' => e = .returned .nilIface ∧ Hid (SM H pa pc hands ts.length (2 * (k + 1)) w2 w' (trEnd trNew (ds.take (k + 1)))) ∧ Hid (trErrs ts hands trNew (ds.take (k + 1)) = 0)) (fun e w' ⟨h1, _, h3⟩ => ⟨h1, HGOOD.out rfl w' (h3 rfl)⟩)
          clear hte HBAD HGOOD
          go_wp2_with (first | (go_at_call 39; refine hte2.mono ?_; clear hte2; rintro e w9 ⟨rfl, h9, h9e⟩))
          go_roundw
          case rel => exact ⟨k + 1, by omega, by go_num, h9, h9e⟩
          case measure => simp [intOf]; omega
        · have HEV : Hid (errV (toldErr ts hands ds) = .iface 80 (.int .i64 er)) := by rw [HBAD.out er rfl hz]; exact errV_some hz
          have hte2 := hte.mono (R' := fun e w' => e = .returned (.iface 80 (.int .i64 er)) ∧ Hid (Below w.heap.size w w')) (fun e w' ⟨h1, h2, _⟩ => ⟨by rw [h1, errV_some hz], HB2.out.trans (h2.mono hHw)⟩)
          clear hte HBAD HGOOD hz
          go_wp2_with (first | (go_at_call 39; refine hte2.mono ?_; clear hte2; rintro e w9 ⟨rfl, h9⟩))
          go_ret
          exact ⟨by rw [HEV.out]; rfl, h9.out⟩
      · have hke : k = ds.length := by omega
        have HZ : Hid (toldErr ts hands ds = 0) := by
          rw [HT.out]
          have := hE.out
          rwa [List.take_of_length_le (by omega)] at this
        clear hE hM
        go_wp2
        go_ret
        exact ⟨by rw [HZ.out]; rfl, hBw⟩
set_option maxRecDepth 100000 in
set_option maxHeartbeats 2000000 in
theorem trCheck_any (v dv : Value) (ts : List (Int × List Int)) (hands : Int) (ds : List Deed) (w : World) (hp : PlanAt w v ts) (hd : DeedsAt w dv ds) (p q : Int) (hc : CheckIs ts p q) :
    Calls Tryz.prog 15 #[v, .int .i64 hands, dv] w fun e w' => e = .returned (errV (trChk q hands ts ds)) ∧ Below w.heap.size w w' := by
  have hck : Calls Tryz.prog 27 #[v] w fun e w' => e = .returned (.tuple #[.int .i64 p, errV q]) ∧ Below w.heap.size w w' := (check_any v ts w hp).mono (fun e w' ⟨⟨p', q', he, hc'⟩, hb⟩ => by
    obtain ⟨rfl, rfl⟩ := hc.det hc'
    exact ⟨he, hb⟩)
  by_cases hq : q = 0
  case neg =>
    have HT : Hid (errV (trChk q hands ts ds) = .iface 80 (.int .i64 q)) := by rw [show trChk q hands ts ds = q from if_neg hq]; exact errV_some hq
    rw [errV_some hq] at hck
    clear hq hc hp hd
    go_enter Tryz.func15, Tryz.ntmps15
    go_wp2_with (first | (go_at_call 27; refine hck.mono ?_; clear hck; rintro e w1 ⟨rfl, hb1⟩))
    go_ret
    exact ⟨by rw [HT.out]; rfl, hb1⟩
  case pos =>
    subst hq
    by_cases hh : hands < 1 ∨ 6 < hands
    · have HT : Hid (trChk 0 hands ts ds = 1) := (if_pos rfl).trans (if_pos hh)
      rw [errV_zero] at hck
      clear hc hp hd
      rcases hh with hh | hh
      · go_enter Tryz.func15, Tryz.ntmps15
        go_wp2_with (first | (go_at_call 27; refine hck.mono ?_; clear hck; rintro e w1 ⟨rfl, hb1⟩))
        go_ret
        exact ⟨by rw [HT.out]; rfl, hb1⟩
      · have hh2 : ¬ hands < 1 := by omega
        go_enter Tryz.func15, Tryz.ntmps15
        go_wp2_with (first | (go_at_call 27; refine hck.mono ?_; clear hck; rintro e w1 ⟨rfl, hb1⟩))
        go_ret
        exact ⟨by rw [HT.out]; rfl, hb1⟩
    · obtain ⟨hn, rfl⟩ : ∃ hn : Nat, hands = (hn : Int) := ⟨hands.toNat, by omega⟩
      have hc0 : CheckIs ts 0 0 := by
        rcases hc with ⟨_, _, h⟩ | ⟨k, _, _, _, h4, _, h⟩ | ⟨k, _, _, _, _, _, _, h⟩ | ⟨a, b, c, _, _⟩
        · exact absurd h (by decide)
        · exact absurd h.symm h4
        · exact absurd h (by decide)
        · exact CheckIs.none a b c
      have := trCheck_in v dv ts hn ds w hp hd hc0 (by omega) (by omega)
      rw [show trChk 0 (hn : Int) ts ds = toldErr ts hn ds from (if_pos rfl).trans ((if_neg hh).trans (by rw [Int.toNat_natCast]))]
      exact this
end Go.Proofs.YtandhiiaflhenaaGreatDoor
