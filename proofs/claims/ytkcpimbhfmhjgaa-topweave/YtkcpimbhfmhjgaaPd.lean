/- The contract of greedy.Run. -/
import Derived.Test.YtkcpimbhfmhjgaaPc
namespace Go.Proofs.Ytkcpimbhfmhjgaa
open Go.RowKit Go.Deep

theorem CheckIs.works {ts : List (Int × List Int)} (hc : CheckIs ts 0 0) : Works ts ∧ InRange ts ∧ ∀ j, j < ts.length → ¬ Reach ts j j := by
  obtain ⟨_, h30, herr, hno⟩ := hc.ok rfl
  exact ⟨⟨h30, fun x hx => wkOf_right (herr x hx)⟩, inRange_of herr, hno⟩
theorem take_one {l : List Nat} {k : Nat} (hk : k < l.length) : l.take (k + 1) = l.take k ++ [l.getD k 0] := by
  rw [List.take_succ_eq_append_getElem hk, List.getD_eq_getElem?_getD, List.getElem?_eq_getElem hk]; rfl
theorem getD_mem {l : List Nat} {k : Nat} (hk : k < l.length) : l.getD k 0 ∈ l := by
  rw [List.getD_eq_getElem?_getD, List.getElem?_eq_getElem hk]; exact List.getElem_mem hk
theorem decs_bound {l : List Nat} (hd : l.Nodup) {L : Nat → Int} (h : ∀ x, 0 ≤ L x ∧ L x ≤ 20) (x : Nat) : -1 ≤ decs L l x ∧ decs L l x ≤ 20 := by
  rw [decs_at hd]
  have := h x
  split <;> omega

theorem cell_three_new (w : World) (a b c : Value) (t : TypeId) : ∀ j u, [a, b, c][j]? = some u → (w.alloc (.cells #[a, b, c] t)).cell? ((⟨w.heap.size, 0, none⟩ : Addr).add j) = some u := by
  intro j u hu
  rw [Addr.add_lit, Nat.zero_add]
  unfold World.cell?
  dsimp only
  rw [blk_alloc_new]
  show (#[a, b, c])[j]? = some u
  simpa using hu

/-- What Run hands back. -/
def RunOut (ts : List (Int × List Int)) (hands : Int) (n : Nat) (e : Ending) (w' : World) : Prop :=
  (∃ p q, CheckIs ts p q ∧ gErr q hands ≠ 0 ∧ e = .returned (.tuple #[.slice none 0 0, errV (gErr q hands)])) ∨
  (CheckIs ts 0 0 ∧ 1 ≤ hands ∧ hands ≤ 6 ∧ ∃ s bv, Stops ts hands.toNat s ∧ e = .returned (.tuple #[bv, .nilIface]) ∧ RowB n w' bv (bitsTo ts hands.toNat s))

theorem gErr_zero {q hands : Int} (h : gErr q hands = 0) : q = 0 ∧ 1 ≤ hands ∧ hands ≤ 6 := by
  unfold gErr at h
  split at h
  · split at h
    · omega
    · omega
  · omega

set_option maxRecDepth 100000 in
set_option maxHeartbeats 4000000 in
theorem run_any (v : Value) (ts : List (Int × List Int)) (hands : Int) (w : World) (hp : PlanAt w v ts) :
    Calls Try.prog 6 #[v, .int .i64 hands] w fun e w' => RunOut ts hands w.heap.size e w' ∧ Below w.heap.size w w' := by
  obtain ⟨i36, hi36, hz0, hz1, hz2⟩ := info_parts Try.info57
  have HP : Hid (PlanAt w v ts) := hp
  have hck := gcheck_any v ts hands w hp
  obtain ⟨hl, a, c, rfl, hp⟩ := hp
  clear hp
  go_enter Try.func6, Try.ntmps6
  go_wp2_with fail
  refine hck.mono ?_
  rintro e w1 ⟨⟨p, q, hc, rfl⟩, hb1⟩
  clear hck
  by_cases hq : gErr q hands = 0
  · obtain ⟨rfl, h1, h6⟩ := gErr_zero hq
    obtain ⟨rfl, -⟩ := hc.ok rfl
    rw [hq, errV_zero]
    obtain ⟨hd, rfl⟩ := Int.eq_ofNat_of_zero_le (show 0 ≤ hands by omega)
    obtain ⟨hw, hr, hno⟩ := hc.works
    have HC : Hid (CheckIs ts 0 0) := hc
    have h30 := hw.1
    have HW : Hid (Works ts) := hw
    clear hc hq hw hno
    have hwk := works_any _ ts w1 (HP.out.later hb1) h30
    go_wp2_with (go_at_call 17; refine hwk.mono ?_; clear hwk; rintro e w2 ⟨rfl, hrow, hb2⟩)
    have HG : Hid (GMem w1.heap.size ts.length w1 w2 (leftAt ts hd 0) (.slice none 0 0) (bitsTo ts hd 0)) := ⟨hrow, RowB.nil _ _, hb2⟩
    have HPW : Hid (∀ wx, Below w1.heap.size w1 wx → PlanAt wx (.slice a ts.length c) ts) := fun wx hx => (HP.out.later hb1).later hx
    clear hrow hb2
    go_loopw [7, 9] (fun s7 s9 wr => ∃ s : Nat, s ≤ 600 ∧ s9 = .int .i64 s ∧ Hid (Busy ts hd s) ∧ Hid (GMem w1.heap.size ts.length w1 wr (leftAt ts hd s) s7 (bitsTo ts hd s))) (fun _ s9 _ => 600 - (intOf s9).toNat)
    case atStart => exact ⟨0, by omega, rfl, Busy.zero _ _, HG⟩
    case round =>
      clear HG
      obtain ⟨s, hs600, rfl, hbusy, hG⟩ := hrel
      obtain ⟨ba, bc, rfl⟩ := hG.out.bits.shape
      have hrd := ready_any _ ts (leftAt ts hd s) w1.heap.size wr (HPW.out _ hG.out.below) hG.out.row hr h30
      by_cases hem : rdyTo ts (leftAt ts hd s) ts.length = []
      · have HS : Hid (Stops ts hd s) := ⟨hbusy.out, hem⟩
        rw [hem] at hrd
        clear hbusy
        go_wp2_with fail
        refine hrd.mono ?_
        clear hrd
        rintro e w3 ⟨⟨rv, rfl, hR⟩, hb3⟩
        obtain ⟨ra, rc, rfl⟩ := hR.shape
        have HF : Hid (RowB w.heap.size w3 (.slice ba (bitsTo ts hd s).length bc) (bitsTo ts hd s)) := (hG.out.later hb3).bits.mono hb1.size
        have HB : Hid (Below w.heap.size w w3) := hb1.trans ((hG.out.later hb3).below.mono hb1.size)
        clear hG hR hem hb3
        generalize (bitsTo ts hd s).length = bl at *
        go_wp2
        go_ret2
        exact ⟨Or.inr ⟨HC.out, h1, h6, s, _, HS.out, rfl, HF.out⟩, HB.out⟩
      · have HBS : Hid (Busy ts hd (s + 1)) := hbusy.out.succ hem
        have hs1 : s + 1 ≤ 600 := HBS.out.le HW.out (by omega)
        have HL : Hid (leftAt ts hd (s + 1) = decs (leftAt ts hd s) (nowL ts hd (leftAt ts hd s))) := rfl
        have HT : Hid (bitsTo ts hd (s + 1) = bitsTo ts hd s ++ bitsOf s (nowL ts hd (leftAt ts hd s))) := rfl
        have HLB : Hid (∀ x, 0 ≤ leftAt ts hd s x ∧ leftAt ts hd s x ≤ 20) := fun x => leftAt_bound HW.out hd s x
        have HBL : Hid ((bitsTo ts hd (s + 1)).length ≤ 600) := bits_len HW.out hd (s + 1)
        unfold nowL at HL HT
        have hpos := List.length_pos_iff.2 hem
        have hln := rdyTo_len ts (leftAt ts hd s) ts.length
        have HND : Hid ((rdyTo ts (leftAt ts hd s) ts.length).Nodup) := rdyTo_nodup _ _ _
        have HLT : Hid (∀ x, x ∈ rdyTo ts (leftAt ts hd s) ts.length → x < ts.length) := fun x hx => (mem_rdyTo.1 hx).1
        rw [HT.out] at HBL
        have HT2 := HT
        clear hbusy hem HT
        generalize leftAt ts hd s = L at *
        generalize rdyTo ts L ts.length = l at *
        generalize bitsTo ts hd s = bs at *
        go_wp2_with fail
        refine hrd.mono ?_
        clear hrd
        rintro e w3 ⟨⟨rv, rfl, hR⟩, hb3⟩
        have hil := intsOf_length l
        obtain ⟨g, rc, rfl, hg1, hg2, hrc, hrm⟩ := hR.full (by rw [hil]; exact hpos)
        rw [hil] at hR hrc ⊢
        have HG3 : Hid (GMem w1.heap.size ts.length w1 w3 L (.slice ba bs.length bc) bs) := hG.out.later hb3
        have hgN : w1.heap.size < g := by have := hG.out.row.lt; omega
        have HIL : Hid ((intsOf l).length = l.length) := hil
        have HR : Hid (RowI g w3 (.slice (some ⟨g, 0, none⟩) l.length rc) (intsOf l)) := by
          rcases hR.2 with ⟨h, _⟩ | ⟨g', cap, cur, hv, _, r⟩
          · simp at h
          · simp only [Value.slice.injEq, Option.some.injEq, Addr.mk.injEq, and_true] at hv
            obtain ⟨rfl, h2, rfl⟩ := hv
            exact ⟨hR.1, Or.inr ⟨g, rc, cur, by rw [h2], Nat.le_refl _, r⟩⟩
        clear hG hR hb3 hil hg1
        have hne : ((l.length : Int) == 0) = false := by rw [beq_eq_false_iff_ne]; omega
        obtain ⟨m, hm1, hm2, HM, hor⟩ : ∃ m : Nat, m ≤ l.length ∧ m ≤ hd ∧ Hid (l.take m = l.take hd) ∧ ((l.length < hd ∧ Hid (m = l.length)) ∨ (¬ l.length < hd ∧ Hid (m = hd))) := by
          by_cases e : l.length < hd
          · exact ⟨l.length, by omega, by omega, by show _ = _; rw [List.take_of_length_le (Nat.le_refl _), List.take_of_length_le (by omega)], Or.inl ⟨e, rfl⟩⟩
          · exact ⟨hd, by omega, by omega, rfl, Or.inr ⟨e, rfl⟩⟩
        have hmc : l.length ≤ rc := hrc
        have hEL : Hid (leftAt ts hd (s + 1) = decs L (l.take m)) := by show _ = _; rw [HL.out, HM.out]
        have hET : Hid (bitsTo ts hd (s + 1) = bs ++ bitsOf s (l.take m)) := by show _ = _; rw [HT2.out, HM.out]
        have hBL : Hid (bs.length + m ≤ 600) := by
          have := HBL.out
          rw [← HM.out, List.length_append, bitsOf_length, List.length_take, Nat.min_eq_left hm1] at this
          exact this
        clear HM HL HT2 HBL
        rcases hor with ⟨hlt, hcase⟩ | ⟨hlt, hcase⟩
        all_goals
          go_wp2
          go_loopw [7, 37] (fun s7 s37 wr => ∃ k : Nat, k ≤ m ∧ s37 = .int .i64 k ∧ Hid (GMem w1.heap.size ts.length w1 wr (decs L (l.take k)) s7 (bs ++ bitsOf s (l.take k))) ∧ Hid (RowI g wr (.slice (some ⟨g, 0, none⟩) l.length rc) (intsOf l))) (fun _ s37 _ => m - (intOf s37).toNat)
          case atStart => exact ⟨0, Nat.zero_le _, rfl, by show GMem _ _ _ _ _ _ _; simpa [decs, bitsOf] using HG3.out, HR⟩
          case round =>
            clear HG3 HR
            obtain ⟨k, hk, rfl, hG, hR⟩ := hrel
            by_cases hkm : k < m
            · have hkl : k < l.length := by omega
              have hcell := RowI.cell hR.out (k := k) (by rw [HIL.out]; exact hkl)
              rw [intsOf_getD] at hcell
              have hx := HLT.out _ (getD_mem hkl)
              have HD : Hid (decs L (l.take (k + 1)) = upd (decs L (l.take k)) (l.getD k 0) (decs L (l.take k) (l.getD k 0) - 1)) := by show _ = _; rw [take_one hkl, decs_snoc]
              have HBT : Hid (bs ++ bitsOf s (l.take (k + 1)) = bs ++ bitsOf s (l.take k) ++ [(s, k, l.getD k 0)]) := by
                show _ = _
                rw [take_one hkl, bitsOf_snoc, List.length_take, Nat.min_eq_left (by omega), List.append_assoc]
              have hbd := decs_bound (l := l.take k) (HND.out.sublist (List.take_sublist _ _)) HLB.out (l.getD k 0)
              have hlb : (bs ++ bitsOf s (l.take k)).length ≤ 599 := by
                rw [List.length_append, bitsOf_length, List.length_take, Nat.min_eq_left (by omega)]
                have := hBL.out
                omega
              generalize l.getD k 0 = x at *
              generalize bs ++ bitsOf s (l.take k) = cs at *
              generalize decs L (l.take k) = F at *
              obtain ⟨ca, cc, rfl⟩ := hG.out.bits.shape
              have hGa := hG.out.later (w' := wr.alloc (.cells #[.int .i64 s, .int .i64 k, .int .i64 x] 57)) ((Below.refl _ _).alloc (Nat.le_refl _) _)
              have hRa := hR.out.alloc (.cells #[.int .i64 s, .int .i64 k, .int .i64 x] 57)
              have ho := hGa.bits
              have hsz : w1.heap.size ≤ wr.heap.size := Nat.le_of_lt hG.out.row.lt
              unfold RowB at ho
              have HGA : Hid (GMem w1.heap.size ts.length w1 (wr.alloc (.cells #[.int .i64 s, .int .i64 k, .int .i64 x] 57)) F (.slice ca cs.length cc) cs) := hGa
              have HRA : Hid (RowI g (wr.alloc (.cells #[.int .i64 s, .int .i64 k, .int .i64 x] 57)) (.slice (some ⟨g, 0, none⟩) l.length rc) (intsOf l)) := hRa
              obtain ⟨y, hy⟩ : ∃ y, F x = y := ⟨_, rfl⟩
              have HY : Hid (F x = y) := hy
              rw [hy] at hbd HD
              clear hy
              have h1c : ∀ u ∈ [Value.int .i64 (s : Int), .int .i64 (k : Int), .int .i64 (x : Int)], u.oneCell' = true := by intro u hu; simp at hu; rcases hu with rfl | rfl | rfl <;> rfl
              clear hGa hRa hG hR
              go_wp2_with (at_builtin; refine wpList_append_own _ rfl (.tmp 42) (.tmp 47) 29 rfl w1.heap.size 57 i36 (.agg #[.int .i64 0, .int .i64 0, .int .i64 0]) 3 24 Try.underlying29 hi36 hz0 hz1 hz2 rfl (by decide) _ cs.length (flat cs) rfl ho ⟨wr.heap.size, 0, none⟩ 1 1 [.int .i64 s, .int .i64 k, .int .i64 x] rfl rfl (cell_three_new wr _ _ _ _) h1c (by unfold maxLen; omega) (by omega) (by simp; omega) ?_; intro v2 w4 hown hgr _; have hG4 : GMem w1.heap.size ts.length w1 w4 F v2 (cs ++ [(s, k, x)]) := HGA.out.app hown hgr; have hc4 : w4.cell? ⟨w1.heap.size, x, none⟩ = some (.int .i64 y) := (hG4.row.cell hx).trans (congrArg (fun z => some (Value.int .i64 z)) HY.out); have hf4 := hG4.row.frozen x; have hl4 := hG4.row.lt; have HG4 : Hid (GMem w1.heap.size ts.length w1 w4 F v2 (cs ++ [(s, k, x)])) := hG4; have HR4 : Hid (RowI g w4 (.slice (some ⟨g, 0, none⟩) l.length rc) (intsOf l)) := HRA.out.past HGA.out.bits hgr; clear hG4 hown hgr ho)
              have HN : Hid (GMem w1.heap.size ts.length w1 (w4.setCell ⟨w1.heap.size, x, none⟩ (.int .i64 (y - 1))) (decs L (l.take (k + 1))) v2 (bs ++ bitsOf s (l.take (k + 1)))) := by
                show GMem _ _ _ _ _ _ _
                rw [HD.out, HBT.out]
                exact HG4.out.set x _
              have HRN : Hid (RowI g (w4.setCell ⟨w1.heap.size, x, none⟩ (.int .i64 (y - 1))) (.slice (some ⟨g, 0, none⟩) l.length rc) (intsOf l)) :=
                HR4.out.of_blocks (fun j hj => Below.heap_setCell w4 ⟨w1.heap.size, x, none⟩ _ j (by show j ≠ w1.heap.size; have := (HR4.out.low hj).1; omega))
              go_roundw
              case rel => exact ⟨k + 1, by omega, by go_num, HN, HRN⟩
              case measure => simp [intOf]; omega
            · have hkm2 := hkm
              have hke : k = m := by omega
              rw [hcase.out] at hkm2
              have HN0 := hG.out
              rw [hke, ← hEL.out, ← hET.out] at HN0
              have HN : Hid _ := HN0
              clear HN0
              clear hG hR hke
              go_wp2
              go_roundw
              case rel => exact ⟨s + 1, hs1, by go_num, HBS, HN⟩
              case measure => simp [intOf]; omega
  · have hev := errV_some hq
    rw [hev]
    have HV : Hid (errV (gErr q hands) = .iface 47 (.int .i64 (gErr q hands))) := hev
    have HQ : Hid (gErr q hands ≠ 0) := hq
    clear hev hq
    have HF : Hid (∀ u, u = errV (gErr q hands) → RunOut ts hands w.heap.size (.returned (.tuple #[.slice none 0 0, u])) w1) := fun u hu => Or.inl ⟨p, q, hc, HQ.out, by rw [hu]⟩
    rw [HV.out] at HF
    clear HV HQ hc
    generalize gErr q hands = g at *
    go_wp2
    go_ret2
    exact ⟨HF.out _ rfl, hb1⟩
end Go.Proofs.Ytkcpimbhfmhjgaa
