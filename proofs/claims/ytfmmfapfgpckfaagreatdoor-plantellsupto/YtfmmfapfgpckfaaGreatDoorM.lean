/- The contracts of yardsame.Ints, yardsame.Plan, yardref1.In, slices.Contains at []int, and plan.After. -/
import Derived.Test.YtfmmfapfgpckfaaGreatDoorK
namespace Go.Proofs.YtfmmfapfgpckfaaGreatDoor
open Go.RowKit Go.Deep

theorem take_succ_none (x : Int) (zs : List Int) (k : Nat) (hlt : k < zs.length) (hno : x ∉ zs.take k) (h : zs.getD k 0 ≠ x) : x ∉ zs.take (k + 1) := by
  intro hx
  rw [List.take_succ_eq_append_getElem hlt] at hx
  have he : zs.getD k 0 = zs[k] := by rw [List.getD_eq_getElem?_getD, List.getElem?_eq_getElem hlt]; rfl
  rcases List.mem_append.1 hx with hx | hx
  · exact hno hx
  · exact h (by rw [he]; exact (List.mem_singleton.1 hx).symm)
theorem mem_at {x : Int} {zs : List Int} {k : Nat} (hlt : k < zs.length) (h : zs.getD k 0 = x) : x ∈ zs := by
  rw [List.getD_eq_getElem?_getD, List.getElem?_eq_getElem hlt] at h
  rw [← h]; exact List.getElem_mem hlt

def memB (zs : List Int) (x : Int) : Bool := decide (x ∈ zs)

set_option maxHeartbeats 800000 in
theorem in_any (v : Value) (zs : List Int) (x : Int) (w : World) (hz : IntsAt w v zs) :
    Calls Tryz.prog 27 #[v, .int .i64 x] w fun e w' => e = .returned (.bool (memB zs x)) ∧ w' = w := by
  obtain ⟨hl, a, c, rfl, hz⟩ := hz
  rcases hz with rfl | ⟨b, o, rfl, hbl, hc⟩
  · go_enter Tryz.func27, Tryz.ntmps27
    go_wp2
    refine wp_loop_rounds 1 ?_
    rw [rounds_succ]
    go_wp2
    go_ret
    exact ⟨rfl, rfl⟩
  · go_enter Tryz.func27, Tryz.ntmps27
    go_wp2
    go_loop [5] (fun i => ∃ k : Nat, k ≤ zs.length ∧ i = .int .i64 k ∧ Hid (x ∉ zs.take k)) (fun i => zs.length - (intOf i).toNat)
    case atStart => exact ⟨0, Nat.zero_le _, rfl, by simp [Hid]⟩
    case round =>
      obtain ⟨k, hk, rfl, hno⟩ := hrel
      by_cases hkl : k < zs.length
      · have hck := hc k hkl
        clear hc
        generalize hy : zs.getD k 0 = y at hck
        have HY : Hid (zs.getD k 0 = y) := hy
        clear hy
        by_cases e : y = x
        · have he : (y == x) = true := by simp [e]
          have HM : Hid (x ∈ zs) := mem_at hkl (HY.out.trans e)
          clear e
          go_wp2
          go_ret
          exact ⟨ret_bool (by simp [memB, HM.out]), rfl⟩
        · have he : (y == x) = false := by simp [e]
          have HM : Hid (x ∉ zs.take (k + 1)) := take_succ_none x zs k hkl hno.out (by rw [HY.out]; exact e)
          clear e
          go_wp2
          go_round
          case rel => exact ⟨k + 1, by omega, by go_num, HM⟩
          case measure => simp [intOf]; omega
      · have HM : Hid (x ∉ zs) := by have := hno.out; rwa [List.take_of_length_le (by omega)] at this
        go_wp2
        go_ret
        exact ⟨ret_bool (by simp [memB, HM.out]), rfl⟩

set_option maxHeartbeats 800000 in
theorem index_any (v : Value) (zs : List Int) (x : Int) (w : World) (hz : IntsAt w v zs) :
    Calls Tryz.prog 43 #[v, .int .i64 x] w fun e w' => (∃ r, e = .returned (.int .i64 r) ∧ decide (0 ≤ r) = memB zs x) ∧ w' = w := by
  obtain ⟨hl, a, c, rfl, hz⟩ := hz
  rcases hz with rfl | ⟨b, o, rfl, hbl, hc⟩
  · go_enter Tryz.func43, Tryz.ntmps43
    go_wp2
    refine wp_loop_rounds 1 ?_
    rw [rounds_succ]
    go_wp2
    go_ret
    exact ⟨⟨_, rfl, by simp [memB]⟩, rfl⟩
  · go_enter Tryz.func43, Tryz.ntmps43
    go_wp2
    go_loop [8] (fun i => ∃ k : Nat, k ≤ zs.length ∧ i = .int .i64 k ∧ Hid (x ∉ zs.take k)) (fun i => zs.length - (intOf i).toNat)
    case atStart => exact ⟨0, Nat.zero_le _, rfl, by simp [Hid]⟩
    case round =>
      obtain ⟨k, hk, rfl, hno⟩ := hrel
      by_cases hkl : k < zs.length
      · have hck := hc k hkl
        clear hc
        generalize hy : zs.getD k 0 = y at hck
        have HY : Hid (zs.getD k 0 = y) := hy
        clear hy
        by_cases e : x = y
        · have he : (x == y) = true := by simp [e]
          have HM : Hid (x ∈ zs) := mem_at hkl (HY.out.trans e.symm)
          clear e
          go_wp2
          go_ret
          exact ⟨⟨_, rfl, by simp [memB, HM.out]⟩, rfl⟩
        · have he : (x == y) = false := by simp [e]
          have HM : Hid (x ∉ zs.take (k + 1)) := take_succ_none x zs k hkl hno.out (by rw [HY.out]; exact fun h => e h.symm)
          clear e
          go_wp2
          go_round
          case rel => exact ⟨k + 1, by omega, by go_num, HM⟩
          case measure => simp [intOf]; omega
      · have HM : Hid (x ∉ zs) := by have := hno.out; rwa [List.take_of_length_le (by omega)] at this
        go_wp2
        go_ret
        exact ⟨⟨_, rfl, by simp [memB, HM.out]⟩, rfl⟩

theorem contains_any (v : Value) (zs : List Int) (x : Int) (w : World) (hz : IntsAt w v zs) :
    Calls Tryz.prog 29 #[v, .int .i64 x] w fun e w' => e = .returned (.bool (memB zs x)) ∧ w' = w := by
  have hcall := index_any v zs x w hz
  generalize memB zs x = m at hcall ⊢
  go_enter Tryz.func29, Tryz.ntmps29
  go_wp2_with fail
  refine hcall.mono ?_
  rintro e w' ⟨⟨r, rfl, hr⟩, rfl⟩
  by_cases h : 0 ≤ r
  · have hm : m = true := by rw [← hr]; simp [h]
    clear hcall hr
    go_wp2
    go_ret
    exact ⟨ret_bool hm.symm, rfl⟩
  · have hm : m = false := by rw [← hr]; simp; omega
    clear hcall hr
    go_wp2
    go_ret
    exact ⟨ret_bool (by rw [hm]; simp; omega), rfl⟩

/-- Those that need the i-th. -/
def afterOf (ts : List (Int × List Int)) (i : Int) : Nat → List Nat
  | 0 => []
  | n + 1 => afterOf ts i n ++ if memB (needsOf ts n) i then [n] else []
theorem afterOf_le (ts : List (Int × List Int)) (i : Int) (n : Nat) : (afterOf ts i n).length ≤ n := by
  induction n with
  | zero => exact Nat.le_refl _
  | succ n ih => unfold afterOf; split <;> simp <;> omega

set_option maxRecDepth 100000 in
set_option maxHeartbeats 4000000 in
theorem after_any (v : Value) (ts : List (Int × List Int)) (i : Int) (w : World) (hp : PlanAt w v ts) :
    Calls Tryz.prog 13 #[v, .int .i64 i] w fun e w' => (∃ p q, CheckIs ts p q ∧ ((q ≠ 0 ∧ e = .returned (.tuple #[.slice none 0 0, errV q])) ∨ (q = 0 ∧ inRange i ts.length = false ∧ e = .returned (.tuple #[.slice none 0 0, errV 1])) ∨
      (q = 0 ∧ inRange i ts.length = true ∧ ∃ ov, e = .returned (.tuple #[ov, .nilIface]) ∧ IntsAt w' ov (intsOf (afterOf ts i ts.length))))) ∧ Below w.heap.size w w' := by
  have HP : Hid (PlanAt w v ts) := hp
  have hck := check_any v ts w hp
  obtain ⟨hl, a, c, rfl, hp⟩ := hp
  obtain ⟨i3, hi3, hz0, hz1, hz2⟩ := info_parts Tryz.info3
  go_enter Tryz.func13, Tryz.ntmps13
  go_wp2_with fail
  refine hck.mono ?_
  rintro e w1 ⟨⟨p, q, rfl, hc⟩, hb1⟩
  clear hck
  by_cases hq : q = 0
  · subst hq
    rw [errV_zero]
    have h30 : ts.length ≤ 30 := (hc.ok rfl).2.1
    have HC : Hid (CheckIs ts p 0) := hc
    clear hc
    have hit := isTask_any i ts.length w1
    cases hin : inRange i ts.length
    · rw [hin] at hit
      have HI : Hid (inRange i ts.length = false) := hin
      clear hin hp
      go_wp2_with (go_at_call 28; refine hit.mono ?_; rintro e w' ⟨rfl, rfl⟩)
      go_ret2
      exact ⟨⟨p, 0, HC.out, Or.inr (Or.inl ⟨rfl, HI.out, rfl⟩)⟩, hb1⟩
    · rw [hin] at hit
      have HI : Hid (inRange i ts.length = true) := hin
      clear hin
      go_wp2_with (go_at_call 28; refine hit.mono ?_; rintro e w' ⟨rfl, rfl⟩)
      clear hit
      have hb0 : Below w.heap.size w w' := hb1
      clear hb1
      go_loopw [8, 27] (fun s8 s27 wr => ∃ k : Nat, k ≤ ts.length ∧ s27 = .int .i64 k ∧ Hid (wr.ownsRow w.heap.size 3 1 s8 (afterOf ts i k).length ((afterOf ts i k).map natV)) ∧ Below w.heap.size w wr) (fun _ s27 _ => ts.length - (intOf s27).toNat)
      case atStart => exact ⟨0, Nat.zero_le _, rfl, World.ownsRow_nil _ _ _ _, hb0⟩
      case round =>
        clear hb0
        obtain ⟨k, hk, rfl, hown, hb⟩ := hrel
        by_cases hkl : k < ts.length
        · rcases hp with rfl | ⟨b, o, rfl, hbl, hc⟩
          · simp at hkl
          obtain ⟨hc1, nv, hc2, hin⟩ := hc k hkl
          obtain ⟨a2, c2, rfl⟩ : ∃ a2 c2, nv = .slice a2 (needsOf ts k).length c2 := by
            obtain ⟨_, a2, c2, h, _⟩ := hin
            exact ⟨a2, c2, h⟩
          have hc1' := (hb.cell (p := ⟨b, o + k * 2, none⟩) hbl).trans hc1
          have hc2' := (hb.cell (p := ⟨b, o + k * 2 + 1, none⟩) hbl).trans hc2
          have hbT : Below wr.heap.size wr (wr.alloc (.cells #[.int .i64 (ts.getD k (0, [])).1, .slice a2 (needsOf ts k).length c2] 48)) := (Below.refl _ _).alloc (Nat.le_refl _) _
          have hct := contains_any _ _ i _ (hin.later (hb.trans (hbT.mono hb.size)))
          have hal := afterOf_le ts i k
          clear hc hc1 hc2 hin
          generalize (ts.getD k (0, [])).1 = wk at *
          cases hm : memB (needsOf ts k) i
          · rw [hm] at hct
            have HA : Hid (afterOf ts i (k + 1) = afterOf ts i k) := by simp [Hid, afterOf, hm]
            clear hm
            go_wp2_with (go_at_call 29; refine hct.mono ?_; rintro e w' ⟨rfl, rfl⟩)
            go_roundw
            case rel => exact ⟨k + 1, by omega, by go_num, by rw [HA.out]; exact hown.out.alloc _, hb.trans (hbT.mono hb.size)⟩
            case measure => simp [intOf]; omega
          · rw [hm] at hct
            have HA : Hid (afterOf ts i (k + 1) = afterOf ts i k ++ [k]) := by simp [Hid, afterOf, hm]
            clear hm
            have hown2 := (hown.out.alloc (.cells #[.int .i64 wk, .slice a2 (needsOf ts k).length c2] 48)).alloc (.cells #[.int .i64 k] 3)
            go_wp2_with (first | (go_at_call 29; refine hct.mono ?_; rintro e w' ⟨rfl, rfl⟩) | (at_builtin; refine wpList_append_own _ rfl (.tmp 36) (.tmp 38) 31 rfl w.heap.size 3 i3 (.int .i64 0) 1 8 Tryz.underlying31 hi3 hz0 hz1 hz2 rfl (by decide) _ (afterOf ts i k).length ((afterOf ts i k).map natV) rfl hown2 ⟨wr.heap.size + 1, 0, none⟩ 1 1 [.int .i64 k] rfl rfl ?c1 ?c2 ?c3 ?c4 ?c5 ?_))
            case c1 =>
              have h2 := cell_one_new (wr.alloc (.cells #[.int .i64 wk, .slice a2 (needsOf ts k).length c2] 48)) (.int .i64 k) 3
              rw [nblk_alloc] at h2
              exact h2
            case c2 => intro u hu; simp at hu; subst hu; rfl
            case c3 => unfold maxLen; omega
            case c4 => omega
            case c5 => have := hb.size; simp; omega
            intro v' w2 hown' hgrow _
            have hb2 : Below w.heap.size w w2 := ((hb.trans (hbT.mono hb.size)).alloc (by have := hb.size; simp; omega) _).grown hgrow (by have := hb.size; simp; omega) (fun j e => (hown2.lt j e).1)
            have HO : Hid (w2.ownsRow w.heap.size 3 1 v' (afterOf ts i (k + 1)).length ((afterOf ts i (k + 1)).map natV)) := by
              rw [HA.out]
              simpa [Hid, natV] using hown'
            clear hown' hgrow hown2 hown HA
            go_wp2
            go_roundw
            case rel => exact ⟨k + 1, by omega, by go_num, HO, hb2⟩
            case measure => simp [intOf]; omega
        · have hke : k = ts.length := by omega
          subst hke
          have hal := afterOf_le ts i ts.length
          clear hp
          go_wp2
          go_ret2
          exact ⟨⟨p, 0, HC.out, Or.inr (Or.inr ⟨rfl, HI.out, _, rfl, ints_of_owns hown.out (by omega)⟩)⟩, hb⟩
  · have hev := errV_some hq
    rw [hev]
    have HV : Hid (errV q = .iface 52 (.int .i64 q)) := hev
    clear hev hp
    go_wp2
    go_ret2
    exact ⟨⟨p, q, hc, Or.inl ⟨hq, by rw [HV.out]; rfl⟩⟩, hb1⟩

set_option maxHeartbeats 800000 in
theorem sameInts_any (v u : Value) (xs ys : List Int) (w : World) (hx : IntsAt w v xs) (hy : IntsAt w u ys) :
    Calls Tryz.prog 10 #[v, u] w fun e w' => e = .returned (.bool (decide (xs = ys))) ∧ ∃ n, w' = w.drewN n := by
  obtain ⟨hl, a, c, rfl, hx⟩ := hx
  obtain ⟨hl2, a2, c2, rfl, hy⟩ := hy
  by_cases hlen : xs.length = ys.length
  · have hne : ((xs.length : Int) != (ys.length : Int)) = false := by simp [hlen]
    rcases hx with rfl | ⟨b, o, rfl, hbl, hc⟩
    · have hyn : ys = [] := List.eq_nil_of_length_eq_zero hlen.symm
      subst hyn
      clear hy
      go_enter Tryz.func10, Tryz.ntmps10
      go_wp2
      refine wp_loop_rounds 1 ?_
      rw [rounds_succ]
      go_wp2
      go_ret
      exact ⟨rfl, 0, rfl⟩
    have HL : Hid (xs.length = ys.length) := hlen
    clear hlen
    go_enter Tryz.func10, Tryz.ntmps10
    go_wp2
    go_loopw [5] (fun i wr => ∃ k n : Nat, k ≤ xs.length ∧ i = .int .i64 k ∧ wr = w.drewN n ∧ Hid (∀ j, j < k → xs.getD j 0 = ys.getD j 0)) (fun i _ => xs.length - (intOf i).toNat)
    case atStart => exact ⟨0, 0, Nat.zero_le _, rfl, rfl, fun j hj => by omega⟩
    case round =>
      obtain ⟨k, n, hk, rfl, rfl, hno⟩ := hrel
      by_cases hkl : k < xs.length
      · rcases hy with rfl | ⟨b2, o2, rfl, hbl2, hc2⟩
        · have := HL.out; simp at this; subst this; simp at hkl
        have hkl2 : k < ys.length := by have := HL.out; omega
        have hck := hc k hkl
        have hck2 := hc2 k hkl2
        clear hc hc2
        generalize hyx : xs.getD k 0 = x at hck
        generalize hyy : ys.getD k 0 = y at hck2
        have HX : Hid (xs.getD k 0 = x) := hyx
        have HY : Hid (ys.getD k 0 = y) := hyy
        clear hyx hyy hk
        by_cases e : x = y
        · have he : (x != y) = false := by simp [e]
          have HE : Hid (x = y) := e
          clear e
          go_wp2
          go_quiet (fail)
          go_wp2
          go_roundw
          case rel =>
            refine ⟨k + 1, _, by omega, by go_num, rfl, fun j hj => ?_⟩
            by_cases ej : j = k
            · subst ej; rw [HX.out, HY.out]; exact HE.out
            · exact hno.out j (by omega)
          case measure => simp [intOf]; omega
        · have he : (x != y) = true := by simp [e]
          have HE : Hid (x ≠ y) := e
          clear e
          go_wp2
          go_quiet (fail)
          go_wp2
          go_ret
          refine ⟨ret_bool ?_, _, World.drewN_drewN _ _ _⟩
          symm
          rw [decide_eq_false_iff_not]
          intro h
          exact HE.out (by rw [← HX.out, ← HY.out, h])
      · go_wp2
        go_ret
        refine ⟨ret_bool ?_, _, rfl⟩
        symm
        rw [decide_eq_true_iff]
        refine List.ext_getElem HL.out fun j h1 h2 => ?_
        have := hno.out j (by omega)
        rwa [List.getD_eq_getElem?_getD, List.getElem?_eq_getElem h1, List.getD_eq_getElem?_getD, List.getElem?_eq_getElem h2] at this
  · have hne : ((xs.length : Int) != (ys.length : Int)) = true := by simp; omega
    have HL : Hid (xs.length ≠ ys.length) := hlen
    clear hlen hx hy
    go_enter Tryz.func10, Tryz.ntmps10
    go_wp2
    go_ret
    refine ⟨ret_bool ?_, 0, rfl⟩
    symm
    rw [decide_eq_false_iff_not]
    intro h
    exact HL.out (by rw [h])

set_option maxRecDepth 100000 in
set_option maxHeartbeats 4000000 in
theorem samePlan_any (v u : Value) (xs ys : List (Int × List Int)) (w : World) (hx : PlanAt w v xs) (hy : PlanAt w u ys) :
    Calls Tryz.prog 16 #[v, u] w fun e w' => e = .returned (.bool (decide (xs = ys))) ∧ ∃ n, w' = w.drewN n := by
  obtain ⟨hl, a, c, rfl, hx⟩ := hx
  obtain ⟨hl2, a2, c2, rfl, hy⟩ := hy
  by_cases hlen : xs.length = ys.length
  · have hne : ((xs.length : Int) != (ys.length : Int)) = false := by simp [hlen]
    rcases hx with rfl | ⟨b, o, rfl, hbl, hc⟩
    · have hyn : ys = [] := List.eq_nil_of_length_eq_zero hlen.symm
      subst hyn
      clear hy
      go_enter Tryz.func16, Tryz.ntmps16
      go_wp2
      refine wp_loop_rounds 1 ?_
      rw [rounds_succ]
      go_wp2
      go_ret
      exact ⟨rfl, 0, rfl⟩
    have HL : Hid (xs.length = ys.length) := hlen
    clear hlen
    go_enter Tryz.func16, Tryz.ntmps16
    go_wp2
    go_loopw [5] (fun i wr => ∃ k n : Nat, k ≤ xs.length ∧ i = .int .i64 k ∧ wr = w.drewN n ∧ Hid (∀ j, j < k → xs.getD j (0, []) = ys.getD j (0, []))) (fun i _ => xs.length - (intOf i).toNat)
    case atStart => exact ⟨0, 0, Nat.zero_le _, rfl, rfl, fun j hj => by omega⟩
    case round =>
      obtain ⟨k, n, hk, rfl, hwr, hno⟩ := hrel
      have hbr : Below w.heap.size w wr := by subst hwr; exact ⟨rfl, rfl, rfl, Nat.le_refl _, fun _ _ => rfl⟩
      have HWR : Hid (wr = w.drewN n) := hwr
      clear hwr
      by_cases hkl : k < xs.length
      · rcases hy with rfl | ⟨b2, o2, rfl, hbl2, hc2⟩
        · have := HL.out; simp at this; subst this; simp at hkl
        have hkl2 : k < ys.length := by have := HL.out; omega
        obtain ⟨h1, n1, h2, h3⟩ := hc k hkl
        obtain ⟨h4, n2, h5, h6⟩ := hc2 k hkl2
        replace h1 := (hbr.cell (p := ⟨b, o + k * 2, none⟩) hbl).trans h1
        replace h2 := (hbr.cell (p := ⟨b, o + k * 2 + 1, none⟩) hbl).trans h2
        replace h4 := (hbr.cell (p := ⟨b2, o2 + k * 2, none⟩) hbl2).trans h4
        replace h5 := (hbr.cell (p := ⟨b2, o2 + k * 2 + 1, none⟩) hbl2).trans h5
        replace h3 := h3.later hbr
        replace h6 := h6.later hbr
        clear hc hc2
        obtain ⟨sa, sc, rfl⟩ : ∃ sa sc, n1 = .slice sa (needsOf xs k).length sc := by
          obtain ⟨_, sa, sc, h, _⟩ := h3
          exact ⟨sa, sc, h⟩
        obtain ⟨sa2, sc2, rfl⟩ : ∃ sa sc, n2 = .slice sa (needsOf ys k).length sc := by
          obtain ⟨_, sa, sc, h, _⟩ := h6
          exact ⟨sa, sc, h⟩
        have hsi := fun (W : World) (h : Below wr.heap.size wr W) => sameInts_any _ _ _ _ W (h3.later h) (h6.later h)
        have HP : Hid (xs.getD k (0, []) = ((xs.getD k (0, [])).1, needsOf xs k)) := rfl
        have HQ : Hid (ys.getD k (0, []) = ((ys.getD k (0, [])).1, needsOf ys k)) := rfl
        generalize (xs.getD k (0, [])).1 = wx at *
        generalize (ys.getD k (0, [])).1 = wy at *
        clear h3 h6
        by_cases hn : needsOf xs k = needsOf ys k
        · have hd : decide (needsOf xs k = needsOf ys k) = true := by simp [hn]
          rw [hd] at hsi
          have HN : Hid (needsOf xs k = needsOf ys k) := hn
          clear hn hd
          by_cases hw : wx = wy
          · have he : (wx != wy) = false := by simp [hw]
            have HW : Hid (wx = wy) := hw
            clear hw
            go_wp2
            go_quiet ((go_at_call 10; exact Calls.quiet_of (hsi _ ⟨rfl, rfl, rfl, Nat.le_refl _, fun _ _ => rfl⟩)))
            go_wp2
            go_quiet (fail)
            go_wp2
            go_roundw
            case rel =>
              refine ⟨k + 1, _, by omega, by go_num, by rw [HWR.out]; simp only [World.drewN_drewN]; rfl, fun j hj => ?_⟩
              by_cases ej : j = k
              · subst ej; rw [HP.out, HQ.out, HN.out, HW.out]
              · exact hno.out j (by omega)
            case measure => simp [intOf]; omega
          · have he : (wx != wy) = true := by simp [hw]
            have HW : Hid (wx ≠ wy) := hw
            clear hw
            go_wp2
            go_quiet ((go_at_call 10; exact Calls.quiet_of (hsi _ ⟨rfl, rfl, rfl, Nat.le_refl _, fun _ _ => rfl⟩)))
            go_wp2
            go_quiet (fail)
            go_wp2
            go_ret
            refine ⟨ret_bool ?_, _, by rw [HWR.out]; simp only [World.drewN_drewN]; rfl⟩
            symm
            rw [decide_eq_false_iff_not]
            intro h
            have := HP.out
            rw [h, HQ.out] at this
            exact HW.out (Prod.mk.inj this).1.symm
        · have hd : decide (needsOf xs k = needsOf ys k) = false := by simp [hn]
          rw [hd] at hsi
          have HN : Hid (needsOf xs k ≠ needsOf ys k) := hn
          clear hn hd
          go_wp2
          go_quiet ((go_at_call 10; exact Calls.quiet_of (hsi _ ⟨rfl, rfl, rfl, Nat.le_refl _, fun _ _ => rfl⟩)))
          go_wp2
          go_quiet (fail)
          go_wp2
          go_ret
          refine ⟨ret_bool ?_, _, by rw [HWR.out]; simp only [World.drewN_drewN]; rfl⟩
          symm
          rw [decide_eq_false_iff_not]
          intro h
          exact HN.out (by rw [h])
      · go_wp2
        go_ret
        refine ⟨ret_bool ?_, _, HWR.out⟩
        symm
        rw [decide_eq_true_iff]
        refine List.ext_getElem HL.out fun j h1 h2 => ?_
        have := hno.out j (by omega)
        rwa [List.getD_eq_getElem?_getD, List.getElem?_eq_getElem h1, List.getD_eq_getElem?_getD, List.getElem?_eq_getElem h2] at this
  · have hne : ((xs.length : Int) != (ys.length : Int)) = true := by simp; omega
    have HL : Hid (xs.length ≠ ys.length) := hlen
    clear hlen hx hy
    go_enter Tryz.func16, Tryz.ntmps16
    go_wp2
    go_ret
    refine ⟨ret_bool ?_, 0, rfl⟩
    symm
    rw [decide_eq_false_iff_not]
    intro h
    exact HL.out (by rw [h])
end Go.Proofs.YtfmmfapfgpckfaaGreatDoor
