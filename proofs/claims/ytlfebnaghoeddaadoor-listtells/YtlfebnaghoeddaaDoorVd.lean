/- The document's most urgent order. -/
import Derived.Test.YtlfebnaghoeddaaDoorVn
import Derived.Test.YtlfebnaghoeddaaDoorUa
import Derived.Test.YtlfebnaghoeddaaDoorTc
import Derived.Test.YtlfebnaghoeddaaDoorNc
namespace Go.Proofs.YtlfebnaghoeddaaDoor
open Go.RowKit Go.Deep

/-- Where the first lesser one stands. -/
theorem ins_at {T : Nat → Int} {i k : Nat} {l : List Nat} (hk : k ≤ l.length) (hge : ∀ j, j < k → T i ≤ T (l.getD j 0)) (hlt : k < l.length → T (l.getD k 0) < T i) : insU T i l = l.take k ++ i :: l.drop k := by
  induction l generalizing k with
  | nil =>
    have : k = 0 := by simpa using hk
    subst this
    rfl
  | cons a l ih =>
    cases k with
    | zero =>
      have h := hlt (by simp)
      have h' : ¬ T i ≤ T a := by simpa using h
      simp [insU, List.takeWhile, List.dropWhile, h']
    | succ k =>
      have h0 : T i ≤ T a := by simpa using hge 0 (by omega)
      have := ih (k := k) (by simpa using hk) (fun j hj => by simpa using hge (j + 1) (by omega)) (fun h => by simpa using hlt (by simpa using h))
      unfold insU at this ⊢
      simp only [List.takeWhile_cons, List.dropWhile_cons, h0, decide_true, if_true, List.take_succ_cons, List.drop_succ_cons, List.cons_append]
      rw [this]
theorem intsOf_take (l : List Nat) (k : Nat) : (intsOf l).take k = intsOf (l.take k) := by unfold intsOf; rw [List.map_take]
theorem intsOf_drop (l : List Nat) (k : Nat) : (intsOf l).drop k = intsOf (l.drop k) := by unfold intsOf; rw [List.map_drop]
theorem intsOf_ins {T : Nat → Int} {i k : Nat} {l : List Nat} (h : insU T i l = l.take k ++ i :: l.drop k) : intsOf (l.take k) ++ [(i : Int)] ++ intsOf (l.drop k) = intsOf (insU T i l) := by
  rw [h]
  unfold intsOf
  simp

set_option maxRecDepth 100000 in
set_option maxHeartbeats 8000000 in
theorem urgentR_any (v : Value) (ts : List (Int × List Int)) (w : World) (hp : PlanAt w v ts) (hck : CheckIs ts 0 0) :
    Calls Tryd.prog 12 #[v] w fun e w' => (∃ ord ov, OrdIs ts ord ∧ e = .returned ov ∧ RowI w.heap.size w' ov (intsOf (urgTo (tailsOf ts ord) ts.length))) ∧ Below w.heap.size w w' := by
  have htl := tailsR_any v ts w hp hck
  obtain ⟨hl, a, c, rfl, hp⟩ := hp
  clear hp
  go_enter Tryd.func12, Tryd.ntmps12
  go_wp2_with fail
  refine htl.mono ?_
  clear htl
  rintro e w1 ⟨⟨ord, rv, ho, rfl, hin⟩, hb1⟩
  have h30 : ts.length ≤ 30 := (hck.ok rfl).2.1
  have HIN : Hid (IntsAt w1 rv (listOf (tailsOf ts ord) ts.length)) := hin
  have HF : Hid (∀ ov w', RowI w.heap.size w' ov (intsOf (urgTo (tailsOf ts ord) ts.length)) → ∃ ord ov', OrdIs ts ord ∧ Ending.returned ov = .returned ov' ∧ RowI w.heap.size w' ov' (intsOf (urgTo (tailsOf ts ord) ts.length))) := fun ov w' h => ⟨ord, ov, ho, rfl, h⟩
  obtain ⟨_, ra, rc, rfl, _⟩ := hin
  rw [listOf_length] at HIN ⊢
  clear ho hck
  generalize tailsOf ts ord = U at *
  go_wp2
  go_loopw [4, 5] (fun s4 s5 wr => ∃ i : Nat, i ≤ ts.length ∧ s5 = .int .i64 i ∧ Hid (RowI w1.heap.size wr s4 (intsOf (urgTo U i))) ∧ Below w1.heap.size w1 wr) (fun _ s5 _ => ts.length - (intOf s5).toNat)
  case atStart => exact ⟨0, Nat.zero_le _, rfl, RowI.nil _ _, Below.refl _ _⟩
  case round =>
    obtain ⟨i, hi, rfl, hR, hb⟩ := hrel
    obtain ⟨la, lc, rfl⟩ := hR.out.shape
    have hul := (urgTo_is U i).length
    have hil2 := intsOf_length (urgTo U i)
    have HIL : Hid ((intsOf (urgTo U i)).length = i) := hil2.trans hul
    rw [HIL.out] at hR ⊢
    by_cases hil : i < ts.length
    · obtain ⟨w2, HW2⟩ : ∃ w2, w2 = wr := ⟨_, rfl⟩
      rw [← HW2] at hR hb ⊢
      clear HW2
      have HUL : Hid ((urgTo U i).length = i) := hul
      have HLT : Hid (∀ x, x ∈ urgTo U i → x < i) := fun x hx => (urgTo_is U i).lt hx
      have HS : Hid (urgTo U (i + 1) = insU U i (urgTo U i)) := rfl
      clear hil2 hul
      generalize urgTo U i = l at *
      obtain ⟨_, ra', rc', hv, hcc⟩ := HIN.out.later hb
      rw [listOf_length] at hv hcc
      simp only [Value.slice.injEq] at hv
      obtain ⟨rfl, -, rfl⟩ : ra = ra' ∧ True ∧ rc = rc' := ⟨hv.1, trivial, hv.2.2⟩
      rcases hcc with h0 | ⟨tb, to, rfl, htb, hcc⟩
      · have := congrArg List.length h0
        rw [listOf_length, List.length_nil] at this
        omega
      have HTC : Hid (∀ x, x < ts.length → w2.cell? ⟨tb, to + x, none⟩ = some (.int .i64 (U x))) := fun x hx => by have := hcc x hx; rwa [listOf_getD _ hx] at this
      have hti := HTC.out i hil
      clear hcc hv
      go_wp2
      go_loopw [6] (fun s6 wr => ∃ k n : Nat, k ≤ i ∧ s6 = .int .i64 k ∧ wr = w2.drewN n ∧ Hid (∀ j, j < k → U i ≤ U (l.getD j 0))) (fun s6 _ => i - (intOf s6).toNat)
      case atStart => exact ⟨0, 0, Nat.zero_le _, rfl, rfl, fun j hj => by omega⟩
      case round =>
        obtain ⟨k, n, hk, rfl, rfl, hge⟩ := hrel
        by_cases hki : k < i
        · have hkl : k < l.length := by rw [HUL.out]; exact hki
          have hx := HLT.out _ (getD_mem hkl)
          obtain ⟨g, lc', hv, hg1, hg2, hgc, _⟩ := hR.out.full (by rw [HIL.out]; omega)
          rw [HIL.out] at hv
          simp only [Value.slice.injEq, true_and] at hv
          obtain ⟨rfl, rfl⟩ := hv
          have hcx := RowI.cell hR.out (k := k) (by rw [HIL.out]; exact hki)
          rw [intsOf_getD] at hcx
          have htx := HTC.out (l.getD k 0) (by omega)
          have HGE : Hid (U i ≤ U (l.getD k 0) → ∀ j, j < k + 1 → U i ≤ U (l.getD j 0)) := fun e j hj => by
            by_cases e2 : j = k
            · subst e2; exact e
            · exact hge.out j (by omega)
          have HINS : Hid (U (l.getD k 0) < U i → insU U i l = l.take k ++ i :: l.drop k) := fun e => ins_at (by omega) hge.out (fun _ => e)
          have hxl : l.getD k 0 < ts.length := by omega
          clear hge
          generalize hux : U (l.getD k 0) = ux at *
          generalize l.getD k 0 = x at *
          clear hux
          generalize huy : U i = uy at *
          by_cases hle : uy ≤ ux
          · have HG2 := HGE.out hle
            have HG3 : Hid (∀ j, j < k + 1 → uy ≤ U (l.getD j 0)) := HG2
            have hd1 : decide (uy ≤ ux) = true := by simp [hle]
            have hki2 : (k : Int) < (i : Int) := by omega
            clear HG2 HGE HINS
            go_wp2
            go_quiet (fail)
            go_wp2
            go_roundw
            case rel => exact ⟨k + 1, _, by omega, by go_num, rfl, HG3⟩
            case measure => simp [intOf]; omega
          · have HI := HINS.out (by omega)
            have HI2 : Hid (insU U i l = l.take k ++ i :: l.drop k) := HI
            have hd1 : decide (uy ≤ ux) = false := by simp; omega
            have hki2 : (k : Int) < (i : Int) := by omega
            clear HI HGE HINS
            have HZ : Hid ((intsOf l).take k ++ [(i : Int)] ++ (intsOf l).drop k = intsOf (urgTo U (i + 1))) := by
              show _ = _
              rw [HS.out, intsOf_take, intsOf_drop]
              exact intsOf_ins HI2.out
            have hz1 : ((intsOf l).take k).length ≤ 30 := by rw [List.length_take, HIL.out]; omega
            have hz2 : ((intsOf l).drop k).length ≤ 30 := by rw [List.length_drop, HIL.out]; omega
            have hcut := fun q => cutting_any _ (.slice (some ⟨g, 0, none⟩) i lc) (intsOf l) k (w2.drewN q) (show Rds _ w2 _ _ from hR.out.rds) (by rw [HIL.out]; omega)
            have hbs := hb.size
            clear HI2 HS
            generalize (intsOf l).take k = zs1 at *
            generalize (intsOf l).drop k = zs2 at *
            go_wp2_with fail
            go_quiet (fail)
            go_wp2_with fail
            refine (hcut _).mono ?_
            clear hcut
            rintro e w4 ⟨va, vb, rfl, hA, hBv, hap, hb4⟩
            replace hA : RowI w2.heap.size w4 va zs1 := hA
            replace hBv : RowI w2.heap.size w4 vb zs2 := hBv
            replace hb4 : Below w2.heap.size w2 w4 := ⟨hb4.os, hb4.tape, hb4.output, hb4.size, hb4.block⟩
            obtain ⟨aa, ac, rfl⟩ := hA.shape
            obtain ⟨ba, bc, rfl⟩ := hBv.shape
            have hsz4 := hb4.size
            have hA2 := hA.alloc (.cells #[.int .i64 (i : Int)] 3)
            have hB2 := hBv.alloc (.cells #[.int .i64 (i : Int)] 3)
            have HO1 : Hid (Rds (fun _ => True) (w4.alloc (.cells #[.int .i64 (i : Int)] 3)) (.slice (some ⟨w4.heap.size, 0, none⟩) 1 1) [(i : Int)]) := one_rds w4 i
            have hbA : Below w1.heap.size w1 (w4.alloc (.cells #[.int .i64 (i : Int)] 3)) := (hb.trans (hb4.mono hbs)).alloc (Nat.le_trans hbs hsz4) _
            have hszA : w2.heap.size ≤ (w4.alloc (.cells #[.int .i64 (i : Int)] 3)).heap.size := Nat.le_trans hsz4 (by simp)
            have HA2 : Hid (RowI w2.heap.size (w4.alloc (.cells #[.int .i64 (i : Int)] 3)) (.slice aa zs1.length ac) zs1) := hA2
            have HB2 : Hid (RowI w2.heap.size (w4.alloc (.cells #[.int .i64 (i : Int)] 3)) (.slice ba zs2.length bc) zs2) := hB2
            have HAP : Hid (Apart (.slice aa zs1.length ac) (.slice ba zs2.length bc)) := hap
            have HBA : Hid (Below w1.heap.size w1 (w4.alloc (.cells #[.int .i64 (i : Int)] 3))) := hbA
            have HSZ : Hid (w2.heap.size ≤ (w4.alloc (.cells #[.int .i64 (i : Int)] 3)).heap.size) := hszA
            clear hA hBv hA2 hB2 hap hbA hszA hR
            go_wp2_with (first | (at_builtin; refine wpList_append_rows rfl (.tmp 43) (.tmp 45) rfl w2.heap.size (fun _ => True) (.slice aa zs1.length ac) (.slice (some ⟨w4.heap.size, 0, none⟩) 1 1) zs1 [(i : Int)] rfl rfl HA2.out HO1.out (by simp; omega) HSZ.out ?_; intro v2 w5 hown2 hgr2 hat2; have htg := two_grow HB2.out HAP.out hgr2 hat2; have HR2 : Hid (RowI w2.heap.size w5 (.slice ba zs2.length bc) zs2) := htg.1; have HBL5 : Hid (Below w1.heap.size w1 w5) := HBA.out.grown hgr2 (Nat.le_trans hbs HSZ.out) (fun j e => Nat.le_trans hbs (HA2.out.low e).1); have HSZ5 : Hid (w2.heap.size ≤ w5.heap.size) := Nat.le_trans HSZ.out hgr2.size; have HOW2 : Hid (RowI w2.heap.size w5 v2 (zs1 ++ [(i : Int)])) := hown2; clear hown2 hgr2 hat2 htg) | (at_builtin; refine wpList_append_rows rfl (.tmp 47) (.tmp 48) rfl w2.heap.size _ v2 (.slice ba zs2.length bc) (zs1 ++ [(i : Int)]) zs2 rfl rfl HOW2.out HR2.out.rds (by simp; omega) HSZ5.out ?_; intro v3 w6 hown3 hgr3 hat3; have HOW3 : Hid (RowI w1.heap.size w6 v3 (intsOf (urgTo U (i + 1)))) := (HZ.out ▸ hown3.mono hbs); have hB6 : Below w1.heap.size w1 w6 := HBL5.out.grown hgr3 (Nat.le_trans hbs HSZ5.out) (fun j e => Nat.le_trans hbs (HOW2.out.low e).1); clear hown3 hgr3 hat3))
            go_roundw
            case rel => exact ⟨i + 1, by omega, by go_num, HOW3, hB6⟩
            case measure => simp [intOf]; omega
        · have hke : k = i := by omega
          have HI2 : Hid (insU U i l = l.take k ++ i :: l.drop k) := ins_at (by have := HUL.out; omega) hge.out (fun h => by have := HUL.out; omega)
          have hki2 : ¬ (k : Int) < (i : Int) := by omega
          clear hge hke
          have HZ : Hid ((intsOf l).take k ++ [(i : Int)] ++ (intsOf l).drop k = intsOf (urgTo U (i + 1))) := by
            show _ = _
            rw [HS.out, intsOf_take, intsOf_drop]
            exact intsOf_ins HI2.out
          have hz1 : ((intsOf l).take k).length ≤ 30 := by rw [List.length_take, HIL.out]; omega
          have hz2 : ((intsOf l).drop k).length ≤ 30 := by rw [List.length_drop, HIL.out]; omega
          have hcut := fun q => cutting_any _ (.slice la i lc) (intsOf l) k (w2.drewN q) (show Rds _ w2 _ _ from hR.out.rds) (by rw [HIL.out]; omega)
          have hbs := hb.size
          clear HI2 HS
          generalize (intsOf l).take k = zs1 at *
          generalize (intsOf l).drop k = zs2 at *
          go_wp2_with fail
          go_quiet (fail)
          go_wp2_with fail
          refine (hcut _).mono ?_
          clear hcut
          rintro e w4 ⟨va, vb, rfl, hA, hBv, hap, hb4⟩
          replace hA : RowI w2.heap.size w4 va zs1 := hA
          replace hBv : RowI w2.heap.size w4 vb zs2 := hBv
          replace hb4 : Below w2.heap.size w2 w4 := ⟨hb4.os, hb4.tape, hb4.output, hb4.size, hb4.block⟩
          obtain ⟨aa, ac, rfl⟩ := hA.shape
          obtain ⟨ba, bc, rfl⟩ := hBv.shape
          have hsz4 := hb4.size
          have hA2 := hA.alloc (.cells #[.int .i64 (i : Int)] 3)
          have hB2 := hBv.alloc (.cells #[.int .i64 (i : Int)] 3)
          have HO1 : Hid (Rds (fun _ => True) (w4.alloc (.cells #[.int .i64 (i : Int)] 3)) (.slice (some ⟨w4.heap.size, 0, none⟩) 1 1) [(i : Int)]) := one_rds w4 i
          have hbA : Below w1.heap.size w1 (w4.alloc (.cells #[.int .i64 (i : Int)] 3)) := (hb.trans (hb4.mono hbs)).alloc (Nat.le_trans hbs hsz4) _
          have hszA : w2.heap.size ≤ (w4.alloc (.cells #[.int .i64 (i : Int)] 3)).heap.size := Nat.le_trans hsz4 (by simp)
          have HA2 : Hid (RowI w2.heap.size (w4.alloc (.cells #[.int .i64 (i : Int)] 3)) (.slice aa zs1.length ac) zs1) := hA2
          have HB2 : Hid (RowI w2.heap.size (w4.alloc (.cells #[.int .i64 (i : Int)] 3)) (.slice ba zs2.length bc) zs2) := hB2
          have HAP : Hid (Apart (.slice aa zs1.length ac) (.slice ba zs2.length bc)) := hap
          have HBA : Hid (Below w1.heap.size w1 (w4.alloc (.cells #[.int .i64 (i : Int)] 3))) := hbA
          have HSZ : Hid (w2.heap.size ≤ (w4.alloc (.cells #[.int .i64 (i : Int)] 3)).heap.size) := hszA
          clear hA hBv hA2 hB2 hap hbA hszA hR
          go_wp2_with (first | (at_builtin; refine wpList_append_rows rfl (.tmp 43) (.tmp 45) rfl w2.heap.size (fun _ => True) (.slice aa zs1.length ac) (.slice (some ⟨w4.heap.size, 0, none⟩) 1 1) zs1 [(i : Int)] rfl rfl HA2.out HO1.out (by simp; omega) HSZ.out ?_; intro v2 w5 hown2 hgr2 hat2; have htg := two_grow HB2.out HAP.out hgr2 hat2; have HR2 : Hid (RowI w2.heap.size w5 (.slice ba zs2.length bc) zs2) := htg.1; have HBL5 : Hid (Below w1.heap.size w1 w5) := HBA.out.grown hgr2 (Nat.le_trans hbs HSZ.out) (fun j e => Nat.le_trans hbs (HA2.out.low e).1); have HSZ5 : Hid (w2.heap.size ≤ w5.heap.size) := Nat.le_trans HSZ.out hgr2.size; have HOW2 : Hid (RowI w2.heap.size w5 v2 (zs1 ++ [(i : Int)])) := hown2; clear hown2 hgr2 hat2 htg) | (at_builtin; refine wpList_append_rows rfl (.tmp 47) (.tmp 48) rfl w2.heap.size _ v2 (.slice ba zs2.length bc) (zs1 ++ [(i : Int)]) zs2 rfl rfl HOW2.out HR2.out.rds (by simp; omega) HSZ5.out ?_; intro v3 w6 hown3 hgr3 hat3; have HOW3 : Hid (RowI w1.heap.size w6 v3 (intsOf (urgTo U (i + 1)))) := (HZ.out ▸ hown3.mono hbs); have hB6 : Below w1.heap.size w1 w6 := HBL5.out.grown hgr3 (Nat.le_trans hbs HSZ5.out) (fun j e => Nat.le_trans hbs (HOW2.out.low e).1); clear hown3 hgr3 hat3))
          go_roundw
          case rel => exact ⟨i + 1, by omega, by go_num, HOW3, hB6⟩
          case measure => simp [intOf]; omega
    · have hie : i = ts.length := by omega
      have HE := HF.out (.slice la i lc) wr (by have := hR.out.mono (b' := w.heap.size) hb1.size; rw [← hie]; exact this)
      have HE2 : Hid _ := HE
      have hbe : Below w.heap.size w wr := hb1.trans (hb.mono hb1.size)
      clear hR HE HF hie
      go_wp2
      go_ret
      exact ⟨HE2.out, hbe⟩
end Go.Proofs.YtlfebnaghoeddaaDoor
