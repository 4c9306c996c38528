/- The contracts of yardlaw3.flags and yardlaw3.may. -/
import Derived.Test.YtbknbakbfblbiaaDoorLgx
import Derived.Test.YtbknbakbfblbiaaDoorV
namespace Go.Proofs.YtbknbakbfblbiaaDoor
open Go.RowKit Go.Deep

set_option maxRecDepth 100000 in
set_option maxHeartbeats 2000000 in
theorem flags_any (n : Nat) (v : Value) (l : List Nat) (w : World) (hn : n ≤ 30) (hl : ∀ x, x ∈ l → x < n) (hv : IntsAt w v (intsOf l)) (hll : l.length ≤ 30) :
    Calls Tryd.prog 21 #[.int .i64 n, v] w fun e w' => (∃ bv, e = .returned bv ∧ BoolsAt w' bv n (inL l)) ∧ Below w.heap.size w w' := by
  have hmk := fun wx => run_make_row' (P := Tryd.prog) 46 4 (.bool false) 1 Tryd.underlying46 Tryd.info4 rfl .i64 .i64 n (by omega) (by omega) wx
  have HV : Hid (∀ k, k < l.length → ∃ b o c, v = .slice (some ⟨b, o, none⟩) l.length c ∧ b < w.heap.size ∧ w.cell? ⟨b, o + k, none⟩ = some (.int .i64 ((l.getD k 0 : Nat) : Int))) := fun k hk => by
    obtain ⟨_, a, c, hve, hz⟩ := hv
    rw [intsOf_length] at hve
    rcases hz with hz | ⟨b, o, rfl, hb, hc⟩
    · have := congrArg List.length hz; rw [intsOf_length] at this; simp at this; rw [this] at hk; simp at hk
    · exact ⟨b, o, c, hve, hb, by rw [hc k (by rw [intsOf_length]; exact hk), intsOf_getD]⟩
  have HL : Hid (∀ k, k < l.length → l.getD k 0 < n) := fun k hk => hl _ (by rw [List.getD_eq_getElem?_getD, List.getElem?_eq_getElem hk]; exact List.getElem_mem hk)
  have HT : Hid (∀ k, k < l.length → l.take (k + 1) = l.take k ++ [l.getD k 0]) := fun k hk => nat_take_last hk
  obtain ⟨_, a, c, rfl, _⟩ := hv
  rw [intsOf_length] at HV ⊢
  clear hl
  go_enter Tryd.func21, Tryd.ntmps21
  go_wp2
  go_loopw [6] (fun s6 wr => ∃ k : Nat, k ≤ l.length ∧ s6 = .int .i64 k ∧ Hid (wr.rowIs w.heap.size 4 n (fun j => .bool (inL (l.take k) j))) ∧ Hid (Below w.heap.size w wr)) (fun s6 _ => l.length - (intOf s6).toNat)
  case atStart => exact ⟨0, Nat.zero_le _, rfl, ⟨_, heap_alloc_new w _, size_madeCells _ _, fun i hi => by simp [madeCells, hi, Nat.mod_one, inL]⟩, (Below.refl _ _).alloc (Nat.le_refl _) _⟩
  case round =>
    obtain ⟨k, hk, rfl, hR, hB⟩ := hrel
    by_cases hkl : k < l.length
    · obtain ⟨b, o, c', hve, hbl, hc⟩ := HV.out k hkl
      simp only [Value.slice.injEq] at hve
      obtain ⟨rfl, _, rfl⟩ := hve
      have hcell := (hB.out.cell (p := ⟨b, o + k, none⟩) hbl).trans hc
      have hy := HL.out k hkl
      have HTK := HT.out k hkl
      clear hc
      generalize l.getD k 0 = y at *
      have hyc := hR.out.cell hy
      have hyf := hR.out.frozen y
      have hyn : (y : Int) < (n : Int) := by omega
      have HR2 : Hid ((wr.setCell ⟨w.heap.size, y, none⟩ (.bool true)).rowIs w.heap.size 4 n (fun j => .bool (inL (l.take (k + 1)) j))) := (hR.out.set y _).congr (fun j _ => by
        rw [HTK, inL_snoc]
        unfold mark
        by_cases e : j = y <;> simp [e])
      have HB2 : Hid (Below w.heap.size w (wr.setCell ⟨w.heap.size, y, none⟩ (.bool true))) := hB.out.setCell (Nat.le_refl _) _
      clear hR hB HTK
      go_wp2
      go_roundw
      case rel => exact ⟨k + 1, by omega, by go_num, HR2, HB2⟩
      case measure => simp [intOf]; omega
    · have hke : k = l.length := by omega
      have HF : Hid (BoolsAt wr (.slice (some ⟨w.heap.size, 0, none⟩) n n) n (inL l)) := by
        have hr := hR.out
        rw [hke, List.take_length] at hr
        exact ⟨_, 0, _, rfl, hr.lt, fun j hj => by rw [Nat.zero_add]; exact hr.cell hj⟩
      clear hR hke
      go_wp2
      go_ret
      exact ⟨⟨_, rfl, HF.out⟩, hB.out⟩

set_option maxRecDepth 100000 in
set_option maxHeartbeats 2000000 in
theorem may_any (pv v : Value) (ts : List (Int × List Int)) (l : List Nat) (i : Int) (w : World) (hp : PlanAt w pv ts) (hg : Good ts) (hl : ∀ x, x ∈ l → x < ts.length) (hv : IntsAt w v (intsOf l)) (hll : l.length ≤ 30) :
    Calls Tryd.prog 17 #[pv, v, .int .i64 i] w fun e w' => e = .returned (.int .i64 (doneErr ts (inL l) i)) ∧ Below w.heap.size w w' := by
  have h30 := hg.le
  have hfl := flags_any ts.length v l w h30 hl hv hll
  have HP : Hid (PlanAt w pv ts) := hp
  have HR : Hid (InRange ts) := hg.rng
  obtain ⟨_, pa, pc, rfl, _⟩ := hp
  obtain ⟨_, va, vc, rfl, _⟩ := hv
  rw [intsOf_length] at hfl ⊢
  by_cases hi0 : i < 0
  · have HE : Hid (doneErr ts (inL l) i = 1) := by show _ = _; unfold doneErr; rw [if_pos (Or.inl hi0)]
    rw [HE.out]
    clear hfl
    go_enter Tryd.func17, Tryd.ntmps17
    go_wp2
    go_ret
    exact ⟨rfl, Below.refl _ _⟩
  by_cases hin : (ts.length : Int) ≤ i
  · have HE : Hid (doneErr ts (inL l) i = 1) := by show _ = _; unfold doneErr; rw [if_pos (Or.inr hin)]
    rw [HE.out]
    clear hfl
    go_enter Tryd.func17, Tryd.ntmps17
    go_wp2
    go_ret
    exact ⟨rfl, Below.refl _ _⟩
  obtain ⟨n, rfl⟩ := Int.eq_ofNat_of_zero_le (show 0 ≤ i by omega)
  have hn : n < ts.length := by omega
  obtain ⟨e0, he0⟩ : ∃ e0, e0 = doneErr ts (inL l) (n : Int) := ⟨_, rfl⟩
  have HE : Hid (e0 = if readyB ts (inL l) n = true then 0 else 6) := by
    show _ = _
    rw [he0]
    unfold doneErr
    rw [if_neg (by omega), Int.toNat_natCast]
  rw [← he0]
  clear he0
  go_enter Tryd.func17, Tryd.ntmps17
  go_wp2_with fail
  refine hfl.mono ?_
  clear hfl
  rintro e w1 ⟨⟨bv, rfl, hbv⟩, hb1⟩
  have hfr := freeR_any _ _ ts (inL l) n w1 (HP.out.later hb1) hn HR.out hbv
  rw [missing_eq, Bool.not_not] at hfr
  have hB := hbv
  obtain ⟨bb, bo, bc, rfl, hbl, hbc⟩ := hbv
  have hc0 := hbc n hn
  have HRB : Hid (readyB ts (inL l) n = (!inL l n && decide (missN ts (inL l) n = 0))) := rfl
  have hnn : (n : Int) < (ts.length : Int) := by omega
  clear hbc hB
  generalize decide (missN ts (inL l) n = 0) = fr at *
  generalize inL l n = dn at *
  go_wp2_with fail
  refine hfr.mono ?_
  clear hfr
  rintro e w2 ⟨rfl, hb2⟩
  have hc2 := (hb2.cell (p := ⟨bb, bo + n, none⟩) hbl).trans hc0
  have HF : Hid (Below w.heap.size w w2) := hb1.trans (hb2.mono hb1.size)
  clear hc0 hb1 hb2
  cases dn
  · cases fr
    · have HX : Hid (e0 = 6) := by show _ = _; rw [HE.out, HRB.out]; rfl
      go_wp2
      go_ret
      exact ⟨ret_int HX.out.symm, HF.out⟩
    · have HX : Hid (e0 = 0) := by show _ = _; rw [HE.out, HRB.out]; rfl
      go_wp2
      go_ret
      exact ⟨ret_int HX.out.symm, HF.out⟩
  · have HX : Hid (e0 = 6) := by show _ = _; rw [HE.out, HRB.out]; rfl
    go_wp2
    go_ret
    exact ⟨ret_int HX.out.symm, HF.out⟩
end Go.Proofs.YtbknbakbfblbiaaDoor
