/- The contract of yardref2.Ready: those that are ready, by the document's own Free. -/
import Derived.Test.YtbknbakbfblbiaaDoorO
import Derived.Test.YtbknbakbfblbiaaDoorRa
namespace Go.Proofs.YtbknbakbfblbiaaDoor
open Go.RowKit Go.Deep

theorem missing_eq (ts : List (Int × List Int)) (S : Nat → Bool) (k : Nat) : missing ts S k = !decide (missN ts S k = 0) := by
  unfold missing
  rw [Bool.eq_iff_iff]
  simp only [List.any_eq_true, Bool.not_eq_true', decide_eq_false_iff_not]
  rw [missN_zero]
  simp only [Classical.not_forall]
  constructor
  · rintro ⟨y, hy, h⟩
    exact ⟨y, hy, by simpa using h⟩
  · rintro ⟨y, hy, h⟩
    exact ⟨y, hy, by simpa using h⟩

set_option maxRecDepth 100000 in
set_option maxHeartbeats 2000000 in
theorem readyR_any (v bv : Value) (ts : List (Int × List Int)) (S : Nat → Bool) (w : World) (hp : PlanAt w v ts) (hr : InRange ts) (h30 : ts.length ≤ 30) (hb : BoolsAt w bv ts.length S) :
    Calls Tryd.prog 20 #[v, bv] w fun e w' => (∃ ov, e = .returned ov ∧ RowI w.heap.size w' ov (intsOf (readyTo ts S ts.length))) ∧ Below w.heap.size w w' := by
  have HP : Hid (PlanAt w v ts) := hp
  have HB : Hid (BoolsAt w bv ts.length S) := hb
  have HR : Hid (InRange ts) := hr
  obtain ⟨hl, a, c, rfl, -⟩ := hp
  obtain ⟨bb, bo, bc, rfl, hblt, hbc⟩ := hb
  have HBC : Hid (∀ k, k < ts.length → w.cell? ⟨bb, bo + k, none⟩ = some (.bool (S k))) := hbc
  clear hr hbc
  go_enter Tryd.func20, Tryd.ntmps20
  go_wp2
  go_loopw [5, 6] (fun s5 s6 wr => ∃ k : Nat, k ≤ ts.length ∧ s6 = .int .i64 k ∧ Hid (RowI w.heap.size wr s5 (intsOf (readyTo ts S k))) ∧ Below w.heap.size w wr) (fun _ s6 _ => ts.length - (intOf s6).toNat)
  case atStart => exact ⟨0, Nat.zero_le _, rfl, RowI.nil _ _, Below.refl _ _⟩
  case round =>
    obtain ⟨k, hk, rfl, hR, hb⟩ := hrel
    obtain ⟨la, lc, rfl⟩ := hR.out.shape
    by_cases hkl : k < ts.length
    · have hfr := freeR_any _ _ ts S k wr (HP.out.later hb) hkl HR.out (HB.out.later hb)
      rw [missing_eq, Bool.not_not] at hfr
      have HT : Hid (readyTo ts S (k + 1) = readyTo ts S k ++ if readyB ts S k then [k] else []) := readyTo_succ ts S k
      have HBD : Hid (readyB ts S k = (!S k && decide (missN ts S k = 0))) := rfl
      have hlen : (intsOf (readyTo ts S k)).length ≤ 30 := by rw [intsOf_length]; have := readyTo_len ts S k; omega
      generalize decide (missN ts S k = 0) = free at *
      go_wp2_with fail
      refine hfr.mono ?_
      clear hfr
      rintro e w1 ⟨rfl, hb1⟩
      have hbs := hb.size
      have hbs1 := hb1.size
      have hB1 : Below w.heap.size w w1 := hb.trans (hb1.mono hbs)
      have hR1 := hR.out.later hb1
      have hcb := (hB1.cell (p := ⟨bb, bo + k, none⟩) hblt).trans (HBC.out k hkl)
      cases free
      · rw [Bool.and_false] at HBD
        rw [HBD.out] at HT
        have HN : Hid (RowI w.heap.size w1 (.slice la (intsOf (readyTo ts S k)).length lc) (intsOf (readyTo ts S (k + 1)))) := by show RowI _ _ _ _; rw [HT.out]; simpa using hR1
        clear hR hR1 HT HBD
        cases hS : S k
        all_goals
          rw [hS] at hcb
          clear hS
          go_wp2
          go_roundw
          case rel => exact ⟨k + 1, by omega, by go_num, HN, hB1⟩
          case measure => simp [intOf]; omega
      · rw [Bool.and_true] at HBD
        cases hS : S k
        · rw [hS] at hcb HBD
          rw [HBD.out] at HT
          have HT2 : Hid (intsOf (readyTo ts S (k + 1)) = intsOf (readyTo ts S k) ++ [(k : Int)]) := by show _ = _; rw [HT.out]; simp [intsOf]
          clear hS HT HBD hR
          generalize intsOf (readyTo ts S k) = l at *
          have HO : Hid (Rds (fun _ => True) (w1.alloc (.cells #[.int .i64 k] 3)) (.slice (some ⟨w1.heap.size, 0, none⟩) 1 1) [(k : Int)]) := one_rds w1 k
          have hoa := hR1.alloc (.cells #[.int .i64 k] 3)
          go_wp2_with (first | (at_builtin; refine wpList_append_rows rfl (.tmp 26) (.tmp 28) rfl w.heap.size (fun _ => True) (.slice la l.length lc) (.slice (some ⟨w1.heap.size, 0, none⟩) 1 1) l [(k : Int)] rfl rfl hoa HO.out (by simp; omega) (by simp; omega) ?_; intro v2 w2 hown2 hgr2 hat2))
          have hb2 : Below w.heap.size w w2 := (hB1.alloc (by omega) _).grown hgr2 (by simp; omega) (fun j e => (hR1.low e).1)
          have HN : Hid (RowI w.heap.size w2 v2 (intsOf (readyTo ts S (k + 1)))) := by rw [HT2.out]; exact hown2
          clear hown2 hgr2 hat2 hoa HO hR1
          go_wp2
          go_roundw
          case rel => exact ⟨k + 1, by omega, by go_num, HN, hb2⟩
          case measure => simp [intOf]; omega
        · rw [hS] at hcb HBD
          have HBD2 : Hid (readyB ts S k = false) := HBD
          rw [HBD2.out] at HT
          have HN : Hid (RowI w.heap.size w1 (.slice la (intsOf (readyTo ts S k)).length lc) (intsOf (readyTo ts S (k + 1)))) := by show RowI _ _ _ _; rw [HT.out]; simpa using hR1
          clear hS hR hR1 HT HBD HBD2
          go_wp2
          go_roundw
          case rel => exact ⟨k + 1, by omega, by go_num, HN, hB1⟩
          case measure => simp [intOf]; omega
    · have hke : k = ts.length := by omega
      have hkl' : ¬ (k : Int) < (ts.length : Int) := by omega
      have HE : Hid (RowI w.heap.size wr (.slice la (intsOf (readyTo ts S k)).length lc) (intsOf (readyTo ts S ts.length))) := by have := hR.out; rw [hke] at this ⊢; exact this
      clear hR hke
      go_wp2
      go_ret
      exact ⟨⟨_, rfl, HE.out⟩, hb⟩
end Go.Proofs.YtbknbakbfblbiaaDoor
