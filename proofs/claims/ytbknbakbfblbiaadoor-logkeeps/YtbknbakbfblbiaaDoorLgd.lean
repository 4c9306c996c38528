/- The contracts of a log's Fail, stops, Bytes, Safe, Ready, All. -/
import Derived.Test.YtbknbakbfblbiaaDoorLgc
namespace Go.Proofs.YtbknbakbfblbiaaDoor
open Go.RowKit Go.Deep

variable {B T L J : Nat} {X XJ : Nat → Prop} {pv dv : Value} {ts : List (Int × List Int)} {S : Nat → Bool} {s : Ls} {w : World}
theorem fail_any (n : Int) (h : Lg B T X L ts s w) (hn : -9223372036854775808 ≤ n ∧ n < 9223372036854775808) :
    Calls Tryd.prog 7 #[.pointer (some ⟨L, 0, none⟩), .int .i64 n] w fun e w' => e = .returned (.tuple #[]) ∧ LgTo B T X L ts (s.fail n) w w' := by
  obtain ⟨⟨XJ, J, pv, dv, hM⟩, hok, hck⟩ := h
  have hf := hM.row.frozen 4
  have hc := hM.c4
  have HM : Hid (LgTo B T X L ts (s.fail n) w (w.setCell ⟨L, 4, none⟩ (.int .i64 n))) := ⟨X, ⟨⟨XJ, J, pv, dv, hM.fail n⟩, hok.fail hn, hck⟩, hM.storeK 4 _, fun _ h => Or.inl h⟩
  clear hM hok hck hn
  go_enter Tryd.func7, Tryd.ntmps7
  go_wp2
  go_end0
  exact ⟨rfl, HM.out⟩

theorem stops_any (h : LgM B T X XJ L J pv dv ts S s w) (hw : -9223372036854775808 ≤ s.ahead ∧ s.ahead < 9223372036854775808) :
    Calls Tryd.prog 26 #[.pointer (some ⟨L, 0, none⟩)] w fun e w' => e = .returned (.bool (decide (s.ahead = 0))) ∧ LgM B T X XJ L J pv dv ts S s.tick w' ∧ Kx X w w' ∧ w'.heap.size = w.heap.size := by
  have hf4 := h.row.frozen 4
  have hf5 := h.row.frozen 5
  have hc4 := h.c4
  have hc5 := h.c5
  obtain ⟨hw1, hw2⟩ := hw
  by_cases h0 : 0 < s.ahead
  · have HM : Hid (LgM B T X XJ L J pv dv ts S s.tick (w.setCell ⟨L, 4, none⟩ (.int .i64 (s.ahead - 1))) ∧ Kx X w (w.setCell ⟨L, 4, none⟩ (.int .i64 (s.ahead - 1)))) := by
      refine ⟨?_, h.storeK 4 _⟩
      have := h.fail (s.ahead - 1)
      unfold Ls.tick
      rw [if_pos h0]
      exact this
    have HD : Hid (decide (s.ahead = 0) = false) := by show _ = _; simp; omega
    have hwr : IntKind.i64.wrap (s.ahead - 1) = s.ahead - 1 := by rw [IntKind.wrap_i64] <;> omega
    clear h
    rw [HD.out]
    generalize s.ahead = a at *
    go_enter Tryd.func26, Tryd.ntmps26
    go_wp2
    go_ret
    exact ⟨rfl, HM.out.1, HM.out.2, by simp⟩
  · have HM : Hid (LgM B T X XJ L J pv dv ts S s.tick (w.setCell ⟨L, 5, none⟩ (.bool (decide (s.ahead = 0)))) ∧ Kx X w (w.setCell ⟨L, 5, none⟩ (.bool (decide (s.ahead = 0))))) := by
      refine ⟨?_, h.storeK 5 _⟩
      have := h.stop (decide (s.ahead = 0))
      unfold Ls.tick
      rw [if_neg h0]
      exact this
    clear h
    obtain ⟨a, ha⟩ : ∃ a, s.ahead = a := ⟨_, rfl⟩
    have hd : (a == 0) = decide (s.ahead = 0) := by rw [ha]; rfl
    rw [ha] at hw1 hw2 h0 hc4
    clear ha
    generalize decide (s.ahead = 0) = d at *
    go_enter Tryd.func26, Tryd.ntmps26
    go_wp2
    go_ret
    exact ⟨rfl, HM.out.1, HM.out.2, by simp⟩

theorem bytes_any (h : Lg B T X L ts s w) (h30 : ts.length ≤ 30) : Calls Tryd.prog 14 #[.pointer (some ⟨L, 0, none⟩)] w fun e w' => e = .returned (.int .i64 (dataOf s.recs s.half).length) ∧ w' = w := by
  obtain ⟨⟨XJ, J, pv, dv, hM⟩, hok, hck⟩ := h
  have hc := hM.c2
  have hl : (dataOf s.recs s.half).length ≤ 61 := by have := hok.seq.len; have := hok.half; rw [dataOf_length]; omega
  obtain ⟨a, c, rfl, _⟩ := hM.data.cap
  clear hM hok hck
  generalize (dataOf s.recs s.half).length = n at *
  go_enter Tryd.func14, Tryd.ntmps14
  go_wp2
  go_ret
  exact ⟨rfl, rfl⟩
theorem safe_any (h : Lg B T X L ts s w) : Calls Tryd.prog 15 #[.pointer (some ⟨L, 0, none⟩)] w fun e w' => e = .returned (.int .i64 s.safe) ∧ w' = w := by
  obtain ⟨⟨XJ, J, pv, dv, hM⟩, hok, hck⟩ := h
  have hc := hM.c3
  clear hM hok hck
  generalize s.safe = n at *
  go_enter Tryd.func15, Tryd.ntmps15
  go_wp2
  go_ret
  exact ⟨rfl, rfl⟩
theorem readyL_any (h : Lg B T X L ts s w) : Calls Tryd.prog 19 #[.pointer (some ⟨L, 0, none⟩)] w fun e w' => (∃ v, e = .returned v ∧ RowI w.heap.size w' v (intsOf (readyTo ts (inL s.recs) ts.length))) ∧ Below w.heap.size w w' := by
  obtain ⟨⟨XJ, J, pv, dv, hM⟩, hok, hck⟩ := h
  have hc := hM.c1
  have hr := join_ready J ts _ w XJ hM.jo
  clear hM hok hck
  go_enter Tryd.func19, Tryd.ntmps19
  go_wp2_with fail
  refine hr.mono ?_
  clear hr
  rintro e w' ⟨⟨v, rfl, hv⟩, hb⟩
  obtain ⟨a, c, rfl⟩ := hv.shape
  have HV : Hid (RowI w.heap.size w' (.slice a (intsOf (readyTo ts (inL s.recs) ts.length)).length c) (intsOf (readyTo ts (inL s.recs) ts.length))) := hv
  clear hv
  generalize (intsOf (readyTo ts (inL s.recs) ts.length)).length = n at *
  go_wp2
  go_ret
  exact ⟨⟨_, rfl, HV.out⟩, hb⟩

set_option maxRecDepth 100000 in
set_option maxHeartbeats 2000000 in
theorem allL_any (h : LgM B T X XJ L J pv dv ts S s w) (hok : s.Ok ts) (h30 : ts.length ≤ 30) : Calls Tryd.prog 12 #[.pointer (some ⟨L, 0, none⟩)] w fun e w' => (∃ v, e = .returned v ∧ RowI w.heap.size w' v (intsOf s.recs)) ∧ Below w.heap.size w w' := by
  have hc := h.c2
  have hlr := hok.seq.len
  have hl : (dataOf s.recs s.half).length ≤ 61 := by have := hok.half; rw [dataOf_length]; omega
  have hle : 2 * s.recs.length ≤ (dataOf s.recs s.half).length := by rw [dataOf_length]; omega
  have hlow : ∀ x, x ∈ dataOf s.recs s.half → x < 256 := fun x hx => by
    unfold dataOf at hx
    rcases List.mem_append.1 hx with hx | hx
    · obtain ⟨d, hd, hx⟩ := List.mem_flatMap.1 hx
      have := hok.lt h30 hd
      simp at hx
      omega
    · have := hok.low x hx; omega
  have hwh := hok.whole h30
  have hB := h.data.bytes
  obtain ⟨a, c, rfl, hcap⟩ := h.data.cap
  have hw := whole_any a c _ w hB (by omega) hlow
  rw [hwh] at hw
  have HB : Hid (∀ k, k < 2 * s.recs.length → ∃ b o, a = some ⟨b, o, none⟩ ∧ b < w.heap.size ∧ w.cell? ⟨b, o + k, none⟩ = some (.int .u8 (((dataOf s.recs s.half).getD k 0 : Nat) : Int))) := fun k hk => by
    obtain ⟨a', c', hv, _, hz⟩ := hB
    simp only [Value.slice.injEq] at hv
    obtain ⟨rfl, _, rfl⟩ := hv
    rcases hz with hz | ⟨b, o, e, hlt, hz⟩
    · rw [hz] at hle; simp at hle; omega
    · exact ⟨b, o, e, hlt, hz k (by omega)⟩
  have HL : Hid (∀ x, x ∈ s.recs → x < 30) := fun x hx => hok.lt h30 hx
  clear h hok hwh hB hlow
  generalize (dataOf s.recs s.half).length = len at *
  obtain ⟨N, hN⟩ : ∃ N, 2 * s.recs.length = N := ⟨_, rfl⟩
  rw [hN] at hw hle HB
  have HN : Hid (2 * s.recs.length = N) := hN
  clear hN
  go_enter Tryd.func12, Tryd.ntmps12
  go_wp2_with (go_at_call 29; refine hw.mono ?_; clear hw; rintro e w ⟨rfl, rfl⟩)
  go_loopw [3, 12] (fun s3 s12 wr => ∃ k : Nat, k ≤ N ∧ s12 = .int .i64 k ∧ Hid (RowI w.heap.size wr s3 (intsOf (s.recs.take ((k + 1) / 2)))) ∧ Below w.heap.size w wr) (fun _ s12 _ => N - (intOf s12).toNat)
  case atStart => exact ⟨0, Nat.zero_le _, rfl, RowI.nil _ _, Below.refl _ _⟩
  case round =>
    obtain ⟨k, hk, rfl, hR, hb⟩ := hrel
    obtain ⟨la, lc, rfl⟩ := hR.out.shape
    by_cases hkl : k < N
    · obtain ⟨b, o, rfl, hbl, hcell⟩ := HB.out k hkl
      have hcell2 := (hb.cell (p := ⟨b, o + k, none⟩) hbl).trans hcell
      clear hcell
      rcases Nat.mod_two_eq_zero_or_one k with e | e
      · obtain ⟨m, rfl⟩ : ∃ m, k = 2 * m := ⟨k / 2, by omega⟩
        have hml : m < s.recs.length := by have := HN.out; omega
        rw [(dataOf_at s.recs s.half m hml).1] at hcell2
        have hy : s.recs.getD m 0 < 30 := by
          rw [List.getD_eq_getElem?_getD, List.getElem?_eq_getElem hml]; exact HL.out _ (List.getElem_mem hml)
        have HT : Hid (intsOf (s.recs.take ((2 * m + 1 + 1) / 2)) = intsOf (s.recs.take ((2 * m + 1) / 2)) ++ [((s.recs.getD m 0 : Nat) : Int)]) := by
          show _ = _
          rw [show (2 * m + 1 + 1) / 2 = m + 1 by omega, show (2 * m + 1) / 2 = m by omega, nat_take_last hml, intsOf_append]; rfl
        have hlen : (intsOf (s.recs.take ((2 * m + 1) / 2))).length ≤ 30 := by rw [intsOf_length, List.length_take]; omega
        generalize intsOf (s.recs.take ((2 * m + 1) / 2)) = l at *
        generalize s.recs.getD m 0 = y at *
        have hy2 : ((y : Int) != 255) = true := by simp; omega
        have HO : Hid (Rds (fun _ => True) (wr.alloc (.cells #[.int .i64 y] 3)) (.slice (some ⟨wr.heap.size, 0, none⟩) 1 1) [(y : Int)]) := one_rds wr y
        have hoa := hR.out.alloc (.cells #[.int .i64 y] 3)
        have hs1 := hb.size
        clear hR
        go_wp2_with (first | (at_builtin; refine wpList_append_rows rfl (.tmp 18) (.tmp 21) rfl w.heap.size (fun _ => True) (.slice la l.length lc) (.slice (some ⟨wr.heap.size, 0, none⟩) 1 1) l [(y : Int)] rfl rfl hoa HO.out (by simp; omega) (by simp; omega) ?_; intro v2 w2 hown2 hgr2 hat2))
        have hb2 : Below w.heap.size w w2 := (hb.alloc (by omega) _).grown hgr2 (by simp; omega) (fun j e => (hoa.low e).1)
        have HN2 : Hid (RowI w.heap.size w2 v2 (intsOf (s.recs.take ((2 * m + 1 + 1) / 2)))) := by show RowI _ _ _ _; rw [HT.out]; exact hown2
        clear hown2 hgr2 hat2 hoa HO
        go_wp2
        go_roundw
        case rel => exact ⟨2 * m + 1, by omega, by go_num, HN2, hb2⟩
        case measure => simp [intOf]; omega
      · obtain ⟨m, rfl⟩ : ∃ m, k = 2 * m + 1 := ⟨k / 2, by omega⟩
        have hml : m < s.recs.length := by have := HN.out; omega
        rw [(dataOf_at s.recs s.half m hml).2] at hcell2
        have HT : Hid (intsOf (s.recs.take ((2 * m + 1 + 1 + 1) / 2)) = intsOf (s.recs.take ((2 * m + 1 + 1) / 2))) := by
          show _ = _
          rw [show (2 * m + 1 + 1 + 1) / 2 = (2 * m + 1 + 1) / 2 by omega]
        generalize intsOf (s.recs.take ((2 * m + 1 + 1) / 2)) = l at *
        go_wp2
        go_roundw
        case rel => exact ⟨2 * m + 1 + 1, by omega, by go_num, by show RowI _ _ _ _; rw [HT.out]; exact hR.out, hb⟩
        case measure => simp [intOf]; omega
    · have hke : (k + 1) / 2 = s.recs.length := by have := HN.out; omega
      have HE : Hid (RowI w.heap.size wr (.slice la (intsOf (s.recs.take ((k + 1) / 2))).length lc) (intsOf s.recs)) := by
        have := hR.out
        rw [hke, List.take_length] at this ⊢; exact this
      have hkn : ¬ (k : Int) < (N : Int) := by omega
      clear hR hke
      generalize (intsOf (s.recs.take ((k + 1) / 2))).length = ln at *
      go_wp2
      go_ret
      exact ⟨⟨_, rfl, HE.out⟩, hb⟩
end Go.Proofs.YtbknbakbfblbiaaDoor
