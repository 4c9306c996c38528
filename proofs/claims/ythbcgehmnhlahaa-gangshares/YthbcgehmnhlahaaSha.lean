/- The law GangShares: a plan of which all but the first need the first; the walk. -/
import Derived.Test.YthbcgehmnhlahaaPgk
import Derived.Maps.AppendAt
namespace Go.Proofs.Ythbcgehmnhlahaa
open Go.RowKit Go.Deep

/-- So many that need the first. -/
def fanTs : Nat → List (Int × List Int)
  | 0 => [(1, [])]
  | n + 1 => fanTs n ++ [(1, [0])]
theorem fanTs_length (n : Nat) : (fanTs n).length = n + 1 := by
  induction n with
  | zero => rfl
  | succ n ih => simp [fanTs, ih]
theorem fan_needs (n j : Nat) : needsOf (fanTs n) j = if j = 0 ∨ n < j then [] else [0] := by
  induction n with
  | zero =>
    unfold needsOf fanTs
    cases j with
    | zero => simp
    | succ j => simp
  | succ n ih =>
    have hl := fanTs_length n
    unfold needsOf fanTs
    by_cases h1 : j < n + 1
    · rw [getD_snoc _ _ _ _ (by omega)]
      have : ((fanTs n).getD j (0, [])).2 = needsOf (fanTs n) j := rfl
      rw [this, ih]
      by_cases h0 : j = 0
      · simp [h0]
      · rw [if_neg (by omega), if_neg (by omega)]
    · by_cases h2 : j = n + 1
      · subst h2
        rw [← hl, getD_snoc_at, if_neg (by omega)]
      · have : (fanTs n ++ [((1 : Int), [(0 : Int)])]).getD j (0, []) = (0, []) := by
          rw [List.getD_eq_getElem?_getD, List.getElem?_eq_none (by simp; omega)]
          rfl
        rw [this, if_pos (by omega)]
theorem fan_need {n x y : Nat} (h : Need (fanTs n) x y) : y = 0 ∧ x ≠ 0 := by
  unfold Need at h
  rw [fan_needs] at h
  split at h
  · simp at h
  · simp only [List.mem_singleton] at h
    omega
theorem fan_reach {n x y : Nat} (h : Reach (fanTs n) x y) : y = 0 ∧ x ≠ 0 := by
  refine Reach.ind (motive := fun y _ => y = 0 ∧ x ≠ 0) (fun h => fan_need h) ?_ h
  intros
  rename_i hy hn ih
  exact absurd ih.1 (fan_need hn).2
theorem fan_err : ∀ n, n < 16 → ∀ j, j < n + 1 → errOf (fanTs n) j = 0 := by decide +kernel
theorem fan_check {n : Nat} (hn : n < 16) : CheckIs (fanTs n) 0 0 :=
  Or.inr (Or.inr (Or.inr ⟨by rw [fanTs_length]; omega, fun j hj => fan_err n hn j (by rw [fanTs_length] at hj; exact hj), fun j _ h => (fan_reach h).2 (fan_reach h).1, rfl, rfl⟩))
theorem fan_work : ∀ n, n < 16 → ∀ i, i < n + 1 → 1 ≤ workOf (fanTs n) i ∧ workOf (fanTs n) i ≤ 1000 := by decide +kernel
/-- The gang behind the first, the second and the third step. -/
def fan1 (n : Nat) : Gs := gstep (fanTs n) 16 2 (gnew (fanTs n)) 0 0
def fan2 (n : Nat) : Gs := gstep (fanTs n) 16 2 (fan1 n) 0 0
def fan3 (n : Nat) : Gs := gstep (fanTs n) 16 2 (fan2 n) 1 0
theorem fan_tells : ∀ n, n < 14 → gdeeds (fanTs (n + 2)) 2 (fan2 (n + 2)) 1 0 = [(2, 1, 1, 0)] ∧ (readyTo (fanTs (n + 2)) (fan3 (n + 2)).S (fanTs (n + 2)).length).length = n + 2 := by decide +kernel
theorem OwnPlan.one (w : World) (x : Int) : OwnPlan w.heap.size (w.alloc (.cells #[.int .i64 x, .slice none 0 0] 24)) (.slice (some ⟨w.heap.size, 0, none⟩) 1 1) [(x, [])] :=
  ⟨[.int .i64 x, .slice none 0 0], ⟨by simp, Or.inr ⟨w.heap.size, 1, _, rfl, Nat.le_refl _, heap_alloc_new w _, Nat.le_refl _, by unfold maxLen; omega, by simp, by simp⟩⟩, fun j hj => by
    obtain rfl : j = 0 := by simp at hj; exact hj
    exact ⟨rfl, .slice none 0 0, rfl, Or.inl ⟨rfl, rfl⟩⟩⟩
theorem Try.infoTask : (Try.prog.info? 24).map (fun i => (i.zero, i.size, i.bytes)) = some (some (.agg #[.int .i64 0, .slice none 0 0]), 2, 32) := by kernel_rfl

set_option maxRecDepth 100000 in
set_option maxHeartbeats 8000000 in
theorem gangShares_any (n : Int) (w : World) : Calls Try.prog 3 #[.int .i64 n] w fun e w' => e = .returned (.bool true) ∧ Below w.heap.size w w' := by
  by_cases hlo : n < 2
  · go_enter Try.func3, Try.ntmps3
    go_wp2
    go_ret
    exact ⟨rfl, Below.refl _ _⟩
  by_cases hhi : 15 < n
  · go_enter Try.func3, Try.ntmps3
    go_wp2
    go_ret
    exact ⟨rfl, Below.refl _ _⟩
  obtain ⟨m, rfl⟩ : ∃ m : Nat, n = ((m + 2 : Nat) : Int) := ⟨(n - 2).toNat, by omega⟩
  have hm : m < 14 := by omega
  obtain ⟨N, hN⟩ : ∃ N, N = m + 2 := ⟨_, rfl⟩
  have HT := fan_tells m hm
  rw [← hN] at HT hlo hhi ⊢
  have HT' : Hid (gdeeds (fanTs N) 2 (fan2 N) 1 0 = [(2, 1, 1, 0)] ∧ (readyTo (fanTs N) (fan3 N).S (fanTs N).length).length = N) := HT
  have hN15 : N ≤ 15 := by omega
  clear HT hm hN
  obtain ⟨i37, hi37, hz0, hz1, hz2⟩ := info_parts Try.infoTask
  go_enter Try.func3, Try.ntmps3
  go_wp2
  go_loopw [3, 4] (fun s3 s4 wr => ∃ k : Nat, s4 = .int .i64 k ∧ k ≤ N ∧ Hid (OwnPlan w.heap.size wr s3 (fanTs k)) ∧ Hid (Below w.heap.size w wr)) (fun _ s4 _ => N - (intOf s4).toNat)
  case atStart => exact ⟨0, rfl, Nat.zero_le _, OwnPlan.one w 1, (Below.refl _ _).alloc (Nat.le_refl _) _⟩
  case round =>
    obtain ⟨k, rfl, hk, hp, hb⟩ := hrel
    by_cases hkn : k < N
    · have hlen := fanTs_length k
      have hkn' : (k : Int) < (N : Int) := by omega
      obtain ⟨WW, hWW⟩ : ∃ WW, WW = (wr.alloc (.cells #[.int .i64 0] 3)).alloc (.cells #[.int .i64 1, .slice (some ⟨wr.heap.size, 0, none⟩) 1 1] 24) := ⟨_, rfl⟩
      have hb2 : Below wr.heap.size wr WW := by rw [hWW]; exact ((Below.refl _ _).alloc (Nat.le_refl _) _).alloc (by simp) _
      obtain ⟨xs, ho, hx⟩ := hp.out.later hb2
      have hblk : WW.heap[wr.heap.size]? = some (.cells #[.int .i64 0] 3 (0, 0)) := by rw [hWW, blk_alloc_lt _ _ _ (by simp)]; exact blk_alloc_new wr _
      have HX : Hid (∀ j, j < (fanTs k).length → xs[j * 2]? = some (.int .i64 ((fanTs k).getD j (0, [])).1) ∧ ∃ nv, xs[j * 2 + 1]? = some nv ∧ NeedsBlk WW nv (needsOf (fanTs k) j)) := hx
      have HB : Hid (WW.heap[wr.heap.size]? = some (.cells #[.int .i64 0] 3 (0, 0)) ∧ Below wr.heap.size wr WW ∧ WW = (wr.alloc (.cells #[.int .i64 0] 3)).alloc (.cells #[.int .i64 1, .slice (some ⟨wr.heap.size, 0, none⟩) 1 1] 24)) := ⟨hblk, hb2, hWW⟩
      have HL : Hid ((fanTs k).length = k + 1) := hlen
      have HO : Hid (WW.ownsRow w.heap.size 24 2 _ (fanTs k).length xs) := ho
      have ho2 := ho
      rw [hWW] at ho2
      clear hx hlen hp hblk hWW hb2 ho
      go_wp2_with (at_builtin; refine wpList_append_own _ rfl (.tmp 26) (.tmp 29) 26 rfl w.heap.size 24 i37 (.agg #[.int .i64 0, .slice none 0 0]) 2 32 Try.underlying26 hi37 hz0 hz1 hz2 rfl (by decide) _ (fanTs k).length xs rfl ho2 ⟨wr.heap.size + 1, 0, none⟩ 1 1 [.int .i64 1, .slice (some ⟨wr.heap.size, 0, none⟩) 1 1] rfl rfl ?d1 ?d2 ?d3 ?d4 ?d5 ?_)
      case d1 =>
        have h2 := cell_two_new (wr.alloc (.cells #[.int .i64 0] 3)) (.int .i64 1) (.slice (some ⟨wr.heap.size, 0, none⟩) 1 1) 24
        rw [nblk_alloc] at h2
        exact h2
      case d2 => intro u hu; simp at hu; rcases hu with rfl | rfl <;> rfl
      case d3 => rw [HL.out]; unfold maxLen; omega
      case d4 => rw [HL.out]; omega
      case d5 => have := hb.out.size; simp; omega
      intro v' w1 hown' hgrow _
      rw [← HB.out.2.2] at hgrow
      have hb3 : Hid (Below w.heap.size w w1) := (hb.out.trans (HB.out.2.1.mono hb.out.size)).grown hgrow (by have := hb.out.size; have := HB.out.2.1.size; omega) (fun j e => (HO.out.lt j e).1)
      have hnew : Hid (OwnPlan w.heap.size w1 v' (fanTs (k + 1))) := OwnPlan.append HO.out HX.out (nv := .slice (some ⟨wr.heap.size, 0, none⟩) 1 1) (zs := [0]) (wk := 1) (Or.inr ⟨wr.heap.size, rfl, HB.out.1⟩) hown' hgrow
      clear hown' hgrow ho2 HX HB HO
      go_wp2
      refine ⟨⟨k + 1, by go_num, by omega, hnew, hb3⟩, by simp [intOf]; omega⟩
    · have hkn' : ¬ (k : Int) < (N : Int) := by omega
      obtain rfl : k = N := by omega
      have hpl := hp.out.planAt (by rw [fanTs_length]; omega) (fun j _ => by rw [fan_needs]; split <;> simp)
      have hc := fan_check (n := k) (by omega)
      have hg := hc.good
      have hwk : ∀ i, i < (fanTs k).length → 1 ≤ workOf (fanTs k) i ∧ workOf (fanTs k) i ≤ 1000 := fun i hi => fan_work k (by omega) i (by rw [fanTs_length] at hi; exact hi)
      have hnew := gangAt_new (W0 := w) (room := 16) (hands := 2) hpl hc hb.out (by omega) (by omega) (by omega) (by omega)
      obtain ⟨pa, pc, hv⟩ : ∃ a c, u3 = .slice a (fanTs k).length c := by obtain ⟨hl, a, c, hv, -⟩ := hpl; exact ⟨a, c, hv⟩
      subst hv
      have HG : Hid (Good (fanTs k) ∧ ∀ i, i < (fanTs k).length → 1 ≤ workOf (fanTs k) i ∧ workOf (fanTs k) i ≤ 1000) := ⟨hg, hwk⟩
      clear hpl hc hg hwk hp
      have hl1 := fanTs_length k
      have HL1 : Hid ((fanTs k).length = k + 1) := hl1
      clear hl1
      go_upto_region 11 with (first | (go_at_call 4; refine hnew.mono ?_; clear hnew; rintro e w1 ⟨G, rfl, hG1⟩; have HG1 : Hid (GangAt w G 16 2 (fanTs k) (gnew (fanTs k)) w1) := hG1; clear hG1))
      have hst : Calls Try.prog 5 #[.pointer (some ⟨G, 0, none⟩), .int .i64 0, .int .i64 0] w1 fun e w' => ∃ v, e = .returned (.tuple #[v, .nilIface]) ∧ RowD w1.heap.size w' v (gdeeds (fanTs k) 2 (gnew (fanTs k)) 0 0) ∧ GangAt w G 16 2 (fanTs k) (fan1 k) w' := HG1.out.step HG.out.1 HG.out.2 (by omega) (by omega) (by omega) 0 0 (by omega) (by omega)
      go_upto_region 12 with (first | (go_at_call 5; refine hst.mono ?_; clear hst; rintro e w2 ⟨v2, rfl, hv2, hG2⟩; obtain ⟨a2, c2, rfl⟩ := hv2.shape; have HG2 : Hid (GangAt w G 16 2 (fanTs k) (fan1 k) w2) := hG2; clear hG2 hv2))
      have hst : Calls Try.prog 5 #[.pointer (some ⟨G, 0, none⟩), .int .i64 0, .int .i64 0] w2 fun e w' => ∃ v, e = .returned (.tuple #[v, .nilIface]) ∧ RowD w2.heap.size w' v (gdeeds (fanTs k) 2 (fan1 k) 0 0) ∧ GangAt w G 16 2 (fanTs k) (fan2 k) w' := HG2.out.step HG.out.1 HG.out.2 (by omega) (by omega) (by omega) 0 0 (by omega) (by omega)
      go_upto_region 13 with (first | (go_at_call 5; refine hst.mono ?_; clear hst; rintro e w3 ⟨v3, rfl, hv3, hG3⟩; obtain ⟨a3, c3, rfl⟩ := hv3.shape; have HG3 : Hid (GangAt w G 16 2 (fanTs k) (fan2 k) w3) := hG3; clear hG3 hv3))
      have hst : Calls Try.prog 5 #[.pointer (some ⟨G, 0, none⟩), .int .i64 1, .int .i64 0] w3 fun e w' => ∃ v, e = .returned (.tuple #[v, .nilIface]) ∧ RowD w3.heap.size w' v [(2, 1, 1, 0)] ∧ GangAt w G 16 2 (fanTs k) (fan3 k) w' := by
        have := HG3.out.step HG.out.1 HG.out.2 (by omega) (by omega) (by omega) 1 0 (by omega) (by omega)
        rw [HT'.out.1] at this
        exact this
      go_upto_region 14 with (first | (go_at_call 5; refine hst.mono ?_; clear hst; rintro e w4 ⟨v4, rfl, hv4, hG4⟩; obtain ⟨b4, c4, rfl, -, hb4, hc4, hcell⟩ := hv4.full (by simp); have HG4 : Hid (GangAt w G 16 2 (fanTs k) (fan3 k) w4) := hG4; clear hG4))
      have d0 : w4.cell? ⟨b4, 0, none⟩ = some (.int .i64 2) := hcell 0 (by simp) 0 (by omega)
      have d2 : w4.cell? ⟨b4, 2, none⟩ = some (.int .i64 1) := hcell 0 (by simp) 2 (by omega)
      have d3 : w4.cell? ⟨b4, 3, none⟩ = some (.int .i64 0) := hcell 0 (by simp) 3 (by omega)
      have hhe := HG4.out.held
      have HRL : Hid ((intsOf (readyTo (fanTs k) (fan3 k).S (fanTs k).length)).length = k) := by show _ = _; rw [intsOf_length]; exact HT'.out.2
      clear hcell hv4 hc4
      go_wp2_with (first | (go_at_call 6; refine hhe.mono ?_; clear hhe; rintro e w5 ⟨⟨v5, rfl, hv5⟩, hG5⟩; obtain ⟨a5, c5, hs5⟩ := hv5.shape; rw [HRL.out] at hs5; subst hs5; have HG5 : Hid (GangAt w G 16 2 (fanTs k) (fan3 k) w5) := hG5; clear hG5 hv5))
      go_ret
      exact ⟨rfl, HG5.out.below⟩
end Go.Proofs.Ythbcgehmnhlahaa
