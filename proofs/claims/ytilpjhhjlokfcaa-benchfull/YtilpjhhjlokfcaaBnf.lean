/- The walk of BenchFull. -/
import Derived.Test.YtilpjhhjlokfcaaBnc
namespace Go.Proofs.Ytilpjhhjlokfcaa
open Go.RowKit Go.Deep

/-- So many bits, which fill each step. -/
def fullB (h n : Nat) : List (Nat × Nat × Nat) := (List.range n).map (fun k => (k / h, k % h, 0))
theorem fullB_length (h n : Nat) : (fullB h n).length = n := by simp [fullB]
theorem fullB_succ (h n : Nat) : fullB h (n + 1) = fullB h n ++ [(n / h, n % h, 0)] := by simp [fullB, List.range_succ]
theorem fullB_at {h n k : Nat} (hk : k < n) : bitA ((fullB h n).map bitZ) k = (((k / h : Nat) : Int), ((k % h : Nat) : Int), 0) := by
  unfold bitA fullB
  simp [List.getD_eq_getElem?_getD, hk, bitZ]
theorem mod_div {h i j : Nat} (hj : j < h) : (i * h + j) / h = i ∧ (i * h + j) % h = j := by
  have hpos : 0 < h := by omega
  refine ⟨?_, ?_⟩
  · rw [Nat.mul_comm, Nat.mul_add_div hpos, Nat.div_eq_of_lt hj, Nat.add_zero]
  · rw [Nat.mul_comm, Nat.mul_add_mod, Nat.mod_eq_of_lt hj]
theorem full_right {n h : Nat} (hn : n ≤ 60) (h1 : 1 ≤ h) (h6 : h ≤ 6) : bnErr ((fullB h (n * h)).map bitZ) h = 0 := by
  have hle : n * h ≤ 60 * 6 := Nat.mul_le_mul hn h6
  rw [bnErr_any (by rw [List.length_map, fullB_length]; omega) (by omega)]
  rw [anyB_miss (fun k hk => ?_)]
  · rfl
  · rw [List.length_map, fullB_length] at hk
    rw [fullB_at hk]
    have h2 : k % h < h := Nat.mod_lt _ (by omega)
    have h3 : k / h < n := Nat.div_lt_of_lt_mul (by rw [Nat.mul_comm]; exact hk)
    generalize k % h = a at *
    generalize k / h = b at *
    unfold badBit belowB
    simp
    omega
theorem full_steps {h n : Nat} (h1 : 1 ≤ h) (h6 : h ≤ 6) : ∀ k, k ≤ n → stepsZ ((fullB h n).map bitZ) k = (k + h - 1) / h := by
  intro k
  induction k with
  | zero => intro _; show 0 = _; rw [Nat.div_eq_of_lt (by omega)]
  | succ k ih =>
    intro hk
    show max (stepsZ _ k) ((bitA _ k).1 + 1).toNat = _
    rw [ih (by omega), fullB_at (by omega)]
    have : h = 1 ∨ h = 2 ∨ h = 3 ∨ h = 4 ∨ h = 5 ∨ h = 6 := by omega
    rcases this with rfl | rfl | rfl | rfl | rfl | rfl <;> omega
theorem full_first {h n : Nat} (h1 : 1 ≤ h) (h6 : h ≤ 6) : ∀ k, k ≤ n → cntZ (fun b => b.2.1) ((fullB h n).map bitZ) k 0 = (((k + h - 1) / h : Nat) : Int) := by
  intro k
  induction k with
  | zero => intro _; show (0 : Int) = _; rw [Nat.div_eq_of_lt (by omega)]; rfl
  | succ k ih =>
    intro hk
    show cntZ (fun b => b.2.1) _ k 0 + (if (bitA _ k).2.1 = ((0 : Nat) : Int) then 1 else 0) = _
    rw [ih (by omega), fullB_at (by omega)]
    have : h = 1 ∨ h = 2 ∨ h = 3 ∨ h = 4 ∨ h = 5 ∨ h = 6 := by omega
    rcases this with rfl | rfl | rfl | rfl | rfl | rfl <;> (dsimp only; split <;> omega)
theorem ceil_mul {n h : Nat} (h1 : 1 ≤ h) : (n * h + h - 1) / h = n := by
  rw [show n * h + h - 1 = n * h + (h - 1) by omega, (mod_div (i := n) (j := h - 1) (by omega)).1]
theorem full_waste {n h : Nat} (hn : n ≤ 60) (h1 : 1 ≤ h) (h6 : h ≤ 6) : wasteZ ((fullB h (n * h)).map bitZ) h = 0 := by
  unfold wasteZ
  rw [if_pos (full_right hn h1 h6), List.length_map, fullB_length, full_steps h1 h6 (n * h) (Nat.le_refl _), ceil_mul h1, Int.natCast_mul, Int.mul_comm, Int.sub_self]

set_option maxRecDepth 100000 in
set_option maxHeartbeats 4000000 in
theorem benchFull_in (n h : Nat) (w : World) (hn : n ≤ 60) (h1 : 1 ≤ h) (h6 : h ≤ 6) :
    Calls Try.prog 4 #[.int .i64 n, .int .i64 h] w fun e w' => e = .returned (.bool true) ∧ Below w.heap.size w w' := by
  obtain ⟨i36, hi36, hz0, hz1, hz2⟩ := info_parts Try.info31
  have HR0 : Hid (RowB w.heap.size w (.slice none 0 0) (fullB h (0 * h))) := by rw [Nat.zero_mul]; exact RowB.nil _ _
  have g1 : ¬ (n : Int) < 0 := by omega
  have g2 : ¬ (60 : Int) < (n : Int) := by omega
  have g3 : ¬ (h : Int) < 1 := by omega
  have g4 : ¬ (6 : Int) < (h : Int) := by omega
  go_enter Try.func4, Try.ntmps4
  go_wp2
  go_loopw [5, 6] (fun s5 s6 wr => ∃ i : Nat, i ≤ n ∧ s6 = .int .i64 i ∧ Hid (RowB w.heap.size wr s5 (fullB h (i * h))) ∧ Below w.heap.size w wr) (fun _ s6 _ => n - (intOf s6).toNat)
  case atStart => exact ⟨0, Nat.zero_le _, rfl, HR0, Below.refl _ _⟩
  case round =>
    clear HR0
    obtain ⟨i, hi, rfl, hR, hb⟩ := hrel
    by_cases hin : i < n
    · have hm6 : i * h + h ≤ 360 := by
        have : (i + 1) * h ≤ 60 * 6 := Nat.mul_le_mul (by omega) h6
        rw [Nat.add_mul] at this; omega
      have HSB : Hid (∀ j, j < h → fullB h (i * h + (j + 1)) = fullB h (i * h + j) ++ [(i, j, 0)]) := fun j hj => by
        rw [← Nat.add_assoc, fullB_succ, (mod_div hj).1, (mod_div hj).2]
      have HSU : Hid ((i + 1) * h = i * h + h) := by show _ = _; rw [Nat.add_mul, Nat.one_mul]
      obtain ⟨w1, rfl⟩ : ∃ w1, w1 = wr := ⟨_, rfl⟩
      generalize i * h = m at *
      go_wp2
      go_loopw [5, 7] (fun s5 s7 wr => ∃ j : Nat, j ≤ h ∧ s7 = .int .i64 j ∧ Hid (RowB w.heap.size wr s5 (fullB h (m + j))) ∧ Below w.heap.size w wr) (fun _ s7 _ => h - (intOf s7).toNat)
      case atStart => exact ⟨0, Nat.zero_le _, rfl, hR, hb⟩
      case round =>
        clear hR hb
        obtain ⟨j, hj, rfl, hR, hb⟩ := hrel
        by_cases hjh : j < h
        · have hN := HSB.out j hjh
          have hlen := fullB_length h (m + j)
          generalize fullB h (m + j) = cs at *
          obtain ⟨ca, cc, rfl⟩ := hR.out.shape
          have ho := hR.out.alloc (.cells #[.int .i64 i, .int .i64 j, .int .i64 0] 31)
          have HO : Hid (RowB w.heap.size (wr.alloc (.cells #[.int .i64 i, .int .i64 j, .int .i64 0] 31)) (.slice ca cs.length cc) cs) := ho
          have hba : Below w.heap.size w (wr.alloc (.cells #[.int .i64 i, .int .i64 j, .int .i64 0] 31)) := hb.alloc hb.size _
          have hsz := hb.size
          have HN : Hid (fullB h (m + (j + 1)) = cs ++ [(i, j, 0)]) := hN
          unfold RowB at ho
          have h1c : ∀ u ∈ [Value.int .i64 (i : Int), .int .i64 (j : Int), .int .i64 0], u.oneCell' = true := by intro u hu; simp at hu; rcases hu with rfl | rfl | rfl <;> rfl
          clear hR hN hb
          go_wp2_with (at_builtin; refine wpList_append_own _ rfl (.tmp 36) (.tmp 40) 22 rfl w.heap.size 31 i36 (.agg #[.int .i64 0, .int .i64 0, .int .i64 0]) 3 24 Try.underlying22 hi36 hz0 hz1 hz2 rfl (by decide) _ cs.length (flat cs) rfl ho ⟨wr.heap.size, 0, none⟩ 1 1 [.int .i64 i, .int .i64 j, .int .i64 0] rfl rfl (cell_three_new wr _ _ _ _) h1c (by unfold maxLen; omega) (by omega) (by simp; omega) ?_; intro v2 w4 hown hgr _; have HR4 : Hid (RowB w.heap.size w4 v2 (fullB h (m + (j + 1)))) := (by show RowB _ _ _ _; rw [HN.out]; show w4.ownsRow _ _ _ _ (cs ++ [(i, j, 0)]).length (flat (cs ++ [(i, j, 0)])); rw [flat_append, flat_one, List.length_append]; exact hown); have HB4 : Hid (Below w.heap.size w w4) := hba.grown hgr (by simp; omega) (fun k e => (HO.out.low e).1); clear hown hgr ho)
          go_roundw
          case rel => exact ⟨j + 1, by omega, by go_num, HR4, HB4.out⟩
          case measure => simp [intOf]; omega
        · have hje : j = h := by omega
          obtain ⟨va, vc, rfl⟩ := hR.out.shape
          have HR2 : Hid (RowB w.heap.size wr (.slice va (fullB h (m + j)).length vc) (fullB h ((i + 1) * h))) := by
            have h2 := hR.out
            show RowB _ _ _ _
            rw [HSU.out]
            rw [hje] at h2 ⊢
            exact h2
          clear hR hje
          generalize (fullB h (m + j)).length = fl at *
          go_wp2
          go_roundw
          case rel => exact ⟨i + 1, by omega, by go_num, HR2, hb⟩
          case measure => simp [intOf]; omega
    · have hie : i = n := by omega
      rw [hie] at hR
      have hlen := fullB_length h (n * h)
      have hle : n * h ≤ 60 * 6 := Nat.mul_le_mul hn h6
      obtain ⟨ca, cc, rfl⟩ := hR.out.shape
      have hbt := hR.out.bitsAt (by omega)
      have HBT : Hid (∀ wx, Below wr.heap.size wr wx → BitsAt wx (.slice ca (fullB h (n * h)).length cc) ((fullB h (n * h)).map bitZ)) := fun wx hx => hbt.later hx
      have hwa := waste_any _ _ (h : Int) wr hbt
      rw [full_waste hn h1 h6, full_right hn h1 h6, errV_zero] at hwa
      have HBY : Hid (∀ wx, Below wr.heap.size wr wx → Calls Try.prog 5 #[.slice ca (fullB h (n * h)).length cc, .int .i64 h] wx fun e w' => (∃ b, e = .returned (.tuple #[.slice (some ⟨b, 0, none⟩) h h, .nilIface]) ∧ b < w'.heap.size ∧ w'.cell? ⟨b, 0, none⟩ = some (.int .i64 n)) ∧ Below wx.heap.size wx w') := fun wx hx => by
        refine (busy_any _ _ (h : Int) wx (HBT.out wx hx)).mono ?_
        rintro e w' ⟨hbo, hb2⟩
        rcases hbo with ⟨h0, _⟩ | ⟨_, b, rfl, _, hlt, hrow⟩
        · rw [full_right hn h1 h6] at h0
          exact absurd rfl h0
        · rw [Int.toNat_natCast] at hrow ⊢
          refine ⟨⟨b, rfl, hlt, ?_⟩, hb2⟩
          have hc0 := hrow.cell (i := 0) (by omega)
          rw [List.length_map, hlen, full_first h1 h6 (n * h) (Nat.le_refl _), ceil_mul h1] at hc0
          exact hc0
      have HB : Hid (Below w.heap.size w wr) := hb
      have hnl : (fullB h (n * h)).length ≤ 360 := by omega
      clear hR hie hlen hle hbt hb
      generalize (fullB h (n * h)).length = fl at *
      go_wp2_with fail
      refine hwa.mono ?_
      clear hwa
      rintro e w5 ⟨rfl, hb5⟩
      have hby := HBY.out w5 hb5
      have HB5 : Hid (Below w.heap.size w w5) := HB.out.trans (hb5.mono HB.out.size)
      clear HBY HBT HB hb5
      go_wp2_with fail
      refine hby.mono ?_
      clear hby
      rintro e w6 ⟨⟨b, rfl, hlt, hcell⟩, hb6⟩
      have HB6 : Hid (Below w.heap.size w w6) := HB5.out.trans (hb6.mono HB5.out.size)
      clear HB5 hb6
      go_wp2
      go_ret
      exact ⟨by simp, HB6.out⟩

theorem benchFull_any (n h : Int) (w : World) : Calls Try.prog 4 #[.int .i64 n, .int .i64 h] w fun e w' => e = .returned (.bool true) ∧ Below w.heap.size w w' := by
  by_cases h1 : n < 0
  · go_enter Try.func4, Try.ntmps4
    go_wp2
    go_ret
    exact ⟨rfl, Below.refl _ _⟩
  by_cases h2 : 60 < n
  · go_enter Try.func4, Try.ntmps4
    go_wp2
    go_ret
    exact ⟨rfl, Below.refl _ _⟩
  by_cases h3 : h < 1
  · go_enter Try.func4, Try.ntmps4
    go_wp2
    go_ret
    exact ⟨rfl, Below.refl _ _⟩
  by_cases h4 : 6 < h
  · go_enter Try.func4, Try.ntmps4
    go_wp2
    go_ret
    exact ⟨rfl, Below.refl _ _⟩
  obtain ⟨m, rfl⟩ : ∃ m : Nat, n = m := ⟨n.toNat, by omega⟩
  obtain ⟨k, rfl⟩ : ∃ k : Nat, h = k := ⟨h.toNat, by omega⟩
  exact benchFull_in m k w (by omega) (by omega) (by omega)
end Go.Proofs.Ytilpjhhjlokfcaa
