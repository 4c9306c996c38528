/- The walk of GroupsLine. -/
import Derived.Test.YtkbcjhmcbfppkaaDoorGrpe
import Derived.Test.YtkbcjhmcbfppkaaDoorI
namespace Go.Proofs.YtkbcjhmcbfppkaaDoor
open Go.RowKit Go.Deep

/-- So many groups, each a part of the one ahead. -/
def lineG : Nat → List Grp
  | 0 => []
  | n + 1 => lineG n ++ [((n : Int) - 1, false)]
theorem lineG_length (n : Nat) : (lineG n).length = n := by
  induction n with
  | zero => rfl
  | succ n ih => simp [lineG, ih]
theorem lineG_at (n k : Nat) (hk : k < n) : (lineG n).getD k (-1, false) = ((k : Int) - 1, false) := by
  induction n with
  | zero => omega
  | succ n ih =>
    unfold lineG
    by_cases e : k = n
    · subst e
      rw [List.getD_eq_getElem?_getD, List.getElem?_append_right (by rw [lineG_length]; exact Nat.le_refl _), lineG_length, Nat.sub_self]
      rfl
    · rw [List.getD_eq_getElem?_getD, List.getElem?_append_left (by rw [lineG_length]; omega), ← List.getD_eq_getElem?_getD]
      exact ih (by omega)
theorem lineG_par (n k : Nat) (hk : k < (lineG n).length) : parG (lineG n) k = (k : Int) - 1 := by
  rw [lineG_length] at hk
  unfold parG
  rw [lineG_at n k hk]
theorem lineG_can (n k : Nat) (hk : k < (lineG n).length) : canG (lineG n) k = false := by
  rw [lineG_length] at hk
  unfold canG
  rw [lineG_at n k hk]
theorem lineG_right (n : Nat) : RightG (lineG n) := fun k hk => by rw [lineG_par n k hk]; omega
/-- Where none is cancelled none is gone. -/
theorem none_gone {gs : List Grp} (hr : RightG gs) (hc : ∀ k, k < gs.length → canG gs k = false) : ∀ k, k < gs.length → goneG gs k = false := by
  intro k
  induction k using Nat.strongRecOn with
  | ind k ih =>
    intro hk
    have h1 := hr k hk
    rw [goneG_eq hr hk, hc k hk]
    by_cases hp : parG gs k < 0
    · rw [if_pos hp]; rfl
    · rw [if_neg hp, ih _ (by omega) (by omega)]; rfl
theorem line_gone (n i k : Nat) (hi : i < n) (hk : k < n) : goneG (setC (lineG n) i) k = decide (i ≤ k) := by
  rw [gone_cancel (lineG_right n) (by rw [lineG_length]; exact hi) k (by rw [lineG_length]; exact hk),
    none_gone (lineG_right n) (lineG_can n) k (by rw [lineG_length]; exact hk), line_part (lineG_par n) k (by rw [lineG_length]; exact hk)]
  rfl
theorem cells_two (w : World) (x y : Value) (t : TypeId) : ∀ j u, [x, y][j]? = some u → (w.alloc (.cells #[x, y] t)).cell? ((⟨w.heap.size, 0, none⟩ : Addr).add j) = some u := by
  intro j u hj
  rw [add_lit, Nat.zero_add]
  match j, hj with
  | 0, hj => simp at hj; subst hj; simp
  | 1, hj => simp at hj; subst hj; simp

set_option maxRecDepth 100000 in
set_option maxHeartbeats 2000000 in
theorem groupsLine_in (n : Nat) (at_ : Int) (w : World) (ht : Typed w) (h1 : 1 ≤ n) (h12 : n ≤ 12) : Calls Tryd.prog 4 #[.int .i64 n, .int .i64 at_] w fun e w' => e = .returned (.bool true) ∧ Below w.heap.size w w' := by
  have e1 : ¬ (n : Int) < 1 := by omega
  have e2 : ¬ (12 : Int) < (n : Int) := by omega
  have HT : Hid (Typed w) := ht
  clear ht
  obtain ⟨iG, hiG, hz0, hz1, hz2⟩ := info_parts Tryd.info33
  go_enter Tryd.func4, Tryd.ntmps4
  go_wp2
  go_loopw [5, 6] (fun s5 s6 wr => ∃ k : Nat, k ≤ n ∧ s6 = .int .i64 k ∧ (∃ a c, s5 = .slice a k c) ∧ Hid (RowG w.heap.size wr s5 (lineG k)) ∧ Below w.heap.size w wr) (fun _ s6 _ => n - (intOf s6).toNat)
  case atStart => exact ⟨0, Nat.zero_le _, rfl, ⟨none, 0, rfl⟩, World.ownsRow_nil _ _ _ _, Below.refl _ _⟩
  case round =>
    obtain ⟨k, hk, rfl, ⟨sa, sc, rfl⟩, hrow, hb⟩ := hrel
    by_cases hkn : k < n
    · have hA : (wr.alloc (.cells #[.int .i64 ((k : Int) - 1), .bool false] 33)).ownsRow w.heap.size 33 2 (.slice sa k sc) k (flatG (lineG k)) := by
        have := hrow.out.alloc (.cells #[.int .i64 ((k : Int) - 1), .bool false] 33)
        rw [lineG_length] at this
        exact this
      have hbs := hb.size
      go_wp2_with (at_builtin; refine wpList_append_own _ rfl (.tmp 23) (.tmp 27) 22 rfl w.heap.size 33 iG (.agg #[.int .i64 0, .bool false]) 2 16 Tryd.underlying22 hiG hz0 hz1 hz2 rfl (by decide) _ k (flatG (lineG k)) rfl hA ⟨wr.heap.size, 0, none⟩ 1 1 [.int .i64 ((k : Int) - 1), .bool false] rfl rfl (cells_two _ _ _ _) ?c2 ?c3 ?c4 ?c5 ?_)
      case c2 => intro u hu; simp at hu; rcases hu with rfl | rfl <;> rfl
      case c3 => unfold maxLen; omega
      case c4 => omega
      case c5 => simp; omega
      intro v' w1 hown' hgrow _
      have hB1 : Below w.heap.size w w1 := (hb.alloc hbs _).grown hgrow (by simp; omega) (fun j e => (World.ownsRow.lt hA j e).1)
      have hR1 : Hid (RowG w.heap.size w1 v' (lineG (k + 1))) := by
        show RowG _ _ _ _
        unfold RowG
        rw [lineG_length]
        unfold lineG
        rw [flatG_append]
        exact hown'
      obtain ⟨va, vc, rfl⟩ : ∃ va vc, v' = .slice va (k + 1) vc := by
        rcases hown'.2 with ⟨_, h0⟩ | ⟨g, cap, cur, hv, _⟩
        · omega
        · exact ⟨_, _, hv⟩
      clear hown' hgrow hA hrow hb
      go_wp2
      go_roundw
      case rel => exact ⟨k + 1, by omega, by go_num, ⟨_, _, rfl⟩, hR1, hB1⟩
      case measure => simp [intOf]; omega
    · obtain rfl : k = n := by omega
      have hG : Hid (GrpsAt wr (.slice sa k sc) (lineG k)) := hrow.out.grps (by rw [lineG_length]; omega)
      have hca := gCancel_any _ _ at_ wr hG.out
      have hE : Hid (grpErr (lineG k) = 0) := right_grpErr (by rw [lineG_length]; omega) (lineG_right k)
      clear hrow hG
      go_wp2_with fail
      refine hca.mono ?_
      clear hca
      rintro e w2 ⟨hco, hb2⟩
      have hB2 : Below w.heap.size w w2 := hb.trans (hb2.mono hb.size)
      clear hb hb2
      unfold CancelOut at hco
      by_cases hin : 0 ≤ at_ ∧ at_ < (k : Int)
      · obtain ⟨i, rfl⟩ := Int.eq_ofNat_of_zero_le hin.1
        have hpe : placeErr (lineG k) (i : Int) = 0 := placeErr_in hE.out (by rw [lineG_length]; unfold inRange; simp; omega)
        rw [hpe] at hco
        simp only [ne_eq, not_true_eq_false, false_and, true_and, false_or] at hco
        obtain ⟨g, cap, rfl, hrow⟩ := hco
        rw [Int.toNat_natCast] at hrow
        rw [lineG_length] at hrow ⊢
        have hik : i < k := by omega
        have HG : Hid (GrpsAt w2 (.slice (some ⟨g, 0, none⟩) k cap) (setC (lineG k) i)) := hrow.grps (by rw [setC_length, lineG_length]; omega)
        have HP : Hid (∀ j : Nat, j < k → placeErr (setC (lineG k) i) (j : Int) = 0) := fun j hj => placeErr_in (right_grpErr (by rw [setC_length, lineG_length]; omega) ((lineG_right k).set (by rw [lineG_length]; exact hik))) (by rw [setC_length, lineG_length]; unfold inRange; simp; omega)
        have dki : decide (k ≤ i) = false := decide_eq_false (by omega)
        have di0 : decide ((i : Int) < 0) = false := decide_eq_false (by omega)
        clear hrow hpe hE hin
        go_wp2
        go_loopw [9] (fun s9 wr => ∃ j : Nat, j ≤ k ∧ s9 = .int .i64 j ∧ Hid (GrpsAt wr (.slice (some ⟨g, 0, none⟩) k cap) (setC (lineG k) i)) ∧ Below w.heap.size w wr) (fun s9 _ => k - (intOf s9).toNat)
        case atStart => exact ⟨0, Nat.zero_le _, rfl, HG, hB2⟩
        case round =>
          clear HG hB2
          obtain ⟨j, hj, rfl, hg, hb⟩ := hrel
          by_cases hjk : j < k
          · have hgo := gGone_any _ _ (j : Int) wr hg.out
            have hpj := HP.out j hjk
            have hlg := line_gone k i j hik hjk
            unfold GoneOut at hgo
            rw [hpj, Int.toNat_natCast, hlg] at hgo
            simp only [ne_eq, not_true_eq_false, false_and, true_and, false_or] at hgo
            have HG : Hid (GrpsAt wr (.slice (some ⟨g, 0, none⟩) k cap) (setC (lineG k) i)) := hg
            clear hg hpj hlg
            by_cases hij : i ≤ j
            · rw [show decide (i ≤ j) = true from decide_eq_true hij] at hgo
              go_wp2_with (go_at_call 9; refine hgo.mono ?_; rintro e w3 ⟨rfl, hb3⟩)
              go_roundw
              case rel => exact ⟨j + 1, by omega, by go_num, HG.out.later hb3, hb.trans (hb3.mono hb.size)⟩
              case measure => simp [intOf]; omega
            · rw [show decide (i ≤ j) = false from decide_eq_false hij] at hgo
              go_wp2_with (go_at_call 9; refine hgo.mono ?_; rintro e w3 ⟨rfl, hb3⟩)
              go_roundw
              case rel => exact ⟨j + 1, by omega, by go_num, HG.out.later hb3, hb.trans (hb3.mono hb.size)⟩
              case measure => simp [intOf]; omega
          · clear hg
            go_wp2
            go_ret
            exact ⟨rfl, hb⟩
      · have hpe : placeErr (lineG k) at_ = 1 := placeErr_out hE.out (by rw [lineG_length]; unfold inRange; simp; omega)
        rw [hpe] at hco
        simp only [ne_eq, Int.one_ne_zero, not_false_eq_true, true_and, false_and, or_false] at hco
        subst hco
        have her := error_any 1 1 w2 (HT.out.later hB2)
        rw [errV_some (by decide)] at her ⊢
        clear hpe hE HT
        have hout : at_ < 0 ∨ (k : Int) ≤ at_ := by omega
        by_cases h0 : at_ < 0
        · go_wp2_with (go_at_call 6; refine her.mono ?_; rintro e w3 ⟨rfl, hb3⟩)
          go_ret
          exact ⟨rfl, hB2.trans (hb3.mono hB2.size)⟩
        · have h2 : ¬ at_ < (k : Int) := by omega
          go_wp2_with (go_at_call 6; refine her.mono ?_; rintro e w3 ⟨rfl, hb3⟩)
          go_ret
          exact ⟨rfl, hB2.trans (hb3.mono hB2.size)⟩

theorem groupsLine_any (n at_ : Int) (w : World) (ht : Typed w) : Calls Tryd.prog 4 #[.int .i64 n, .int .i64 at_] w fun e w' => e = .returned (.bool true) ∧ Below w.heap.size w w' := by
  by_cases h1 : n < 1
  · clear ht
    go_enter Tryd.func4, Tryd.ntmps4
    go_wp2
    go_ret
    exact ⟨rfl, Below.refl _ _⟩
  · by_cases h2 : 12 < n
    · clear ht
      go_enter Tryd.func4, Tryd.ntmps4
      go_wp2
      go_ret
      exact ⟨rfl, Below.refl _ _⟩
    · obtain ⟨k, rfl⟩ := Int.eq_ofNat_of_zero_le (show 0 ≤ n by omega)
      exact groupsLine_in k at_ w ht (by omega) (by omega)
end Go.Proofs.YtkbcjhmcbfppkaaDoor
