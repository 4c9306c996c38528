/- The contracts of yardlaw4.chain and yardlaw4.beside. -/
import Derived.Test.YtbknbakbfblbiaaDoorJ
import Derived.Maps.AppendAt
namespace Go.Proofs.YtbknbakbfblbiaaDoor
open Go.RowKit Go.Deep


set_option maxRecDepth 100000 in
set_option maxHeartbeats 4000000 in
theorem chain_any (n : Nat) (work : Int) (w : World) (hn : n ≤ 1000) :
    Calls Tryd.prog 13 #[.int .i64 n, .int .i64 work] w fun e w' => ∃ v, e = .returned v ∧ OwnPlan w.heap.size w' v (chainTs work n) ∧ Below w.heap.size w w' := by
  obtain ⟨i37, hi37, hz0, hz1, hz2⟩ := info_parts Tryd.info26
  go_enter Tryd.func13, Tryd.ntmps13
  go_wp2
  go_loopw [5, 6] (fun s5 s6 wr => ∃ k : Nat, k ≤ n ∧ s6 = .int .i64 k ∧ Hid (OwnPlan w.heap.size wr s5 (chainTs work k)) ∧ Below w.heap.size w wr) (fun _ s6 _ => n - (intOf s6).toNat)
  case atStart => exact ⟨0, Nat.zero_le _, rfl, OwnPlan.nil _ _, Below.refl _ _⟩
  case round =>
    obtain ⟨k, hk, rfl, hp, hb⟩ := hrel
    by_cases hkn : k < n
    · have hlen := chainTs_length work k
      by_cases hk0 : k = 0
      · have hb2 : Below wr.heap.size wr ((wr.alloc (.cells #[.int .i64 work, .slice none 0 0] 26)).alloc (.cells #[.int .i64 work, .slice none 0 0] 26)) := ((Below.refl _ _).alloc (Nat.le_refl _) _).alloc (by simp) _
        obtain ⟨xs, ho, hx⟩ := hp.out.later hb2
        have HX : Hid (∀ j, j < (chainTs work k).length → xs[j * 2]? = some (.int .i64 ((chainTs work k).getD j (0, [])).1) ∧ ∃ nv, xs[j * 2 + 1]? = some nv ∧ NeedsBlk ((wr.alloc (.cells #[.int .i64 work, .slice none 0 0] 26)).alloc (.cells #[.int .i64 work, .slice none 0 0] 26)) nv (needsOf (chainTs work k) j)) := hx
        have HL : Hid ((chainTs work k).length = k) := hlen
        have hkz : ¬ (0 : Int) < (k : Int) := by omega
        have HK0 : Hid (k = 0) := hk0
        clear hx hlen hp hk0
        go_wp2_with (at_builtin; refine wpList_append_own _ rfl (.tmp 21) (.tmp 23) 23 rfl w.heap.size 26 i37 (.agg #[.int .i64 0, .slice none 0 0]) 2 32 Tryd.underlying23 hi37 hz0 hz1 hz2 rfl (by decide) _ (chainTs work k).length xs rfl ho ⟨wr.heap.size + 1, 0, none⟩ 1 1 [.int .i64 work, .slice none 0 0] rfl rfl ?c1 ?c2 ?c3 ?c4 ?c5 ?_)
        case c2 => exact ⟨rfl, rfl⟩
        case c3 => rw [HL.out]; unfold maxLen; omega
        case c4 => rw [HL.out]; omega
        case c5 => have := hb.size; omega
        intro v' w1 hown' hgrow _
        have hnew : Hid (OwnPlan w.heap.size w1 v' (chainTs work (k + 1))) := by
          have := OwnPlan.append ho HX.out (nv := .slice none 0 0) (zs := []) (wk := work) (Or.inl ⟨rfl, rfl⟩) hown' hgrow
          unfold chainTs
          rw [if_pos HK0.out]; exact this
        have hb3 : Below w.heap.size w w1 := (hb.trans (hb2.mono hb.size)).grown hgrow (by have := hb.size; simp; omega) (fun j e => (ho.lt j e).1)
        clear hown' hgrow ho hb2 HX
        go_wp2
        go_roundw
        case rel => exact ⟨k + 1, by omega, by go_num, hnew, hb3⟩
        case measure => simp [intOf]; omega
      · have hk1 : (0 : Int) < (k : Int) := by omega
        have hb2 : Below wr.heap.size wr (((wr.alloc (.cells #[.int .i64 work, .slice (some ⟨wr.heap.size + 1, 0, none⟩) 1 1] 26)).alloc (.cells #[.int .i64 ((k : Int) - 1)] 3)).alloc (.cells #[.int .i64 work, .slice (some ⟨wr.heap.size + 1, 0, none⟩) 1 1] 26)) :=
          (((Below.refl _ _).alloc (Nat.le_refl _) _).alloc (by simp) _).alloc (by simp; omega) _
        obtain ⟨xs, ho, hx⟩ := hp.out.later hb2
        have hblk : (((wr.alloc (.cells #[.int .i64 work, .slice (some ⟨wr.heap.size + 1, 0, none⟩) 1 1] 26)).alloc (.cells #[.int .i64 ((k : Int) - 1)] 3)).alloc (.cells #[.int .i64 work, .slice (some ⟨wr.heap.size + 1, 0, none⟩) 1 1] 26)).heap[wr.heap.size + 1]? = some (.cells #[.int .i64 ((k : Int) - 1)] 3 (0, 0)) := by
          rw [blk_alloc_lt _ _ _ (by simp)]
          have := blk_alloc_new (wr.alloc (.cells #[.int .i64 work, .slice (some ⟨wr.heap.size + 1, 0, none⟩) 1 1] 26)) (.cells #[.int .i64 ((k : Int) - 1)] 3)
          rwa [nblk_alloc] at this
        generalize hWW : (((wr.alloc (.cells #[.int .i64 work, .slice (some ⟨wr.heap.size + 1, 0, none⟩) 1 1] 26)).alloc (.cells #[.int .i64 ((k : Int) - 1)] 3)).alloc (.cells #[.int .i64 work, .slice (some ⟨wr.heap.size + 1, 0, none⟩) 1 1] 26)) = WW at hx hblk
        have HX : Hid (∀ j, j < (chainTs work k).length → xs[j * 2]? = some (.int .i64 ((chainTs work k).getD j (0, [])).1) ∧ ∃ nv, xs[j * 2 + 1]? = some nv ∧ NeedsBlk WW nv (needsOf (chainTs work k) j)) := hx
        have HB : Hid (WW.heap[wr.heap.size + 1]? = some (.cells #[.int .i64 ((k : Int) - 1)] 3 (0, 0))) := hblk
        have HW : Hid ((((wr.alloc (.cells #[.int .i64 work, .slice (some ⟨wr.heap.size + 1, 0, none⟩) 1 1] 26)).alloc (.cells #[.int .i64 ((k : Int) - 1)] 3)).alloc (.cells #[.int .i64 work, .slice (some ⟨wr.heap.size + 1, 0, none⟩) 1 1] 26)) = WW) := hWW
        have HL : Hid ((chainTs work k).length = k) := hlen
        clear hx hlen hp hblk hWW
        go_wp2_with (at_builtin; refine wpList_append_own _ rfl (.tmp 21) (.tmp 23) 23 rfl w.heap.size 26 i37 (.agg #[.int .i64 0, .slice none 0 0]) 2 32 Tryd.underlying23 hi37 hz0 hz1 hz2 rfl (by decide) _ (chainTs work k).length xs rfl ho ⟨wr.heap.size + 1 + 1, 0, none⟩ 1 1 [.int .i64 work, .slice (some ⟨wr.heap.size + 1, 0, none⟩) 1 1] rfl rfl ?d1 ?d2 ?d3 ?d4 ?d5 ?_)
        case d1 =>
          have h2 := cell_two_new ((wr.alloc (.cells #[.int .i64 work, .slice (some ⟨wr.heap.size + 1, 0, none⟩) 1 1] 26)).alloc (.cells #[.int .i64 ((k : Int) - 1)] 3)) (.int .i64 work) (.slice (some ⟨wr.heap.size + 1, 0, none⟩) 1 1) 26
          rw [nblk_alloc, nblk_alloc] at h2
          exact h2
        case d2 => intro u hu; simp at hu; rcases hu with rfl | rfl <;> rfl
        case d3 => rw [HL.out]; unfold maxLen; omega
        case d4 => rw [HL.out]; omega
        case d5 => have := hb.size; simp; omega
        intro v' w1 hown' hgrow _
        have hb3 : Below w.heap.size w w1 := (hb.trans (hb2.mono hb.size)).grown hgrow (by have := hb.size; simp; omega) (fun j e => (ho.lt j e).1)
        rw [HW.out] at ho hgrow
        have hnew : Hid (OwnPlan w.heap.size w1 v' (chainTs work (k + 1))) := by
          have := OwnPlan.append ho HX.out (nv := .slice (some ⟨wr.heap.size + 1, 0, none⟩) 1 1) (zs := [(k : Int) - 1]) (wk := work) (Or.inr ⟨wr.heap.size + 1, rfl, HB.out⟩) hown' hgrow
          unfold chainTs
          rw [if_neg hk0]; exact this
        clear hown' hgrow ho hb2 HX HW HB
        go_wp2
        go_roundw
        case rel => exact ⟨k + 1, by omega, by go_num, hnew, hb3⟩
        case measure => simp [intOf]; omega
    · go_wp2
      go_ret
      have : k = n := by omega
      subst this
      exact ⟨_, rfl, hp.out, hb⟩

/-- So many tasks, none of which needs another one. -/
def besideTs (work : Int) : Nat → List (Int × List Int)
  | 0 => []
  | n + 1 => besideTs work n ++ [(work, [])]
theorem besideTs_length (work : Int) (n : Nat) : (besideTs work n).length = n := by
  induction n with
  | zero => rfl
  | succ n ih => simp [besideTs, ih]

end Go.Proofs.YtbknbakbfblbiaaDoor
