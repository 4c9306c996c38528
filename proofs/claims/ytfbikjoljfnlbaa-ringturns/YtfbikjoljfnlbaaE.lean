/- The walk of RingTurns. -/
import Derived.Test.YtfbikjoljfnlbaaD
namespace Go.Proofs.Ytfbikjoljfnlbaa
open Go.RowKit Go.Deep

/-- The numbers from a on, so many. -/
def ups (a n : Nat) : List Int := (List.range' a n).map (fun j : Nat => (j : Int))
theorem ups_length (a n : Nat) : (ups a n).length = n := by simp [ups]
theorem ups_snoc (a n : Nat) : ups a n ++ [((a + n : Nat) : Int)] = ups a (n + 1) := by simp [ups, List.range'_concat]
theorem ups_cons (a n : Nat) : ups a (n + 1) = (a : Int) :: ups (a + 1) n := by simp [ups, List.range'_succ]

theorem turns_bad (room n : Int) (w : World) (h : room < 1 ∨ 16 < room) :
    Calls Try.prog 4 #[.int .i64 room, .int .i64 n] w fun e w' => e = .returned (.bool true) ∧ Below w.heap.size w w' := by
  have hn := New_bad room w h
  by_cases h1 : room < 1
  · go_enter Try.func4, Try.ntmps4
    go_wp2_with (first | (go_at_call 5; refine hn.mono ?_; rintro e w' ⟨rfl, rfl⟩))
    go_ret
    exact ⟨rfl, Below.refl _ _⟩
  · have h2 : 16 < room := by omega
    go_enter Try.func4, Try.ntmps4
    go_wp2_with (first | (go_at_call 5; refine hn.mono ?_; rintro e w' ⟨rfl, rfl⟩))
    go_ret
    exact ⟨rfl, Below.refl _ _⟩
theorem turns_out (room : Nat) (n : Int) (w : World) (h1 : 1 ≤ room) (h2 : room ≤ 16) (h : n < 0 ∨ 100 < n) :
    Calls Try.prog 4 #[.int .i64 room, .int .i64 n] w fun e w' => e = .returned (.bool true) ∧ Below w.heap.size w w' := by
  have hn := New_good room w h1 h2
  by_cases h3 : n < 0
  · go_enter Try.func4, Try.ntmps4
    go_wp2_with (first | (go_at_call 5; refine hn.mono ?_; rintro e w' ⟨rfl, hr, hb, hs⟩))
    go_ret
    exact ⟨rfl, hb⟩
  · have h4 : 100 < n := by omega
    go_enter Try.func4, Try.ntmps4
    go_wp2_with (first | (go_at_call 5; refine hn.mono ?_; rintro e w' ⟨rfl, hr, hb, hs⟩))
    go_ret
    exact ⟨rfl, hb⟩

/-- Where the loop stands. -/
structure TurnM (R room i m : Nat) (w1 wr : World) : Prop where
  ring : Rg R room (ups (i - m) m) wr
  kept : Kr R w1 wr
  mi : m = min i (room - 1)

set_option maxRecDepth 100000 in
set_option maxHeartbeats 2000000 in
theorem turns_in (room n : Nat) (w : World) (h1 : 1 ≤ room) (h2 : room ≤ 16) (h : n ≤ 100) :
    Calls Try.prog 4 #[.int .i64 room, .int .i64 n] w fun e w' => e = .returned (.bool true) ∧ Below w.heap.size w w' := by
  have hn := New_good room w h1 h2
  have g1 : ¬ (n : Int) < 0 := by omega
  have g2 : ¬ 100 < (n : Int) := by omega
  go_enter Try.func4, Try.ntmps4
  go_wp2_with (first | (go_at_call 5; refine hn.mono ?_; clear hn; rintro e w1 ⟨rfl, hr, hb, hs⟩))
  obtain ⟨R, hR⟩ : ∃ R, R = w.heap.size := ⟨_, rfl⟩
  rw [← hR] at hr ⊢
  have HM : Hid (TurnM R room 0 0 w1 w1) := ⟨hr, Kr.refl _ _, by omega⟩
  have HB : Hid (Below w.heap.size w w1 ∧ w1.heap.size = w.heap.size + 1 ∧ R = w.heap.size) := ⟨hb, hs, hR⟩
  clear hr hb hs hR
  go_loopw [7] (fun s wr => ∃ i m : Nat, i ≤ n ∧ s = .int .i64 i ∧ Hid (TurnM R room i m w1 wr)) (fun s _ => n - (intOf s).toNat)
  case atStart => exact ⟨0, 0, Nat.zero_le _, rfl, HM⟩
  case round =>
    clear HM
    obtain ⟨i, m, hi, rfl, hM⟩ := hrel
    have hmi := hM.out.mi
    by_cases hin : i < n
    · have hp := Push_one R room (ups (i - m) m) (i : Int) wr hM.out.ring (by rw [ups_length]; omega)
      have hpe : ups (i - m) m ++ [(i : Int)] = ups (i - m) (m + 1) := by
        rw [← ups_snoc]; congr; omega
      rw [hpe] at hp
      clear hpe
      by_cases hg : room - 1 ≤ i
      · have hge : (room : Int) - 1 ≤ (i : Int) := by omega
        have hx : ((i - m : Nat) : Int) = (i : Int) - (room : Int) + 1 := by omega
        go_wp2_with (first | (go_at_call 6; refine hp.mono ?_; clear hp; rintro e w2 ⟨rfl, hr2, hk2⟩; rw [ups_cons, hx] at hr2; have hst := Steal_one _ _ _ _ _ hr2; clear hr2) | (go_at_call 7; refine hst.mono ?_; clear hst; rintro e w3 ⟨rfl, hr3, hk3⟩))
        go_roundw
        case measure => simp [intOf]; omega
        case rel => exact ⟨i + 1, m, by omega, by go_num, ⟨by rw [show i + 1 - m = i - m + 1 by omega]; exact hr3, (hM.out.kept.trans hk2).trans hk3, by omega⟩⟩
      · have hge : ¬ (room : Int) - 1 ≤ (i : Int) := by omega
        go_wp2_with (first | (go_at_call 6; refine hp.mono ?_; clear hp; rintro e w2 ⟨rfl, hr2, hk2⟩))
        go_roundw
        case measure => simp [intOf]; omega
        case rel => exact ⟨i + 1, m + 1, by omega, by go_num, ⟨by rw [show i + 1 - (m + 1) = i - m by omega]; exact hr2, hM.out.kept.trans hk2, by omega⟩⟩
    · have hie : i = n := by omega
      subst hie
      have hl := Len_any R room _ wr hM.out.ring
      have ha := All_any R room _ wr hM.out.ring
      rw [ups_length] at hl
      have HE : Hid (Below w.heap.size w wr) := by
        have := hM.out.kept.below (B := w.heap.size) (by have := HB.out.2.2; omega) (by have := HB.out.2.1; omega)
        exact HB.out.1.trans this
      by_cases hg : room - 1 < i
      · have hg1 : (room : Int) - 1 < (i : Int) := by omega
        have hme : (m : Int) = (room : Int) - 1 := by omega
        go_wp2_with (first | (go_at_call 9; refine hl.mono ?_; clear hl; rintro e w2 ⟨rfl, rfl⟩) | (go_at_call 11; refine ha.mono ?_; clear ha; rintro e w3 ⟨⟨v, rfl, b, c, rfl, hz⟩, hr3, hk3⟩; rw [ups_length]))
        go_ret
        exact ⟨by simp, HE.out.trans (hk3.below (by have := HB.out.2.2; omega) (HE.out.size))⟩
      · have hg1 : ¬ (room : Int) - 1 < (i : Int) := by omega
        have hme : (m : Int) = (i : Int) := by omega
        go_wp2_with (first | (go_at_call 9; refine hl.mono ?_; clear hl; rintro e w2 ⟨rfl, rfl⟩) | (go_at_call 11; refine ha.mono ?_; clear ha; rintro e w3 ⟨⟨v, rfl, b, c, rfl, hz⟩, hr3, hk3⟩; rw [ups_length]))
        go_ret
        exact ⟨by simp, HE.out.trans (hk3.below (by have := HB.out.2.2; omega) (HE.out.size))⟩

theorem turns_any (room n : Int) (w : World) : Calls Try.prog 4 #[.int .i64 room, .int .i64 n] w fun e w' => e = .returned (.bool true) ∧ Below w.heap.size w w' := by
  by_cases h : room < 1 ∨ 16 < room
  · exact turns_bad room n w h
  · obtain ⟨r, rfl⟩ : ∃ r : Nat, room = r := ⟨room.toNat, by omega⟩
    by_cases hn : n < 0 ∨ 100 < n
    · exact turns_out r n w (by omega) (by omega) hn
    · obtain ⟨k, rfl⟩ : ∃ k : Nat, n = k := ⟨n.toNat, by omega⟩
      exact turns_in r k w (by omega) (by omega) (by omega)
end Go.Proofs.Ytfbikjoljfnlbaa
