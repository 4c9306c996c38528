/- The walk of HandOut. -/
import Derived.Test.YtiiaocjknpbenaaE
namespace Go.Proofs.Ytiiaocjknpbenaa
open Go.RowKit Go.Deep

/-- The numbers from a on, so many. -/
def ups (a n : Nat) : List Int := (List.range' a n).map (fun j : Nat => (j : Int))
theorem ups_length (a n : Nat) : (ups a n).length = n := by simp [ups]
theorem ups_snoc (a n : Nat) : ups a n ++ [((a + n : Nat) : Int)] = ups a (n + 1) := by simp [ups, List.range'_concat]
theorem ups_getD (a n k : Nat) (h : k < n) : (ups a n).getD k 0 = ((a + k : Nat) : Int) := by
  simp [ups, List.getD_eq_getElem?_getD, h]

theorem putO_small {room i : Nat} (hi : i ≤ room) : putO room ((i : Int) - 1) (ups 0 (i - 1)) = [] := by
  unfold putO
  rw [if_pos]
  rw [ups_length]
  omega
theorem putR_small {room i : Nat} (hi : i ≤ room) : putR room ((i : Int) - 1) (ups 0 (i - 1)) = ups 0 (i + 1 - 1) := by
  unfold putR
  by_cases h0 : i = 0
  · subst h0; rfl
  · rw [if_neg (by omega), ups_length, if_pos (by omega)]
    obtain ⟨j, rfl⟩ : ∃ j, i = j + 1 := ⟨i - 1, by omega⟩
    rw [Nat.add_sub_cancel, Nat.add_sub_cancel, ← ups_snoc]
    congr
    omega

theorem out_bad (room : Int) (w : World) (h : room < 1 ∨ 16 < room) :
    Calls Try.prog 4 #[.int .i64 room] w fun e w' => e = .returned (.bool true) ∧ Below w.heap.size w w' := by
  have hn := hNew_bad room w h
  unfold errV at hn
  by_cases h1 : room < 1
  · go_enter Try.func4, Try.ntmps4
    go_wp2_with (first | (go_at_call 5; refine hn.mono ?_; rintro e w' ⟨rfl, rfl⟩))
    go_ret
    exact ⟨rfl, Below.refl _ _⟩
  · have h2 : 16 < room := by omega
    go_enter Try.func4, Try.ntmps4
    go_wp2_with (first | (go_at_call 5; refine hn.mono ?_; rintro e w' ⟨rfl, rfl⟩))
    go_ret
    exact ⟨rfl, Below.refl _ _⟩

/-- Where the loop stands. -/
structure OutM (H R room B i : Nat) (w wr : World) : Prop where
  hand : Hd H R room ((i : Int) - 1) (ups 0 (i - 1)) wr
  below : Below B w wr
  bH : B ≤ H
  bR : B ≤ R
  size : B ≤ wr.heap.size
theorem OutM.to {H R room B i j : Nat} {w wr w' : World} {nr : Int} {xs : List Int} (h : OutM H R room B i w wr) (hh : Hd H R room nr xs w') (hk : Kh H R wr w') (e1 : nr = (j : Int) - 1) (e2 : xs = ups 0 (j - 1)) : OutM H R room B j w w' := by
  subst e1 e2
  exact ⟨hh, h.below.trans (hk.below h.bH h.bR h.size), h.bH, h.bR, Nat.le_trans h.size hk.size⟩

set_option maxRecDepth 100000 in
set_option maxHeartbeats 2000000 in
theorem out_in (room : Nat) (w : World) (h1 : 1 ≤ room) (h2 : room ≤ 16) :
    Calls Try.prog 4 #[.int .i64 room] w fun e w' => e = .returned (.bool true) ∧ Below w.heap.size w w' := by
  have hn := hNew_good room w h1 h2
  go_enter Try.func4, Try.ntmps4
  go_wp2_with (first | (go_at_call 5; refine hn.mono ?_; clear hn; rintro e w1 ⟨rfl, hr, hb, hs⟩))
  obtain ⟨H, hH⟩ : ∃ H, H = w.heap.size + 1 := ⟨_, rfl⟩
  obtain ⟨R, hR⟩ : ∃ R, R = w.heap.size := ⟨_, rfl⟩
  rw [← hH] at hr ⊢
  rw [← hR] at hr
  have HM : Hid (OutM H R room w.heap.size 0 w w1) := ⟨hr, hb, by omega, by omega, by omega⟩
  clear hr hb hs hR hH
  go_loopw [5] (fun s wr => ∃ i : Nat, i ≤ room + 1 ∧ s = .int .i64 i ∧ Hid (OutM H R room w.heap.size i w wr)) (fun s _ => room + 1 - (intOf s).toNat)
  case atStart => exact ⟨0, Nat.zero_le _, rfl, HM⟩
  case round =>
    clear HM
    obtain ⟨i, hi, rfl, hM⟩ := hrel
    by_cases hin : i ≤ room
    · have hp := Put_any H R room _ _ i wr hM.out.hand
      rw [putO_small hin, putR_small hin] at hp
      have hin' : (i : Int) ≤ (room : Int) := by omega
      go_wp2_with (first | (go_at_call 6; refine hp.mono ?_; clear hp; rintro e w2 ⟨⟨v, rfl, hv⟩, hh, hk⟩; obtain ⟨a, c, rfl, _⟩ := hv.shape; clear hv))
      go_roundw
      case measure => simp [intOf]; omega
      case rel => exact ⟨i + 1, by omega, by go_num, hM.out.to hh hk (by omega) rfl⟩
    · have hie : i = room + 1 := by omega
      subst hie
      have hin' : ¬ ((room + 1 : Nat) : Int) ≤ (room : Int) := by omega
      have hp := Put_any H R room _ _ (room + 1) wr hM.out.hand
      have hpo : putO room (((room + 1 : Nat) : Int) - 1) (ups 0 (room + 1 - 1)) = (ups 0 room).take ((room + 1) / 2) := by
        unfold putO
        rw [if_neg (by rw [ups_length]; omega), ups_length, Nat.add_sub_cancel]
      rw [hpo] at hp
      clear hpo
      have hol : ((ups 0 room).take ((room + 1) / 2)).length = (room + 1) / 2 := by simp [ups_length]; omega
      have HG : Hid (∀ k, k < (room + 1) / 2 → ((ups 0 room).take ((room + 1) / 2)).getD k 0 = (k : Int)) := fun k hk => by
        have := ups_getD 0 room k (by omega)
        rw [Nat.zero_add] at this
        rw [← this]
        simp [List.getD_eq_getElem?_getD, hk]
      generalize (ups 0 room).take ((room + 1) / 2) = o at *
      obtain ⟨n, hn⟩ : ∃ n, n = (room + 1) / 2 := ⟨_, rfl⟩
      rw [← hn] at hol HG
      have hq : ((room : Int) + 1).tdiv 2 = (n : Int) := by rw [Int.tdiv_eq_ediv_of_nonneg (by omega)]; omega
      have hq2 : ((room : Int) + 1) / 2 = (n : Int) := by omega
      have hn9 : n ≤ 8 := by omega
      have HO : Hid (o.length = n) := hol
      clear hn hol
      push_cast at hp
      go_wp2_with fail
      refine hp.mono ?_
      clear hp
      rintro e w2 ⟨⟨v, rfl, hv⟩, hh, hk⟩
      have HV : Hid (OutZ wr.heap.size w2 v o) := hv
      obtain ⟨a, c, rfl, _⟩ := hv.shape
      have HN := Near_any _ _ _ _ _ _ hh
      have HB : Hid (Below w.heap.size w w2) := hM.out.below.trans (hk.below hM.out.bH hM.out.bR hM.out.size)
      clear hv hh hk hM
      have HV2 : Hid (OutZ wr.heap.size w2 (.slice a n c) o) := by have := HV.out; rwa [HO.out] at this
      rw [HO.out]
      go_wp2
      go_loop [7] (fun s => ∃ k : Nat, k ≤ n ∧ s = .int .i64 k) (fun s => n - (intOf s).toNat)
      case atStart => exact ⟨0, Nat.zero_le _, rfl⟩
      case round =>
        obtain ⟨k, hk, rfl⟩ := hrel
        by_cases hkn : k < n
        · obtain ⟨b, rfl, hb1, hb2, hbc⟩ := HV2.out.at (by rw [HO.out]; exact hkn)
          rw [HG.out k hkn] at hbc
          have hkk : ((k : Int) != (k : Int)) = false := by simp
          go_wp2
          go_round
          case measure => simp [intOf]; omega
          case rel => exact ⟨k + 1, by omega, by go_num⟩
        · have hke : k = n := by omega
          subst hke
          go_wp2_with (first | (go_at_call 9; refine HN.mono ?_; clear HN; rintro e w3 ⟨rfl, rfl⟩))
          go_ret
          exact ⟨by simp, HB.out⟩

theorem out_any (room : Int) (w : World) : Calls Try.prog 4 #[.int .i64 room] w fun e w' => e = .returned (.bool true) ∧ Below w.heap.size w w' := by
  by_cases h : room < 1 ∨ 16 < room
  · exact out_bad room w h
  · obtain ⟨r, rfl⟩ : ∃ r : Nat, room = r := ⟨room.toNat, by omega⟩
    exact out_in r w (by omega) (by omega)
end Go.Proofs.Ytiiaocjknpbenaa
