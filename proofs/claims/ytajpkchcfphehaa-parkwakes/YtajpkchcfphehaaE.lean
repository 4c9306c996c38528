/- Hands that fall asleep from the last one on; what a law has between two calls; the walk of ParkAll. -/
import Derived.Test.YtajpkchcfphehaaD
namespace Go.Proofs.Ytajpkchcfphehaa
open Go.RowKit Go.Deep

/-- Memory between two calls: a park of which those of xs sleep. -/
def PM (S hands B : Nat) (xs : List Int) (w wr : World) : Prop := B ≤ S ∧ Below B w wr ∧ ∃ v, Pk S hands xs v wr
theorem PM.later {S hands B : Nat} {xs : List Int} {w wr w' : World} (h : PM S hands B xs w wr) (hb : Below wr.heap.size wr w') : PM S hands B xs w w' := by
  obtain ⟨h1, h2, v, h3⟩ := h
  exact ⟨h1, h2.trans (hb.mono (by have := h3.lt; omega)), v, h3.later hb⟩
theorem PM.next {S hands B : Nat} {xs ys : List Int} {w wr w' : World} {v v' : Value} (h : PM S hands B xs w wr) (hs : Pk S hands xs v wr) (hs' : Pk S hands ys v' w') (hk : Ks S v.ownBlock wr w') : PM S hands B ys w w' := by
  obtain ⟨h1, h2, _⟩ := h
  exact ⟨h1, h2.trans (hk.below h1 (fun j e => by have := (hs.row.low e).1; omega) (by have := hs.lt; omega)), v', hs'⟩

/-- From the last hand on, as many. -/
def dn (h k : Nat) : List Int := (List.range k).map (fun j : Nat => (h : Int) - 1 - j)
theorem dn_length (h k : Nat) : (dn h k).length = k := by simp [dn]
theorem dn_succ (h k : Nat) : dn h (k + 1) = dn h k ++ [(h : Int) - 1 - k] := by simp [dn, List.range_succ]
theorem dn_get {h k j : Nat} (hj : j < k) : (dn h k).getD j 0 = (h : Int) - 1 - j := by simp [dn, List.getD_eq_getElem?_getD, hj]
theorem dn_mem {h k : Nat} {x : Int} (hx : x ∈ dn h k) : (h : Int) - 1 - k < x := by
  obtain ⟨j, hj, rfl⟩ := List.mem_map.1 hx
  have := List.mem_range.1 hj
  omega

theorem all_bad (hands : Int) (w : World) (h : hands < 1 ∨ 6 < hands) :
    Calls Try.prog 4 #[.int .i64 hands] w fun e w' => e = .returned (.bool true) ∧ Below w.heap.size w w' := by
  have hn := New_bad hands w h
  unfold errV at hn
  by_cases h1 : hands < 1
  · go_enter Try.func4, Try.ntmps4
    go_wp2_with (first | (go_at_call 5; refine hn.mono ?_; clear hn; rintro e w ⟨rfl, rfl⟩))
    go_ret
    exact ⟨rfl, Below.refl _ _⟩
  · have h2 : 6 < hands := by omega
    go_enter Try.func4, Try.ntmps4
    go_wp2_with (first | (go_at_call 5; refine hn.mono ?_; clear hn; rintro e w ⟨rfl, rfl⟩))
    go_ret
    exact ⟨rfl, Below.refl _ _⟩

set_option maxRecDepth 100000 in
set_option maxHeartbeats 2000000 in
theorem all_in (hands : Nat) (w : World) (h1 : 1 ≤ hands) (h2 : hands ≤ 6) :
    Calls Try.prog 4 #[.int .i64 hands] w fun e w' => e = .returned (.bool true) ∧ Below w.heap.size w w' := by
  have hn := New_good hands w h1 h2
  go_enter Try.func4, Try.ntmps4
  go_wp2_with fail
  refine hn.mono ?_; clear hn; rintro e w1 ⟨rfl, hs1, hb1⟩
  obtain ⟨S, hS⟩ : ∃ S, S = w.heap.size := ⟨_, rfl⟩
  have HM : Hid (PM S hands w.heap.size (dn hands 0) w w1) := ⟨by omega, hb1, _, by rw [hS]; exact hs1⟩
  rw [← hS]
  clear hS hs1 hb1
  go_wp2
  go_loopw [5] (fun s5 wr => ∃ (k : Nat) (z : Int), k ≤ hands ∧ s5 = .int .i64 z ∧ Hid (z = (hands : Int) - 1 - k) ∧ -1 ≤ z ∧ z ≤ 5 ∧ Hid (PM S hands w.heap.size (dn hands k) w wr)) (fun s5 _ => (intOf s5 + 1).toNat)
  case atStart => exact ⟨0, (hands : Int) - 1, by omega, by go_num, by show _ = _; omega, by omega, by omega, HM⟩
  case round =>
    clear HM
    obtain ⟨k, z, hk, rfl, HZ, hz0, hz5, hM⟩ := hrel
    by_cases hz : 0 ≤ z
    · obtain ⟨-, -, v, hp⟩ := hM.out
      have hz' := HZ.out
      have hsl := Sleep_good S hands (dn hands k) v z wr hp hz (by omega) (fun hx => by have := dn_mem hx; omega)
      have HP : Hid (Pk S hands (dn hands k) v wr) := hp
      clear hp hz'
      go_wp2_with (first | (go_at_call 6; refine hsl.mono ?_; clear hsl; rintro e w3 ⟨rfl, v3, hp3, hk3, -⟩))
      have hM3 : Hid (PM S hands w.heap.size (dn hands (k + 1)) w w3) := by
        rw [HZ.out, ← dn_succ] at hp3
        exact hM.out.next HP.out hp3 hk3
      go_roundw
      case rel => exact ⟨k + 1, z - 1, by have := HZ.out; omega, by go_num, by have := HZ.out; show _ = _; omega, by omega, by omega, hM3⟩
      case measure => simp [intOf]; omega
    · have hkh : k = hands := by have := HZ.out; omega
      subst hkh
      obtain ⟨-, -, v, hp⟩ := hM.out
      have hwk := Wake_good S k 100 (dn k k) v wr hp
      have HP : Hid (Pk S k (dn k k) v wr) := hp
      rw [List.take_of_length_le (by rw [dn_length]; omega), List.drop_eq_nil_of_le (by rw [dn_length]; omega)] at hwk
      clear hp
      have g1 : ((k : Int) != (k : Int)) = false := by simp
      go_wp2_with (first | (go_at_call 7; refine hwk.mono ?_; clear hwk; rintro e w3 ⟨lv, v3, rfl, hl3, hp3, hk3, -⟩; have HL : Hid (RowI wr.heap.size w3 lv (dn k k)) := hl3; obtain ⟨la, lc, rfl⟩ := hl3.shape; rw [dn_length] at HL ⊢; have hM3 : Hid (PM S k w.heap.size [] w w3) := hM.out.next HP.out hp3 hk3; have hmn := Many_any S k [] v3 w3 hp3; clear hp3 hk3 hl3) | (go_at_call 8; refine hmn.mono ?_; clear hmn; rintro e w3 ⟨rfl, rfl⟩))
      go_loop [7] (fun s7 => ∃ j : Nat, j ≤ k ∧ s7 = .int .i64 j) (fun s7 => k - (intOf s7).toNat)
      case atStart => exact ⟨0, Nat.zero_le _, rfl⟩
      case round =>
        obtain ⟨j, hj, rfl⟩ := hrel
        by_cases hjk : j < k
        · have hjk' : (j : Int) < (k : Int) := by omega
          obtain ⟨g, c, hv, -⟩ := HL.out.full (by rw [dn_length]; omega)
          simp only [Value.slice.injEq] at hv
          obtain ⟨rfl, -, rfl⟩ := hv
          have hcj := HL.out.cell (k := j) (by rw [dn_length]; exact hjk)
          rw [dn_get hjk] at hcj
          have g2 : ((k : Int) - 1 - (j : Int) != (k : Int) - 1 - (j : Int)) = false := by simp
          go_wp2
          go_round
          case rel => exact ⟨j + 1, by omega, by go_num⟩
          case measure => simp [intOf]; omega
        · have hjk' : ¬ (j : Int) < (k : Int) := by omega
          go_wp2
          go_ret
          exact ⟨rfl, hM3.out.2.1⟩

theorem all_any (hands : Int) (w : World) : Calls Try.prog 4 #[.int .i64 hands] w fun e w' => e = .returned (.bool true) ∧ Below w.heap.size w w' := by
  by_cases h : hands < 1 ∨ 6 < hands
  · exact all_bad hands w h
  · obtain ⟨r, rfl⟩ : ∃ r : Nat, hands = r := ⟨hands.toNat, by omega⟩
    exact all_in r w (by omega) (by omega)
end Go.Proofs.Ytajpkchcfphehaa
