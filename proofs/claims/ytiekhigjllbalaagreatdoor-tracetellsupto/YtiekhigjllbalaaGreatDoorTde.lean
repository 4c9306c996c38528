/- The document's Number, of at most two digits, and Cut. -/
import Derived.Test.YtiekhigjllbalaaGreatDoorTdc
import Derived.Test.YtiekhigjllbalaaGreatDoorTcu
namespace Go.Proofs.YtiekhigjllbalaaGreatDoor
open Go.RowKit Go.Deep

theorem num2_long {l : List UInt8} (h : 2 < l.length) : num2 l = none := by unfold num2; rw [if_pos h]
theorem num2_zero {r : List UInt8} (h : 1 < (48 :: r : List UInt8).length) : num2 (48 :: r) = none := by
  unfold num2
  split
  · rfl
  · unfold numOf; rw [if_pos (Or.inr ⟨h, rfl⟩)]
theorem num2_plain {b : UInt8} {r : List UInt8} (h4 : ¬ 2 < (b :: r).length) (h : ¬ (b = 48 ∧ 1 < (b :: r).length)) : num2 (b :: r) = Lib.decFrom 0 (b :: r) := by
  unfold num2
  rw [if_neg h4]
  unfold numOf
  rw [if_neg]
  · rfl
  · rintro (h1 | ⟨h1, h2⟩)
    · omega
    · exact h ⟨Option.some.inj h2, h1⟩

/-- The loop of Number, from a place on. -/
theorem dec_step {l : List UInt8} {i n : Nat} (hi : i < l.length) : Lib.decFrom n (l.drop i) = match Lib.digitVal l[i] with | some d => Lib.decFrom (n * 10 + d) (l.drop (i + 1)) | none => none := by
  rw [List.drop_eq_getElem_cons hi]; rfl
theorem digit_low {b : UInt8} (h : b.toNat < 48) : Lib.digitVal b = none := by unfold Lib.digitVal; rw [if_neg (by omega)]
theorem digit_high {b : UInt8} (h : 57 < b.toNat) : Lib.digitVal b = none := by unfold Lib.digitVal; rw [if_neg (by omega)]
theorem digit_in {b : UInt8} (h : ¬ b.toNat < 48) (h2 : ¬ 57 < b.toNat) : Lib.digitVal b = some (b.toNat - 48) := by unfold Lib.digitVal; rw [if_pos (by omega)]

set_option maxRecDepth 100000 in
set_option maxHeartbeats 4000000 in
theorem numberR_main (l : List UInt8) (w : World) (hpos : 0 < l.length) (hll : l.length ≤ 2) (hz : ∀ {h : 0 < l.length}, 1 < l.length → l[0] ≠ 48) (hnum : num2 l = Lib.decFrom 0 l) :
    Calls Tryz.prog 27 #[.string ⟨l.toArray⟩, .int .i64 2] w fun e w' => e = .returned (.tuple #[.int .i64 (((num2 l).getD 0 : Nat) : Int), .bool (num2 l).isSome]) ∧ Below w.heap.size w w' := by
  have HN : Hid (num2 l = Lib.decFrom 0 l) := hnum
  have hne : l.isEmpty = false := by cases l <;> simp_all
  have h0 : 0 < (⟨l.toArray⟩ : ByteArray).size := by show 0 < l.toArray.size; simpa using hpos
  have hz' : ¬ (1 : Int) < (l.length : Int) ∨ ((1 : Int) < (l.length : Int) ∧ ((((⟨l.toArray⟩ : ByteArray)[0]'h0).toNat : Int) == 48) = false) := by
    by_cases h1 : 1 < l.length
    · refine Or.inr ⟨by omega, ?_⟩
      rw [beq_eq_false_iff_ne]
      intro e
      have e' : (l[0].toNat : Int) = 48 := e
      exact hz h1 (UInt8.toNat_inj.1 (by show l[0].toNat = 48; omega))
    · exact Or.inl (by omega)
  clear hz hnum
  have hlI : ¬ (2 : Int) < (l.length : Int) := by omega
  rcases hz' with h1 | ⟨h1, h48⟩
  all_goals
    go_enter Tryz.func27, Tryz.ntmps27
    go_wp2
    all_goals
      go_loopw [6, 7] (fun s6 s7 wr => ∃ i n : Nat, i ≤ l.length ∧ s6 = .int .i64 n ∧ s7 = .int .i64 i ∧ n < 10 ^ i ∧ Hid (Lib.decFrom 0 l = Lib.decFrom n (l.drop i)) ∧ Below w.heap.size w wr) (fun _ s7 _ => l.length - (intOf s7).toNat)
      case atStart => exact ⟨0, 0, Nat.zero_le _, rfl, rfl, by decide, rfl, Below.refl _ _⟩
      case round =>
        obtain ⟨i, n, hi, rfl, rfl, hn, hd, hb⟩ := hrel
        have hn4 : n < 10000 := Nat.lt_of_lt_of_le hn (Nat.le_trans (Nat.pow_le_pow_right (by decide) (show i ≤ 4 by omega)) (by decide))
        by_cases hil : i < l.length
        · have hsz : i < (⟨l.toArray⟩ : ByteArray).size := by show i < l.toArray.size; simpa using hil
          have hst := dec_step (n := n) hil
          have hxe : (⟨l.toArray⟩ : ByteArray)[i]'hsz = l[i] := rfl
          have HX : Hid ((⟨l.toArray⟩ : ByteArray)[i]'hsz = l[i]) := hxe
          by_cases h48 : l[i].toNat < 48
          · rw [digit_low h48] at hst
            have HNN : Hid (num2 l = none) := by rw [HN.out, hd.out]; exact hst
            have h48' : (((⟨l.toArray⟩ : ByteArray)[i]'hsz).toNat : Int) < 48 := by rw [hxe]; omega
            clear hst h48 hxe
            go_wp2
            go_ret2
            exact ⟨by rw [HNN.out]; rfl, hb⟩
          by_cases h57 : 57 < l[i].toNat
          · rw [digit_high h57] at hst
            have HNN : Hid (num2 l = none) := by rw [HN.out, hd.out]; exact hst
            have h48' : ¬ (((⟨l.toArray⟩ : ByteArray)[i]'hsz).toNat : Int) < 48 := by rw [hxe]; omega
            have h57' : 57 < (((⟨l.toArray⟩ : ByteArray)[i]'hsz).toNat : Int) := by rw [hxe]; omega
            clear hst h48 hxe h57
            go_wp2
            go_ret2
            exact ⟨by rw [HNN.out]; rfl, hb⟩
          rw [digit_in h48 h57] at hst
          have h48' : ¬ (((⟨l.toArray⟩ : ByteArray)[i]'hsz).toNat : Int) < 48 := by rw [hxe]; omega
          have h57' : ¬ 57 < (((⟨l.toArray⟩ : ByteArray)[i]'hsz).toNat : Int) := by rw [hxe]; omega
          have HST : Hid (Lib.decFrom n (l.drop i) = Lib.decFrom (n * 10 + (((⟨l.toArray⟩ : ByteArray)[i]'hsz).toNat - 48)) (l.drop (i + 1))) := hst
          have HB : Hid (n * 10 + (((⟨l.toArray⟩ : ByteArray)[i]'hsz).toNat - 48) < 10 ^ (i + 1)) := by
            show _ < _
            rw [hxe, Nat.pow_succ]; omega
          clear hst h48 h57 hxe HX
          go_wp2
          go_roundw
          case rel => exact ⟨i + 1, _, by omega, congrArg (Value.int .i64) (by omega), by go_num, HB.out, hd.out.trans HST.out, hb⟩
          case measure => simp [intOf]; omega
        · have HNN : Hid (num2 l = some n) := by rw [HN.out, hd.out, List.drop_of_length_le (by omega)]; rfl
          go_wp2
          go_ret2
          exact ⟨by rw [HNN.out]; rfl, hb⟩
set_option maxRecDepth 100000 in
set_option maxHeartbeats 4000000 in
theorem numberR_any (l : List UInt8) (w : World) (hs : l.length ≤ 1048576) :
    Calls Tryz.prog 27 #[.string ⟨l.toArray⟩, .int .i64 2] w fun e w' => e = .returned (.tuple #[.int .i64 (((num2 l).getD 0 : Nat) : Int), .bool (num2 l).isSome]) ∧ Below w.heap.size w w' := by
  cases l with
  | nil =>
    go_enter Tryz.func27, Tryz.ntmps27
    go_wp2
    go_ret2
    exact ⟨rfl, Below.refl _ _⟩
  | cons b r =>
    by_cases h4 : 2 < (b :: r).length
    · have HN : Hid (num2 (b :: r) = none) := num2_long h4
      have h4' : 2 < r.length + 1 := h4
      have h4'' : 2 < (r.length : Int) + 1 := by omega
      clear h4
      go_enter Tryz.func27, Tryz.ntmps27
      go_wp2
      go_ret2
      exact ⟨by rw [HN.out]; rfl, Below.refl _ _⟩
    by_cases hz : b = 48 ∧ 1 < (b :: r).length
    · obtain ⟨rfl, h1⟩ := hz
      have HN : Hid (num2 (48 :: r) = none) := num2_zero h1
      have h4' : r.length < 2 := by simp at h4; omega
      have h1' : 0 < r.length := by simpa using h1
      clear h1 h4
      go_enter Tryz.func27, Tryz.ntmps27
      go_wp2
      go_ret2
      exact ⟨by rw [HN.out]; rfl, Below.refl _ _⟩
    exact numberR_main (b :: r) w (by simp) (by omega) (fun h e => hz ⟨e, h⟩) (num2_plain h4 hz)
end Go.Proofs.YtiekhigjllbalaaGreatDoor
