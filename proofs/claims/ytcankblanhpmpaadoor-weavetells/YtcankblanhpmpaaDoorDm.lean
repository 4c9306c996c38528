/- The contracts of slices.Index and slices.Contains at []int, and depth.greatest. -/
import Derived.Test.YtcankblanhpmpaaDoorK
import Derived.Test.YtcankblanhpmpaaDoorDa
namespace Go.Proofs.YtcankblanhpmpaaDoor
open Go.RowKit Go.Deep

theorem max_if (m t : Int) : (if m < t then t else m) = max m t := by
  split <;> omega

/-- The list of the first n values of a function. -/
def listOf (T : Nat → Int) (n : Nat) : List Int := (List.range n).map T
theorem listOf_length (T : Nat → Int) (n : Nat) : (listOf T n).length = n := by simp [listOf]
theorem listOf_getD (T : Nat → Int) {n k : Nat} (h : k < n) : (listOf T n).getD k 0 = T k := by simp [listOf, h]

set_option maxHeartbeats 800000 in
theorem greatest_any (v : Value) (T : Nat → Int) (n : Nat) (w : World) (hz : IntsAt w v (listOf T n)) :
    Calls Tryd.prog 20 #[v] w fun e w' => e = .returned (.int .i64 (maxTo T n)) ∧ w' = w := by
  obtain ⟨hl, a, c, rfl, hz⟩ := hz
  rw [listOf_length] at hl hz ⊢
  go_enter Tryd.func20, Tryd.ntmps20
  go_wp2
  go_loop [3, 8] (fun m i => ∃ k : Nat, k ≤ n ∧ i = .int .i64 k ∧ m = .int .i64 (maxTo T k)) (fun _ i => n - (intOf i).toNat)
  case atStart => exact ⟨0, Nat.zero_le _, rfl, rfl⟩
  case round =>
    obtain ⟨k, hk, rfl, rfl⟩ := hrel
    by_cases hkl : k < n
    · rcases hz with hz | ⟨b, o, rfl, hbl, hc⟩
      · have := congrArg List.length hz
        rw [listOf_length] at this
        simp at this; omega
      have hck := hc k hkl
      rw [listOf_getD T hkl] at hck
      clear hc
      have HE : Hid (maxTo T (k + 1) = max (maxTo T k) (T k)) := rfl
      generalize maxTo T k = m at *
      generalize T k = t at *
      go_wp2
      go_round
      case rel => exact ⟨k + 1, by omega, by go_num, by rw [HE.out, max_if]⟩
      case measure => simp [intOf]; omega
    · clear hz
      go_wp2
      go_ret
      have : k = n := by omega
      subst this
      exact ⟨rfl, rfl⟩
end Go.Proofs.YtcankblanhpmpaaDoor
