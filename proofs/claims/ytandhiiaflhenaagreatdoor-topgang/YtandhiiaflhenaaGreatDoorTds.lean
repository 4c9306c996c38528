/- The sameness of deeds. -/
import Derived.Test.YtandhiiaflhenaaGreatDoorDlb
namespace Go.Proofs.YtandhiiaflhenaaGreatDoor
open Go.RowKit Go.Deep

set_option maxRecDepth 100000 in
set_option maxHeartbeats 1000000 in
theorem sameDeeds_at (v u : Value) (ds : List Deed) (w : World) (hv : DeedsAt w v ds) (hu : DeedsAt w u ds) :
    Calls Tryz.prog 14 #[v, u] w fun e w' => e = .returned (.bool true) ∧ Below w.heap.size w w' := by
  have HV : Hid (DeedsAt w v ds) := hv
  have HU : Hid (DeedsAt w u ds) := hu
  obtain ⟨_, a, c, rfl, _⟩ := hv
  obtain ⟨_, a2, c2, rfl, _⟩ := hu
  go_enter Tryz.func14, Tryz.ntmps14
  go_wp2
  go_loopw [5] (fun s5 wr => ∃ k q : Nat, k ≤ ds.length ∧ s5 = .int .i64 k ∧ wr = w.drewN q) (fun s5 _ => ds.length - (intOf s5).toNat)
  case atStart => exact ⟨0, 0, Nat.zero_le _, rfl, rfl⟩
  case round =>
    obtain ⟨k, q, hk, rfl, rfl⟩ := hrel
    by_cases hkl : k < ds.length
    · obtain ⟨b, o, rfl, -, c0, c1, c2, c3⟩ := HV.out.four hkl
      obtain ⟨b2, o2, rfl, -, d0, d1, d2, d3⟩ := HU.out.four hkl
      generalize (ds.getD k (0, 0, 0, 0)).1 = x1 at *
      generalize (ds.getD k (0, 0, 0, 0)).2.1 = x2 at *
      generalize (ds.getD k (0, 0, 0, 0)).2.2.1 = x3 at *
      generalize (ds.getD k (0, 0, 0, 0)).2.2.2 = x4 at *
      clear HV HU
      go_wp2
      go_quiet (fail)
      go_wp2
      go_roundw
      case rel => exact ⟨k + 1, _, by omega, by go_num, rfl⟩
      case measure => simp [intOf]; omega
    · go_wp2
      go_ret
      exact ⟨rfl, rfl, rfl, rfl, Nat.le_refl _, fun _ _ => rfl⟩
end Go.Proofs.YtandhiiaflhenaaGreatDoor
