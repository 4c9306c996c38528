/- The document's Jobs; the sameness of jobs. (Not built before stage 16 has landed.) -/
import Derived.Test.YtajmnnjafhanaaaDoorYd
namespace Go.Proofs.YtajmnnjafhanaaaDoor
open Go.RowKit Go.Deep


set_option maxHeartbeats 1000000 in
theorem dJobs_any (v : Value) (gs : List Jb) (w : World) (hg : JobsAt w v gs) :
    Calls Tryd.prog 4 #[v] w fun e w' => e = .returned (.int .i64 (jobErr gs)) ∧ w' = w := by
  obtain ⟨hl, a, c, rfl, hg⟩ := hg
  by_cases h12 : 6 < gs.length
  · have hfi : (6 : Int) < (gs.length : Int) := by omega
    rw [jobErr_full h12]
    clear hg
    go_enter Tryd.func4, Tryd.ntmps4
    go_wp2
    go_ret
    exact ⟨rfl, rfl⟩
  have hfi : ¬ (6 : Int) < (gs.length : Int) := by omega
  go_enter Tryd.func4, Tryd.ntmps4
  go_wp2
  go_loop [3] (fun s3 => ∃ k : Nat, k ≤ gs.length ∧ s3 = .int .i64 k ∧ Hid (∀ j, j < k → okJ gs j = true)) (fun s3 => gs.length - (intOf s3).toNat)
  case atStart => exact ⟨0, Nat.zero_le _, rfl, fun j hj => by omega⟩
  case round =>
    obtain ⟨k, hk, rfl, hno⟩ := hrel
    by_cases hkl : k < gs.length
    · rcases hg with rfl | ⟨b, o, rfl, hbl, hc⟩
      · simp at hkl
      obtain ⟨hc1, hc2⟩ := hc k hkl
      clear hc
      have HK : Hid (okJ gs k = true ↔ (1 ≤ wgtJ gs k ∧ wgtJ gs k ≤ 20) ∧ 0 ≤ wtsJ gs k ∧ wtsJ gs k ≤ 10000) := by show _ ↔ _; unfold okJ; simp
      have HN : Hid (okJ gs k = false → jobErr gs = 1) := jobErr_bad h12 hkl
      generalize wgtJ gs k = p at *
      generalize wtsJ gs k = q at *
      by_cases hok : (1 ≤ p ∧ p ≤ 20) ∧ 0 ≤ q ∧ q ≤ 10000
      · have HF : Hid (okJ gs k = true) := HK.out.2 hok
        obtain ⟨⟨o1, o2⟩, o3, o4⟩ := hok
        clear HK HN
        go_wp2
        go_round
        case rel =>
          refine ⟨k + 1, by omega, by go_num, fun j hj => ?_⟩
          by_cases e : j = k
          · subst e; exact HF.out
          · exact hno.out j (by omega)
        case measure => simp [intOf]; omega
      · have HE : Hid (jobErr gs = 1) := HN.out (by cases e : okJ gs k with | false => rfl | true => exact absurd (HK.out.1 e) hok)
        clear HK HN
        by_cases o1 : p < 1
        · go_wp2; go_ret; exact ⟨by rw [HE.out]; rfl, rfl⟩
        · by_cases o2 : 20 < p
          · go_wp2; go_ret; exact ⟨by rw [HE.out]; rfl, rfl⟩
          · by_cases o3 : q < 0
            · go_wp2; go_ret; exact ⟨by rw [HE.out]; rfl, rfl⟩
            · have o4 : 10000 < q := by omega
              go_wp2; go_ret; exact ⟨by rw [HE.out]; rfl, rfl⟩
    · clear hg
      have HE : Hid (jobErr gs = 0) := jobErr_ok h12 (fun j hj => hno.out j (by omega))
      go_wp2
      go_ret
      exact ⟨by rw [HE.out]; rfl, rfl⟩

set_option maxRecDepth 100000 in
set_option maxHeartbeats 1000000 in
theorem sameJobs_any (v u : Value) (gs : List Jb) (w : World) (hv : JobsAt w v gs) (hu : JobsAt w u gs) :
    Calls Tryd.prog 10 #[v, u] w fun e w' => e = .returned (.bool true) ∧ Below w.heap.size w w' := by
  obtain ⟨hl, a, c, rfl, hv⟩ := hv
  obtain ⟨-, a2, c2, rfl, hu⟩ := hu
  have HV : Hid (∀ k, k < gs.length → ∃ b o, a = some ⟨b, o, none⟩ ∧ w.cell? ⟨b, o + k * 2, none⟩ = some (.int .i64 (wgtJ gs k)) ∧ w.cell? ⟨b, o + k * 2 + 1, none⟩ = some (.int .i64 (wtsJ gs k))) := fun k hk => by
    rcases hv with h0 | ⟨b, o, h1, -, h2⟩
    · rw [h0] at hk; simp at hk
    · exact ⟨b, o, h1, h2 k hk⟩
  have HU : Hid (∀ k, k < gs.length → ∃ b o, a2 = some ⟨b, o, none⟩ ∧ w.cell? ⟨b, o + k * 2, none⟩ = some (.int .i64 (wgtJ gs k)) ∧ w.cell? ⟨b, o + k * 2 + 1, none⟩ = some (.int .i64 (wtsJ gs k))) := fun k hk => by
    rcases hu with h0 | ⟨b, o, h1, -, h2⟩
    · rw [h0] at hk; simp at hk
    · exact ⟨b, o, h1, h2 k hk⟩
  clear hv hu
  go_enter Tryd.func10, Tryd.ntmps10
  go_wp2
  go_loopw [5] (fun s5 wr => ∃ k q : Nat, k ≤ gs.length ∧ s5 = .int .i64 k ∧ wr = w.drewN q) (fun s5 _ => gs.length - (intOf s5).toNat)
  case atStart => exact ⟨0, 0, Nat.zero_le _, rfl, rfl⟩
  case round =>
    obtain ⟨k, q, hk, rfl, rfl⟩ := hrel
    by_cases hkl : k < gs.length
    · obtain ⟨b, o, rfl, h1, h2⟩ := HV.out k hkl
      obtain ⟨b2, o2, rfl, h3, h4⟩ := HU.out k hkl
      generalize wgtJ gs k = p at *
      generalize wtsJ gs k = r at *
      go_wp2
      go_quiet (fail)
      go_wp2
      go_roundw
      case rel => exact ⟨k + 1, _, by omega, by go_num, rfl⟩
      case measure => simp [intOf]; omega
    · go_wp2
      go_ret
      exact ⟨rfl, drawn_below w q⟩
end Go.Proofs.YtajmnnjafhanaaaDoor
