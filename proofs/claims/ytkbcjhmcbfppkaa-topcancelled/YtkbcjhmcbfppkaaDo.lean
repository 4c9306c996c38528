/- The contract of depth.Work. -/
import Derived.Test.YtkbcjhmcbfppkaaDi
namespace Go.Proofs.Ytkbcjhmcbfppkaa
open Go.RowKit Go.Deep

set_option maxRecDepth 100000 in
set_option maxHeartbeats 2000000 in
theorem work_any (v : Value) (ts : List (Int × List Int)) (w : World) (hp : PlanAt w v ts) :
    Calls Try.prog 10 #[v] w fun e w' => ((∃ p q, q ≠ 0 ∧ CheckIs ts p q ∧ e = .returned (.tuple #[.int .i64 0, errV q])) ∨
      (CheckIs ts 0 0 ∧ e = .returned (.tuple #[.int .i64 (workTo ts ts.length), .nilIface]))) ∧ Below w.heap.size w w' := by
  have HP : Hid (PlanAt w v ts) := hp
  have hck := check_any v ts w hp
  obtain ⟨hl, a, c, rfl, hp⟩ := hp
  clear hp
  go_enter Try.func10, Try.ntmps10
  go_wp2_with fail
  refine hck.mono ?_
  rintro e w1 ⟨⟨p, q, rfl, hc⟩, hb1⟩
  clear hck
  by_cases hq : q = 0
  · subst hq
    rw [errV_zero]
    obtain ⟨rfl, h30, herr, _⟩ := hc.ok rfl
    have HC : Hid (CheckIs ts 0 0) := hc
    have HW : Hid (∀ x, x < ts.length → 1 ≤ wkOf ts x ∧ wkOf ts x ≤ 20) := fun x hx => wkOf_right (herr x hx)
    clear hc herr
    have hpw := HP.out.later hb1
    obtain ⟨_, a', c', hva, hpc⟩ := hpw
    obtain ⟨rfl, -, rfl⟩ : a = a' ∧ True ∧ c = c' := by simp at hva; exact ⟨hva.1, trivial, hva.2⟩
    clear hva
    go_wp2
    go_loopw [6, 19] (fun s6 s19 wr => ∃ k : Nat, k ≤ ts.length ∧ s19 = .int .i64 k ∧ s6 = .int .i64 (workTo ts k) ∧ Below w1.heap.size w1 wr) (fun _ s19 _ => ts.length - (intOf s19).toNat)
    case atStart => exact ⟨0, Nat.zero_le _, rfl, rfl, Below.refl _ _⟩
    case round =>
      obtain ⟨k, hk, rfl, rfl, hB⟩ := hrel
      by_cases hkl : k < ts.length
      · rcases hpc with rfl | ⟨b, o, rfl, hbl, hc⟩
        · simp at hkl
        obtain ⟨hc1, nv, hc2, hin⟩ := hc k hkl
        obtain ⟨a2, c2, rfl⟩ : ∃ a2 c2, nv = .slice a2 (needsOf ts k).length c2 := by
          obtain ⟨_, a2, c2, h, _⟩ := hin
          exact ⟨a2, c2, h⟩
        have hc1' := (hB.cell (p := ⟨b, o + k * 2, none⟩) hbl).trans hc1
        have hc2' := (hB.cell (p := ⟨b, o + k * 2 + 1, none⟩) hbl).trans hc2
        have hbd := workTo_bound HW.out k hk
        have hwk := HW.out k hkl
        have HE : Hid (workTo ts (k + 1) = workTo ts k + (ts.getD k (0, [])).1) := rfl
        unfold wkOf at hwk
        clear hc hc1 hc2 hin
        generalize workTo ts k = sm at *
        generalize (ts.getD k (0, [])).1 = wk at *
        generalize (needsOf ts k).length = nl at *
        go_wp2
        go_roundw
        case rel => exact ⟨k + 1, by omega, by go_num, by rw [HE.out], hB.alloc hB.size _⟩
        case measure => simp [intOf]; omega
      · have hke : k = ts.length := by omega
        subst hke
        clear hpc
        go_wp2
        go_ret2
        exact ⟨Or.inr ⟨HC.out, rfl⟩, hb1.trans (hB.mono hb1.size)⟩
  · have hev := errV_some hq
    rw [hev]
    have HV : Hid (errV q = .iface 54 (.int .i64 q)) := hev
    clear hev
    go_wp2
    go_ret2
    exact ⟨Or.inl ⟨p, q, hq, hc, by rw [HV.out]; rfl⟩, hb1⟩
end Go.Proofs.Ytkbcjhmcbfppkaa
