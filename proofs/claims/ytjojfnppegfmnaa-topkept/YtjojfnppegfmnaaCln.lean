/- The contracts of Along, and of the sameness of cells. -/
import Derived.Test.YtjojfnppegfmnaaClm
namespace Go.Proofs.Ytjojfnppegfmnaa
open Go.RowKit Go.Deep

/-- What is wrong with a plan, its ops, and an order. -/
noncomputable def alErr (q : Int) (ts : List (Int × List Int)) (os : List Opn) (zs : List Int) : Int := if allErr q ts.length os = 0 then ordErr ts zs else allErr q ts.length os
theorem alErr_bad {q : Int} {ts : List (Int × List Int)} {os : List Opn} {zs : List Int} (h : allErr q ts.length os ≠ 0) : alErr q ts os zs = allErr q ts.length os := if_neg h
theorem alErr_ok {q : Int} {ts : List (Int × List Int)} {os : List Opn} {zs : List Int} (h : allErr q ts.length os = 0) : alErr q ts os zs = ordErr ts zs := if_pos h
theorem allErr_zero {q : Int} {n : Nat} {os : List Opn} (h : allErr q n os = 0) : q = 0 ∧ opsErr n os = 0 := by
  unfold allErr at h
  split at h
  · rename_i hq; exact ⟨hq, h⟩
  · rename_i hq; exact absurd h hq
/-- What Along hands back. -/
def AlongOut (ts : List (Int × List Int)) (os : List Opn) (zs : List Int) (e : Ending) (w' : World) : Prop :=
  ∃ p q, CheckIs ts p q ∧ ((alErr q ts os zs ≠ 0 ∧ e = .returned (.tuple #[.slice none 0 0, errV (alErr q ts os zs)])) ∨
    (alErr q ts os zs = 0 ∧ allErr q ts.length os = 0 ∧ ∃ g, e = .returned (.tuple #[.slice (some ⟨g, 0, none⟩) ts.length ts.length, .nilIface]) ∧ w'.rowIs g 64 (ts.length * 2) (cellRow (alongC ts (fun k => os.getD k (0, 0)) (natsOf zs)))))

set_option maxRecDepth 100000 in
set_option maxHeartbeats 2000000 in
theorem cAlong_any (pv ov rv : Value) (ts : List (Int × List Int)) (os : List Opn) (zs : List Int) (w : World) (hp : PlanAt w pv ts) (ho : OpsAt w ov os) (hz : IntsAt w rv zs) :
    Calls Try.prog 11 #[pv, ov, rv] w fun e w' => AlongOut ts os zs e w' ∧ Below w.heap.size w w' := by
  have hor := check_any pv ts w hp
  have HP : Hid (PlanAt w pv ts) := hp
  have HO : Hid (OpsAt w ov os) := ho
  have HZ : Hid (IntsAt w rv zs) := hz
  obtain ⟨_, pa, pc, rfl, _⟩ := hp
  obtain ⟨_, oa, oc, rfl, _⟩ := ho
  obtain ⟨_, ra, rc, rfl, _⟩ := hz
  go_enter Try.func11, Try.ntmps11
  go_wp2_with fail
  refine hor.mono ?_
  clear hor
  rintro e w1 ⟨⟨p, q, rfl, hck⟩, hb⟩
  have HCK : Hid (CheckIs ts p q) := hck
  by_cases hq : q = 0
  · subst hq
    obtain ⟨-, h30, herr, hno⟩ := hck.ok rfl
    have hco := checkOps_any _ _ ts os w1 (HP.out.later hb) (HO.out.later hb)
    rw [errV_zero]
    by_cases hq : opsErr ts.length os = 0
    · obtain ⟨hm, hop⟩ := opsErr_zero hq
      have hal0 : allErr 0 ts.length os = 0 := hq
      rw [hq, errV_zero] at hco
      have HCO : Hid (∀ w2, Below w1.heap.size w1 w2 → Calls Try.prog 27 #[.slice pa ts.length pc, .slice ra zs.length rc] w2 fun e w' => e = .returned (errV (ordErr ts zs)) ∧ Below w2.heap.size w2 w') := fun w2 hb2 =>
        checkOrder_any _ _ ts zs w2 ((HP.out.later hb).later hb2) ((HZ.out.later hb).later hb2) h30 (inRange_of herr) hno
      by_cases hq2 : ordErr ts zs = 0
      · obtain ⟨hE, hBh⟩ := ordErr_zero hq2
        rw [hq2, errV_zero] at HCO
        have hin := natsOf_ints (fun x hx => (hE.2.2 x hx).1)
        have HAL : Hid (∀ w2, Below w1.heap.size w1 w2 → Calls Try.prog 19 #[.slice pa ts.length pc, .slice oa os.length oc, .slice ra zs.length rc] w2 fun e w' => e = .returned (.slice (some ⟨w2.heap.size, 0, none⟩) ts.length ts.length) ∧ w'.rowIs w2.heap.size 64 (ts.length * 2) (cellRow (alongC ts (fun k => os.getD k (0, 0)) (natsOf zs))) ∧ Below w2.heap.size w2 w') := fun w2 hb2 =>
          along_any _ _ _ ts os (natsOf zs) w2 ((HP.out.later hb).later hb2) ((HO.out.later hb).later hb2) (by rw [hin]; exact (HZ.out.later hb).later hb2) h30 (inRange_of herr) hm hE.nats.2.2.1 hop (fun k hk => Nat.le_trans (needs_len herr hk) (by omega))
        have HE : Hid (∀ g w', w'.rowIs g 64 (ts.length * 2) (cellRow (alongC ts (fun k => os.getD k (0, 0)) (natsOf zs))) → AlongOut ts os zs (.returned (.tuple #[.slice (some ⟨g, 0, none⟩) ts.length ts.length, .nilIface])) w') := fun g w' h => ⟨p, 0, HCK.out, Or.inr ⟨by rw [alErr_ok hal0]; exact hq2, hal0, g, rfl, h⟩⟩
        clear hq hq2 hm hop hck herr hno hE hBh hin hal0
        go_wp2_with (first | (go_at_call 18; refine hco.mono ?_; clear hco; rintro e w2 ⟨rfl, hb2⟩; have hcr := HCO.out w2 hb2) | (go_at_call 27; refine hcr.mono ?_; clear hcr; rintro e w3 ⟨rfl, hb3⟩; have hal := HAL.out w3 (hb2.trans (hb3.mono hb2.size))) | (go_at_call 19; refine hal.mono ?_; clear hal; rintro e w4 ⟨rfl, hrow4, hb4⟩; have HR4 := HE.out _ w4 hrow4; clear hrow4))
        go_ret2
        exact ⟨HR4, hb.trans (((hb2.trans (hb3.mono hb2.size)).trans (hb4.mono (Nat.le_trans hb2.size hb3.size))).mono hb.size)⟩
      · have HE : Hid (∀ u w', u = errV (ordErr ts zs) → AlongOut ts os zs (.returned (.tuple #[.slice none 0 0, u])) w') := fun u w' hu =>
          ⟨p, 0, HCK.out, Or.inl ⟨by rw [alErr_ok hal0]; exact hq2, by rw [hu, alErr_ok hal0]⟩⟩
        rw [errV_some hq2] at HE HCO
        clear hq hq2 hm hop hck herr hno hal0
        generalize ordErr ts zs = q at *
        go_wp2_with (first | (go_at_call 18; refine hco.mono ?_; clear hco; rintro e w2 ⟨rfl, hb2⟩; have hcr := HCO.out w2 hb2) | (go_at_call 27; refine hcr.mono ?_; clear hcr; rintro e w3 ⟨rfl, hb3⟩))
        go_ret2
        exact ⟨HE.out _ _ rfl, hb.trans ((hb2.trans (hb3.mono hb2.size)).mono hb.size)⟩
    · have hal0 : allErr 0 ts.length os ≠ 0 := hq
      have HE : Hid (∀ u w', u = errV (opsErr ts.length os) → AlongOut ts os zs (.returned (.tuple #[.slice none 0 0, u])) w') := fun u w' hu =>
        ⟨p, 0, HCK.out, Or.inl ⟨by rw [alErr_bad hal0]; exact hal0, by rw [hu, alErr_bad hal0]; rfl⟩⟩
      rw [errV_some hq] at HE hco
      clear hck hq herr hno hal0
      generalize opsErr ts.length os = q at *
      go_wp2_with (go_at_call 18; refine hco.mono ?_; clear hco; rintro e w2 ⟨rfl, hb2⟩)
      go_ret2
      exact ⟨HE.out _ _ rfl, hb.trans (hb2.mono hb.size)⟩
  · have hal0 : allErr q ts.length os = q := by unfold allErr; rw [if_neg hq]
    have HE : Hid (∀ u w', u = errV q → AlongOut ts os zs (.returned (.tuple #[.slice none 0 0, u])) w') := fun u w' hu =>
      ⟨p, q, HCK.out, Or.inl ⟨by rw [alErr_bad (by rw [hal0]; exact hq), hal0]; exact hq, by rw [hu, alErr_bad (by rw [hal0]; exact hq), hal0]⟩⟩
    rw [errV_some hq] at HE ⊢
    clear hck hq hal0
    go_wp2
    go_ret2
    exact ⟨HE.out _ _ rfl, hb⟩

set_option maxRecDepth 100000 in
set_option maxHeartbeats 1000000 in
theorem sameCells_any (v u : Value) (gs : List Cl) (w : World) (hv : CellsAt w v gs) (hu : CellsAt w u gs) :
    Calls Try.prog 13 #[v, u] w fun e w' => e = .returned (.bool true) ∧ Below w.heap.size w w' := by
  obtain ⟨hl, a, c, rfl, hv⟩ := hv
  obtain ⟨-, a2, c2, rfl, hu⟩ := hu
  have HV : Hid (∀ k, k < gs.length → ∃ b o, a = some ⟨b, o, none⟩ ∧ w.cell? ⟨b, o + k * 2, none⟩ = some (.int .i64 (numC gs k)) ∧ w.cell? ⟨b, o + k * 2 + 1, none⟩ = some (.bool (fltC gs k))) := fun k hk => by
    rcases hv with h0 | ⟨b, o, h1, -, h2⟩
    · rw [h0] at hk; simp at hk
    · exact ⟨b, o, h1, h2 k hk⟩
  have HU : Hid (∀ k, k < gs.length → ∃ b o, a2 = some ⟨b, o, none⟩ ∧ w.cell? ⟨b, o + k * 2, none⟩ = some (.int .i64 (numC gs k)) ∧ w.cell? ⟨b, o + k * 2 + 1, none⟩ = some (.bool (fltC gs k))) := fun k hk => by
    rcases hu with h0 | ⟨b, o, h1, -, h2⟩
    · rw [h0] at hk; simp at hk
    · exact ⟨b, o, h1, h2 k hk⟩
  clear hv hu
  go_enter Try.func13, Try.ntmps13
  go_wp2
  go_loopw [5] (fun s5 wr => ∃ k q : Nat, k ≤ gs.length ∧ s5 = .int .i64 k ∧ wr = w.drewN q) (fun s5 _ => gs.length - (intOf s5).toNat)
  case atStart => exact ⟨0, 0, Nat.zero_le _, rfl, rfl⟩
  case round =>
    obtain ⟨k, q, hk, rfl, rfl⟩ := hrel
    by_cases hkl : k < gs.length
    · obtain ⟨b, o, rfl, h1, h2⟩ := HV.out k hkl
      obtain ⟨b2, o2, rfl, h3, h4⟩ := HU.out k hkl
      generalize numC gs k = p at *
      generalize fltC gs k = r at *
      go_wp2
      go_quiet (fail)
      go_wp2
      go_roundw
      case rel => exact ⟨k + 1, _, by omega, by go_num, rfl⟩
      case measure => simp [intOf]; omega
    · go_wp2
      go_ret
      exact ⟨rfl, drawn_below _ w q⟩
end Go.Proofs.Ytjojfnppegfmnaa
