/- Deeds in memory; the calls of the document's hands and spill, in the document's gang. -/
import Derived.Test.YtchbncgifefegaaDoorDgc
import Derived.BigQuiet
namespace Go.Proofs.YtchbncgifefegaaDoor
open Go.RowKit Go.Deep
open Spl.Dsp (Gq gArr)

set_option maxRecDepth 100000 in
set_option maxHeartbeats 2000000 in
theorem sameDeeds_any (v u : Value) (l : List Deed) (C C' : Nat) (w : World) (hv : RowD C w v l) (hu : RowD C' w u l) (hl : l.length ≤ 100) :
    Calls Tryd.prog 10 #[v, u] w fun e w' => e = .returned (.bool true) ∧ ∃ n, w' = w.drewN n := by
  have HV : Hid (RowD C w v l) := hv
  have HU : Hid (RowD C' w u l) := hu
  obtain ⟨a, c, rfl⟩ := hv.shape
  obtain ⟨a2, c2, rfl⟩ := hu.shape
  clear hv hu
  have hne : ((l.length : Int) != (l.length : Int)) = false := by simp
  go_enter Tryd.func10, Tryd.ntmps10
  go_wp2
  go_loopw [5] (fun s5 wr => ∃ k n : Nat, k ≤ l.length ∧ s5 = .int .i64 k ∧ wr = w.drewN n) (fun s5 _ => l.length - (intOf s5).toNat)
  case atStart => exact ⟨0, 0, Nat.zero_le _, rfl, rfl⟩
  case round =>
    obtain ⟨k, n, hk, rfl, rfl⟩ := hrel
    by_cases hkl : k < l.length
    · obtain ⟨g, cc, hv, _, hg, _, hcell⟩ := HV.out.full (by omega)
      simp only [Value.slice.injEq, true_and] at hv
      obtain ⟨rfl, rfl⟩ := hv
      obtain ⟨g2, cc2, hv2, _, hg2, _, hcell2⟩ := HU.out.full (by omega)
      simp only [Value.slice.injEq, true_and] at hv2
      obtain ⟨rfl, rfl⟩ := hv2
      have p0 := hcell k hkl 0 (by omega)
      have p1 := hcell k hkl 1 (by omega)
      have p2 := hcell k hkl 2 (by omega)
      have p3 := hcell k hkl 3 (by omega)
      have q0 := hcell2 k hkl 0 (by omega)
      have q1 := hcell2 k hkl 1 (by omega)
      have q2 := hcell2 k hkl 2 (by omega)
      have q3 := hcell2 k hkl 3 (by omega)
      clear hcell hcell2
      generalize l.getD k (0, 0, 0, 0) = sx at *
      obtain ⟨x0, x1, x2, x3⟩ := sx
      replace p0 : w.cell? ⟨g, k * 4, none⟩ = some (.int .i64 x0) := p0
      replace p1 : w.cell? ⟨g, k * 4 + 1, none⟩ = some (.int .i64 x1) := p1
      replace p2 : w.cell? ⟨g, k * 4 + 2, none⟩ = some (.int .i64 x2) := p2
      replace p3 : w.cell? ⟨g, k * 4 + 3, none⟩ = some (.int .i64 x3) := p3
      replace q0 : w.cell? ⟨g2, k * 4, none⟩ = some (.int .i64 x0) := q0
      replace q1 : w.cell? ⟨g2, k * 4 + 1, none⟩ = some (.int .i64 x1) := q1
      replace q2 : w.cell? ⟨g2, k * 4 + 2, none⟩ = some (.int .i64 x2) := q2
      replace q3 : w.cell? ⟨g2, k * 4 + 3, none⟩ = some (.int .i64 x3) := q3
      go_wp2
      go_quiet (fail)
      go_wp2
      go_roundw
      case rel => exact ⟨k + 1, _, by omega, by go_num, rfl⟩
      case measure => simp [intOf]; omega
    · go_wp2
      go_ret
      exact ⟨rfl, _, rfl⟩


variable {M room hands : Nat} {ts : List (Int × List Int)} {p : Value} {g : Gs} {own : Nat → Nat} {gq : Gq} {vf vh : Value} {HB hc DB dc : Nat} {Hk : Nat → Nat} {vk : Nat → Value} {Bd : Bs} {w0 w w' : World}
theorem Dg.e (h : Dg M room hands ts g own gq vf vh HB hc DB dc Hk vk Bd w0 w) : DgE M room hands ts gq.p g Bd w0 w := ⟨own, gq, vf, vh, HB, hc, DB, dc, Hk, vk, rfl, h⟩
/-- What a call of one of its hands keeps. -/
theorem Dg.kd (h : Dg M room hands ts g own gq vf vh HB hc DB dc Hk vk Bd w0 w) {j : Nat} (hj : j < hands) (hk : Hnd.Kd (Hk j) (vk j).ownBlock w w') : Kc own (fun c => c = 10 + j) w w' :=
  ⟨hk.os, hk.tape, hk.output, hk.size, fun k hlt hne => hk.block k hlt (fun e => hne (by rw [e]; exact (h.lH j hj).1)) (fun e => hne ((h.lH j hj).2 k e))⟩
theorem Dg.hlb (h : Dg M room hands ts g own gq vf vh HB hc DB dc Hk vk Bd w0 w) {j : Nat} (hj : j < hands) {v : Value} (hn : Hnd.NearD w.heap.size (vk j) v) : Lb (relabel own w.heap.size (10 + j)) (10 + j) v :=
  Lb.near (h.lH j hj).2 (fun _ e => ((h.hand j hj).row.low e).2) hn
/-- Where its hands lie. -/
theorem Dg.hands1 (h : Dg M room hands ts g own gq vf vh HB hc DB dc Hk vk Bd w0 w) {j : Nat} (hj : j < hands) : w.cell? ⟨M, 1, none⟩ = some (.slice (some ⟨HB, 0, none⟩) hands hc) ∧ w.cell? ⟨HB, j, none⟩ = some (.pointer (some ⟨Hk j, 0, none⟩)) := by
  refine ⟨?_, h.hcell j hj⟩
  rw [h.c.2.1, h.hs]
theorem Dg.takeNear (h : Dg M room hands ts g own gq vf vh HB hc DB dc Hk vk Bd w0 w) {j : Nat} (hj : j < hands) (hn : g.near j ≠ -1) :
    Calls Tryd.prog 31 #[.pointer (some ⟨Hk j, 0, none⟩)] w fun e w' => e = .returned (.tuple #[.int .i64 (g.near j), .bool true]) ∧ DgE M room hands ts gq.p { g with near := upd g.near j (-1) } Bd w0 w' ∧ w.heap.size ≤ w'.heap.size := by
  refine (Hnd.refTake_near _ _ _ _ _ _ (h.hand j hj) hn).mono ?_
  rintro e w' ⟨rfl, hm, hk⟩
  have := h.setHand j hj (-1) (g.ring j) (vk j) hm (h.hlb hj (fun k e => Or.inl e)) (h.kd hj hk)
  rw [upd_id g.ring j] at this
  exact ⟨rfl, this.e, hk.size⟩
theorem Dg.takeNone (h : Dg M room hands ts g own gq vf vh HB hc DB dc Hk vk Bd w0 w) {j : Nat} (hj : j < hands) (hn : g.near j = -1) (hr : g.ring j = []) :
    Calls Tryd.prog 31 #[.pointer (some ⟨Hk j, 0, none⟩)] w fun e w' => e = .returned (.tuple #[.int .i64 0, .bool false]) ∧ w' = w := by
  have hm := h.hand j hj
  rw [hn, hr] at hm
  exact Hnd.refTake_none _ _ _ _ hm
theorem Dg.takeRing (h : Dg M room hands ts g own gq vf vh HB hc DB dc Hk vk Bd w0 w) {j : Nat} (hj : j < hands) (hn : g.near j = -1) (hr : g.ring j ≠ []) :
    Calls Tryd.prog 31 #[.pointer (some ⟨Hk j, 0, none⟩)] w fun e w' => e = .returned (.tuple #[.int .i64 ((g.ring j).getLastD 0), .bool true]) ∧ DgE M room hands ts gq.p { g with ring := upd g.ring j (g.ring j).dropLast } Bd w0 w' ∧ w.heap.size ≤ w'.heap.size := by
  have hm := h.hand j hj
  rw [hn] at hm
  have hs := last_split hr
  rw [hs] at hm
  refine (Hnd.refTake_one _ _ _ _ _ _ hm).mono ?_
  rintro e w' ⟨rfl, ⟨v', hm', hnv⟩, hk⟩
  have := h.setHand j hj (-1) (g.ring j).dropLast v' hm' (h.hlb hj hnv) (h.kd hj hk)
  have e : upd g.near j (-1) = g.near := by rw [← hn]; exact upd_id g.near j
  rw [e] at this
  exact ⟨rfl, this.e, hk.size⟩
theorem Dg.rob (h : Dg M room hands ts g own gq vf vh HB hc DB dc Hk vk Bd w0 w) {j : Nat} (hj : j < hands) :
    Calls Tryd.prog 34 #[.pointer (some ⟨Hk j, 0, none⟩)] w fun e w' => (∃ ov, e = .returned ov ∧ Rds (fun k => w.heap.size ≤ k) w' ov ((g.ring j).take (((g.ring j).length + 1) / 2))) ∧ (∃ own' vk', Dg M room hands ts { g with ring := upd g.ring j ((g.ring j).drop (((g.ring j).length + 1) / 2)) } own' gq vf vh HB hc DB dc Hk vk' Bd w0 w' ∧ ∀ k, w.heap.size ≤ k → own' k = 10 + j) ∧ w.heap.size ≤ w'.heap.size := by
  refine (Hnd.refRob_any _ _ _ _ _ _ (h.hand j hj)).mono ?_
  rintro e w' ⟨⟨ov, rfl, ho⟩, ⟨v', hm', hnv⟩, hk⟩
  have := h.setHand j hj (g.near j) _ v' hm' (h.hlb hj hnv) (h.kd hj hk)
  rw [upd_id g.near j] at this
  exact ⟨⟨ov, rfl, ho⟩, ⟨_, _, this, fun k hk2 => relabel_ge hk2⟩, hk.size⟩
theorem Dg.put (h : Dg M room hands ts g own gq vf vh HB hc DB dc Hk vk Bd w0 w) {j : Nat} (hj : j < hands) (hr1 : 1 ≤ room) (n : Nat) :
    Calls Tryd.prog 29 #[.pointer (some ⟨Hk j, 0, none⟩), .int .i64 n] w fun e w' => (∃ ov, e = .returned ov ∧ Rds (fun k => w.heap.size ≤ k) w' ov (putO room (g.near j) (g.ring j))) ∧ (∃ vk', Dg M room hands ts { g with near := upd g.near j (n : Int), ring := upd g.ring j (putR room (g.near j) (g.ring j)) } (relabel own w.heap.size (10 + j)) gq vf vh HB hc DB dc Hk vk' Bd w0 w') ∧ Kc own (fun c => c = 10 + j) w w' := by
  refine (Hnd.refPut_any _ _ _ n _ _ _ (h.hand j hj) hr1).mono ?_
  rintro e w' ⟨⟨ov, rfl, ho⟩, ⟨v', hm', hnv⟩, hk⟩
  exact ⟨⟨ov, rfl, ho⟩, ⟨_, h.setHand j hj (n : Int) _ v' hm' (h.hlb hj hnv) (h.kd hj hk)⟩, h.kd hj hk⟩
/-- What the spill's calls keep. -/
theorem Dg.kx6 (h : Dg M room hands ts g own gq vf vh HB hc DB dc Hk vk Bd w0 w) (hk : Spl.Kx (fun k => k = M ∨ vf.ownBlock = some k ∨ vh.ownBlock = some k) w w') : Kc own (fun c => c = 0 ∨ c = 6) w w' :=
  ⟨hk.os, hk.tape, hk.output, hk.size, fun k hlt hne => hk.block k hlt (by
    rintro (e | e | e)
    · exact hne (Or.inl (by rw [e]; exact h.lM))
    · exact hne (Or.inr (h.lf k e))
    · exact hne (Or.inr (h.lh k e)))⟩
theorem Dg.get1 (h : Dg M room hands ts g own gq vf vh HB hc DB dc Hk vk Bd w0 w) (h16 : room ≤ 16) :
    Calls Tryd.prog 33 #[.pointer (some ⟨M, 4, none⟩), .int .i64 1] w fun e w' => (∃ ov, e = .returned ov ∧ Rds (fun k => w.heap.size ≤ k) w' ov (g.sp.take 1)) ∧ (∃ own' vf' vh', Dg M room hands ts { g with sp := g.sp.tail } own' gq vf' vh' HB hc DB dc Hk vk Bd w0 w' ∧ ∀ k, w.heap.size ≤ k → own' k = 6) ∧ w.heap.size ≤ w'.heap.size := by
  refine (Spl.Dsp.refGet_any gq M room 1 g.sp vf vh w h.md (by omega) (by omega) h16).mono ?_
  rintro e w' ⟨ov, vf', vh', rfl, ho, hm, hk, nf, nh⟩
  have hk' : Spl.Kx (fun k => k = M ∨ vf.ownBlock = some k ∨ vh.ownBlock = some k) w w' := ⟨hk.os, hk.tape, hk.output, hk.size, fun k hlt hne => hk.block k hlt (fun e => hne (Or.inl e))⟩
  have := h.setSp (g.sp.drop 1) vf' vh' hm (Lb.near h.lf (fun k e => (h.fr.low e).2) nf) (Lb.near h.lh (fun k e => (h.hp.low e).2) nh) (h.kx6 hk')
  rw [List.drop_one] at this
  exact ⟨⟨ov, rfl, ho⟩, ⟨_, _, _, this, fun k hk2 => relabel_ge hk2⟩, hk.size⟩
theorem Dg.sput (h : Dg M room hands ts g own gq vf vh HB hc DB dc Hk vk Bd w0 w) (h16 : room ≤ 16) {A : Nat → Prop} {lv : Value} {ys : List Int} (hl : Rds A w lv ys) (hA : ∀ b, A b → own b ≠ 0 ∧ own b ≠ 6) (hle : g.sp.length + ys.length ≤ 60) :
    Calls Tryd.prog 26 #[.pointer (some ⟨M, 4, none⟩), lv] w fun e w' => e = .returned (.bool true) ∧ DgE M room hands ts gq.p { g with sp := g.sp ++ ys } Bd w0 w' ∧ w.heap.size ≤ w'.heap.size := by
  refine (Spl.Dsp.refPut_good gq M room g.sp ys vf vh lv w h.md (Rds.mono hl (fun b hb => ⟨fun e => (hA b hb).1 (by rw [e]; exact h.lM), fun e => (hA b hb).2 (h.lf b e), fun e => (hA b hb).2 (h.lh b e)⟩)) hle h16).mono ?_
  rintro e w' ⟨rfl, vf', vh', hp⟩
  have hm := hp.md
  rw [List.take_length] at hm
  exact ⟨rfl, (h.setSp (g.sp ++ ys) vf' vh' hm (Lb.near h.lf (fun k e => (h.fr.low e).2) hp.nf) (Lb.near h.lh (fun k e => (h.hp.low e).2) hp.nh) (h.kx6 hp.kx)).e, hp.kx.size⟩
end Go.Proofs.YtchbncgifefegaaDoor
