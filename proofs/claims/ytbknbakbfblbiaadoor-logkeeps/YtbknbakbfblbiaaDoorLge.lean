/- The contracts of a log's replay and Sync. -/
import Derived.Test.YtbknbakbfblbiaaDoorLgd
namespace Go.Proofs.YtbknbakbfblbiaaDoor
open Go.RowKit Go.Deep

variable {B T L J : Nat} {X XJ : Nat → Prop} {pv dv : Value} {ts : List (Int × List Int)} {S : Nat → Bool} {s : Ls} {w w' : World}
theorem Jo.bound (h : Jo X J ts S w) : Jo (fun b => X b ∧ b < w.heap.size) J ts S w := by
  obtain ⟨M, A, D, C, hj, xJ, xM, xA, xD, xl⟩ := h
  obtain ⟨av, ha⟩ := Jn.aft hj
  exact ⟨M, A, D, C, hj, ⟨xJ, (Jn.row hj).lt⟩, ⟨xM, (Jn.miss hj).lt⟩, ⟨xA, Jn.ltA hj⟩, ⟨xD, (Jn.done hj).lt⟩, fun k v b hn hv hb => ⟨xl k v b hn hv hb, by
    have : v = av k := Option.some.inj (hv.symm.trans (ha.row.cell hn))
    subst this
    exact ((ha.own k hn).low hb).2⟩⟩
/-- Another join takes the place of the one ahead. -/
theorem LgM.setJoin {J' : Nat} {S' : Nat → Bool} (h : LgM B T X XJ L J pv dv ts S s w) (hb : Below w.heap.size w w') (hj : Jo (fun b => w.heap.size ≤ b) J' ts S' w') :
    LgM B T (fun b => X b ∨ (w.heap.size ≤ b ∧ b < w'.heap.size)) (fun b => w.heap.size ≤ b ∧ b < w'.heap.size) L J' pv dv ts S' s (w'.setCell ⟨L, 1, none⟩ (.pointer (some ⟨J', 0, none⟩))) ∧ Kx X w (w'.setCell ⟨L, 1, none⟩ (.pointer (some ⟨J', 0, none⟩))) := by
  have hM := h.later hb
  have hk : Kx X w (w'.setCell ⟨L, 1, none⟩ (.pointer (some ⟨J', 0, none⟩))) := (Below.kx hb).set (Or.inl h.xL.1) 1 _
  have keep : ∀ b, b ≠ L → (w'.setCell ⟨L, 1, none⟩ (.pointer (some ⟨J', 0, none⟩))).heap[b]? = w'.heap[b]? := fun b hb => Below.heap_setCell _ _ _ _ (by show b ≠ L; exact hb)
  have hs : (w'.setCell ⟨L, 1, none⟩ (.pointer (some ⟨J', 0, none⟩))).heap.size = w'.heap.size := by simp
  have hl := h.ltL
  have hle := h.leB
  refine ⟨⟨(hM.row.set 1 _).congr (fun j hj => ?_), hj.bound.kept (fun b hx hl => keep b (by omega)), hM.data.of_blocks (fun b hb => keep b (fun e => hM.xL.2 (by rw [← e]; exact hb))), h.plan.kx (hk.weak (fun _ => Or.inl)) (fun b hb => hb.elim (fun e => e.elim (fun e => Or.inl (Or.inl e)) (fun e => Or.inr e.1)) (fun e => Or.inl (Or.inr e))), by rw [hs]; exact hM.top, fun b hx => ⟨Or.inr hx, by omega, fun e => ?_⟩, ⟨Or.inl hM.xL.1, hM.xL.2⟩, fun b hb => Or.inl (hM.xd b hb), fun b hx => ?_⟩, hk⟩
  · rcases (by omega : j = 0 ∨ j = 1 ∨ j = 2 ∨ j = 3 ∨ j = 4 ∨ j = 5) with rfl | rfl | rfl | rfl | rfl | rfl <;> rfl
  · have := (h.data.low e).2; omega
  · rw [hs]
    rcases hx with hx | hx
    · exact hM.lt b hx
    · omega

set_option maxRecDepth 100000 in
set_option maxHeartbeats 4000000 in
theorem replay_any (h : LgM B T X XJ L J pv dv ts S s w) (hok : s.Ok ts) (hck : CheckIs ts 0 0) : Calls Tryd.prog 27 #[.pointer (some ⟨L, 0, none⟩)] w fun e w' => e = .returned (.tuple #[]) ∧ LgTo B T X L ts s w w' := by
  have hc0 := h.c0
  have hjn := join_new pv ts w h.plan.plan hck
  have HM : Hid (LgM B T X XJ L J pv dv ts S s w) := h
  have HOK : Hid (s.Ok ts) := hok
  have HCK : Hid (CheckIs ts 0 0) := hck
  have h30 := (hck.good).le
  have hlr := hok.seq.len
  obtain ⟨_, pa, pc, rfl, _⟩ := h.plan
  clear h hok hck
  go_enter Tryd.func27, Tryd.ntmps27
  go_wp2_with fail
  refine hjn.mono ?_
  clear hjn
  rintro e w1 ⟨⟨J', rfl, hj'⟩, hb1⟩
  have hc1 := (HM.out.later hb1).c1
  have hf1 := (HM.out.later hb1).row.frozen 1
  have HM1 : Hid (LgM B T (fun b => X b ∨ (w.heap.size ≤ b ∧ b < w1.heap.size)) (fun b => w.heap.size ≤ b ∧ b < w1.heap.size) L J' (.slice pa ts.length pc) dv ts (fun _ => false) s (w1.setCell ⟨L, 1, none⟩ (.pointer (some ⟨J', 0, none⟩)))) := (HM.out.setJoin hb1 hj').1
  have HK1 : Hid (Kx X w (w1.setCell ⟨L, 1, none⟩ (.pointer (some ⟨J', 0, none⟩)))) := (HM.out.setJoin hb1 hj').2
  have hall := allL_any HM1.out HOK.out h30
  have hs1 := hb1.size
  clear hj' hb1 hc0
  go_wp2_with fail
  refine hall.mono ?_
  clear hall hc1 hf1
  rintro e w3 ⟨⟨v, rfl, hv⟩, hb3⟩
  have HM3 : Hid (LgM B T (fun b => X b ∨ (w.heap.size ≤ b ∧ b < w1.heap.size)) (fun b => w.heap.size ≤ b ∧ b < w1.heap.size) L J' (.slice pa ts.length pc) dv ts (fun _ => false) s w3) := HM1.out.later hb3
  have HK3 : Hid (Kx X w w3) := HK1.out.later hb3
  have hlo : ∀ b, v.ownBlock = some b → w1.heap.size ≤ b := fun b hb => by have := (hv.low hb).1; simpa using this
  obtain ⟨va, vc, rfl⟩ := hv.shape
  rw [intsOf_length] at hv hlo
  have HV : Hid (RowI w1.heap.size w3 (.slice va s.recs.length vc) (intsOf s.recs)) := hv.mono (by simp)
  rw [intsOf_length]
  clear hv hb3 HM1 HK1
  have HJ0 : Hid (Jo (fun b => w.heap.size ≤ b ∧ b < w1.heap.size) J' ts (inL (s.recs.take 0)) w3) := by
    have := HM3.out.jo
    rw [List.take_zero, inL_nil]
    exact this
  generalize hn : s.recs.length = n at *
  have HN : Hid (s.recs.length = n) := hn
  clear hn
  go_wp2
  go_loopw [18] (fun s18 wr => ∃ m : Nat, m ≤ n ∧ s18 = .int .i64 m ∧ Hid (Jo (fun b => w.heap.size ≤ b ∧ b < w1.heap.size) J' ts (inL (s.recs.take m)) wr ∧ Kx (fun b => w.heap.size ≤ b ∧ b < w1.heap.size) w3 wr)) (fun s18 _ => n - (intOf s18).toNat)
  case atStart => exact ⟨0, Nat.zero_le _, rfl, HJ0.out, Kx.refl _ _⟩
  case round =>
    obtain ⟨m, hm, rfl, hR⟩ := hrel
    clear HJ0
    by_cases hml : m < n
    · have hlt : m < s.recs.length := by have := HN.out; omega
      obtain ⟨g, c', hve, hg1, hg2, _⟩ := HV.out.full (by rw [intsOf_length]; have := HN.out; omega)
      rw [intsOf_length, HN.out] at hve
      simp only [Value.slice.injEq] at hve
      obtain ⟨rfl, hdum, rfl⟩ := hve
      clear hdum
      have hcell := (World.cell?_of_block (a := ⟨g, m, none⟩) (hR.out.2.block g hg2 (by omega))).trans (HV.out.cell (k := m) (by rw [intsOf_length]; exact hlt))
      rw [intsOf_getD] at hcell
      have hcJ := (World.cell?_of_block (a := ⟨L, 1, none⟩) (hR.out.2.block L HM3.out.ltL (fun e => by have := (HM.out.ltL); omega))).trans HM3.out.c1
      obtain ⟨hq1, hq2⟩ := HOK.out.seq m hlt
      have hjd := join_done J' ts (HCK.out.good) _ (s.recs.getD m 0 : Nat) wr _ hR.out.1
      have hd0 : doneErr ts (inL (s.recs.take m)) ((s.recs.getD m 0 : Nat) : Int) = 0 := by
        unfold doneErr
        rw [if_neg (by omega), Int.toNat_natCast, hq2]
        rfl
      rw [hd0, if_pos rfl, Int.toNat_natCast, ← inL_snoc, ← nat_take_last hlt, errV_zero] at hjd
      have HK : Hid (Kx (fun b => w.heap.size ≤ b ∧ b < w1.heap.size) w3 wr) := hR.out.2
      clear hR hd0 hq1 hq2
      generalize s.recs.getD m 0 = y at *
      go_wp2_with fail
      refine hjd.mono ?_
      clear hjd
      rintro e w4 ⟨⟨a4, n4, c4, rfl⟩, hj4, hk4⟩
      have HR4 : Hid (Jo (fun b => w.heap.size ≤ b ∧ b < w1.heap.size) J' ts (inL (s.recs.take (m + 1))) w4 ∧ Kx (fun b => w.heap.size ≤ b ∧ b < w1.heap.size) w3 w4) := ⟨hj4, HK.out.trans hk4 (fun _ h => Or.inl h)⟩
      clear hj4 hk4 HK
      go_wp2
      go_roundw
      case rel => exact ⟨m + 1, by omega, by go_num, HR4⟩
      case measure => simp [intOf]; omega
    · have hme : m = n := by omega
      have HF : Hid (LgTo B T X L ts s w wr) := by
        have hj := hR.out.1
        rw [hme, ← HN.out, List.take_length] at hj
        obtain ⟨hM4, hk4⟩ := HM3.out.join hj hR.out.2
        exact ⟨_, ⟨⟨_, J', _, dv, hM4⟩, HOK.out, HCK.out⟩, HK3.out.trans hk4 (fun b hb => hb.imp id (fun e => e.1)), fun b hb => hb.imp id (fun e => e.1)⟩
      clear hR hme
      go_wp2
      go_end0
      exact ⟨rfl, HF.out⟩

set_option maxHeartbeats 2000000 in
theorem syncL_any (h : Lg B T X L ts s w) : Calls Tryd.prog 10 #[.pointer (some ⟨L, 0, none⟩)] w fun e w' => e = .returned (errV s.syncE) ∧ LgTo B T X L ts s.sync w w' := by
  obtain ⟨⟨XJ, J, pv, dv, hM⟩, hok, hck⟩ := h
  have hc5 := hM.c5
  cases hs : s.stopped with
  | true =>
    rw [hs] at hc5
    have HE : Hid (s.syncE = 6 ∧ s.sync = s) := by show _ ∧ _; unfold Ls.syncE Ls.sync; rw [hs]; exact ⟨rfl, rfl⟩
    have HL : Hid (LgTo B T X L ts s.sync w w) := by show LgTo _ _ _ _ _ _ _ _; rw [HE.out.2]; exact Lg.to ⟨⟨XJ, J, pv, dv, hM⟩, hok, hck⟩ (Below.refl _ _)
    rw [HE.out.1]
    clear hM hok hck hs HE
    go_enter Tryd.func10, Tryd.ntmps10
    go_wp2
    go_ret
    exact ⟨rfl, HL.out⟩
  | false =>
    rw [hs] at hc5
    have hst := stops_any hM hok.wf
    have hok2 := hok.sync
    by_cases ha : s.ahead = 0
    · have HE : Hid (s.syncE = 6 ∧ s.sync = s.tick) := by show _ ∧ _; unfold Ls.syncE Ls.sync; rw [hs, Ls.tick_stop ha]; simp [ha]
      have HL : Hid (∀ w1, LgM B T X XJ L J pv dv ts (inL s.recs) s.tick w1 → Kx X w w1 → LgTo B T X L ts s.sync w w1) := fun w1 h1 h2 => by
        rw [HE.out.2] at hok2 ⊢
        have er : s.tick.recs = s.recs := by rw [Ls.tick_stop ha]
        exact ⟨X, ⟨⟨XJ, J, pv, dv, by rw [er]; exact h1⟩, hok2, hck⟩, h2, fun _ h => Or.inl h⟩
      rw [HE.out.1]
      rw [decide_eq_true ha] at hst
      clear hM hok hck hs HE hok2 ha
      go_enter Tryd.func10, Tryd.ntmps10
      go_wp2_with (go_at_call 26; refine hst.mono ?_; clear hst; rintro e w1 ⟨rfl, hm1, hk1, hz1⟩)
      go_ret
      exact ⟨rfl, HL.out _ hm1 hk1⟩
    · have HE : Hid (s.syncE = 0 ∧ s.sync = { s.tick with safe := (dataOf s.recs s.half).length }) := by show _ ∧ _; unfold Ls.syncE Ls.sync; rw [hs]; simp [ha]
      have HL : Hid (∀ w1, LgM B T X XJ L J pv dv ts (inL s.recs) s.tick w1 → Kx X w w1 → LgTo B T X L ts s.sync w (w1.setCell ⟨L, 3, none⟩ (.int .i64 ((dataOf s.recs s.half).length : Nat)))) := fun w1 h1 h2 => by
        rw [HE.out.2] at hok2 ⊢
        have er : s.tick.recs = s.recs := by rw [Ls.tick_run hs ha]
        refine ⟨X, ⟨⟨XJ, J, pv, dv, ?_⟩, hok2, hck⟩, h2.trans (h1.storeK 3 _) (fun _ h => Or.inl h), fun _ h => Or.inl h⟩
        show LgM B T X XJ L J pv dv ts (inL s.tick.recs) _ _
        rw [er]
        exact h1.setSafe _
      have hc2 : ∀ w1, LgM B T X XJ L J pv dv ts (inL s.recs) s.tick w1 → w1.cell? ⟨L, 2, none⟩ = some dv := fun w1 h1 => h1.c2
      have hl : (dataOf s.recs s.half).length ≤ 61 := by have := hok.seq.len; have := hok.half; have := hck.good.le; rw [dataOf_length]; omega
      rw [HE.out.1, errV_zero]
      rw [decide_eq_false ha] at hst
      obtain ⟨a, c, rfl, _⟩ := hM.data.cap
      clear hM hok hck hs HE hok2 ha
      generalize (dataOf s.recs s.half).length = n at *
      go_enter Tryd.func10, Tryd.ntmps10
      go_wp2_with (go_at_call 26; refine hst.mono ?_; clear hst; rintro e w1 ⟨rfl, hm1, hk1, hz1⟩; have hcc := hc2 _ hm1; have hc3 := hm1.c3; have hf3 := hm1.row.frozen 3)
      go_ret
      exact ⟨rfl, HL.out _ hm1 hk1⟩
end Go.Proofs.YtbknbakbfblbiaaDoor
