/- The contract of a log's Done. -/
import Derived.Test.YtbknbakbfblbiaaDoorLgf
namespace Go.Proofs.YtbknbakbfblbiaaDoor
open Go.RowKit Go.Deep

variable {B T L J : Nat} {X XJ : Nat → Prop} {pv dv : Value} {ts : List (Int × List Int)} {S : Nat → Bool} {s : Ls} {w w' : World}
/-- Behind an append to its bytes. -/
theorem LgM.append {dv2 : Value} {s' : Ls} {wd w4 : World} {bs : List Nat} (h : LgM B T X XJ L J pv dv ts S s w) (he : wd.heap = w.heap ∧ wd.os = w.os ∧ wd.tape = w.tape ∧ wd.output = w.output) (hd : RowB B w4 dv2 bs) (hg : wd.grownBy w4 dv.ownBlock) (hat : dv2.ownBlock = dv.ownBlock ∨ dv2.ownBlock = some wd.heap.size)
    (eb : bs = dataOf s'.recs s'.half) (e3 : s'.safe = s.safe) (e4 : s'.ahead = s.ahead) (e5 : s'.stopped = s.stopped) :
    LgM B T (fun b => X b ∨ dv2.ownBlock = some b) XJ L J pv dv2 ts S s' (w4.setCell ⟨L, 2, none⟩ dv2) ∧ Kx X w (w4.setCell ⟨L, 2, none⟩ dv2) ∧ ∀ b, (X b ∨ dv2.ownBlock = some b) → X b ∨ w.heap.size ≤ b := by
  obtain ⟨q1, q2, q3, q4⟩ := he
  subst eb
  have hs := hg.size
  refine h.setData hd ⟨hg.os.trans q2, hg.tape.trans q3, hg.output.trans q4, by rw [← q1]; exact hs, fun k hk hne => ?_⟩ (fun b hb => ?_) e3 e4 e5
  · rw [← q1]; exact hg.block k (by rw [q1]; exact hk) (fun e => hne e.symm)
  · rcases hat with e | e
    · exact Or.inl (e.symm.trans hb)
    · right
      have : b = wd.heap.size := Option.some.inj (hb.symm.trans e)
      rw [this, q1]
      exact Nat.le_refl _
theorem LgM.blkL {wd w4 : World} (h : LgM B T X XJ L J pv dv ts S s w) (q1 : wd.heap = w.heap) (hg : wd.grownBy w4 dv.ownBlock) : w4.cell? ⟨L, 2, none⟩ = some dv ∧ w4.frozen? ⟨L, 2, none⟩ = false := by
  have hb : w4.heap[L]? = w.heap[L]? := by rw [← q1]; exact hg.block L (by rw [q1]; exact h.ltL) (fun e => h.xL.2 e.symm)
  exact ⟨(World.cell?_of_block (a := ⟨L, 2, none⟩) hb).trans h.c2, (World.frozen?_of_block (a := ⟨L, 2, none⟩) hb).trans (h.row.frozen 2)⟩

set_option maxRecDepth 100000 in
set_option maxHeartbeats 4000000 in
theorem doneL_bad (i : Int) (h : Lg B T X L ts s w) (hd : s.stopped = true ∨ ¬ doneErr ts (inL s.recs) i = 0) : Calls Tryd.prog 8 #[.pointer (some ⟨L, 0, none⟩), .int .i64 i] w fun e w' => e = .returned (errV (s.doneE ts i)) ∧ LgTo B T X L ts (s.done ts i) w w' := by
  obtain ⟨⟨XJ, J, pv, dv, hM⟩, hok, hck⟩ := h
  have hc5 := hM.c5
  have hc1 := hM.c1
  cases hs : s.stopped with
  | true =>
    rw [hs] at hc5
    have HE : Hid (s.doneE ts i = 6 ∧ s.done ts i = s) := by show _ ∧ _; unfold Ls.doneE Ls.done; rw [hs]; exact ⟨rfl, rfl⟩
    have HL : Hid (LgTo B T X L ts (s.done ts i) w w) := by show LgTo _ _ _ _ _ _ _ _; rw [HE.out.2]; exact Lg.to ⟨⟨XJ, J, pv, dv, hM⟩, hok, hck⟩ (Below.refl _ _)
    rw [HE.out.1]
    clear hM hok hck hs HE hd
    go_enter Tryd.func8, Tryd.ntmps8
    go_wp2
    go_ret
    exact ⟨rfl, HL.out⟩
  | false =>
    rw [hs] at hc5 hd
    replace hd : ¬ doneErr ts (inL s.recs) i = 0 := hd.resolve_left (by simp)
    have hjd := join_done J ts hck.good (inL s.recs) i w XJ hM.jo
    rw [if_neg hd] at hjd
    have HE : Hid (s.doneE ts i = doneErr ts (inL s.recs) i ∧ s.done ts i = s) := by show _ ∧ _; unfold Ls.doneE Ls.done; rw [hs]; simp [hd]
    have HL : Hid (∀ w1, Jo XJ J ts (inL s.recs) w1 → Kx XJ w w1 → LgTo B T X L ts (s.done ts i) w w1) := fun w1 h1 h2 => by
      obtain ⟨h3, h4⟩ := hM.join h1 h2
      rw [HE.out.2]
      exact ⟨X, ⟨⟨XJ, J, pv, dv, h3⟩, hok, hck⟩, h4, fun _ h => Or.inl h⟩
    rw [HE.out.1]
    generalize doneErr ts (inL s.recs) i = d at *
    have hev := errV_some hd
    have HV : Hid (errV d = .iface 56 (.int .i64 d)) := hev
    rw [hev] at hjd
    clear hM hok hck hs HE hd hev
    go_enter Tryd.func8, Tryd.ntmps8
    go_wp2_with (go_at_call 24; refine hjd.mono ?_; clear hjd; rintro e w1 ⟨⟨a1, n1, k1, rfl⟩, hj1, hk1⟩)
    go_ret
    exact ⟨by rw [HV.out]; rfl, HL.out _ hj1 hk1⟩

set_option maxRecDepth 100000 in
set_option maxHeartbeats 4000000 in
theorem doneL_good (i : Int) (h : Lg B T X L ts s w) (hs : s.stopped = false) (hd : doneErr ts (inL s.recs) i = 0) : Calls Tryd.prog 8 #[.pointer (some ⟨L, 0, none⟩), .int .i64 i] w fun e w' => e = .returned (errV (s.doneE ts i)) ∧ LgTo B T X L ts (s.done ts i) w w' := by
  obtain ⟨⟨XJ, J, pv, dv, hM⟩, hok, hck⟩ := h
  have h30 := hck.good.le
  have hc5 := hM.c5
  have hc1 := hM.c1
  rw [hs] at hc5
  have hjd := join_done J ts hck.good (inL s.recs) i w XJ hM.jo
  rw [hd, if_pos rfl, errV_zero] at hjd
  obtain ⟨hi, hi0, hrd⟩ := doneErr_zero hd
  have hok2 := hok.done h30 i
  have hhf := hok.none hs
  have hl : (dataOf s.recs []).length ≤ 60 := by have := hok.seq.len; rw [dataOf_length]; simp; omega
  obtain ⟨n, rfl⟩ := Int.eq_ofNat_of_zero_le hi0
  rw [Int.toNat_natCast] at hi hrd hjd
  have hn30 : n < 30 := by omega
  have hrc := fun wx => record_any n hn30 wx
  obtain ⟨a, c, rfl, _⟩ := hM.data.cap
  rw [hhf] at hM
  have hwf := hok.wf
  have HM : Hid (LgM B T X XJ L J pv (.slice a (dataOf s.recs []).length c) ts (inL s.recs) s w) := hM
  have hxl : ∀ b, X b → b < w.heap.size := fun b hb => (hM.lt b hb).1
  have HOK : Hid (Ls.Ok ts (s.done ts n)) := hok2
  have HCK : Hid (CheckIs ts 0 0) := hck
  have HHF : Hid (s.half = []) := hhf
  have hhf2 : s.tick.half = [] := by
    by_cases ha : s.ahead = 0
    · rw [Ls.tick_stop ha]; exact hhf
    · rw [Ls.tick_run hs ha]; exact hhf
  have hrc2 : s.tick.recs = s.recs := by
    by_cases ha : s.ahead = 0
    · rw [Ls.tick_stop ha]
    · rw [Ls.tick_run hs ha]
  have HR2 : Hid (s.tick.recs = s.recs ∧ s.tick.half = []) := ⟨hrc2, hhf2⟩
  by_cases ha : s.ahead = 0
  · have HE : Hid (s.doneE ts n = 6 ∧ s.done ts n = { s.tick with half := [n] }) := by show _ ∧ _; unfold Ls.doneE Ls.done; rw [hs, Ls.tick_stop ha]; simp [ha, hd]
    rw [HE.out.1]
    clear hM hok hck hs hok2 hd hi0 hhf hrd hrc2 hhf2
    generalize hln : (dataOf s.recs []).length = ln at *
    have HLN : Hid ((dataOf s.recs []).length = ln) := hln
    have hdec : decide (s.ahead = 0) = true := decide_eq_true ha
    have HWF : Hid (-9223372036854775808 ≤ s.ahead ∧ s.ahead < 9223372036854775808) := hwf
    clear ha hwf hln
    go_enter Tryd.func8, Tryd.ntmps8
    go_wp2_with fail
    refine hjd.mono ?_
    clear hjd
    rintro e w1 ⟨⟨a1, n1, k1, rfl⟩, hj1, hk1⟩
    obtain ⟨hM1, hK1⟩ := HM.out.join hj1 hk1
    have HM2 : Hid (LgM B T X XJ L J pv (.slice a ln c) ts (mark (inL s.recs) n) s (w1.alloc (.cells #[.int .u8 (n : Int), .int .u8 255] 5))) := hM1.later ((Below.refl _ _).alloc (Nat.le_refl _) _)
    have HK2 : Hid (Kx X w (w1.alloc (.cells #[.int .u8 (n : Int), .int .u8 255] 5))) := hK1.later ((Below.refl _ _).alloc (Nat.le_refl _) _)
    have hsz1 := hK1.size
    clear hj1 hk1 hM1 hK1
    have hst := stops_any HM2.out HWF.out
    rw [hdec] at hst
    go_wp2_with fail
    refine (hrc _).mono ?_
    rintro e w2 ⟨rfl, rfl⟩
    go_wp2_with fail
    refine hst.mono ?_
    clear hst hrc
    rintro e w3 ⟨rfl, hM3, hK3, hz3⟩
    have HM3 : Hid (LgM B T X XJ L J pv (.slice a ln c) ts (mark (inL s.recs) n) s.tick w3) := hM3
    have HK3 : Hid (Kx X w w3) := HK2.out.trans hK3 (fun _ h => Or.inl h)
    have hblk : w3.heap[w1.heap.size]? = some (.cells #[.int .u8 (n : Int), .int .u8 255] 5 (0, 0)) := (hK3.block w1.heap.size (by simp) (fun e => by have := hxl _ e; omega)).trans (heap_alloc_new w1 _)
    have HY : Hid (BytesAt w3 (.slice (some ⟨w1.heap.size, 0, none⟩) 2 2) [n, 255] ∧ BytesAt w3 (.slice (some ⟨w1.heap.size, 0, none⟩) 1 2) [n]) := by
      have h1 := (Array.getElem?_eq_some_iff.1 hblk).1
      refine ⟨⟨_, 2, rfl, by simp, Or.inr ⟨w1.heap.size, 0, rfl, h1, fun k hk => ?_⟩⟩, ⟨_, 2, rfl, by simp, Or.inr ⟨w1.heap.size, 0, rfl, h1, fun k hk => ?_⟩⟩⟩
      · rcases (by simp at hk; omega : k = 0 ∨ k = 1) with rfl | rfl <;> simp [World.cell?, hblk]
      · obtain rfl : k = 0 := by simpa using hk
        simp [World.cell?, hblk]
    have HD : Hid (RowB B w3 (.slice a ln c) (dataOf s.recs [])) := by
      have := hM3.data
      rw [HR2.out.1, HR2.out.2] at this
      exact this
    have hc2 := hM3.c2
    have hBle : B ≤ w3.heap.size := hM3.leB
    clear hM3 hK3 hz3 hblk HM2 HK2
    go_wp2
    have hwr1 : IntKind.i64.wrap 1 = 1 := by decide
    have hc2d : w3.drew.cell? ⟨L, 2, none⟩ = some (.slice a ln c) := hc2
    go_region_law (refine step_append_bytes rfl (.tmp 33) (.tmp 38) rfl B (ln + 1) (.slice a ln c) (dataOf s.recs []) [n] w1.heap.size 1 2 (by simp [Act.eval]) (by simp [Act.eval]) rfl HD.out HY.out.2 (by have := HLN.out; simp; omega) (by rw [HLN.out]; rfl) hBle (by simp) ?_; intro a4 c4 w4 hrow hgr hat; obtain ⟨hc4, hf4⟩ := HM3.out.blkL (wd := w3.drew) rfl hgr)
    all_goals
      obtain ⟨hM5, hK5, hX5⟩ := HM3.out.append (wd := w3.drew) (s' := { s.tick with half := [n] }) ⟨rfl, rfl, rfl, rfl⟩ hrow hgr hat (by show dataOf s.recs [] ++ [n] = dataOf s.tick.recs [n]; rw [HR2.out.1, dataOf_half]) rfl rfl rfl
      have hokS : Ls.Ok ts { s.tick with half := [n] } := by rw [← HE.out.2]; exact HOK.out
      have hrp := replay_any hM5 hokS HCK.out
      have HK5 : Hid (Kx X w (w4.setCell ⟨L, 2, none⟩ (.slice a4 (ln + 1) c4))) := HK3.out.trans hK5 (fun _ h => Or.inl h)
      have HX5 : Hid (∀ b, (X b ∨ (Value.slice a4 (ln + 1) c4).ownBlock = some b) → X b ∨ w3.heap.size ≤ b) := hX5
      have hz3 := HK3.out.size
      have hz5 := HK5.out.size
      clear hM5 hK5 hX5 hokS hrow hgr hat
      go_wp2_with fail
      refine hrp.mono ?_
      clear hrp hc4 hf4
      rintro e w6 ⟨rfl, X6, h3, h4, h5⟩
      have HF : Hid (LgTo B T X L ts (s.done ts n) w w6) := by
        show LgTo _ _ _ _ _ _ _ _
        rw [HE.out.2]
        refine ⟨X6, h3, HK5.out.trans h4 (fun b hb => (HX5.out b hb).imp id (fun h => Nat.le_trans hz3 h)), fun b hb => ?_⟩
        rcases h5 b hb with h | h
        · exact (HX5.out b h).imp id (fun h => Nat.le_trans hz3 h)
        · exact Or.inr (Nat.le_trans hz5 h)
      clear h3 h4 h5
      go_wp2
      go_ret
      exact ⟨rfl, HF.out⟩
  · have HE : Hid (s.doneE ts n = 0 ∧ s.done ts n = { s.tick with recs := s.recs ++ [n] }) := by show _ ∧ _; unfold Ls.doneE Ls.done; rw [hs]; simp [ha, hd]
    rw [HE.out.1, errV_zero]
    clear hM hok hck hs hok2 hd hi0 hhf hrd hrc2 hhf2
    generalize hln : (dataOf s.recs []).length = ln at *
    have HLN : Hid ((dataOf s.recs []).length = ln) := hln
    have hdec : decide (s.ahead = 0) = false := decide_eq_false ha
    have HWF : Hid (-9223372036854775808 ≤ s.ahead ∧ s.ahead < 9223372036854775808) := hwf
    clear ha hwf hln
    go_enter Tryd.func8, Tryd.ntmps8
    go_wp2_with fail
    refine hjd.mono ?_
    clear hjd
    rintro e w1 ⟨⟨a1, n1, k1, rfl⟩, hj1, hk1⟩
    obtain ⟨hM1, hK1⟩ := HM.out.join hj1 hk1
    have HM2 : Hid (LgM B T X XJ L J pv (.slice a ln c) ts (mark (inL s.recs) n) s (w1.alloc (.cells #[.int .u8 (n : Int), .int .u8 255] 5))) := hM1.later ((Below.refl _ _).alloc (Nat.le_refl _) _)
    have HK2 : Hid (Kx X w (w1.alloc (.cells #[.int .u8 (n : Int), .int .u8 255] 5))) := hK1.later ((Below.refl _ _).alloc (Nat.le_refl _) _)
    have hsz1 := hK1.size
    clear hj1 hk1 hM1 hK1
    have hst := stops_any HM2.out HWF.out
    rw [hdec] at hst
    go_wp2_with fail
    refine (hrc _).mono ?_
    rintro e w2 ⟨rfl, rfl⟩
    go_wp2_with fail
    refine hst.mono ?_
    clear hst hrc
    rintro e w3 ⟨rfl, hM3, hK3, hz3⟩
    have HM3 : Hid (LgM B T X XJ L J pv (.slice a ln c) ts (mark (inL s.recs) n) s.tick w3) := hM3
    have HK3 : Hid (Kx X w w3) := HK2.out.trans hK3 (fun _ h => Or.inl h)
    have hblk : w3.heap[w1.heap.size]? = some (.cells #[.int .u8 (n : Int), .int .u8 255] 5 (0, 0)) := (hK3.block w1.heap.size (by simp) (fun e => by have := hxl _ e; omega)).trans (heap_alloc_new w1 _)
    have HY : Hid (BytesAt w3 (.slice (some ⟨w1.heap.size, 0, none⟩) 2 2) [n, 255] ∧ BytesAt w3 (.slice (some ⟨w1.heap.size, 0, none⟩) 1 2) [n]) := by
      have h1 := (Array.getElem?_eq_some_iff.1 hblk).1
      refine ⟨⟨_, 2, rfl, by simp, Or.inr ⟨w1.heap.size, 0, rfl, h1, fun k hk => ?_⟩⟩, ⟨_, 2, rfl, by simp, Or.inr ⟨w1.heap.size, 0, rfl, h1, fun k hk => ?_⟩⟩⟩
      · rcases (by simp at hk; omega : k = 0 ∨ k = 1) with rfl | rfl <;> simp [World.cell?, hblk]
      · obtain rfl : k = 0 := by simpa using hk
        simp [World.cell?, hblk]
    have HD : Hid (RowB B w3 (.slice a ln c) (dataOf s.recs [])) := by
      have := hM3.data
      rw [HR2.out.1, HR2.out.2] at this
      exact this
    have hc2 := hM3.c2
    have hBle : B ≤ w3.heap.size := hM3.leB
    clear hM3 hK3 hz3 hblk HM2 HK2
    have hf2 := HM3.out.row.frozen 2
    go_wp2_with (at_builtin; refine wpList_append_bytes rfl (.tmp 49) (.tmp 50) rfl B (ln + 2) (.slice a ln c) (dataOf s.recs []) [n, 255] w1.heap.size 2 2 rfl rfl rfl HD.out HY.out.1 (by have := HLN.out; simp; omega) (by rw [HLN.out]; rfl) hBle (by simp) ?_; intro a4 c4 w4 hrow hgr hat; obtain ⟨hc4, hf4⟩ := HM3.out.blkL (wd := w3) rfl hgr)
    obtain ⟨hM5, hK5, hX5⟩ := HM3.out.append (wd := w3) (s' := { s.tick with recs := s.recs ++ [n] }) ⟨rfl, rfl, rfl, rfl⟩ hrow hgr hat (by show dataOf s.recs [] ++ [n, 255] = dataOf (s.recs ++ [n]) s.tick.half; rw [HR2.out.2, dataOf_snoc]) rfl rfl rfl
    have HF : Hid (LgTo B T X L ts (s.done ts n) w (w4.setCell ⟨L, 2, none⟩ (.slice a4 (ln + 2) c4))) := by
      show LgTo _ _ _ _ _ _ _ _
      have hz3 := HK3.out.size
      have ho := HOK.out
      rw [HE.out.2] at ho ⊢
      refine ⟨fun b => X b ∨ (Value.slice a4 (ln + 2) c4).ownBlock = some b, ⟨⟨XJ, J, pv, .slice a4 (ln + 2) c4, ?_⟩, ho, HCK.out⟩, HK3.out.trans hK5 (fun _ h => Or.inl h), fun b hb => (hX5 b hb).imp id (fun h => Nat.le_trans hz3 h)⟩
      show LgM _ _ _ _ _ _ _ _ _ (inL (s.recs ++ [n])) _ _
      rw [inL_snoc]
      exact hM5
    clear hM5 hK5 hX5 hrow hgr hat
    go_wp2
    go_ret
    exact ⟨rfl, HF.out⟩

theorem doneL_any (i : Int) (h : Lg B T X L ts s w) : Calls Tryd.prog 8 #[.pointer (some ⟨L, 0, none⟩), .int .i64 i] w fun e w' => e = .returned (errV (s.doneE ts i)) ∧ LgTo B T X L ts (s.done ts i) w w' := by
  by_cases hd : s.stopped = true ∨ ¬ doneErr ts (inL s.recs) i = 0
  · exact doneL_bad i h hd
  · have h1 : s.stopped = false := by
      cases e : s.stopped with
      | true => exact absurd (Or.inl e) hd
      | false => rfl
    have h2 : doneErr ts (inL s.recs) i = 0 := by
      by_cases e : doneErr ts (inL s.recs) i = 0
      · exact e
      · exact absurd (Or.inr e) hd
    exact doneL_good i h h1 h2
end Go.Proofs.YtbknbakbfblbiaaDoor
