/- The document's Step: one falls asleep. -/
import Derived.Test.YtchbncgifefegaaDoorDge
namespace Go.Proofs.YtchbncgifefegaaDoor
open Go.RowKit Go.Deep
open Spl.Dsp (Gq gArr)

/-- Another row of those that sleep is stored. -/
theorem Dg.rowStore {M room hands : Nat} {ts : List (Int × List Int)} {g : Gs} {own : Nat → Nat} {gq : Gq} {vf vh : Value} {HB hc DB dc : Nat} {Hk : Nat → Nat} {vk : Nat → Value} {Bd : Bs} {w0 w w1 : World} (hD : Dg M room hands ts g own gq vf vh HB hc DB dc Hk vk Bd w0 w) (hK : Kc own (fun c => c = 4) w w1) {v : Value} {z : List Int} (hr : RowI (M + 1) w1 v z) (hz : z.length ≤ 6) (hl : Lb (relabel own w.heap.size 4) 4 v) :
    Dg M room hands ts { g with zz := z } (relabel own w.heap.size 4) { gq with rw := v } vf vh HB hc DB dc Hk vk Bd w0 (w1.setCell ⟨M, 7, none⟩ v) := by
  have hM1 : w1.heap[M]? = some (.cells (gArr gq room vf vh) 43 (0, 0)) := (hK.block M hD.ltM (by have := hD.lM; omega)).trans hD.blk
  refine hD.setRow z v (hr.of_blocks (fun k e => Below.heap_setCell _ _ _ _ (by show k ≠ M; have := (hr.low e).1; omega))) hz hl ?_ ⟨hK.os, hK.tape, hK.output, by simpa using hK.size, fun k hk hne => (Below.heap_setCell _ _ _ _ (by show k ≠ M; intro e; subst e; exact hne (Or.inl hD.lM))).trans (hK.block k hk (fun e => hne (Or.inr e)))⟩
  rw [setCell_eq_setRow w1 M 7 _ 43 (0, 0) v hM1, setRow_heap w1 M _ _ 43 _ hM1]; rfl
theorem Dg.rowApp {M room hands : Nat} {ts : List (Int × List Int)} {g : Gs} {own : Nat → Nat} {gq : Gq} {vf vh : Value} {HB hc DB dc : Nat} {Hk : Nat → Nat} {vk : Nat → Value} {Bd : Bs} {w0 w w2 : World} (hD : Dg M room hands ts g own gq vf vh HB hc DB dc Hk vk Bd w0 w) {o : Obj} {v2 : Value} {x : Int} (hown : RowI (M + 1) w2 v2 (g.zz ++ [x])) (hgr : (w.alloc o).grownBy w2 gq.rw.ownBlock) (hat : v2.ownBlock = gq.rw.ownBlock ∨ v2.ownBlock = some (w.alloc o).heap.size) (hl : g.zz.length < 6) :
    Dg M room hands ts { g with zz := g.zz ++ [x] } (relabel own w.heap.size 4) { gq with rw := v2 } vf vh HB hc DB dc Hk vk Bd w0 (w2.setCell ⟨M, 7, none⟩ v2) ∧ w2.heap[M]? = w.heap[M]? ∧ w.heap.size ≤ w2.heap.size := by
  have hsz : (w.alloc o).heap.size = w.heap.size + 1 := by simp
  have hk : Kc own (fun c => c = 4) w w2 := ⟨hgr.os, hgr.tape, hgr.output, by have := hgr.size; omega, fun k hk hne => (hgr.block k (by omega) (fun e => hne (hD.lrw k e.symm))).trans (Below.heap_alloc _ _ _ hk)⟩
  refine ⟨hD.rowStore hk hown (by simp; omega) (Lb.near hD.lrw (fun k e => (hD.row.low e).2) (fun k e => ?_)), hk.block M hD.ltM (by have := hD.lM; omega), hk.size⟩
  rcases hat with h | h
  · exact Or.inl (h.symm.trans e)
  · have e2 := h.symm.trans e
    simp only [Option.some.injEq] at e2
    exact Or.inr (by omega)

variable (M room hands : Nat) (ts : List (Int × List Int)) (p : Value) (g : Gs) (Bd : Bs) (w0 w : World) (h pick : Nat)
set_option maxRecDepth 100000 in
set_option maxHeartbeats 4000000 in
theorem dStep_slept (hD : DgE M room hands ts p g Bd w0 w) (hh : h < hands) (h6 : hands ≤ 6) (h16 : room ≤ 16) (hz : (h : Int) ∉ g.zz) (hzl : g.zz.length < 6) (ht : ¬ 0 ≤ g.task h) (hn : g.near h = -1) (hr : g.ring h = []) (hs : g.sp = []) (_hp63 : pick < 9223372036854775808) (ho : pick % hands = h ∨ g.ring (pick % hands) = []) :
    Calls Tryd.prog 8 #[.pointer (some ⟨M, 0, none⟩), .int .i64 h, .int .i64 pick] w fun e w' => (∃ v, e = .returned v ∧ RowD w.heap.size w' v [(5, (h : Int), 0, 0)]) ∧ DgE M room hands ts p { g with zz := g.zz ++ [(h : Int)] } Bd w0 w' := by
  obtain ⟨own, gq, vf, vh, HB, hc, DB, dc, Hk, vk, rfl, hD⟩ := hD
  have hin := inZ hD.row hD.zle (h : Int)
  rw [decide_eq_false hz] at hin
  obtain ⟨-, -, hc2, hc3, hc7, -⟩ := hD.c
  obtain ⟨hc1, hcp⟩ := hD.hands1 hh
  obtain ⟨tb, tc, wb, wc, htv, hwv, hct, -⟩ := hD.tw hh
  rw [htv] at hc2
  have htk := hD.takeNone hh hn hr
  have hget := hD.get1 h16
  rw [hs] at hget
  simp only [List.take_nil, List.tail_nil] at hget
  have hhi : (h : Int) < (hands : Int) := by omega
  generalize g.task h = t at *
  obtain ⟨o, hod⟩ : ∃ o, o = pick % hands := ⟨_, rfl⟩
  have hoh : o < hands := by rw [hod]; exact Nat.mod_lt _ (by omega)
  have hmod : (pick : Int).tmod (hands : Int) = (o : Int) := by rw [hod]; exact Int.ofNat_tmod pick hands
  have hh0 : ((hands : Int) == 0) = false := by simp; omega
  rw [← hod] at ho
  have hho' : (o : Int) < (hands : Int) := by omega
  have HS : Hid ({ g with sp := [] } = g) := by show _ = _; rw [← hs]
  clear hD hz hod
  go_enter Tryd.func8, Tryd.ntmps8
  go_upto_if 204 with (first | (go_at_call 28; refine hin.mono ?_; clear hin; rintro e w ⟨rfl, rfl⟩) | (go_at_call 31; refine htk.mono ?_; clear htk; rintro e w ⟨rfl, rfl⟩) | (go_at_call 33; refine hget.mono ?_; clear hget; rintro e w2 ⟨⟨ov, rfl, ho2⟩, ⟨own2, vf2, vh2, hD2, -⟩, hs2⟩; obtain ⟨oa, oc, rfl⟩ := ho2.shape; have HD2 : Hid (Dg M room hands ts g own2 gq vf2 vh2 HB hc DB dc Hk vk Bd w0 w2) := by { have := HS.out; rw [← this]; exact hD2 }; have e1 := hD2.hands1 hoh; obtain ⟨e1, e2⟩ := e1; simp only [List.length_nil] at ⊢; clear hD2 ho2))
  go_cut [20] from 204 to 212 (fun s20 wx => ∃ (oa : Option Addr) (oc : Nat) (own3 : Nat → Nat) (vk3 : Nat → Value), s20 = .slice oa 0 oc ∧ Hid (Dg M room hands ts g own3 gq vf2 vh2 HB hc DB dc Hk vk3 Bd w0 wx) ∧ w.heap.size ≤ wx.heap.size)
  case first => as_aux_lemma =>
    by_cases hoe : o = h
    · subst hoe
      have hne : ((o : Int) != (o : Int)) = false := by simp
      go_wp2
      go_meet
      exact ⟨oa, oc, own2, vk, rfl, HD2, by omega⟩
    · have hne : ((o : Int) != (h : Int)) = true := by simp; omega
      have hro := ho.resolve_left hoe
      have hrob := HD2.out.rob hoh
      rw [hro] at hrob
      simp only [List.take_nil, List.drop_nil] at hrob
      have HU : Hid ({ g with ring := upd g.ring o [] } = g) := by show _ = _; rw [← hro, upd_id]
      go_wp2_with (first | (go_at_call 34; refine hrob.mono ?_; clear hrob; rintro e w3 ⟨⟨ov, rfl, ho3⟩, ⟨own3, vk3, hD3, -⟩, hs3⟩; obtain ⟨oa3, oc3, rfl⟩ := ho3.shape; have HD3 : Hid (Dg M room hands ts g own3 gq vf2 vh2 HB hc DB dc Hk vk3 Bd w0 w3) := by { have := HU.out; rw [← this]; exact hD3 }; simp only [List.length_nil] at ⊢; clear hD3 ho3))
      go_meet
      exact ⟨_, _, own3, vk3, rfl, HD3, by omega⟩
  case rest => as_aux_lemma =>
    obtain ⟨oa3, oc3, own3, vk3, rfl, hD3, hsz⟩ := hcut
    clear HD2 e1 e2 hc1 hcp hc2 hc3 hc7 hct hs2 htv hwv
    have hc7 := hD3.out.c.2.2.2.2.1
    have hfz := hD3.out.fz 7
    obtain ⟨ra, rc, hrv⟩ := hD3.out.row.shape
    have HROW : Hid (RowI (M + 1) wc (.slice ra g.zz.length rc) g.zz) := by rw [← hrv]; exact hD3.out.row
    have HRV : Hid (gq.rw = .slice ra g.zz.length rc) := hrv
    rw [hrv] at hc7
    have hMl := hD3.out.ltM
    have hca : (wc.alloc (.cells #[.int .i64 h] 3)).cell? ⟨M, 7, none⟩ = some (.slice ra g.zz.length rc) := (World.cell?_of_block (a := ⟨M, 7, none⟩) (Below.heap_alloc _ _ _ hMl)).trans hc7
    have HO : Hid (Rds (fun _ => True) (wc.alloc (.cells #[.int .i64 h] 3)) (.slice (some ⟨wc.heap.size, 0, none⟩) 1 1) [(h : Int)]) := one_rds wc h
    clear hrv
    go_wp2_with (first | (at_builtin; go_loud (refine wpList_append_rows rfl (.tmp 220) (.tmp 222) rfl (M + 1) (fun _ => True) (.slice ra g.zz.length rc) (.slice (some ⟨wc.heap.size, 0, none⟩) 1 1) g.zz [(h : Int)] rfl rfl (HROW.out.alloc _) HO.out (by simp; omega) (by simp; omega) ?_; intro v2 w2b hown hgr hat; have hA := hD3.out.rowApp hown (by rw [HRV.out]; exact hgr) (by rw [HRV.out]; exact hat) hzl; obtain ⟨hA1, hA2, hA3⟩ := hA; have HA : Hid (DgE M room hands ts gq.p { g with zz := g.zz ++ [(h : Int)] } Bd w0 (w2b.setCell ⟨M, 7, none⟩ v2)) := hA1.e; have hz2 := (World.frozen?_of_block (a := ⟨M, 7, none⟩) hA2).trans hfz; have hcm := (World.cell?_of_block (a := ⟨M, 7, none⟩) hA2).trans hc7; obtain ⟨a2, k2, rfl⟩ := hown.shape; simp only [List.length_append, List.length_singleton] at HA ⊢; clear hown hgr hat hA1 hA2 hc7 hca hfz)))
    go_ret
    have hX : (w2b.setCell ⟨M, 7, none⟩ (.slice a2 (g.zz.length + 1) k2)).heap.size = w2b.heap.size := by simp
    have hT := RowD.told w (w2b.setCell ⟨M, 7, none⟩ (.slice a2 (g.zz.length + 1) k2)) (by omega) (5, (h : Int), 0, 0)
    rw [hX] at hT
    exact ⟨⟨_, rfl, hT⟩, HA.out.later ((Below.refl _ _).alloc (Nat.le_refl _) _)⟩
end Go.Proofs.YtchbncgifefegaaDoor
