/- The document's Step: it robs another one. -/
import Derived.Test.YtchbncgifefegaaDoorDgf
namespace Go.Proofs.YtchbncgifefegaaDoor
open Go.RowKit Go.Deep
open Spl.Dsp (Gq gArr)

/-- A list that is read, in a block that bears a label. -/
def LvAt (own : Nat → Nat) (c : Nat) (oa : Option Addr) (ls : List Nat) (w : World) : Prop :=
  ∀ j, j < ls.length → ∃ ob oo, oa = some ⟨ob, oo, none⟩ ∧ ob < w.heap.size ∧ own ob = c ∧ w.cell? ⟨ob, oo + j, none⟩ = some (.int .i64 ((ls.getD j 0 : Nat) : Int))
theorem LvAt.kc {own : Nat → Nat} {C : Nat → Prop} {c d : Nat} {oa : Option Addr} {ls : List Nat} {w w' : World} (h : LvAt own c oa ls w) (hk : Kc own C w w') (hc : ¬ C c) : LvAt (relabel own w.heap.size d) c oa ls w' := fun j hj => by
  obtain ⟨ob, oo, ha, hlt, hl, hcell⟩ := h j hj
  exact ⟨ob, oo, ha, Nat.lt_of_lt_of_le hlt hk.size, by rw [relabel_lt hlt]; exact hl, (World.cell?_of_block (a := ⟨ob, oo + j, none⟩) (hk.block ob hlt (by rw [hl]; exact hc))).trans hcell⟩
theorem tail_take {ls : List Nat} {k : Nat} (h1 : 1 ≤ k) (hk : k < ls.length) : (intsOf ls).tail.take k = (intsOf ls).tail.take (k - 1) ++ [((ls.getD k 0 : Nat) : Int)] := by
  obtain ⟨m, rfl⟩ : ∃ m, k = m + 1 := ⟨k - 1, by omega⟩
  have hl : m < (intsOf ls).tail.length := by rw [List.length_tail, intsOf_length]; omega
  rw [Nat.add_sub_cancel, take_snoc hl]
  congr 2
  rw [List.getD_eq_getElem?_getD, List.getElem?_tail, ← List.getD_eq_getElem?_getD, intsOf_getD]

variable (M room hands : Nat) (ts : List (Int × List Int)) (p : Value) (g : Gs) (Bd : Bs) (w0 w : World) (h pick : Nat)
set_option maxRecDepth 100000 in
set_option maxHeartbeats 8000000 in
theorem dStep_robs (hD : DgE M room hands ts p g Bd w0 w) (hh : h < hands) (h6 : hands ≤ 6) (h16 : room ≤ 16) (hr1 : 1 ≤ room) (hz : (h : Int) ∉ g.zz) (ht : ¬ 0 ≤ g.task h) (hn : g.near h = -1) (hr : g.ring h = []) (hs : g.sp = []) (_hp63 : pick < 9223372036854775808) (o : Nat) (hod : o = pick % hands) (hoh' : o ≠ h) (ls : List Nat) (hls : intsOf ls = (g.ring o).take (((g.ring o).length + 1) / 2)) (hlp : 0 < ls.length) (hll : ls.length ≤ 16) (hlt : ∀ x, x ∈ ls → x < ts.length) :
    Calls Tryd.prog 8 #[.pointer (some ⟨M, 0, none⟩), .int .i64 h, .int .i64 pick] w fun e w' => (∃ v, e = .returned v ∧ RowD w.heap.size w' v [(2, (h : Int), ((ls.getD 0 0 : Nat) : Int), (o : Int))]) ∧ DgE M room hands ts p (takes ts (puts room { g with ring := upd g.ring o ((g.ring o).drop (((g.ring o).length + 1) / 2)) } h (intsOf ls).tail) h ((ls.getD 0 0 : Nat) : Int)) Bd w0 w' := by
  obtain ⟨own, gq, vf, vh, HB, hc, DB, dc, Hk, vk, rfl, hD⟩ := hD
  have hin := inZ hD.row hD.zle (h : Int)
  rw [decide_eq_false hz] at hin
  obtain ⟨-, -, hc2, hc3, hc7, -⟩ := hD.c
  obtain ⟨hc1, hcp⟩ := hD.hands1 hh
  obtain ⟨tb, tc, wb, wc, htv, hwv, hct, -⟩ := hD.tw hh
  rw [htv] at hc2
  have htk := hD.takeNone hh hn hr
  have hget := hD.get1 h16
  rw [hs] at hget
  simp only [List.take_nil, List.tail_nil] at hget
  have hhi : (h : Int) < (hands : Int) := by omega
  generalize g.task h = t at *
  have hoh : o < hands := by rw [hod]; exact Nat.mod_lt _ (by omega)
  have hmod : (pick : Int).tmod (hands : Int) = (o : Int) := by rw [hod]; exact Int.ofNat_tmod pick hands
  have hh0 : ((hands : Int) == 0) = false := by simp; omega
  have hho' : (o : Int) < (hands : Int) := by omega
  have HS : Hid ({ g with sp := [] } = g) := by show _ = _; rw [← hs]
  have hne : ((o : Int) != (h : Int)) = true := by rw [bne_iff_ne]; omega
  obtain ⟨g1, hg1⟩ : ∃ g1 : Gs, g1 = { g with ring := upd g.ring o ((g.ring o).drop (((g.ring o).length + 1) / 2)) } := ⟨_, rfl⟩
  have HG1 : Hid (g1 = { g with ring := upd g.ring o ((g.ring o).drop (((g.ring o).length + 1) / 2)) }) := hg1
  have HLS : Hid (intsOf ls = (g.ring o).take (((g.ring o).length + 1) / 2)) := hls
  have HLT : Hid (∀ x, x ∈ ls → x < ts.length) := hlt
  rw [← hg1]
  have hl0 : ((ls.length : Int) == 0) = false := by rw [beq_eq_false_iff_ne]; omega
  clear hD hz hod hg1 hls hlt
  go_enter Tryd.func8, Tryd.ntmps8
  go_wp2_with (first | (go_at_call 28; refine hin.mono ?_; clear hin; rintro e w ⟨rfl, rfl⟩) | (go_at_call 31; refine htk.mono ?_; clear htk; rintro e w ⟨rfl, rfl⟩) | (go_at_call 33; refine hget.mono ?_; clear hget; rintro e w2 ⟨⟨ov, rfl, ho2⟩, ⟨own2, vf2, vh2, hD2, -⟩, hs2⟩; obtain ⟨oa, oc, rfl⟩ := ho2.shape; have hD2' : Dg M room hands ts g own2 gq vf2 vh2 HB hc DB dc Hk vk Bd w0 w2 := by { have := HS.out; rw [← this]; exact hD2 }; have e1 := hD2.hands1 hoh; obtain ⟨e1, e2⟩ := e1; have hrob := hD2'.rob hoh; rw [← HG1.out, ← HLS.out] at hrob; simp only [List.length_nil] at ⊢; clear hD2 hD2' ho2) | (go_at_call 34; refine hrob.mono ?_; clear hrob; rintro e w3 ⟨⟨ov3, rfl, ho3⟩, ⟨own3, vk3, hD3, hl3⟩, hs3⟩; obtain ⟨oa3, oc3, rfl⟩ := ho3.shape; rw [intsOf_length]; have HO3 : Hid (Rds (fun k => w2.heap.size ≤ k) w3 (.slice oa3 (intsOf ls).length oc3) (intsOf ls)) := ho3; have HD3 : Hid (Dg M room hands ts g1 own3 gq vf2 vh2 HB hc DB dc Hk vk3 Bd w0 w3) := hD3; have HL3 : Hid (∀ k, w2.heap.size ≤ k → own3 k = 10 + o) := hl3; clear hD3 ho3 hl3))
  have HLV : Hid (LvAt own3 (10 + o) oa3 ls w3) := fun j hj => by
    obtain ⟨ob, oo, ha, hge, hlt, hcell⟩ := HO3.out.at (k := j) (by rw [intsOf_length]; exact hj)
    rw [intsOf_getD] at hcell
    exact ⟨ob, oo, ha, hlt, HL3.out ob hge, hcell⟩
  have HP3 : Hid (Dg M room hands ts (puts room g1 h ((intsOf ls).tail.take (1 - 1))) own3 gq vf2 vh2 HB hc DB dc Hk vk3 Bd w0 w3) := by rw [Nat.sub_self, List.take_zero, puts_nil]; exact HD3
  clear HO3 HL3 HD3 hc1 hcp hc2 hc3 hc7 hct htv hwv e1 e2 hmod hh0 hne hl0
  have hsw : w.heap.size ≤ w3.heap.size := by omega
  clear hs2 hs3
  go_loopw [22] (fun s22 wr => ∃ (k : Nat) (own4 : Nat → Nat) (vk4 : Nat → Value), s22 = .int .i64 k ∧ 1 ≤ k ∧ k ≤ ls.length ∧ Hid (Dg M room hands ts (puts room g1 h ((intsOf ls).tail.take (k - 1))) own4 gq vf2 vh2 HB hc DB dc Hk vk4 Bd w0 wr) ∧ Hid (LvAt own4 (10 + o) oa3 ls wr) ∧ w.heap.size ≤ wr.heap.size) (fun s22 _ => ls.length - (intOf s22).toNat)
  case atStart => exact ⟨1, own3, vk3, rfl, by omega, by omega, HP3, HLV, hsw⟩
  case round =>
    clear HP3 HLV hsw
    obtain ⟨k, own4, vk4, rfl, hk1, hk, hD4, hL4, hsw⟩ := hrel
    by_cases hkl : k < ls.length
    · have hkl' : (k : Int) < (ls.length : Int) := by omega
      obtain ⟨ob, oo, rfl, hobl, -, hcx⟩ := hL4.out k hkl
      have hcx' : ∀ q, (wr.drewN q).cell? ⟨ob, oo + k, none⟩ = some (.int .i64 ((ls.getD k 0 : Nat) : Int)) := fun q => hcx
      have c1 := (hD4.out.hands1 hh).1
      have c2 := (hD4.out.hands1 hh).2
      have HTT : Hid ((intsOf ls).tail.take k = (intsOf ls).tail.take (k - 1) ++ [((ls.getD k 0 : Nat) : Int)]) := tail_take hk1 hkl
      have hput := fun q => (hD4.out.later0 (w' := wr.drewN q) (Kc.of_below ⟨rfl, rfl, rfl, Nat.le_refl _, fun _ _ => rfl⟩)).put hh hr1 (ls.getD k 0)
      generalize ls.getD k 0 = x at *
      have HNX : Hid (∀ (q : Nat) (wz : World), Kc (relabel own4 wr.heap.size 9) (fun c => c = 10 + h) (wr.drewN q) wz → LvAt (relabel (relabel own4 wr.heap.size 9) wr.heap.size (10 + h)) (10 + o) (some ⟨ob, oo, none⟩) ls wz ∧ wr.heap.size ≤ wz.heap.size) := fun q wz hk => ⟨LvAt.kc (w := wr.drewN q) (fun j hj => by
        obtain ⟨ob', oo', ha, hlt, hl, hcell⟩ := hL4.out j hj
        exact ⟨ob', oo', ha, hlt, by rw [relabel_lt hlt]; exact hl, hcell⟩) hk (by omega), hk.size⟩
      go_wp2
      go_region_with (first | (go_at_call 29; refine (hput _).mono ?_; clear hput; rintro e w5 ⟨⟨ov5, rfl, -⟩, ⟨vk5, hD5⟩, hk5⟩; have HD5 : Hid (Dg M room hands ts (puts room g1 h ((intsOf ls).tail.take k)) (relabel (relabel own4 wr.heap.size 9) wr.heap.size (10 + h)) gq vf2 vh2 HB hc DB dc Hk vk5 Bd w0 w5) := (by rw [HTT.out, puts_snoc]; exact hD5); have HL5 := HNX.out _ w5 hk5; clear hD5 hk5))
      all_goals
        go_wp2
        go_roundw
        case rel => exact ⟨k + 1, _, _, by go_num, by omega, by omega, HD5, HL5.1, by have := HL5.2; omega⟩
        case measure => simp [intOf]; omega
    · have hkl' : ¬ (k : Int) < (ls.length : Int) := by omega
      obtain rfl : k = ls.length := by omega
      have HE : (intsOf ls).tail.take (ls.length - 1) = (intsOf ls).tail := List.take_of_length_le (by rw [List.length_tail, intsOf_length]; omega)
      rw [HE] at hD4
      obtain ⟨ob, oo, rfl, hobl, hobo, hcx⟩ := hL4.out 0 hlp
      rw [Nat.add_zero] at hcx
      have hx0 : ls.getD 0 0 < ts.length := HLT.out _ (by rw [List.getD_eq_getElem?_getD, List.getElem?_eq_getElem hlp]; exact List.getElem_mem hlp)
      have hta := hD4.out.take h (ls.getD 0 0) hh h6 hx0
      have hpl : (0 : Int) < (ls.length : Int) := by omega
      obtain ⟨x, hx⟩ : ∃ x, x = ls.getD 0 0 := ⟨_, rfl⟩
      have HX : Hid (x = ls.getD 0 0) := hx
      rw [← hx] at hta hcx hx0
      clear HE hx
      go_wp2_with (first | (go_at_call 32; refine hta.mono ?_; clear hta; rintro e w5 ⟨rfl, ⟨own5, hD5⟩, hk5⟩; have hco5 := (World.cell?_of_block (a := ⟨ob, oo, none⟩) (hk5.block ob hobl (by omega))).trans hcx; have hs5 := hk5.size; have HD5 : Hid (DgE M room hands ts gq.p (takes ts (puts room g1 h (intsOf ls).tail) h ((x : Nat) : Int)) Bd w0 w5) := hD5.e; clear hD5 hk5 hcx))
      go_ret
      rw [← HX.out]
      exact ⟨⟨_, rfl, RowD.told w w5 (by omega) (2, (h : Int), ((x : Nat) : Int), (o : Int))⟩, HD5.out.later ((Below.refl _ _).alloc (Nat.le_refl _) _)⟩
end Go.Proofs.YtchbncgifefegaaDoor
