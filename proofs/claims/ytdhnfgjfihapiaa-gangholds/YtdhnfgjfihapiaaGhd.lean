/- The walk of GangHolds. -/
import Derived.Test.YtdhnfgjfihapiaaGhc
import Derived.Deep.CutRange
import Derived.Deep.CutBlock
namespace Go.Proofs.Ytdhnfgjfihapiaa
open Go.RowKit Go.Deep

theorem one_work : ∀ i, i < oneT1.length → 1 ≤ workOf oneT1 i ∧ workOf oneT1 i ≤ 1000 := fun i hi => by
  have := good_work (show CheckIs oneT1 0 0 from one_check) i hi
  omega
theorem one_new (w : World) : Calls Try.prog 4 #[.slice (some ⟨w.heap.size, 0, none⟩) 1 1, .int .i64 1, .int .i64 1] (w.alloc (.cells #[.int .i64 1, .slice none 0 0] 32)) fun e w' => ∃ G, e = .returned (.tuple #[.pointer (some ⟨G, 0, none⟩), .nilIface]) ∧ GX (fun k => k < (w.alloc (.cells #[.int .i64 1, .slice none 0 0] 32)).heap.size) G 1 1 oneT1 (gnew oneT1) w' ∧ Below (w.alloc (.cells #[.int .i64 1, .slice none 0 0] 32)).heap.size (w.alloc (.cells #[.int .i64 1, .slice none 0 0] 32)) w' :=
  gx_new (hands := 1) (room := 1) (one_plan w) one_check (Nat.le_refl _) (by omega) (Nat.le_refl _) (by omega)
set_option maxRecDepth 100000 in
set_option maxHeartbeats 8000000 in
theorem gangHolds_no (v : Value) (ts : List (Int × List Int)) (hands room : Int) (sv : Value) (sn : Nat) (sa : Option Addr) (sc : Nat) (hsv : sv = .slice sa sn sc) (w : World) (hp : PlanAt w v ts) (hno : ¬ (CheckIs ts 0 0 ∧ 1 ≤ hands ∧ hands ≤ 6 ∧ 1 ≤ room ∧ room ≤ 16)) :
    Calls Try.prog 3 #[v, .int .i64 hands, .int .i64 room, sv] w fun e w' => e = .returned (.bool true) ∧ Below w.heap.size w w' := by
  subst hsv
  have hn1 := one_new w
  have HN : Hid (∀ wx, Below w.heap.size w wx → Calls Try.prog 4 #[v, .int .i64 hands, .int .i64 room] wx fun e w' => (∃ q : Int, e = .returned (.tuple #[.pointer none, .iface 67 (.int .i64 q)])) ∧ Below wx.heap.size wx w') := fun wx hb => gNew_no v ts wx (hp.later hb) hands room hno
  obtain ⟨pa, pc, rfl⟩ : ∃ a c, v = .slice a ts.length c := by obtain ⟨hl, a, c, hv, -⟩ := hp; exact ⟨a, c, hv⟩
  clear hp hno
  go_enter Try.func3, Try.ntmps3
  go_wp2_with fail
  refine hn1.mono ?_
  clear hn1
  rintro e w2 ⟨G1, rfl, hG2, hb2⟩
  have HB2 : Hid (Below w.heap.size w w2) := ((Below.refl _ _).alloc (Nat.le_refl _) _).trans (hb2.mono (by simp))
  have hl1 := hG2.left
  have HG2 : Hid (∀ wx, Below w2.heap.size w2 wx → GX (fun k => k < (w.alloc (.cells #[.int .i64 1, .slice none 0 0] 32)).heap.size) G1 1 1 oneT1 (gnew oneT1) wx) := fun wx hb => hG2.later hb
  clear hG2 hb2
  rw [show unseen (gnew oneT1).S oneT1.length = 1 from one_deeds.2.2.1] at hl1
  go_wp2_with fail
  refine hl1.mono ?_
  clear hl1
  rintro e w3 ⟨rfl, hb3⟩
  have hs1 := (HG2.out w3 hb3).step (show CheckIs oneT1 0 0 from one_check).good one_work (Nat.le_refl _) (by omega) (by omega) 0 0 (by omega) (by omega)
  have HB3 : Hid (Below w.heap.size w w3) := HB2.out.trans (hb3.mono HB2.out.size)
  clear hb3 HG2 HB2
  rw [one_deeds.1] at hs1
  go_wp2_with fail
  refine hs1.mono ?_
  clear hs1
  rintro e w4 ⟨va, rfl, hva, hG4, hK4⟩
  obtain ⟨ga, ca, rfl, hga0, hga, _, hca⟩ := hva.full (by simp)
  have HB4 : Hid (Below w.heap.size w w4) := ⟨hK4.os.trans HB3.out.os, hK4.tape.trans HB3.out.tape, hK4.output.trans HB3.out.output, Nat.le_trans HB3.out.size hK4.size, fun k hk => (hK4.block k (by show k < (w.alloc _).heap.size; simp; omega)).trans (HB3.out.block k hk)⟩
  have hca0 : w4.cell? ⟨ga, 0, none⟩ = some (.int .i64 3) := hca 0 (by simp) 0 (by omega)
  have hs2 := (hG4.deeds (hva.deedB (k := ga) rfl)).step (show CheckIs oneT1 0 0 from one_check).good one_work (Nat.le_refl _) (by omega) (by omega) 0 0 (by omega) (by omega)
  rw [show gdeeds oneT1 1 (gstep oneT1 1 1 (gnew oneT1) 0 0) 0 0 = [(4, 0, 0, 0)] from one_deeds.2.1] at hs2
  have HCA : Hid (w4.cell? ⟨ga, 0, none⟩ = some (.int .i64 3)) := hca0
  clear hG4 hK4 HB3 hca hca0 hga0 hva
  go_wp2_with fail
  refine hs2.mono ?_
  clear hs2
  rintro e w5 ⟨vb, rfl, hvb, hG5, hK5⟩
  obtain ⟨gb, cb, rfl, hgb0, hgb, _, hcb⟩ := hvb.full (by simp)
  have HB5 : Hid (Below w.heap.size w w5) := ⟨hK5.os.trans HB4.out.os, hK5.tape.trans HB4.out.tape, hK5.output.trans HB4.out.output, Nat.le_trans HB4.out.size hK5.size, fun k hk => (hK5.block k (Or.inl (by show k < (w.alloc _).heap.size; simp; omega))).trans (HB4.out.block k hk)⟩
  have hcb0 : w5.cell? ⟨gb, 0, none⟩ = some (.int .i64 4) := hcb 0 (by simp) 0 (by omega)
  have hca5 : w5.cell? ⟨ga, 0, none⟩ = some (.int .i64 3) := (World.cell?_of_block (a := ⟨ga, 0, none⟩) (hK5.block ga (Or.inr rfl))).trans HCA.out
  have hl2 := hG5.left
  rw [show unseen (gstep oneT1 1 1 (gstep oneT1 1 1 (gnew oneT1) 0 0) 0 0).S oneT1.length = 0 from one_deeds.2.2.2] at hl2
  clear hG5 hK5 HB4 hcb hgb0 hvb HCA
  go_wp2_with fail
  refine hl2.mono ?_
  clear hl2
  rintro e w6 ⟨rfl, hb6⟩
  have HB6 : Hid (Below w.heap.size w w6) := HB5.out.trans (hb6.mono HB5.out.size)
  clear hb6 HB5 hca5 hcb0 hga hgb
  have hn2 := HN.out w6 HB6.out
  clear HN
  go_wp2_with fail
  refine hn2.mono ?_
  clear hn2
  rintro e w7 ⟨⟨q, rfl⟩, hb7⟩
  have HB7 : Hid (Below w.heap.size w w7) := HB6.out.trans (hb7.mono HB6.out.size)
  clear hb7 HB6
  go_wp2
  go_ret
  exact ⟨rfl, HB7.out⟩
end Go.Proofs.Ytdhnfgjfihapiaa
