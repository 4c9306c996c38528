/- trace.Check: the contract of tell. -/
import Derived.Test.YtandhiiaflhenaaGreatDoorTkx
namespace Go.Proofs.YtandhiiaflhenaaGreatDoor
open Go.RowKit Go.Deep Go.Maps

section
variable {H : Nat} {pa : Option Addr} {pc hands q : Nat} {w0 w w' : World} {s s' : Tr} {ts : List (Int × List Int)}
theorem tn4 (s : Tr) (x2 x3 x4 : Nat) : trNext s ((4 : Int), (x2 : Int), (x3 : Int), (x4 : Int)) = { s with has := updG s.has x2 (-1), dn := mark s.dn x3 } := by
  unfold trNext
  dsimp only
  rw [if_neg (by omega), if_pos rfl, Int.toNat_natCast, Int.toNat_natCast]
theorem tn5 (s : Tr) (x2 x3 x4 : Nat) : trNext s ((5 : Int), (x2 : Int), (x3 : Int), (x4 : Int)) = { s with slp := updG s.slp x2 true } := by
  unfold trNext
  dsimp only
  rw [if_neg (by omega), if_neg (by omega), if_pos rfl, Int.toNat_natCast]
theorem tn6 (s : Tr) (x2 x3 x4 : Nat) : trNext s ((6 : Int), (x2 : Int), (x3 : Int), (x4 : Int)) = { s with slp := updG s.slp x2 false } := by
  unfold trNext
  dsimp only
  rw [if_neg (by omega), if_neg (by omega), if_neg (by omega), Int.toNat_natCast]
set_option maxRecDepth 100000 in
set_option maxHeartbeats 8000000 in
theorem tell_any (hM : SM H pa pc hands ts.length q w0 w s) (hp : PlanAt w (.slice pa ts.length pc) ts) (hr : InRange ts) (hq : q ≤ 10000) (h6 : hands ≤ 6) (h30 : ts.length ≤ 30) (x1 : Int) (x2 x3 x4 : Nat) (hx1 : 1 ≤ x1 ∧ x1 ≤ 6) (er : Int) (her : er = trErr ts hands s (x1, (x2 : Int), (x3 : Int), (x4 : Int))) :
    Calls Tryz.prog 39 #[.pointer (some ⟨H + 4, 0, none⟩), .agg #[.int .i64 x1, .int .i64 (x2 : Int), .int .i64 (x3 : Int), .int .i64 (x4 : Int)]] w (DeedOut H pa pc hands ts.length q w0 er (trNext s (x1, (x2 : Int), (x3 : Int), (x4 : Int)))) := by
  obtain ⟨W, hW⟩ : ∃ W, W = w.alloc (.cells #[.int .i64 x1, .int .i64 (x2 : Int), .int .i64 (x3 : Int), .int .i64 (x4 : Int)] 43) := ⟨_, rfl⟩
  have hbW : Below w.heap.size w W := by rw [hW]; exact (Below.refl _ _).alloc (Nat.le_refl _) _
  have hMW := hM.later hbW
  have hsz : W.heap.size = w.heap.size + 1 := by rw [hW]; simp
  have hnd : W.cell? ⟨w.heap.size, 0, none⟩ = some (.int .i64 x1) ∧ W.cell? ⟨w.heap.size, 1, none⟩ = some (.int .i64 (x2 : Int)) ∧ W.cell? ⟨w.heap.size, 2, none⟩ = some (.int .i64 (x3 : Int)) ∧ W.cell? ⟨w.heap.size, 3, none⟩ = some (.int .i64 (x4 : Int)) := by rw [hW]; exact new_deed w x1 x2 x3 x4
  have HSL0 : Hid (∀ W', Below W.heap.size W W' → W'.cell? ⟨w.heap.size, 0, none⟩ = some (.int .i64 x1) ∧ W'.cell? ⟨w.heap.size, 1, none⟩ = some (.int .i64 (x2 : Int)) ∧ W'.cell? ⟨w.heap.size, 2, none⟩ = some (.int .i64 (x3 : Int)) ∧ W'.cell? ⟨w.heap.size, 3, none⟩ = some (.int .i64 (x4 : Int)) ∧ W'.cell? ⟨H + 4, 0, none⟩ = some (.slice pa ts.length pc) ∧ W'.cell? ⟨H + 4, 1, none⟩ = some (.int .i64 (hands : Int))) := fun W' hb => by
    have hM' := (hMW.later hb).c
    have hcl : ∀ j, W'.cell? ⟨w.heap.size, j, none⟩ = W.cell? ⟨w.heap.size, j, none⟩ := fun j => hb.cell (p := ⟨w.heap.size, j, none⟩) (by rw [hsz]; show w.heap.size < _; omega)
    exact ⟨(hcl 0).trans hnd.1, (hcl 1).trans hnd.2.1, (hcl 2).trans hnd.2.2.1, (hcl 3).trans hnd.2.2.2, hM'.1, hM'.2.1⟩
  have HMW : Hid (SM H pa pc hands ts.length q w0 W s) := hMW
  have HP : Hid (PlanAt W (.slice pa ts.length pc) ts) := hp.later hbW
  have HRG : Hid (InRange ts) := hr
  have HW : Hid (W = w.alloc (.cells #[.int .i64 x1, .int .i64 (x2 : Int), .int .i64 (x3 : Int), .int .i64 (x4 : Int)] 43)) := hW
  obtain ⟨Wd, hWd⟩ : ∃ Wd : World, Wd = { W with drawn := W.drawn + 1 } := ⟨_, rfl⟩
  have hbWd : Below W.heap.size W Wd := by rw [hWd]; exact drewB W 1
  have HS := HSL0.out Wd hbWd
  have hht := hasTask_any x1 x2 x3 x4 Wd
  have HWd : Hid (Wd = { W with drawn := W.drawn + 1 }) := hWd
  have HBD : Hid (Below W.heap.size W Wd) := hbWd
  have HSL : Hid (∀ W', Below Wd.heap.size Wd W' → W'.cell? ⟨w.heap.size, 0, none⟩ = some (.int .i64 x1) ∧ W'.cell? ⟨w.heap.size, 1, none⟩ = some (.int .i64 (x2 : Int)) ∧ W'.cell? ⟨w.heap.size, 2, none⟩ = some (.int .i64 (x3 : Int)) ∧ W'.cell? ⟨w.heap.size, 3, none⟩ = some (.int .i64 (x4 : Int)) ∧ W'.cell? ⟨H + 4, 0, none⟩ = some (.slice pa ts.length pc) ∧ W'.cell? ⟨H + 4, 1, none⟩ = some (.int .i64 (hands : Int))) := fun W2 h => HSL0.out W2 (hbWd.trans (h.mono hbWd.size))
  have HBDt : Hid (∀ W2, Below Wd.heap.size Wd W2 → Below W.heap.size W W2) := fun W2 h => hbWd.trans (h.mono hbWd.size)
  clear hW hM hMW hbW hp hWd hbWd hr hnd
  by_cases p1 : (hands : Int) ≤ (x2 : Int)
  · have HER : Hid (er = 1) := her.trans (if_pos (Or.inl p1))
    clear her hht HSL HSL0 HP HRG
    go_enter Tryz.func39, Tryz.ntmps39
    go_upto_region 1 with fail
    rw [← HW.out]
    refine wp_region_held (S := fun W' => W'.cell? ⟨w.heap.size, 0, none⟩ = some (.int .i64 x1) ∧ W'.cell? ⟨w.heap.size, 1, none⟩ = some (.int .i64 (x2 : Int)) ∧ W'.cell? ⟨w.heap.size, 2, none⟩ = some (.int .i64 (x3 : Int)) ∧ W'.cell? ⟨w.heap.size, 3, none⟩ = some (.int .i64 (x4 : Int)) ∧ W'.cell? ⟨H + 4, 0, none⟩ = some (.slice pa ts.length pc) ∧ W'.cell? ⟨H + 4, 1, none⟩ = some (.int .i64 (hands : Int))) (by kernel_rfl) ?_
    rw [← HWd.out]
    refine wpAnyJ_take (i := 0) (v := ?vr6s0) (some 5) rfl rfl (by kernel_rfl) (by kernel_rfl) (by kernel_rfl) (fun _ _ _ h => h) (Or.inl ⟨by rfl, ?hyr6s0⟩) HS ?_
    case hyr6s0 =>
      intro wz hSz
      obtain ⟨hSz0, hSz1, hSz2, hSz3, hSz4, hSz5⟩ := hSz
      go_simp
      try rfl
    simp only [Act.put, List.setIfInBounds_toArray, List.set_cons_zero, List.set_cons_succ]
    refine wpAnyJ_take (i := 1) (v := ?vr6s1) (some 6) rfl rfl (by kernel_rfl) (by kernel_rfl) (by kernel_rfl) (fun _ _ _ h => h) (Or.inl ⟨by rfl, ?hyr6s1⟩) HS ?_
    case hyr6s1 =>
      intro wz hSz
      obtain ⟨hSz0, hSz1, hSz2, hSz3, hSz4, hSz5⟩ := hSz
      go_simp
      try rfl
    simp only [Act.put, List.setIfInBounds_toArray, List.set_cons_zero, List.set_cons_succ]
    refine wpAnyJ_take (i := 2) (v := ?vr6s2) (some 7) rfl rfl (by kernel_rfl) (by kernel_rfl) (by kernel_rfl) (fun _ _ _ h => h) (Or.inl ⟨by rfl, ?hyr6s2⟩) HS ?_
    case hyr6s2 =>
      intro wz hSz
      obtain ⟨hSz0, hSz1, hSz2, hSz3, hSz4, hSz5⟩ := hSz
      go_simp
      try rfl
    simp only [Act.put, List.setIfInBounds_toArray, List.set_cons_zero, List.set_cons_succ]
    refine wpAnyJ_take (i := 3) (v := ?vr6s3) (some 8) rfl rfl (by kernel_rfl) (by kernel_rfl) (by kernel_rfl) (fun _ _ _ h => h) (Or.inl ⟨by rfl, ?hyr6s3⟩) HS ?_
    case hyr6s3 =>
      intro wz hSz
      obtain ⟨hSz0, hSz1, hSz2, hSz3, hSz4, hSz5⟩ := hSz
      go_simp
      try rfl
    simp only [Act.put, List.setIfInBounds_toArray, List.set_cons_zero, List.set_cons_succ]
    refine wpAnyJ_take (i := 4) (v := ?vr6s4) (some 9) rfl rfl (by kernel_rfl) (by kernel_rfl) (by kernel_rfl) (fun _ _ _ h => h) (Or.inl ⟨by rfl, ?hyr6s4⟩) HS ?_
    case hyr6s4 =>
      intro wz hSz
      obtain ⟨hSz0, hSz1, hSz2, hSz3, hSz4, hSz5⟩ := hSz
      go_simp
      try rfl
    simp only [Act.put, List.setIfInBounds_toArray, List.set_cons_zero, List.set_cons_succ]
    refine wpAnyJ_take (i := 5) (v := ?vr6s5) (some 10) rfl rfl (by kernel_rfl) (by kernel_rfl) (by kernel_rfl) (fun _ _ _ h => h) (Or.inl ⟨by rfl, ?hyr6s5⟩) HS ?_
    case hyr6s5 =>
      intro wz hSz
      obtain ⟨hSz0, hSz1, hSz2, hSz3, hSz4, hSz5⟩ := hSz
      go_simp
      try rfl
    simp only [Act.put, List.setIfInBounds_toArray, List.set_cons_zero, List.set_cons_succ]
    refine wpAnyJ_take (i := 6) (v := ?vr6s6) (some 11) rfl rfl (by kernel_rfl) (by kernel_rfl) (by kernel_rfl) (fun _ _ _ h => h) (Or.inl ⟨by rfl, ?hyr6s6⟩) HS ?_
    case hyr6s6 =>
      intro wz hSz
      obtain ⟨hSz0, hSz1, hSz2, hSz3, hSz4, hSz5⟩ := hSz
      go_simp
      try rfl
    simp only [Act.put, List.setIfInBounds_toArray, List.set_cons_zero, List.set_cons_succ]
    refine wpAnyJ_take (i := 7) (v := ?vr6s7) (some 12) rfl rfl (by kernel_rfl) (by kernel_rfl) (by kernel_rfl) (fun _ _ _ h => h) (Or.inl ⟨by rfl, ?hyr6s7⟩) HS ?_
    case hyr6s7 =>
      intro wz hSz
      obtain ⟨hSz0, hSz1, hSz2, hSz3, hSz4, hSz5⟩ := hSz
      go_simp
      try rfl
    simp only [Act.put, List.setIfInBounds_toArray, List.set_cons_zero, List.set_cons_succ]
    refine wpAnyJ_take (i := 8) (v := undef) (some 13) rfl rfl (by kernel_rfl) (by kernel_rfl) (by kernel_rfl) (fun _ _ _ h => h) (Or.inr ⟨by rfl, rfl⟩) HS ?_
    simp only [Act.put, List.setIfInBounds_toArray, List.set_cons_zero, List.set_cons_succ]
    refine wpAnyJ_take (i := 9) (v := undef) (some 14) rfl rfl (by kernel_rfl) (by kernel_rfl) (by kernel_rfl) (fun _ _ _ h => h) (Or.inr ⟨by rfl, rfl⟩) HS ?_
    simp only [Act.put, List.setIfInBounds_toArray, List.set_cons_zero, List.set_cons_succ]
    refine wpAnyJ_take (i := 10) (v := undef) (some 15) rfl rfl (by kernel_rfl) (by kernel_rfl) (by kernel_rfl) (fun _ _ _ h => h) (Or.inr ⟨by rfl, rfl⟩) HS ?_
    simp only [Act.put, List.setIfInBounds_toArray, List.set_cons_zero, List.set_cons_succ]
    refine wpAnyJ_take (i := 11) (v := undef) (some 16) rfl rfl (by kernel_rfl) (by kernel_rfl) (by kernel_rfl) (fun _ _ _ h => h) (Or.inr ⟨by rfl, rfl⟩) HS ?_
    simp only [Act.put, List.setIfInBounds_toArray, List.set_cons_zero, List.set_cons_succ]
    refine wpAnyJ_take (i := 12) (v := undef) (some 17) rfl rfl (by kernel_rfl) (by kernel_rfl) (by kernel_rfl) (fun _ _ _ h => h) (Or.inr ⟨by rfl, rfl⟩) HS ?_
    simp only [Act.put, List.setIfInBounds_toArray, List.set_cons_zero, List.set_cons_succ]
    refine wpAnyJ_take (i := 13) (v := undef) (some 18) rfl rfl (by kernel_rfl) (by kernel_rfl) (by kernel_rfl) (fun _ _ _ h => h) (Or.inr ⟨by rfl, rfl⟩) HS ?_
    simp only [Act.put, List.setIfInBounds_toArray, List.set_cons_zero, List.set_cons_succ]
    refine wpAnyJ_take (i := 14) (v := undef) (some 19) rfl rfl (by kernel_rfl) (by kernel_rfl) (by kernel_rfl) (fun _ _ _ h => h) (Or.inr ⟨by rfl, rfl⟩) HS ?_
    simp only [Act.put, List.setIfInBounds_toArray, List.set_cons_zero, List.set_cons_succ]
    refine wpAnyJ_take (i := 15) (v := ?vr6s15) (some 20) rfl rfl (by kernel_rfl) (by kernel_rfl) (by kernel_rfl) (fun _ _ _ h => h) (Or.inl ⟨by rfl, ?hyr6s15⟩) HS ?_
    case hyr6s15 =>
      intro wz hSz
      obtain ⟨hSz0, hSz1, hSz2, hSz3, hSz4, hSz5⟩ := hSz
      go_simp
      try rfl
    simp only [Act.put, List.setIfInBounds_toArray, List.set_cons_zero, List.set_cons_succ]
    refine wpAnyJ_take (i := 16) (v := ?vr6s16) (some 21) rfl rfl (by kernel_rfl) (by kernel_rfl) (by kernel_rfl) (fun _ _ _ h => h) (Or.inl ⟨by rfl, ?hyr6s16⟩) HS ?_
    case hyr6s16 =>
      intro wz hSz
      obtain ⟨hSz0, hSz1, hSz2, hSz3, hSz4, hSz5⟩ := hSz
      go_simp
      try rfl
    simp only [Act.put, List.setIfInBounds_toArray, List.set_cons_zero, List.set_cons_succ]
    refine wpAnyJ_take (i := 17) (v := undef) (some 22) rfl rfl (by kernel_rfl) (by kernel_rfl) (by kernel_rfl) (fun _ _ _ h => h) (Or.inr ⟨by rfl, rfl⟩) HS ?_
    simp only [Act.put, List.setIfInBounds_toArray, List.set_cons_zero, List.set_cons_succ]
    refine wpAnyJ_take (i := 18) (v := undef) (some 23) rfl rfl (by kernel_rfl) (by kernel_rfl) (by kernel_rfl) (fun _ _ _ h => h) (Or.inr ⟨by rfl, rfl⟩) HS ?_
    simp only [Act.put, List.setIfInBounds_toArray, List.set_cons_zero, List.set_cons_succ]
    refine wpAnyJ_take (i := 19) (v := undef) (some 24) rfl rfl (by kernel_rfl) (by kernel_rfl) (by kernel_rfl) (fun _ _ _ h => h) (Or.inr ⟨by rfl, rfl⟩) HS ?_
    simp only [Act.put, List.setIfInBounds_toArray, List.set_cons_zero, List.set_cons_succ]
    refine wpAnyJ_take (i := 20) (v := undef) (some 25) rfl rfl (by kernel_rfl) (by kernel_rfl) (by kernel_rfl) (fun _ _ _ h => h) (Or.inr ⟨by rfl, rfl⟩) HS ?_
    simp only [Act.put, List.setIfInBounds_toArray, List.set_cons_zero, List.set_cons_succ]
    refine wpAnyJ_take (i := 21) (v := undef) (some 26) rfl rfl (by kernel_rfl) (by kernel_rfl) (by kernel_rfl) (fun _ _ _ h => h) (Or.inr ⟨by rfl, rfl⟩) HS ?_
    simp only [Act.put, List.setIfInBounds_toArray, List.set_cons_zero, List.set_cons_succ]
    refine wpAnyJ_take (i := 22) (v := undef) (some 27) rfl rfl (by kernel_rfl) (by kernel_rfl) (by kernel_rfl) (fun _ _ _ h => h) (Or.inr ⟨by rfl, rfl⟩) HS ?_
    simp only [Act.put, List.setIfInBounds_toArray, List.set_cons_zero, List.set_cons_succ]
    refine wpAnyJ_take (i := 23) (v := undef) (some 28) rfl rfl (by kernel_rfl) (by kernel_rfl) (by kernel_rfl) (fun _ _ _ h => h) (Or.inr ⟨by rfl, rfl⟩) HS ?_
    simp only [Act.put, List.setIfInBounds_toArray, List.set_cons_zero, List.set_cons_succ]
    refine wpAnyJ_take (i := 24) (v := undef) (some 29) rfl rfl (by kernel_rfl) (by kernel_rfl) (by kernel_rfl) (fun _ _ _ h => h) (Or.inr ⟨by rfl, rfl⟩) HS ?_
    simp only [Act.put, List.setIfInBounds_toArray, List.set_cons_zero, List.set_cons_succ]
    refine wpAnyJ_take (i := 25) (v := undef) (some 30) rfl rfl (by kernel_rfl) (by kernel_rfl) (by kernel_rfl) (fun _ _ _ h => h) (Or.inr ⟨by rfl, rfl⟩) HS ?_
    simp only [Act.put, List.setIfInBounds_toArray, List.set_cons_zero, List.set_cons_succ]
    refine wpAnyJ_take (i := 26) (v := undef) (some 31) rfl rfl (by kernel_rfl) (by kernel_rfl) (by kernel_rfl) (fun _ _ _ h => h) (Or.inr ⟨by rfl, rfl⟩) HS ?_
    simp only [Act.put, List.setIfInBounds_toArray, List.set_cons_zero, List.set_cons_succ]
    refine wpAnyJ_take (i := 27) (v := undef) (some 32) rfl rfl (by kernel_rfl) (by kernel_rfl) (by kernel_rfl) (fun _ _ _ h => h) (Or.inr ⟨by rfl, rfl⟩) HS ?_
    simp only [Act.put, List.setIfInBounds_toArray, List.set_cons_zero, List.set_cons_succ]
    refine wpAnyJ_take (i := 28) (v := undef) (some 33) rfl rfl (by kernel_rfl) (by kernel_rfl) (by kernel_rfl) (fun _ _ _ h => h) (Or.inr ⟨by rfl, rfl⟩) HS ?_
    simp only [Act.put, List.setIfInBounds_toArray, List.set_cons_zero, List.set_cons_succ]
    refine wpAnyJ_take (i := 29) (v := ?vr6s29) (some 34) rfl rfl (by kernel_rfl) (by kernel_rfl) (by kernel_rfl) (fun _ _ _ h => h) (Or.inl ⟨by rfl, ?hyr6s29⟩) HS ?_
    case hyr6s29 =>
      intro wz hSz
      obtain ⟨hSz0, hSz1, hSz2, hSz3, hSz4, hSz5⟩ := hSz
      go_simp
      try rfl
    simp only [Act.put, List.setIfInBounds_toArray, List.set_cons_zero, List.set_cons_succ]
    refine wpAnyH_done (by kernel_rfl) ?_ _
    clear HS
    go_wp2
    go_ret
    exact DeedOut.bad (HMW.out.later HBD.out) 1 (by omega) HER.out rfl
  by_cases p2 : (hands : Int) ≤ (x4 : Int)
  · have HER : Hid (er = 1) := her.trans (if_pos (Or.inr (Or.inl p2)))
    clear her hht HSL HSL0 HP HRG
    go_enter Tryz.func39, Tryz.ntmps39
    go_upto_region 1 with fail
    rw [← HW.out]
    refine wp_region_held (S := fun W' => W'.cell? ⟨w.heap.size, 0, none⟩ = some (.int .i64 x1) ∧ W'.cell? ⟨w.heap.size, 1, none⟩ = some (.int .i64 (x2 : Int)) ∧ W'.cell? ⟨w.heap.size, 2, none⟩ = some (.int .i64 (x3 : Int)) ∧ W'.cell? ⟨w.heap.size, 3, none⟩ = some (.int .i64 (x4 : Int)) ∧ W'.cell? ⟨H + 4, 0, none⟩ = some (.slice pa ts.length pc) ∧ W'.cell? ⟨H + 4, 1, none⟩ = some (.int .i64 (hands : Int))) (by kernel_rfl) ?_
    rw [← HWd.out]
    refine wpAnyJ_take (i := 0) (v := ?vr7s0) (some 5) rfl rfl (by kernel_rfl) (by kernel_rfl) (by kernel_rfl) (fun _ _ _ h => h) (Or.inl ⟨by rfl, ?hyr7s0⟩) HS ?_
    case hyr7s0 =>
      intro wz hSz
      obtain ⟨hSz0, hSz1, hSz2, hSz3, hSz4, hSz5⟩ := hSz
      go_simp
      try rfl
    simp only [Act.put, List.setIfInBounds_toArray, List.set_cons_zero, List.set_cons_succ]
    refine wpAnyJ_take (i := 1) (v := ?vr7s1) (some 6) rfl rfl (by kernel_rfl) (by kernel_rfl) (by kernel_rfl) (fun _ _ _ h => h) (Or.inl ⟨by rfl, ?hyr7s1⟩) HS ?_
    case hyr7s1 =>
      intro wz hSz
      obtain ⟨hSz0, hSz1, hSz2, hSz3, hSz4, hSz5⟩ := hSz
      go_simp
      try rfl
    simp only [Act.put, List.setIfInBounds_toArray, List.set_cons_zero, List.set_cons_succ]
    refine wpAnyJ_take (i := 2) (v := ?vr7s2) (some 7) rfl rfl (by kernel_rfl) (by kernel_rfl) (by kernel_rfl) (fun _ _ _ h => h) (Or.inl ⟨by rfl, ?hyr7s2⟩) HS ?_
    case hyr7s2 =>
      intro wz hSz
      obtain ⟨hSz0, hSz1, hSz2, hSz3, hSz4, hSz5⟩ := hSz
      go_simp
      try rfl
    simp only [Act.put, List.setIfInBounds_toArray, List.set_cons_zero, List.set_cons_succ]
    refine wpAnyJ_take (i := 3) (v := ?vr7s3) (some 8) rfl rfl (by kernel_rfl) (by kernel_rfl) (by kernel_rfl) (fun _ _ _ h => h) (Or.inl ⟨by rfl, ?hyr7s3⟩) HS ?_
    case hyr7s3 =>
      intro wz hSz
      obtain ⟨hSz0, hSz1, hSz2, hSz3, hSz4, hSz5⟩ := hSz
      go_simp
      try rfl
    simp only [Act.put, List.setIfInBounds_toArray, List.set_cons_zero, List.set_cons_succ]
    refine wpAnyJ_take (i := 4) (v := ?vr7s4) (some 9) rfl rfl (by kernel_rfl) (by kernel_rfl) (by kernel_rfl) (fun _ _ _ h => h) (Or.inl ⟨by rfl, ?hyr7s4⟩) HS ?_
    case hyr7s4 =>
      intro wz hSz
      obtain ⟨hSz0, hSz1, hSz2, hSz3, hSz4, hSz5⟩ := hSz
      go_simp
      try rfl
    simp only [Act.put, List.setIfInBounds_toArray, List.set_cons_zero, List.set_cons_succ]
    refine wpAnyJ_take (i := 5) (v := ?vr7s5) (some 10) rfl rfl (by kernel_rfl) (by kernel_rfl) (by kernel_rfl) (fun _ _ _ h => h) (Or.inl ⟨by rfl, ?hyr7s5⟩) HS ?_
    case hyr7s5 =>
      intro wz hSz
      obtain ⟨hSz0, hSz1, hSz2, hSz3, hSz4, hSz5⟩ := hSz
      go_simp
      try rfl
    simp only [Act.put, List.setIfInBounds_toArray, List.set_cons_zero, List.set_cons_succ]
    refine wpAnyJ_take (i := 6) (v := ?vr7s6) (some 11) rfl rfl (by kernel_rfl) (by kernel_rfl) (by kernel_rfl) (fun _ _ _ h => h) (Or.inl ⟨by rfl, ?hyr7s6⟩) HS ?_
    case hyr7s6 =>
      intro wz hSz
      obtain ⟨hSz0, hSz1, hSz2, hSz3, hSz4, hSz5⟩ := hSz
      go_simp
      try rfl
    simp only [Act.put, List.setIfInBounds_toArray, List.set_cons_zero, List.set_cons_succ]
    refine wpAnyJ_take (i := 7) (v := ?vr7s7) (some 12) rfl rfl (by kernel_rfl) (by kernel_rfl) (by kernel_rfl) (fun _ _ _ h => h) (Or.inl ⟨by rfl, ?hyr7s7⟩) HS ?_
    case hyr7s7 =>
      intro wz hSz
      obtain ⟨hSz0, hSz1, hSz2, hSz3, hSz4, hSz5⟩ := hSz
      go_simp
      try rfl
    simp only [Act.put, List.setIfInBounds_toArray, List.set_cons_zero, List.set_cons_succ]
    refine wpAnyJ_take (i := 8) (v := ?vr7s8) (some 13) rfl rfl (by kernel_rfl) (by kernel_rfl) (by kernel_rfl) (fun _ _ _ h => h) (Or.inl ⟨by rfl, ?hyr7s8⟩) HS ?_
    case hyr7s8 =>
      intro wz hSz
      obtain ⟨hSz0, hSz1, hSz2, hSz3, hSz4, hSz5⟩ := hSz
      go_simp
      try rfl
    simp only [Act.put, List.setIfInBounds_toArray, List.set_cons_zero, List.set_cons_succ]
    refine wpAnyJ_take (i := 9) (v := ?vr7s9) (some 14) rfl rfl (by kernel_rfl) (by kernel_rfl) (by kernel_rfl) (fun _ _ _ h => h) (Or.inl ⟨by rfl, ?hyr7s9⟩) HS ?_
    case hyr7s9 =>
      intro wz hSz
      obtain ⟨hSz0, hSz1, hSz2, hSz3, hSz4, hSz5⟩ := hSz
      go_simp
      try rfl
    simp only [Act.put, List.setIfInBounds_toArray, List.set_cons_zero, List.set_cons_succ]
    refine wpAnyJ_take (i := 10) (v := ?vr7s10) (some 15) rfl rfl (by kernel_rfl) (by kernel_rfl) (by kernel_rfl) (fun _ _ _ h => h) (Or.inl ⟨by rfl, ?hyr7s10⟩) HS ?_
    case hyr7s10 =>
      intro wz hSz
      obtain ⟨hSz0, hSz1, hSz2, hSz3, hSz4, hSz5⟩ := hSz
      go_simp
      try rfl
    simp only [Act.put, List.setIfInBounds_toArray, List.set_cons_zero, List.set_cons_succ]
    refine wpAnyJ_take (i := 11) (v := ?vr7s11) (some 16) rfl rfl (by kernel_rfl) (by kernel_rfl) (by kernel_rfl) (fun _ _ _ h => h) (Or.inl ⟨by rfl, ?hyr7s11⟩) HS ?_
    case hyr7s11 =>
      intro wz hSz
      obtain ⟨hSz0, hSz1, hSz2, hSz3, hSz4, hSz5⟩ := hSz
      go_simp
      try rfl
    simp only [Act.put, List.setIfInBounds_toArray, List.set_cons_zero, List.set_cons_succ]
    refine wpAnyJ_take (i := 12) (v := ?vr7s12) (some 17) rfl rfl (by kernel_rfl) (by kernel_rfl) (by kernel_rfl) (fun _ _ _ h => h) (Or.inl ⟨by rfl, ?hyr7s12⟩) HS ?_
    case hyr7s12 =>
      intro wz hSz
      obtain ⟨hSz0, hSz1, hSz2, hSz3, hSz4, hSz5⟩ := hSz
      go_simp
      try rfl
    simp only [Act.put, List.setIfInBounds_toArray, List.set_cons_zero, List.set_cons_succ]
    refine wpAnyJ_take (i := 13) (v := ?vr7s13) (some 18) rfl rfl (by kernel_rfl) (by kernel_rfl) (by kernel_rfl) (fun _ _ _ h => h) (Or.inl ⟨by rfl, ?hyr7s13⟩) HS ?_
    case hyr7s13 =>
      intro wz hSz
      obtain ⟨hSz0, hSz1, hSz2, hSz3, hSz4, hSz5⟩ := hSz
      go_simp
      try rfl
    simp only [Act.put, List.setIfInBounds_toArray, List.set_cons_zero, List.set_cons_succ]
    refine wpAnyJ_take (i := 14) (v := ?vr7s14) (some 19) rfl rfl (by kernel_rfl) (by kernel_rfl) (by kernel_rfl) (fun _ _ _ h => h) (Or.inl ⟨by rfl, ?hyr7s14⟩) HS ?_
    case hyr7s14 =>
      intro wz hSz
      obtain ⟨hSz0, hSz1, hSz2, hSz3, hSz4, hSz5⟩ := hSz
      go_simp
      try rfl
    simp only [Act.put, List.setIfInBounds_toArray, List.set_cons_zero, List.set_cons_succ]
    refine wpAnyJ_take (i := 15) (v := ?vr7s15) (some 20) rfl rfl (by kernel_rfl) (by kernel_rfl) (by kernel_rfl) (fun _ _ _ h => h) (Or.inl ⟨by rfl, ?hyr7s15⟩) HS ?_
    case hyr7s15 =>
      intro wz hSz
      obtain ⟨hSz0, hSz1, hSz2, hSz3, hSz4, hSz5⟩ := hSz
      go_simp
      try rfl
    simp only [Act.put, List.setIfInBounds_toArray, List.set_cons_zero, List.set_cons_succ]
    refine wpAnyJ_take (i := 16) (v := ?vr7s16) (some 21) rfl rfl (by kernel_rfl) (by kernel_rfl) (by kernel_rfl) (fun _ _ _ h => h) (Or.inl ⟨by rfl, ?hyr7s16⟩) HS ?_
    case hyr7s16 =>
      intro wz hSz
      obtain ⟨hSz0, hSz1, hSz2, hSz3, hSz4, hSz5⟩ := hSz
      go_simp
      try rfl
    simp only [Act.put, List.setIfInBounds_toArray, List.set_cons_zero, List.set_cons_succ]
    refine wpAnyJ_take (i := 17) (v := undef) (some 22) rfl rfl (by kernel_rfl) (by kernel_rfl) (by kernel_rfl) (fun _ _ _ h => h) (Or.inr ⟨by rfl, rfl⟩) HS ?_
    simp only [Act.put, List.setIfInBounds_toArray, List.set_cons_zero, List.set_cons_succ]
    refine wpAnyJ_take (i := 18) (v := undef) (some 23) rfl rfl (by kernel_rfl) (by kernel_rfl) (by kernel_rfl) (fun _ _ _ h => h) (Or.inr ⟨by rfl, rfl⟩) HS ?_
    simp only [Act.put, List.setIfInBounds_toArray, List.set_cons_zero, List.set_cons_succ]
    refine wpAnyJ_take (i := 19) (v := undef) (some 24) rfl rfl (by kernel_rfl) (by kernel_rfl) (by kernel_rfl) (fun _ _ _ h => h) (Or.inr ⟨by rfl, rfl⟩) HS ?_
    simp only [Act.put, List.setIfInBounds_toArray, List.set_cons_zero, List.set_cons_succ]
    refine wpAnyJ_take (i := 20) (v := undef) (some 25) rfl rfl (by kernel_rfl) (by kernel_rfl) (by kernel_rfl) (fun _ _ _ h => h) (Or.inr ⟨by rfl, rfl⟩) HS ?_
    simp only [Act.put, List.setIfInBounds_toArray, List.set_cons_zero, List.set_cons_succ]
    refine wpAnyJ_take (i := 21) (v := undef) (some 26) rfl rfl (by kernel_rfl) (by kernel_rfl) (by kernel_rfl) (fun _ _ _ h => h) (Or.inr ⟨by rfl, rfl⟩) HS ?_
    simp only [Act.put, List.setIfInBounds_toArray, List.set_cons_zero, List.set_cons_succ]
    refine wpAnyJ_take (i := 22) (v := undef) (some 27) rfl rfl (by kernel_rfl) (by kernel_rfl) (by kernel_rfl) (fun _ _ _ h => h) (Or.inr ⟨by rfl, rfl⟩) HS ?_
    simp only [Act.put, List.setIfInBounds_toArray, List.set_cons_zero, List.set_cons_succ]
    refine wpAnyJ_take (i := 23) (v := undef) (some 28) rfl rfl (by kernel_rfl) (by kernel_rfl) (by kernel_rfl) (fun _ _ _ h => h) (Or.inr ⟨by rfl, rfl⟩) HS ?_
    simp only [Act.put, List.setIfInBounds_toArray, List.set_cons_zero, List.set_cons_succ]
    refine wpAnyJ_take (i := 24) (v := undef) (some 29) rfl rfl (by kernel_rfl) (by kernel_rfl) (by kernel_rfl) (fun _ _ _ h => h) (Or.inr ⟨by rfl, rfl⟩) HS ?_
    simp only [Act.put, List.setIfInBounds_toArray, List.set_cons_zero, List.set_cons_succ]
    refine wpAnyJ_take (i := 25) (v := undef) (some 30) rfl rfl (by kernel_rfl) (by kernel_rfl) (by kernel_rfl) (fun _ _ _ h => h) (Or.inr ⟨by rfl, rfl⟩) HS ?_
    simp only [Act.put, List.setIfInBounds_toArray, List.set_cons_zero, List.set_cons_succ]
    refine wpAnyJ_take (i := 26) (v := undef) (some 31) rfl rfl (by kernel_rfl) (by kernel_rfl) (by kernel_rfl) (fun _ _ _ h => h) (Or.inr ⟨by rfl, rfl⟩) HS ?_
    simp only [Act.put, List.setIfInBounds_toArray, List.set_cons_zero, List.set_cons_succ]
    refine wpAnyJ_take (i := 27) (v := undef) (some 32) rfl rfl (by kernel_rfl) (by kernel_rfl) (by kernel_rfl) (fun _ _ _ h => h) (Or.inr ⟨by rfl, rfl⟩) HS ?_
    simp only [Act.put, List.setIfInBounds_toArray, List.set_cons_zero, List.set_cons_succ]
    refine wpAnyJ_take (i := 28) (v := undef) (some 33) rfl rfl (by kernel_rfl) (by kernel_rfl) (by kernel_rfl) (fun _ _ _ h => h) (Or.inr ⟨by rfl, rfl⟩) HS ?_
    simp only [Act.put, List.setIfInBounds_toArray, List.set_cons_zero, List.set_cons_succ]
    refine wpAnyJ_take (i := 29) (v := ?vr7s29) (some 34) rfl rfl (by kernel_rfl) (by kernel_rfl) (by kernel_rfl) (fun _ _ _ h => h) (Or.inl ⟨by rfl, ?hyr7s29⟩) HS ?_
    case hyr7s29 =>
      intro wz hSz
      obtain ⟨hSz0, hSz1, hSz2, hSz3, hSz4, hSz5⟩ := hSz
      go_simp
      try rfl
    simp only [Act.put, List.setIfInBounds_toArray, List.set_cons_zero, List.set_cons_succ]
    refine wpAnyH_done (by kernel_rfl) ?_ _
    clear HS
    go_wp2
    go_ret
    exact DeedOut.bad (HMW.out.later HBD.out) 1 (by omega) HER.out rfl
  by_cases p5 : x1 < 5
  · have ht : hasT x1 = true := by simp [hasT]; omega
    rw [ht] at hht
    by_cases p3 : (ts.length : Int) ≤ (x3 : Int)
    · have HER : Hid (er = 1) := her.trans (if_pos (Or.inr (Or.inr ⟨p5, p3⟩)))
      clear her HSL0 HP HRG ht
      go_enter Tryz.func39, Tryz.ntmps39
      go_upto_region 1 with fail
      rw [← HW.out]
      refine wp_region_held (S := fun W' => W'.cell? ⟨w.heap.size, 0, none⟩ = some (.int .i64 x1) ∧ W'.cell? ⟨w.heap.size, 1, none⟩ = some (.int .i64 (x2 : Int)) ∧ W'.cell? ⟨w.heap.size, 2, none⟩ = some (.int .i64 (x3 : Int)) ∧ W'.cell? ⟨w.heap.size, 3, none⟩ = some (.int .i64 (x4 : Int)) ∧ W'.cell? ⟨H + 4, 0, none⟩ = some (.slice pa ts.length pc) ∧ W'.cell? ⟨H + 4, 1, none⟩ = some (.int .i64 (hands : Int))) (by kernel_rfl) ?_
      rw [← HWd.out]
      refine wpAnyJ_take (i := 0) (v := ?vr8s0) (some 5) rfl rfl (by kernel_rfl) (by kernel_rfl) (by kernel_rfl) (fun _ _ _ h => h) (Or.inl ⟨by rfl, ?hyr8s0⟩) HS ?_
      case hyr8s0 =>
        intro wz hSz
        obtain ⟨hSz0, hSz1, hSz2, hSz3, hSz4, hSz5⟩ := hSz
        go_simp
        try rfl
      simp only [Act.put, List.setIfInBounds_toArray, List.set_cons_zero, List.set_cons_succ]
      refine wpAnyJ_take (i := 1) (v := ?vr8s1) (some 6) rfl rfl (by kernel_rfl) (by kernel_rfl) (by kernel_rfl) (fun _ _ _ h => h) (Or.inl ⟨by rfl, ?hyr8s1⟩) HS ?_
      case hyr8s1 =>
        intro wz hSz
        obtain ⟨hSz0, hSz1, hSz2, hSz3, hSz4, hSz5⟩ := hSz
        go_simp
        try rfl
      simp only [Act.put, List.setIfInBounds_toArray, List.set_cons_zero, List.set_cons_succ]
      refine wpAnyJ_take (i := 2) (v := ?vr8s2) (some 7) rfl rfl (by kernel_rfl) (by kernel_rfl) (by kernel_rfl) (fun _ _ _ h => h) (Or.inl ⟨by rfl, ?hyr8s2⟩) HS ?_
      case hyr8s2 =>
        intro wz hSz
        obtain ⟨hSz0, hSz1, hSz2, hSz3, hSz4, hSz5⟩ := hSz
        go_simp
        try rfl
      simp only [Act.put, List.setIfInBounds_toArray, List.set_cons_zero, List.set_cons_succ]
      refine wpAnyJ_take (i := 3) (v := ?vr8s3) (some 8) rfl rfl (by kernel_rfl) (by kernel_rfl) (by kernel_rfl) (fun _ _ _ h => h) (Or.inl ⟨by rfl, ?hyr8s3⟩) HS ?_
      case hyr8s3 =>
        intro wz hSz
        obtain ⟨hSz0, hSz1, hSz2, hSz3, hSz4, hSz5⟩ := hSz
        go_simp
        try rfl
      simp only [Act.put, List.setIfInBounds_toArray, List.set_cons_zero, List.set_cons_succ]
      refine wpAnyJ_take (i := 4) (v := ?vr8s4) (some 9) rfl rfl (by kernel_rfl) (by kernel_rfl) (by kernel_rfl) (fun _ _ _ h => h) (Or.inl ⟨by rfl, ?hyr8s4⟩) HS ?_
      case hyr8s4 =>
        intro wz hSz
        obtain ⟨hSz0, hSz1, hSz2, hSz3, hSz4, hSz5⟩ := hSz
        go_simp
        try rfl
      simp only [Act.put, List.setIfInBounds_toArray, List.set_cons_zero, List.set_cons_succ]
      refine wpAnyJ_take (i := 5) (v := ?vr8s5) (some 10) rfl rfl (by kernel_rfl) (by kernel_rfl) (by kernel_rfl) (fun _ _ _ h => h) (Or.inl ⟨by rfl, ?hyr8s5⟩) HS ?_
      case hyr8s5 =>
        intro wz hSz
        obtain ⟨hSz0, hSz1, hSz2, hSz3, hSz4, hSz5⟩ := hSz
        go_simp
        try rfl
      simp only [Act.put, List.setIfInBounds_toArray, List.set_cons_zero, List.set_cons_succ]
      refine wpAnyJ_take (i := 6) (v := ?vr8s6) (some 11) rfl rfl (by kernel_rfl) (by kernel_rfl) (by kernel_rfl) (fun _ _ _ h => h) (Or.inl ⟨by rfl, ?hyr8s6⟩) HS ?_
      case hyr8s6 =>
        intro wz hSz
        obtain ⟨hSz0, hSz1, hSz2, hSz3, hSz4, hSz5⟩ := hSz
        go_simp
        try rfl
      simp only [Act.put, List.setIfInBounds_toArray, List.set_cons_zero, List.set_cons_succ]
      refine wpAnyJ_take (i := 7) (v := ?vr8s7) (some 12) rfl rfl (by kernel_rfl) (by kernel_rfl) (by kernel_rfl) (fun _ _ _ h => h) (Or.inl ⟨by rfl, ?hyr8s7⟩) HS ?_
      case hyr8s7 =>
        intro wz hSz
        obtain ⟨hSz0, hSz1, hSz2, hSz3, hSz4, hSz5⟩ := hSz
        go_simp
        try rfl
      simp only [Act.put, List.setIfInBounds_toArray, List.set_cons_zero, List.set_cons_succ]
      refine wpAnyJ_take (i := 8) (v := ?vr8s8) (some 13) rfl rfl (by kernel_rfl) (by kernel_rfl) (by kernel_rfl) (fun _ _ _ h => h) (Or.inl ⟨by rfl, ?hyr8s8⟩) HS ?_
      case hyr8s8 =>
        intro wz hSz
        obtain ⟨hSz0, hSz1, hSz2, hSz3, hSz4, hSz5⟩ := hSz
        go_simp
        try rfl
      simp only [Act.put, List.setIfInBounds_toArray, List.set_cons_zero, List.set_cons_succ]
      refine wpAnyJ_take (i := 9) (v := ?vr8s9) (some 14) rfl rfl (by kernel_rfl) (by kernel_rfl) (by kernel_rfl) (fun _ _ _ h => h) (Or.inl ⟨by rfl, ?hyr8s9⟩) HS ?_
      case hyr8s9 =>
        intro wz hSz
        obtain ⟨hSz0, hSz1, hSz2, hSz3, hSz4, hSz5⟩ := hSz
        go_simp
        try rfl
      simp only [Act.put, List.setIfInBounds_toArray, List.set_cons_zero, List.set_cons_succ]
      refine wpAnyJ_take (i := 10) (v := ?vr8s10) (some 15) rfl rfl (by kernel_rfl) (by kernel_rfl) (by kernel_rfl) (fun _ _ _ h => h) (Or.inl ⟨by rfl, ?hyr8s10⟩) HS ?_
      case hyr8s10 =>
        intro wz hSz
        obtain ⟨hSz0, hSz1, hSz2, hSz3, hSz4, hSz5⟩ := hSz
        go_simp
        try rfl
      simp only [Act.put, List.setIfInBounds_toArray, List.set_cons_zero, List.set_cons_succ]
      refine wpAnyJ_take (i := 11) (v := ?vr8s11) (some 16) rfl rfl (by kernel_rfl) (by kernel_rfl) (by kernel_rfl) (fun _ _ _ h => h) (Or.inl ⟨by rfl, ?hyr8s11⟩) HS ?_
      case hyr8s11 =>
        intro wz hSz
        obtain ⟨hSz0, hSz1, hSz2, hSz3, hSz4, hSz5⟩ := hSz
        go_simp
        try rfl
      simp only [Act.put, List.setIfInBounds_toArray, List.set_cons_zero, List.set_cons_succ]
      refine wpAnyJ_take (i := 12) (v := ?vr8s12) (some 17) rfl rfl (by kernel_rfl) (by kernel_rfl) (by kernel_rfl) (fun _ _ _ h => h) (Or.inl ⟨by rfl, ?hyr8s12⟩) HS ?_
      case hyr8s12 =>
        intro wz hSz
        obtain ⟨hSz0, hSz1, hSz2, hSz3, hSz4, hSz5⟩ := hSz
        go_simp
        try rfl
      simp only [Act.put, List.setIfInBounds_toArray, List.set_cons_zero, List.set_cons_succ]
      refine wpAnyJ_take (i := 13) (v := ?vr8s13) (some 18) rfl rfl (by kernel_rfl) (by kernel_rfl) (by kernel_rfl) (fun _ _ _ h => h) (Or.inl ⟨by rfl, ?hyr8s13⟩) HS ?_
      case hyr8s13 =>
        intro wz hSz
        obtain ⟨hSz0, hSz1, hSz2, hSz3, hSz4, hSz5⟩ := hSz
        go_simp
        try rfl
      simp only [Act.put, List.setIfInBounds_toArray, List.set_cons_zero, List.set_cons_succ]
      refine wpAnyJ_take (i := 14) (v := ?vr8s14) (some 19) rfl rfl (by kernel_rfl) (by kernel_rfl) (by kernel_rfl) (fun _ _ _ h => h) (Or.inl ⟨by rfl, ?hyr8s14⟩) HS ?_
      case hyr8s14 =>
        intro wz hSz
        obtain ⟨hSz0, hSz1, hSz2, hSz3, hSz4, hSz5⟩ := hSz
        go_simp
        try rfl
      simp only [Act.put, List.setIfInBounds_toArray, List.set_cons_zero, List.set_cons_succ]
      refine wpAnyJ_take (i := 15) (v := ?vr8s15) (some 20) rfl rfl (by kernel_rfl) (by kernel_rfl) (by kernel_rfl) (fun _ _ _ h => h) (Or.inl ⟨by rfl, ?hyr8s15⟩) HS ?_
      case hyr8s15 =>
        intro wz hSz
        obtain ⟨hSz0, hSz1, hSz2, hSz3, hSz4, hSz5⟩ := hSz
        go_simp
        try rfl
      simp only [Act.put, List.setIfInBounds_toArray, List.set_cons_zero, List.set_cons_succ]
      refine wpAnyJ_take (i := 16) (v := ?vr8s16) (some 21) rfl rfl (by kernel_rfl) (by kernel_rfl) (by kernel_rfl) (fun _ _ _ h => h) (Or.inl ⟨by rfl, ?hyr8s16⟩) HS ?_
      case hyr8s16 =>
        intro wz hSz
        obtain ⟨hSz0, hSz1, hSz2, hSz3, hSz4, hSz5⟩ := hSz
        go_simp
        try rfl
      simp only [Act.put, List.setIfInBounds_toArray, List.set_cons_zero, List.set_cons_succ]
      refine wpAnyJ_take (i := 17) (v := ?vr8s17) (some 22) rfl rfl (by kernel_rfl) (by kernel_rfl) (by kernel_rfl) (fun _ _ _ h => h) (Or.inl ⟨by rfl, ?hyr8s17⟩) HS ?_
      case hyr8s17 =>
        intro wz hSz
        obtain ⟨hSz0, hSz1, hSz2, hSz3, hSz4, hSz5⟩ := hSz
        go_simp
        try rfl
      simp only [Act.put, List.setIfInBounds_toArray, List.set_cons_zero, List.set_cons_succ]
      refine wpAnyH_all (rs := [18]) (by kernel_rfl) (by simp) (fun jj hjj => ?_)
      obtain rfl := List.mem_singleton.1 hjj
      clear hjj
      refine wpOpJ_call (f := 68) (args := #[.agg #[.int .i64 x1, .int .i64 (x2 : Int), .int .i64 (x3 : Int), .int .i64 (x4 : Int)]]) (some 23) rfl rfl (by rfl) ?hcallr8s18 ?_
      case hcallr8s18 => go_simp
      refine hht.mono ?_
      clear hht
      rintro e W2 ⟨rfl, hbW2⟩
      replace HS := HSL.out W2 hbW2
      refine ⟨HS, ?_⟩
      simp only [Act.put, List.setIfInBounds_toArray, List.set_cons_zero, List.set_cons_succ]
      refine wpAnyJ_take (i := 19) (v := ?vr8s19) (some 24) rfl rfl (by kernel_rfl) (by kernel_rfl) (by kernel_rfl) (fun _ _ _ h => h) (Or.inl ⟨by rfl, ?hyr8s19⟩) HS ?_
      case hyr8s19 =>
        intro wz hSz
        obtain ⟨hSz0, hSz1, hSz2, hSz3, hSz4, hSz5⟩ := hSz
        go_simp
        try rfl
      simp only [Act.put, List.setIfInBounds_toArray, List.set_cons_zero, List.set_cons_succ]
      refine wpAnyJ_take (i := 20) (v := ?vr8s20) (some 25) rfl rfl (by kernel_rfl) (by kernel_rfl) (by kernel_rfl) (fun _ _ _ h => h) (Or.inl ⟨by rfl, ?hyr8s20⟩) HS ?_
      case hyr8s20 =>
        intro wz hSz
        obtain ⟨hSz0, hSz1, hSz2, hSz3, hSz4, hSz5⟩ := hSz
        go_simp
        try rfl
      simp only [Act.put, List.setIfInBounds_toArray, List.set_cons_zero, List.set_cons_succ]
      refine wpAnyJ_take (i := 21) (v := ?vr8s21) (some 26) rfl rfl (by kernel_rfl) (by kernel_rfl) (by kernel_rfl) (fun _ _ _ h => h) (Or.inl ⟨by rfl, ?hyr8s21⟩) HS ?_
      case hyr8s21 =>
        intro wz hSz
        obtain ⟨hSz0, hSz1, hSz2, hSz3, hSz4, hSz5⟩ := hSz
        go_simp
        try rfl
      simp only [Act.put, List.setIfInBounds_toArray, List.set_cons_zero, List.set_cons_succ]
      refine wpAnyJ_take (i := 22) (v := ?vr8s22) (some 27) rfl rfl (by kernel_rfl) (by kernel_rfl) (by kernel_rfl) (fun _ _ _ h => h) (Or.inl ⟨by rfl, ?hyr8s22⟩) HS ?_
      case hyr8s22 =>
        intro wz hSz
        obtain ⟨hSz0, hSz1, hSz2, hSz3, hSz4, hSz5⟩ := hSz
        go_simp
        try rfl
      simp only [Act.put, List.setIfInBounds_toArray, List.set_cons_zero, List.set_cons_succ]
      refine wpAnyJ_take (i := 23) (v := ?vr8s23) (some 28) rfl rfl (by kernel_rfl) (by kernel_rfl) (by kernel_rfl) (fun _ _ _ h => h) (Or.inl ⟨by rfl, ?hyr8s23⟩) HS ?_
      case hyr8s23 =>
        intro wz hSz
        obtain ⟨hSz0, hSz1, hSz2, hSz3, hSz4, hSz5⟩ := hSz
        go_simp
        try rfl
      simp only [Act.put, List.setIfInBounds_toArray, List.set_cons_zero, List.set_cons_succ]
      refine wpAnyJ_take (i := 24) (v := ?vr8s24) (some 29) rfl rfl (by kernel_rfl) (by kernel_rfl) (by kernel_rfl) (fun _ _ _ h => h) (Or.inl ⟨by rfl, ?hyr8s24⟩) HS ?_
      case hyr8s24 =>
        intro wz hSz
        obtain ⟨hSz0, hSz1, hSz2, hSz3, hSz4, hSz5⟩ := hSz
        go_simp
        try rfl
      simp only [Act.put, List.setIfInBounds_toArray, List.set_cons_zero, List.set_cons_succ]
      refine wpAnyJ_take (i := 25) (v := ?vr8s25) (some 30) rfl rfl (by kernel_rfl) (by kernel_rfl) (by kernel_rfl) (fun _ _ _ h => h) (Or.inl ⟨by rfl, ?hyr8s25⟩) HS ?_
      case hyr8s25 =>
        intro wz hSz
        obtain ⟨hSz0, hSz1, hSz2, hSz3, hSz4, hSz5⟩ := hSz
        go_simp
        try rfl
      simp only [Act.put, List.setIfInBounds_toArray, List.set_cons_zero, List.set_cons_succ]
      refine wpAnyJ_take (i := 26) (v := ?vr8s26) (some 31) rfl rfl (by kernel_rfl) (by kernel_rfl) (by kernel_rfl) (fun _ _ _ h => h) (Or.inl ⟨by rfl, ?hyr8s26⟩) HS ?_
      case hyr8s26 =>
        intro wz hSz
        obtain ⟨hSz0, hSz1, hSz2, hSz3, hSz4, hSz5⟩ := hSz
        go_simp
        try rfl
      simp only [Act.put, List.setIfInBounds_toArray, List.set_cons_zero, List.set_cons_succ]
      refine wpAnyJ_take (i := 27) (v := ?vr8s27) (some 32) rfl rfl (by kernel_rfl) (by kernel_rfl) (by kernel_rfl) (fun _ _ _ h => h) (Or.inl ⟨by rfl, ?hyr8s27⟩) HS ?_
      case hyr8s27 =>
        intro wz hSz
        obtain ⟨hSz0, hSz1, hSz2, hSz3, hSz4, hSz5⟩ := hSz
        go_simp
        try rfl
      simp only [Act.put, List.setIfInBounds_toArray, List.set_cons_zero, List.set_cons_succ]
      refine wpAnyJ_take (i := 28) (v := ?vr8s28) (some 33) rfl rfl (by kernel_rfl) (by kernel_rfl) (by kernel_rfl) (fun _ _ _ h => h) (Or.inl ⟨by rfl, ?hyr8s28⟩) HS ?_
      case hyr8s28 =>
        intro wz hSz
        obtain ⟨hSz0, hSz1, hSz2, hSz3, hSz4, hSz5⟩ := hSz
        go_simp
        try rfl
      simp only [Act.put, List.setIfInBounds_toArray, List.set_cons_zero, List.set_cons_succ]
      refine wpAnyJ_take (i := 29) (v := ?vr8s29) (some 34) rfl rfl (by kernel_rfl) (by kernel_rfl) (by kernel_rfl) (fun _ _ _ h => h) (Or.inl ⟨by rfl, ?hyr8s29⟩) HS ?_
      case hyr8s29 =>
        intro wz hSz
        obtain ⟨hSz0, hSz1, hSz2, hSz3, hSz4, hSz5⟩ := hSz
        go_simp
        try rfl
      simp only [Act.put, List.setIfInBounds_toArray, List.set_cons_zero, List.set_cons_succ]
      refine wpAnyH_done (by kernel_rfl) ?_ _
      clear HS
      go_wp2
      go_ret
      exact DeedOut.bad (HMW.out.later (HBDt.out W2 hbW2)) 1 (by omega) HER.out rfl
    · have her2 := her.trans (trErr_at (ts := ts) (hands := hands) (s := s) (x1 := x1) (x2 := x2) (x3 := x3) (x4 := x4) (by omega))
      have q2 : x2 < hands := by omega
      have q3 : x3 < ts.length := by omega
      by_cases p4 : x1 = 4
      · rw [if_neg (show ¬ x1 < 4 by omega), if_pos p4] at her2
        have HTN : Hid (trNext s (x1, (x2 : Int), (x3 : Int), (x4 : Int)) = { s with has := updG s.has x2 (-1), dn := mark s.dn x3 }) := by rw [p4]; exact tn4 s x2 x3 x4
        have p4b : (x1 == 4) = true := beq_iff_eq.2 p4
        have HER : Hid (er = if s.has x2 = (x3 : Int) then 0 else 6) := her2
        clear her her2 ht p4
        go_enter Tryz.func39, Tryz.ntmps39
        go_upto_region 1 with fail
        rw [← HW.out]
        refine wp_region_held (S := fun W' => W'.cell? ⟨w.heap.size, 0, none⟩ = some (.int .i64 x1) ∧ W'.cell? ⟨w.heap.size, 1, none⟩ = some (.int .i64 (x2 : Int)) ∧ W'.cell? ⟨w.heap.size, 2, none⟩ = some (.int .i64 (x3 : Int)) ∧ W'.cell? ⟨w.heap.size, 3, none⟩ = some (.int .i64 (x4 : Int)) ∧ W'.cell? ⟨H + 4, 0, none⟩ = some (.slice pa ts.length pc) ∧ W'.cell? ⟨H + 4, 1, none⟩ = some (.int .i64 (hands : Int))) (by kernel_rfl) ?_
        rw [← HWd.out]
        refine wpAnyJ_take (i := 0) (v := ?vr9s0) (some 5) rfl rfl (by kernel_rfl) (by kernel_rfl) (by kernel_rfl) (fun _ _ _ h => h) (Or.inl ⟨by rfl, ?hyr9s0⟩) HS ?_
        case hyr9s0 =>
          intro wz hSz
          obtain ⟨hSz0, hSz1, hSz2, hSz3, hSz4, hSz5⟩ := hSz
          go_simp
          try rfl
        simp only [Act.put, List.setIfInBounds_toArray, List.set_cons_zero, List.set_cons_succ]
        refine wpAnyJ_take (i := 1) (v := ?vr9s1) (some 6) rfl rfl (by kernel_rfl) (by kernel_rfl) (by kernel_rfl) (fun _ _ _ h => h) (Or.inl ⟨by rfl, ?hyr9s1⟩) HS ?_
        case hyr9s1 =>
          intro wz hSz
          obtain ⟨hSz0, hSz1, hSz2, hSz3, hSz4, hSz5⟩ := hSz
          go_simp
          try rfl
        simp only [Act.put, List.setIfInBounds_toArray, List.set_cons_zero, List.set_cons_succ]
        refine wpAnyJ_take (i := 2) (v := ?vr9s2) (some 7) rfl rfl (by kernel_rfl) (by kernel_rfl) (by kernel_rfl) (fun _ _ _ h => h) (Or.inl ⟨by rfl, ?hyr9s2⟩) HS ?_
        case hyr9s2 =>
          intro wz hSz
          obtain ⟨hSz0, hSz1, hSz2, hSz3, hSz4, hSz5⟩ := hSz
          go_simp
          try rfl
        simp only [Act.put, List.setIfInBounds_toArray, List.set_cons_zero, List.set_cons_succ]
        refine wpAnyJ_take (i := 3) (v := ?vr9s3) (some 8) rfl rfl (by kernel_rfl) (by kernel_rfl) (by kernel_rfl) (fun _ _ _ h => h) (Or.inl ⟨by rfl, ?hyr9s3⟩) HS ?_
        case hyr9s3 =>
          intro wz hSz
          obtain ⟨hSz0, hSz1, hSz2, hSz3, hSz4, hSz5⟩ := hSz
          go_simp
          try rfl
        simp only [Act.put, List.setIfInBounds_toArray, List.set_cons_zero, List.set_cons_succ]
        refine wpAnyJ_take (i := 4) (v := ?vr9s4) (some 9) rfl rfl (by kernel_rfl) (by kernel_rfl) (by kernel_rfl) (fun _ _ _ h => h) (Or.inl ⟨by rfl, ?hyr9s4⟩) HS ?_
        case hyr9s4 =>
          intro wz hSz
          obtain ⟨hSz0, hSz1, hSz2, hSz3, hSz4, hSz5⟩ := hSz
          go_simp
          try rfl
        simp only [Act.put, List.setIfInBounds_toArray, List.set_cons_zero, List.set_cons_succ]
        refine wpAnyJ_take (i := 5) (v := ?vr9s5) (some 10) rfl rfl (by kernel_rfl) (by kernel_rfl) (by kernel_rfl) (fun _ _ _ h => h) (Or.inl ⟨by rfl, ?hyr9s5⟩) HS ?_
        case hyr9s5 =>
          intro wz hSz
          obtain ⟨hSz0, hSz1, hSz2, hSz3, hSz4, hSz5⟩ := hSz
          go_simp
          try rfl
        simp only [Act.put, List.setIfInBounds_toArray, List.set_cons_zero, List.set_cons_succ]
        refine wpAnyJ_take (i := 6) (v := ?vr9s6) (some 11) rfl rfl (by kernel_rfl) (by kernel_rfl) (by kernel_rfl) (fun _ _ _ h => h) (Or.inl ⟨by rfl, ?hyr9s6⟩) HS ?_
        case hyr9s6 =>
          intro wz hSz
          obtain ⟨hSz0, hSz1, hSz2, hSz3, hSz4, hSz5⟩ := hSz
          go_simp
          try rfl
        simp only [Act.put, List.setIfInBounds_toArray, List.set_cons_zero, List.set_cons_succ]
        refine wpAnyJ_take (i := 7) (v := ?vr9s7) (some 12) rfl rfl (by kernel_rfl) (by kernel_rfl) (by kernel_rfl) (fun _ _ _ h => h) (Or.inl ⟨by rfl, ?hyr9s7⟩) HS ?_
        case hyr9s7 =>
          intro wz hSz
          obtain ⟨hSz0, hSz1, hSz2, hSz3, hSz4, hSz5⟩ := hSz
          go_simp
          try rfl
        simp only [Act.put, List.setIfInBounds_toArray, List.set_cons_zero, List.set_cons_succ]
        refine wpAnyJ_take (i := 8) (v := ?vr9s8) (some 13) rfl rfl (by kernel_rfl) (by kernel_rfl) (by kernel_rfl) (fun _ _ _ h => h) (Or.inl ⟨by rfl, ?hyr9s8⟩) HS ?_
        case hyr9s8 =>
          intro wz hSz
          obtain ⟨hSz0, hSz1, hSz2, hSz3, hSz4, hSz5⟩ := hSz
          go_simp
          try rfl
        simp only [Act.put, List.setIfInBounds_toArray, List.set_cons_zero, List.set_cons_succ]
        refine wpAnyJ_take (i := 9) (v := ?vr9s9) (some 14) rfl rfl (by kernel_rfl) (by kernel_rfl) (by kernel_rfl) (fun _ _ _ h => h) (Or.inl ⟨by rfl, ?hyr9s9⟩) HS ?_
        case hyr9s9 =>
          intro wz hSz
          obtain ⟨hSz0, hSz1, hSz2, hSz3, hSz4, hSz5⟩ := hSz
          go_simp
          try rfl
        simp only [Act.put, List.setIfInBounds_toArray, List.set_cons_zero, List.set_cons_succ]
        refine wpAnyJ_take (i := 10) (v := ?vr9s10) (some 15) rfl rfl (by kernel_rfl) (by kernel_rfl) (by kernel_rfl) (fun _ _ _ h => h) (Or.inl ⟨by rfl, ?hyr9s10⟩) HS ?_
        case hyr9s10 =>
          intro wz hSz
          obtain ⟨hSz0, hSz1, hSz2, hSz3, hSz4, hSz5⟩ := hSz
          go_simp
          try rfl
        simp only [Act.put, List.setIfInBounds_toArray, List.set_cons_zero, List.set_cons_succ]
        refine wpAnyJ_take (i := 11) (v := ?vr9s11) (some 16) rfl rfl (by kernel_rfl) (by kernel_rfl) (by kernel_rfl) (fun _ _ _ h => h) (Or.inl ⟨by rfl, ?hyr9s11⟩) HS ?_
        case hyr9s11 =>
          intro wz hSz
          obtain ⟨hSz0, hSz1, hSz2, hSz3, hSz4, hSz5⟩ := hSz
          go_simp
          try rfl
        simp only [Act.put, List.setIfInBounds_toArray, List.set_cons_zero, List.set_cons_succ]
        refine wpAnyJ_take (i := 12) (v := ?vr9s12) (some 17) rfl rfl (by kernel_rfl) (by kernel_rfl) (by kernel_rfl) (fun _ _ _ h => h) (Or.inl ⟨by rfl, ?hyr9s12⟩) HS ?_
        case hyr9s12 =>
          intro wz hSz
          obtain ⟨hSz0, hSz1, hSz2, hSz3, hSz4, hSz5⟩ := hSz
          go_simp
          try rfl
        simp only [Act.put, List.setIfInBounds_toArray, List.set_cons_zero, List.set_cons_succ]
        refine wpAnyJ_take (i := 13) (v := ?vr9s13) (some 18) rfl rfl (by kernel_rfl) (by kernel_rfl) (by kernel_rfl) (fun _ _ _ h => h) (Or.inl ⟨by rfl, ?hyr9s13⟩) HS ?_
        case hyr9s13 =>
          intro wz hSz
          obtain ⟨hSz0, hSz1, hSz2, hSz3, hSz4, hSz5⟩ := hSz
          go_simp
          try rfl
        simp only [Act.put, List.setIfInBounds_toArray, List.set_cons_zero, List.set_cons_succ]
        refine wpAnyJ_take (i := 14) (v := ?vr9s14) (some 19) rfl rfl (by kernel_rfl) (by kernel_rfl) (by kernel_rfl) (fun _ _ _ h => h) (Or.inl ⟨by rfl, ?hyr9s14⟩) HS ?_
        case hyr9s14 =>
          intro wz hSz
          obtain ⟨hSz0, hSz1, hSz2, hSz3, hSz4, hSz5⟩ := hSz
          go_simp
          try rfl
        simp only [Act.put, List.setIfInBounds_toArray, List.set_cons_zero, List.set_cons_succ]
        refine wpAnyJ_take (i := 15) (v := ?vr9s15) (some 20) rfl rfl (by kernel_rfl) (by kernel_rfl) (by kernel_rfl) (fun _ _ _ h => h) (Or.inl ⟨by rfl, ?hyr9s15⟩) HS ?_
        case hyr9s15 =>
          intro wz hSz
          obtain ⟨hSz0, hSz1, hSz2, hSz3, hSz4, hSz5⟩ := hSz
          go_simp
          try rfl
        simp only [Act.put, List.setIfInBounds_toArray, List.set_cons_zero, List.set_cons_succ]
        refine wpAnyJ_take (i := 16) (v := ?vr9s16) (some 21) rfl rfl (by kernel_rfl) (by kernel_rfl) (by kernel_rfl) (fun _ _ _ h => h) (Or.inl ⟨by rfl, ?hyr9s16⟩) HS ?_
        case hyr9s16 =>
          intro wz hSz
          obtain ⟨hSz0, hSz1, hSz2, hSz3, hSz4, hSz5⟩ := hSz
          go_simp
          try rfl
        simp only [Act.put, List.setIfInBounds_toArray, List.set_cons_zero, List.set_cons_succ]
        refine wpAnyJ_take (i := 17) (v := ?vr9s17) (some 22) rfl rfl (by kernel_rfl) (by kernel_rfl) (by kernel_rfl) (fun _ _ _ h => h) (Or.inl ⟨by rfl, ?hyr9s17⟩) HS ?_
        case hyr9s17 =>
          intro wz hSz
          obtain ⟨hSz0, hSz1, hSz2, hSz3, hSz4, hSz5⟩ := hSz
          go_simp
          try rfl
        simp only [Act.put, List.setIfInBounds_toArray, List.set_cons_zero, List.set_cons_succ]
        refine wpAnyH_all (rs := [18]) (by kernel_rfl) (by simp) (fun jj hjj => ?_)
        obtain rfl := List.mem_singleton.1 hjj
        clear hjj
        refine wpOpJ_call (f := 68) (args := #[.agg #[.int .i64 x1, .int .i64 (x2 : Int), .int .i64 (x3 : Int), .int .i64 (x4 : Int)]]) (some 23) rfl rfl (by rfl) ?hcallr9s18 ?_
        case hcallr9s18 => go_simp
        refine hht.mono ?_
        clear hht
        rintro e W2 ⟨rfl, hbW2⟩
        replace HS := HSL.out W2 hbW2
        refine ⟨HS, ?_⟩
        simp only [Act.put, List.setIfInBounds_toArray, List.set_cons_zero, List.set_cons_succ]
        refine wpAnyJ_take (i := 19) (v := ?vr9s19) (some 24) rfl rfl (by kernel_rfl) (by kernel_rfl) (by kernel_rfl) (fun _ _ _ h => h) (Or.inl ⟨by rfl, ?hyr9s19⟩) HS ?_
        case hyr9s19 =>
          intro wz hSz
          obtain ⟨hSz0, hSz1, hSz2, hSz3, hSz4, hSz5⟩ := hSz
          go_simp
          try rfl
        simp only [Act.put, List.setIfInBounds_toArray, List.set_cons_zero, List.set_cons_succ]
        refine wpAnyJ_take (i := 20) (v := ?vr9s20) (some 25) rfl rfl (by kernel_rfl) (by kernel_rfl) (by kernel_rfl) (fun _ _ _ h => h) (Or.inl ⟨by rfl, ?hyr9s20⟩) HS ?_
        case hyr9s20 =>
          intro wz hSz
          obtain ⟨hSz0, hSz1, hSz2, hSz3, hSz4, hSz5⟩ := hSz
          go_simp
          try rfl
        simp only [Act.put, List.setIfInBounds_toArray, List.set_cons_zero, List.set_cons_succ]
        refine wpAnyJ_take (i := 21) (v := ?vr9s21) (some 26) rfl rfl (by kernel_rfl) (by kernel_rfl) (by kernel_rfl) (fun _ _ _ h => h) (Or.inl ⟨by rfl, ?hyr9s21⟩) HS ?_
        case hyr9s21 =>
          intro wz hSz
          obtain ⟨hSz0, hSz1, hSz2, hSz3, hSz4, hSz5⟩ := hSz
          go_simp
          try rfl
        simp only [Act.put, List.setIfInBounds_toArray, List.set_cons_zero, List.set_cons_succ]
        refine wpAnyJ_take (i := 22) (v := ?vr9s22) (some 27) rfl rfl (by kernel_rfl) (by kernel_rfl) (by kernel_rfl) (fun _ _ _ h => h) (Or.inl ⟨by rfl, ?hyr9s22⟩) HS ?_
        case hyr9s22 =>
          intro wz hSz
          obtain ⟨hSz0, hSz1, hSz2, hSz3, hSz4, hSz5⟩ := hSz
          go_simp
          try rfl
        simp only [Act.put, List.setIfInBounds_toArray, List.set_cons_zero, List.set_cons_succ]
        refine wpAnyJ_take (i := 23) (v := ?vr9s23) (some 28) rfl rfl (by kernel_rfl) (by kernel_rfl) (by kernel_rfl) (fun _ _ _ h => h) (Or.inl ⟨by rfl, ?hyr9s23⟩) HS ?_
        case hyr9s23 =>
          intro wz hSz
          obtain ⟨hSz0, hSz1, hSz2, hSz3, hSz4, hSz5⟩ := hSz
          go_simp
          try rfl
        simp only [Act.put, List.setIfInBounds_toArray, List.set_cons_zero, List.set_cons_succ]
        refine wpAnyJ_take (i := 24) (v := ?vr9s24) (some 29) rfl rfl (by kernel_rfl) (by kernel_rfl) (by kernel_rfl) (fun _ _ _ h => h) (Or.inl ⟨by rfl, ?hyr9s24⟩) HS ?_
        case hyr9s24 =>
          intro wz hSz
          obtain ⟨hSz0, hSz1, hSz2, hSz3, hSz4, hSz5⟩ := hSz
          go_simp
          try rfl
        simp only [Act.put, List.setIfInBounds_toArray, List.set_cons_zero, List.set_cons_succ]
        refine wpAnyJ_take (i := 25) (v := ?vr9s25) (some 30) rfl rfl (by kernel_rfl) (by kernel_rfl) (by kernel_rfl) (fun _ _ _ h => h) (Or.inl ⟨by rfl, ?hyr9s25⟩) HS ?_
        case hyr9s25 =>
          intro wz hSz
          obtain ⟨hSz0, hSz1, hSz2, hSz3, hSz4, hSz5⟩ := hSz
          go_simp
          try rfl
        simp only [Act.put, List.setIfInBounds_toArray, List.set_cons_zero, List.set_cons_succ]
        refine wpAnyJ_take (i := 26) (v := ?vr9s26) (some 31) rfl rfl (by kernel_rfl) (by kernel_rfl) (by kernel_rfl) (fun _ _ _ h => h) (Or.inl ⟨by rfl, ?hyr9s26⟩) HS ?_
        case hyr9s26 =>
          intro wz hSz
          obtain ⟨hSz0, hSz1, hSz2, hSz3, hSz4, hSz5⟩ := hSz
          go_simp
          try rfl
        simp only [Act.put, List.setIfInBounds_toArray, List.set_cons_zero, List.set_cons_succ]
        refine wpAnyJ_take (i := 27) (v := ?vr9s27) (some 32) rfl rfl (by kernel_rfl) (by kernel_rfl) (by kernel_rfl) (fun _ _ _ h => h) (Or.inl ⟨by rfl, ?hyr9s27⟩) HS ?_
        case hyr9s27 =>
          intro wz hSz
          obtain ⟨hSz0, hSz1, hSz2, hSz3, hSz4, hSz5⟩ := hSz
          go_simp
          try rfl
        simp only [Act.put, List.setIfInBounds_toArray, List.set_cons_zero, List.set_cons_succ]
        refine wpAnyJ_take (i := 28) (v := ?vr9s28) (some 33) rfl rfl (by kernel_rfl) (by kernel_rfl) (by kernel_rfl) (fun _ _ _ h => h) (Or.inl ⟨by rfl, ?hyr9s28⟩) HS ?_
        case hyr9s28 =>
          intro wz hSz
          obtain ⟨hSz0, hSz1, hSz2, hSz3, hSz4, hSz5⟩ := hSz
          go_simp
          try rfl
        simp only [Act.put, List.setIfInBounds_toArray, List.set_cons_zero, List.set_cons_succ]
        refine wpAnyJ_take (i := 29) (v := ?vr9s29) (some 34) rfl rfl (by kernel_rfl) (by kernel_rfl) (by kernel_rfl) (fun _ _ _ h => h) (Or.inl ⟨by rfl, ?hyr9s29⟩) HS ?_
        case hyr9s29 =>
          intro wz hSz
          obtain ⟨hSz0, hSz1, hSz2, hSz3, hSz4, hSz5⟩ := hSz
          go_simp
          try rfl
        simp only [Act.put, List.setIfInBounds_toArray, List.set_cons_zero, List.set_cons_succ]
        refine wpAnyH_done (by kernel_rfl) ?_ _
        have hS2 := HS
        have HB2 : Hid (Below W.heap.size W W2) := HBDt.out W2 hbW2
        have hfi := fin_any (HMW.out.later HB2.out) hq h6 h30 x1 (x4 : Int) x2 x3 q2 q3 er HER.out
        clear HS HSL HSL0 HP HRG HER hbW2
        obtain ⟨k0, k1, k2, k3, -, -⟩ := hS2
        go_wp2_with (first | (go_at_call 69; refine hfi.mono ?_; clear hfi; rintro e w9 h9; obtain ⟨rfl, h9b⟩ := h9))
        go_ret
        exact ⟨rfl, by rw [HTN.out]; exact h9b⟩
      · have p4b : (x1 == 4) = false := beq_eq_false_iff_ne.2 p4
        have p5b : (x1 == 5) = false := beq_eq_false_iff_ne.2 (by omega)
        have p6b : (x1 == 6) = false := beq_eq_false_iff_ne.2 (by omega)
        rw [if_pos (show x1 < 4 by omega)] at her2
        have HTN : Hid (trNext s (x1, (x2 : Int), (x3 : Int), (x4 : Int)) = { s with has := updG s.has x2 (x3 : Int), had := mark s.had x3 }) := if_pos (show x1 < 4 by omega)
        have HER : Hid (er = bErr ts s x1 x2 x3 (x4 : Int)) := her2
        clear her her2 ht p4
        go_enter Tryz.func39, Tryz.ntmps39
        go_upto_region 1 with fail
        rw [← HW.out]
        refine wp_region_held (S := fun W' => W'.cell? ⟨w.heap.size, 0, none⟩ = some (.int .i64 x1) ∧ W'.cell? ⟨w.heap.size, 1, none⟩ = some (.int .i64 (x2 : Int)) ∧ W'.cell? ⟨w.heap.size, 2, none⟩ = some (.int .i64 (x3 : Int)) ∧ W'.cell? ⟨w.heap.size, 3, none⟩ = some (.int .i64 (x4 : Int)) ∧ W'.cell? ⟨H + 4, 0, none⟩ = some (.slice pa ts.length pc) ∧ W'.cell? ⟨H + 4, 1, none⟩ = some (.int .i64 (hands : Int))) (by kernel_rfl) ?_
        rw [← HWd.out]
        refine wpAnyJ_take (i := 0) (v := ?vr10s0) (some 5) rfl rfl (by kernel_rfl) (by kernel_rfl) (by kernel_rfl) (fun _ _ _ h => h) (Or.inl ⟨by rfl, ?hyr10s0⟩) HS ?_
        case hyr10s0 =>
          intro wz hSz
          obtain ⟨hSz0, hSz1, hSz2, hSz3, hSz4, hSz5⟩ := hSz
          go_simp
          try rfl
        simp only [Act.put, List.setIfInBounds_toArray, List.set_cons_zero, List.set_cons_succ]
        refine wpAnyJ_take (i := 1) (v := ?vr10s1) (some 6) rfl rfl (by kernel_rfl) (by kernel_rfl) (by kernel_rfl) (fun _ _ _ h => h) (Or.inl ⟨by rfl, ?hyr10s1⟩) HS ?_
        case hyr10s1 =>
          intro wz hSz
          obtain ⟨hSz0, hSz1, hSz2, hSz3, hSz4, hSz5⟩ := hSz
          go_simp
          try rfl
        simp only [Act.put, List.setIfInBounds_toArray, List.set_cons_zero, List.set_cons_succ]
        refine wpAnyJ_take (i := 2) (v := ?vr10s2) (some 7) rfl rfl (by kernel_rfl) (by kernel_rfl) (by kernel_rfl) (fun _ _ _ h => h) (Or.inl ⟨by rfl, ?hyr10s2⟩) HS ?_
        case hyr10s2 =>
          intro wz hSz
          obtain ⟨hSz0, hSz1, hSz2, hSz3, hSz4, hSz5⟩ := hSz
          go_simp
          try rfl
        simp only [Act.put, List.setIfInBounds_toArray, List.set_cons_zero, List.set_cons_succ]
        refine wpAnyJ_take (i := 3) (v := ?vr10s3) (some 8) rfl rfl (by kernel_rfl) (by kernel_rfl) (by kernel_rfl) (fun _ _ _ h => h) (Or.inl ⟨by rfl, ?hyr10s3⟩) HS ?_
        case hyr10s3 =>
          intro wz hSz
          obtain ⟨hSz0, hSz1, hSz2, hSz3, hSz4, hSz5⟩ := hSz
          go_simp
          try rfl
        simp only [Act.put, List.setIfInBounds_toArray, List.set_cons_zero, List.set_cons_succ]
        refine wpAnyJ_take (i := 4) (v := ?vr10s4) (some 9) rfl rfl (by kernel_rfl) (by kernel_rfl) (by kernel_rfl) (fun _ _ _ h => h) (Or.inl ⟨by rfl, ?hyr10s4⟩) HS ?_
        case hyr10s4 =>
          intro wz hSz
          obtain ⟨hSz0, hSz1, hSz2, hSz3, hSz4, hSz5⟩ := hSz
          go_simp
          try rfl
        simp only [Act.put, List.setIfInBounds_toArray, List.set_cons_zero, List.set_cons_succ]
        refine wpAnyJ_take (i := 5) (v := ?vr10s5) (some 10) rfl rfl (by kernel_rfl) (by kernel_rfl) (by kernel_rfl) (fun _ _ _ h => h) (Or.inl ⟨by rfl, ?hyr10s5⟩) HS ?_
        case hyr10s5 =>
          intro wz hSz
          obtain ⟨hSz0, hSz1, hSz2, hSz3, hSz4, hSz5⟩ := hSz
          go_simp
          try rfl
        simp only [Act.put, List.setIfInBounds_toArray, List.set_cons_zero, List.set_cons_succ]
        refine wpAnyJ_take (i := 6) (v := ?vr10s6) (some 11) rfl rfl (by kernel_rfl) (by kernel_rfl) (by kernel_rfl) (fun _ _ _ h => h) (Or.inl ⟨by rfl, ?hyr10s6⟩) HS ?_
        case hyr10s6 =>
          intro wz hSz
          obtain ⟨hSz0, hSz1, hSz2, hSz3, hSz4, hSz5⟩ := hSz
          go_simp
          try rfl
        simp only [Act.put, List.setIfInBounds_toArray, List.set_cons_zero, List.set_cons_succ]
        refine wpAnyJ_take (i := 7) (v := ?vr10s7) (some 12) rfl rfl (by kernel_rfl) (by kernel_rfl) (by kernel_rfl) (fun _ _ _ h => h) (Or.inl ⟨by rfl, ?hyr10s7⟩) HS ?_
        case hyr10s7 =>
          intro wz hSz
          obtain ⟨hSz0, hSz1, hSz2, hSz3, hSz4, hSz5⟩ := hSz
          go_simp
          try rfl
        simp only [Act.put, List.setIfInBounds_toArray, List.set_cons_zero, List.set_cons_succ]
        refine wpAnyJ_take (i := 8) (v := ?vr10s8) (some 13) rfl rfl (by kernel_rfl) (by kernel_rfl) (by kernel_rfl) (fun _ _ _ h => h) (Or.inl ⟨by rfl, ?hyr10s8⟩) HS ?_
        case hyr10s8 =>
          intro wz hSz
          obtain ⟨hSz0, hSz1, hSz2, hSz3, hSz4, hSz5⟩ := hSz
          go_simp
          try rfl
        simp only [Act.put, List.setIfInBounds_toArray, List.set_cons_zero, List.set_cons_succ]
        refine wpAnyJ_take (i := 9) (v := ?vr10s9) (some 14) rfl rfl (by kernel_rfl) (by kernel_rfl) (by kernel_rfl) (fun _ _ _ h => h) (Or.inl ⟨by rfl, ?hyr10s9⟩) HS ?_
        case hyr10s9 =>
          intro wz hSz
          obtain ⟨hSz0, hSz1, hSz2, hSz3, hSz4, hSz5⟩ := hSz
          go_simp
          try rfl
        simp only [Act.put, List.setIfInBounds_toArray, List.set_cons_zero, List.set_cons_succ]
        refine wpAnyJ_take (i := 10) (v := ?vr10s10) (some 15) rfl rfl (by kernel_rfl) (by kernel_rfl) (by kernel_rfl) (fun _ _ _ h => h) (Or.inl ⟨by rfl, ?hyr10s10⟩) HS ?_
        case hyr10s10 =>
          intro wz hSz
          obtain ⟨hSz0, hSz1, hSz2, hSz3, hSz4, hSz5⟩ := hSz
          go_simp
          try rfl
        simp only [Act.put, List.setIfInBounds_toArray, List.set_cons_zero, List.set_cons_succ]
        refine wpAnyJ_take (i := 11) (v := ?vr10s11) (some 16) rfl rfl (by kernel_rfl) (by kernel_rfl) (by kernel_rfl) (fun _ _ _ h => h) (Or.inl ⟨by rfl, ?hyr10s11⟩) HS ?_
        case hyr10s11 =>
          intro wz hSz
          obtain ⟨hSz0, hSz1, hSz2, hSz3, hSz4, hSz5⟩ := hSz
          go_simp
          try rfl
        simp only [Act.put, List.setIfInBounds_toArray, List.set_cons_zero, List.set_cons_succ]
        refine wpAnyJ_take (i := 12) (v := ?vr10s12) (some 17) rfl rfl (by kernel_rfl) (by kernel_rfl) (by kernel_rfl) (fun _ _ _ h => h) (Or.inl ⟨by rfl, ?hyr10s12⟩) HS ?_
        case hyr10s12 =>
          intro wz hSz
          obtain ⟨hSz0, hSz1, hSz2, hSz3, hSz4, hSz5⟩ := hSz
          go_simp
          try rfl
        simp only [Act.put, List.setIfInBounds_toArray, List.set_cons_zero, List.set_cons_succ]
        refine wpAnyJ_take (i := 13) (v := ?vr10s13) (some 18) rfl rfl (by kernel_rfl) (by kernel_rfl) (by kernel_rfl) (fun _ _ _ h => h) (Or.inl ⟨by rfl, ?hyr10s13⟩) HS ?_
        case hyr10s13 =>
          intro wz hSz
          obtain ⟨hSz0, hSz1, hSz2, hSz3, hSz4, hSz5⟩ := hSz
          go_simp
          try rfl
        simp only [Act.put, List.setIfInBounds_toArray, List.set_cons_zero, List.set_cons_succ]
        refine wpAnyJ_take (i := 14) (v := ?vr10s14) (some 19) rfl rfl (by kernel_rfl) (by kernel_rfl) (by kernel_rfl) (fun _ _ _ h => h) (Or.inl ⟨by rfl, ?hyr10s14⟩) HS ?_
        case hyr10s14 =>
          intro wz hSz
          obtain ⟨hSz0, hSz1, hSz2, hSz3, hSz4, hSz5⟩ := hSz
          go_simp
          try rfl
        simp only [Act.put, List.setIfInBounds_toArray, List.set_cons_zero, List.set_cons_succ]
        refine wpAnyJ_take (i := 15) (v := ?vr10s15) (some 20) rfl rfl (by kernel_rfl) (by kernel_rfl) (by kernel_rfl) (fun _ _ _ h => h) (Or.inl ⟨by rfl, ?hyr10s15⟩) HS ?_
        case hyr10s15 =>
          intro wz hSz
          obtain ⟨hSz0, hSz1, hSz2, hSz3, hSz4, hSz5⟩ := hSz
          go_simp
          try rfl
        simp only [Act.put, List.setIfInBounds_toArray, List.set_cons_zero, List.set_cons_succ]
        refine wpAnyJ_take (i := 16) (v := ?vr10s16) (some 21) rfl rfl (by kernel_rfl) (by kernel_rfl) (by kernel_rfl) (fun _ _ _ h => h) (Or.inl ⟨by rfl, ?hyr10s16⟩) HS ?_
        case hyr10s16 =>
          intro wz hSz
          obtain ⟨hSz0, hSz1, hSz2, hSz3, hSz4, hSz5⟩ := hSz
          go_simp
          try rfl
        simp only [Act.put, List.setIfInBounds_toArray, List.set_cons_zero, List.set_cons_succ]
        refine wpAnyJ_take (i := 17) (v := ?vr10s17) (some 22) rfl rfl (by kernel_rfl) (by kernel_rfl) (by kernel_rfl) (fun _ _ _ h => h) (Or.inl ⟨by rfl, ?hyr10s17⟩) HS ?_
        case hyr10s17 =>
          intro wz hSz
          obtain ⟨hSz0, hSz1, hSz2, hSz3, hSz4, hSz5⟩ := hSz
          go_simp
          try rfl
        simp only [Act.put, List.setIfInBounds_toArray, List.set_cons_zero, List.set_cons_succ]
        refine wpAnyH_all (rs := [18]) (by kernel_rfl) (by simp) (fun jj hjj => ?_)
        obtain rfl := List.mem_singleton.1 hjj
        clear hjj
        refine wpOpJ_call (f := 68) (args := #[.agg #[.int .i64 x1, .int .i64 (x2 : Int), .int .i64 (x3 : Int), .int .i64 (x4 : Int)]]) (some 23) rfl rfl (by rfl) ?hcallr10s18 ?_
        case hcallr10s18 => go_simp
        refine hht.mono ?_
        clear hht
        rintro e W2 ⟨rfl, hbW2⟩
        replace HS := HSL.out W2 hbW2
        refine ⟨HS, ?_⟩
        simp only [Act.put, List.setIfInBounds_toArray, List.set_cons_zero, List.set_cons_succ]
        refine wpAnyJ_take (i := 19) (v := ?vr10s19) (some 24) rfl rfl (by kernel_rfl) (by kernel_rfl) (by kernel_rfl) (fun _ _ _ h => h) (Or.inl ⟨by rfl, ?hyr10s19⟩) HS ?_
        case hyr10s19 =>
          intro wz hSz
          obtain ⟨hSz0, hSz1, hSz2, hSz3, hSz4, hSz5⟩ := hSz
          go_simp
          try rfl
        simp only [Act.put, List.setIfInBounds_toArray, List.set_cons_zero, List.set_cons_succ]
        refine wpAnyJ_take (i := 20) (v := ?vr10s20) (some 25) rfl rfl (by kernel_rfl) (by kernel_rfl) (by kernel_rfl) (fun _ _ _ h => h) (Or.inl ⟨by rfl, ?hyr10s20⟩) HS ?_
        case hyr10s20 =>
          intro wz hSz
          obtain ⟨hSz0, hSz1, hSz2, hSz3, hSz4, hSz5⟩ := hSz
          go_simp
          try rfl
        simp only [Act.put, List.setIfInBounds_toArray, List.set_cons_zero, List.set_cons_succ]
        refine wpAnyJ_take (i := 21) (v := ?vr10s21) (some 26) rfl rfl (by kernel_rfl) (by kernel_rfl) (by kernel_rfl) (fun _ _ _ h => h) (Or.inl ⟨by rfl, ?hyr10s21⟩) HS ?_
        case hyr10s21 =>
          intro wz hSz
          obtain ⟨hSz0, hSz1, hSz2, hSz3, hSz4, hSz5⟩ := hSz
          go_simp
          try rfl
        simp only [Act.put, List.setIfInBounds_toArray, List.set_cons_zero, List.set_cons_succ]
        refine wpAnyJ_take (i := 22) (v := ?vr10s22) (some 27) rfl rfl (by kernel_rfl) (by kernel_rfl) (by kernel_rfl) (fun _ _ _ h => h) (Or.inl ⟨by rfl, ?hyr10s22⟩) HS ?_
        case hyr10s22 =>
          intro wz hSz
          obtain ⟨hSz0, hSz1, hSz2, hSz3, hSz4, hSz5⟩ := hSz
          go_simp
          try rfl
        simp only [Act.put, List.setIfInBounds_toArray, List.set_cons_zero, List.set_cons_succ]
        refine wpAnyJ_take (i := 23) (v := ?vr10s23) (some 28) rfl rfl (by kernel_rfl) (by kernel_rfl) (by kernel_rfl) (fun _ _ _ h => h) (Or.inl ⟨by rfl, ?hyr10s23⟩) HS ?_
        case hyr10s23 =>
          intro wz hSz
          obtain ⟨hSz0, hSz1, hSz2, hSz3, hSz4, hSz5⟩ := hSz
          go_simp
          try rfl
        simp only [Act.put, List.setIfInBounds_toArray, List.set_cons_zero, List.set_cons_succ]
        refine wpAnyJ_take (i := 24) (v := ?vr10s24) (some 29) rfl rfl (by kernel_rfl) (by kernel_rfl) (by kernel_rfl) (fun _ _ _ h => h) (Or.inl ⟨by rfl, ?hyr10s24⟩) HS ?_
        case hyr10s24 =>
          intro wz hSz
          obtain ⟨hSz0, hSz1, hSz2, hSz3, hSz4, hSz5⟩ := hSz
          go_simp
          try rfl
        simp only [Act.put, List.setIfInBounds_toArray, List.set_cons_zero, List.set_cons_succ]
        refine wpAnyJ_take (i := 25) (v := ?vr10s25) (some 30) rfl rfl (by kernel_rfl) (by kernel_rfl) (by kernel_rfl) (fun _ _ _ h => h) (Or.inl ⟨by rfl, ?hyr10s25⟩) HS ?_
        case hyr10s25 =>
          intro wz hSz
          obtain ⟨hSz0, hSz1, hSz2, hSz3, hSz4, hSz5⟩ := hSz
          go_simp
          try rfl
        simp only [Act.put, List.setIfInBounds_toArray, List.set_cons_zero, List.set_cons_succ]
        refine wpAnyJ_take (i := 26) (v := ?vr10s26) (some 31) rfl rfl (by kernel_rfl) (by kernel_rfl) (by kernel_rfl) (fun _ _ _ h => h) (Or.inl ⟨by rfl, ?hyr10s26⟩) HS ?_
        case hyr10s26 =>
          intro wz hSz
          obtain ⟨hSz0, hSz1, hSz2, hSz3, hSz4, hSz5⟩ := hSz
          go_simp
          try rfl
        simp only [Act.put, List.setIfInBounds_toArray, List.set_cons_zero, List.set_cons_succ]
        refine wpAnyJ_take (i := 27) (v := ?vr10s27) (some 32) rfl rfl (by kernel_rfl) (by kernel_rfl) (by kernel_rfl) (fun _ _ _ h => h) (Or.inl ⟨by rfl, ?hyr10s27⟩) HS ?_
        case hyr10s27 =>
          intro wz hSz
          obtain ⟨hSz0, hSz1, hSz2, hSz3, hSz4, hSz5⟩ := hSz
          go_simp
          try rfl
        simp only [Act.put, List.setIfInBounds_toArray, List.set_cons_zero, List.set_cons_succ]
        refine wpAnyJ_take (i := 28) (v := ?vr10s28) (some 33) rfl rfl (by kernel_rfl) (by kernel_rfl) (by kernel_rfl) (fun _ _ _ h => h) (Or.inl ⟨by rfl, ?hyr10s28⟩) HS ?_
        case hyr10s28 =>
          intro wz hSz
          obtain ⟨hSz0, hSz1, hSz2, hSz3, hSz4, hSz5⟩ := hSz
          go_simp
          try rfl
        simp only [Act.put, List.setIfInBounds_toArray, List.set_cons_zero, List.set_cons_succ]
        refine wpAnyJ_take (i := 29) (v := ?vr10s29) (some 34) rfl rfl (by kernel_rfl) (by kernel_rfl) (by kernel_rfl) (fun _ _ _ h => h) (Or.inl ⟨by rfl, ?hyr10s29⟩) HS ?_
        case hyr10s29 =>
          intro wz hSz
          obtain ⟨hSz0, hSz1, hSz2, hSz3, hSz4, hSz5⟩ := hSz
          go_simp
          try rfl
        simp only [Act.put, List.setIfInBounds_toArray, List.set_cons_zero, List.set_cons_succ]
        refine wpAnyH_done (by kernel_rfl) ?_ _
        have hS2 := HS
        have HB2 : Hid (Below W.heap.size W W2) := HBDt.out W2 hbW2
        have hbe := beg_any (HMW.out.later HB2.out) (HP.out.later HB2.out) HRG.out hq h6 h30 x1 (x4 : Int) x2 x3 q2 q3 er HER.out
        clear HS HSL HSL0 HP HRG HER hbW2
        obtain ⟨k0, k1, k2, k3, -, -⟩ := hS2
        go_wp2_with (first | (go_at_call 72; refine hbe.mono ?_; clear hbe; rintro e w9 h9; obtain ⟨rfl, h9b⟩ := h9))
        go_ret
        exact ⟨rfl, by rw [HTN.out]; exact h9b⟩
  · have ht : hasT x1 = false := by simp [hasT]; omega
    rw [ht] at hht
    have her2 := her.trans (trErr_at (ts := ts) (hands := hands) (s := s) (x1 := x1) (x2 := x2) (x3 := x3) (x4 := x4) (by omega))
    have q2 : x2 < hands := by omega
    by_cases p4 : x1 = 5
    · rw [if_neg (show ¬ x1 < 4 by omega), if_neg (show ¬ x1 = 4 by omega), if_pos p4] at her2
      have HTN : Hid (trNext s (x1, (x2 : Int), (x3 : Int), (x4 : Int)) = { s with slp := updG s.slp x2 true }) := by rw [p4]; exact tn5 s x2 x3 x4
      have p4b : (x1 == 4) = false := beq_eq_false_iff_ne.2 (by omega)
      have p5b : (x1 == 5) = true := beq_iff_eq.2 p4
      have HER : Hid (er = if 0 ≤ s.has x2 ∨ s.slp x2 = true then 6 else 0) := her2
      clear her her2 ht p4
      go_enter Tryz.func39, Tryz.ntmps39
      go_upto_region 1 with fail
      rw [← HW.out]
      refine wp_region_held (S := fun W' => W'.cell? ⟨w.heap.size, 0, none⟩ = some (.int .i64 x1) ∧ W'.cell? ⟨w.heap.size, 1, none⟩ = some (.int .i64 (x2 : Int)) ∧ W'.cell? ⟨w.heap.size, 2, none⟩ = some (.int .i64 (x3 : Int)) ∧ W'.cell? ⟨w.heap.size, 3, none⟩ = some (.int .i64 (x4 : Int)) ∧ W'.cell? ⟨H + 4, 0, none⟩ = some (.slice pa ts.length pc) ∧ W'.cell? ⟨H + 4, 1, none⟩ = some (.int .i64 (hands : Int))) (by kernel_rfl) ?_
      rw [← HWd.out]
      refine wpAnyJ_take (i := 0) (v := ?vr11s0) (some 5) rfl rfl (by kernel_rfl) (by kernel_rfl) (by kernel_rfl) (fun _ _ _ h => h) (Or.inl ⟨by rfl, ?hyr11s0⟩) HS ?_
      case hyr11s0 =>
        intro wz hSz
        obtain ⟨hSz0, hSz1, hSz2, hSz3, hSz4, hSz5⟩ := hSz
        go_simp
        try rfl
      simp only [Act.put, List.setIfInBounds_toArray, List.set_cons_zero, List.set_cons_succ]
      refine wpAnyJ_take (i := 1) (v := ?vr11s1) (some 6) rfl rfl (by kernel_rfl) (by kernel_rfl) (by kernel_rfl) (fun _ _ _ h => h) (Or.inl ⟨by rfl, ?hyr11s1⟩) HS ?_
      case hyr11s1 =>
        intro wz hSz
        obtain ⟨hSz0, hSz1, hSz2, hSz3, hSz4, hSz5⟩ := hSz
        go_simp
        try rfl
      simp only [Act.put, List.setIfInBounds_toArray, List.set_cons_zero, List.set_cons_succ]
      refine wpAnyJ_take (i := 2) (v := ?vr11s2) (some 7) rfl rfl (by kernel_rfl) (by kernel_rfl) (by kernel_rfl) (fun _ _ _ h => h) (Or.inl ⟨by rfl, ?hyr11s2⟩) HS ?_
      case hyr11s2 =>
        intro wz hSz
        obtain ⟨hSz0, hSz1, hSz2, hSz3, hSz4, hSz5⟩ := hSz
        go_simp
        try rfl
      simp only [Act.put, List.setIfInBounds_toArray, List.set_cons_zero, List.set_cons_succ]
      refine wpAnyJ_take (i := 3) (v := ?vr11s3) (some 8) rfl rfl (by kernel_rfl) (by kernel_rfl) (by kernel_rfl) (fun _ _ _ h => h) (Or.inl ⟨by rfl, ?hyr11s3⟩) HS ?_
      case hyr11s3 =>
        intro wz hSz
        obtain ⟨hSz0, hSz1, hSz2, hSz3, hSz4, hSz5⟩ := hSz
        go_simp
        try rfl
      simp only [Act.put, List.setIfInBounds_toArray, List.set_cons_zero, List.set_cons_succ]
      refine wpAnyJ_take (i := 4) (v := ?vr11s4) (some 9) rfl rfl (by kernel_rfl) (by kernel_rfl) (by kernel_rfl) (fun _ _ _ h => h) (Or.inl ⟨by rfl, ?hyr11s4⟩) HS ?_
      case hyr11s4 =>
        intro wz hSz
        obtain ⟨hSz0, hSz1, hSz2, hSz3, hSz4, hSz5⟩ := hSz
        go_simp
        try rfl
      simp only [Act.put, List.setIfInBounds_toArray, List.set_cons_zero, List.set_cons_succ]
      refine wpAnyJ_take (i := 5) (v := ?vr11s5) (some 10) rfl rfl (by kernel_rfl) (by kernel_rfl) (by kernel_rfl) (fun _ _ _ h => h) (Or.inl ⟨by rfl, ?hyr11s5⟩) HS ?_
      case hyr11s5 =>
        intro wz hSz
        obtain ⟨hSz0, hSz1, hSz2, hSz3, hSz4, hSz5⟩ := hSz
        go_simp
        try rfl
      simp only [Act.put, List.setIfInBounds_toArray, List.set_cons_zero, List.set_cons_succ]
      refine wpAnyJ_take (i := 6) (v := ?vr11s6) (some 11) rfl rfl (by kernel_rfl) (by kernel_rfl) (by kernel_rfl) (fun _ _ _ h => h) (Or.inl ⟨by rfl, ?hyr11s6⟩) HS ?_
      case hyr11s6 =>
        intro wz hSz
        obtain ⟨hSz0, hSz1, hSz2, hSz3, hSz4, hSz5⟩ := hSz
        go_simp
        try rfl
      simp only [Act.put, List.setIfInBounds_toArray, List.set_cons_zero, List.set_cons_succ]
      refine wpAnyJ_take (i := 7) (v := ?vr11s7) (some 12) rfl rfl (by kernel_rfl) (by kernel_rfl) (by kernel_rfl) (fun _ _ _ h => h) (Or.inl ⟨by rfl, ?hyr11s7⟩) HS ?_
      case hyr11s7 =>
        intro wz hSz
        obtain ⟨hSz0, hSz1, hSz2, hSz3, hSz4, hSz5⟩ := hSz
        go_simp
        try rfl
      simp only [Act.put, List.setIfInBounds_toArray, List.set_cons_zero, List.set_cons_succ]
      refine wpAnyJ_take (i := 8) (v := ?vr11s8) (some 13) rfl rfl (by kernel_rfl) (by kernel_rfl) (by kernel_rfl) (fun _ _ _ h => h) (Or.inl ⟨by rfl, ?hyr11s8⟩) HS ?_
      case hyr11s8 =>
        intro wz hSz
        obtain ⟨hSz0, hSz1, hSz2, hSz3, hSz4, hSz5⟩ := hSz
        go_simp
        try rfl
      simp only [Act.put, List.setIfInBounds_toArray, List.set_cons_zero, List.set_cons_succ]
      refine wpAnyJ_take (i := 9) (v := ?vr11s9) (some 14) rfl rfl (by kernel_rfl) (by kernel_rfl) (by kernel_rfl) (fun _ _ _ h => h) (Or.inl ⟨by rfl, ?hyr11s9⟩) HS ?_
      case hyr11s9 =>
        intro wz hSz
        obtain ⟨hSz0, hSz1, hSz2, hSz3, hSz4, hSz5⟩ := hSz
        go_simp
        try rfl
      simp only [Act.put, List.setIfInBounds_toArray, List.set_cons_zero, List.set_cons_succ]
      refine wpAnyJ_take (i := 10) (v := ?vr11s10) (some 15) rfl rfl (by kernel_rfl) (by kernel_rfl) (by kernel_rfl) (fun _ _ _ h => h) (Or.inl ⟨by rfl, ?hyr11s10⟩) HS ?_
      case hyr11s10 =>
        intro wz hSz
        obtain ⟨hSz0, hSz1, hSz2, hSz3, hSz4, hSz5⟩ := hSz
        go_simp
        try rfl
      simp only [Act.put, List.setIfInBounds_toArray, List.set_cons_zero, List.set_cons_succ]
      refine wpAnyJ_take (i := 11) (v := ?vr11s11) (some 16) rfl rfl (by kernel_rfl) (by kernel_rfl) (by kernel_rfl) (fun _ _ _ h => h) (Or.inl ⟨by rfl, ?hyr11s11⟩) HS ?_
      case hyr11s11 =>
        intro wz hSz
        obtain ⟨hSz0, hSz1, hSz2, hSz3, hSz4, hSz5⟩ := hSz
        go_simp
        try rfl
      simp only [Act.put, List.setIfInBounds_toArray, List.set_cons_zero, List.set_cons_succ]
      refine wpAnyJ_take (i := 12) (v := ?vr11s12) (some 17) rfl rfl (by kernel_rfl) (by kernel_rfl) (by kernel_rfl) (fun _ _ _ h => h) (Or.inl ⟨by rfl, ?hyr11s12⟩) HS ?_
      case hyr11s12 =>
        intro wz hSz
        obtain ⟨hSz0, hSz1, hSz2, hSz3, hSz4, hSz5⟩ := hSz
        go_simp
        try rfl
      simp only [Act.put, List.setIfInBounds_toArray, List.set_cons_zero, List.set_cons_succ]
      refine wpAnyJ_take (i := 13) (v := ?vr11s13) (some 18) rfl rfl (by kernel_rfl) (by kernel_rfl) (by kernel_rfl) (fun _ _ _ h => h) (Or.inl ⟨by rfl, ?hyr11s13⟩) HS ?_
      case hyr11s13 =>
        intro wz hSz
        obtain ⟨hSz0, hSz1, hSz2, hSz3, hSz4, hSz5⟩ := hSz
        go_simp
        try rfl
      simp only [Act.put, List.setIfInBounds_toArray, List.set_cons_zero, List.set_cons_succ]
      refine wpAnyJ_take (i := 14) (v := ?vr11s14) (some 19) rfl rfl (by kernel_rfl) (by kernel_rfl) (by kernel_rfl) (fun _ _ _ h => h) (Or.inl ⟨by rfl, ?hyr11s14⟩) HS ?_
      case hyr11s14 =>
        intro wz hSz
        obtain ⟨hSz0, hSz1, hSz2, hSz3, hSz4, hSz5⟩ := hSz
        go_simp
        try rfl
      simp only [Act.put, List.setIfInBounds_toArray, List.set_cons_zero, List.set_cons_succ]
      refine wpAnyJ_take (i := 15) (v := ?vr11s15) (some 20) rfl rfl (by kernel_rfl) (by kernel_rfl) (by kernel_rfl) (fun _ _ _ h => h) (Or.inl ⟨by rfl, ?hyr11s15⟩) HS ?_
      case hyr11s15 =>
        intro wz hSz
        obtain ⟨hSz0, hSz1, hSz2, hSz3, hSz4, hSz5⟩ := hSz
        go_simp
        try rfl
      simp only [Act.put, List.setIfInBounds_toArray, List.set_cons_zero, List.set_cons_succ]
      refine wpAnyJ_take (i := 16) (v := ?vr11s16) (some 21) rfl rfl (by kernel_rfl) (by kernel_rfl) (by kernel_rfl) (fun _ _ _ h => h) (Or.inl ⟨by rfl, ?hyr11s16⟩) HS ?_
      case hyr11s16 =>
        intro wz hSz
        obtain ⟨hSz0, hSz1, hSz2, hSz3, hSz4, hSz5⟩ := hSz
        go_simp
        try rfl
      simp only [Act.put, List.setIfInBounds_toArray, List.set_cons_zero, List.set_cons_succ]
      refine wpAnyJ_take (i := 17) (v := ?vr11s17) (some 22) rfl rfl (by kernel_rfl) (by kernel_rfl) (by kernel_rfl) (fun _ _ _ h => h) (Or.inl ⟨by rfl, ?hyr11s17⟩) HS ?_
      case hyr11s17 =>
        intro wz hSz
        obtain ⟨hSz0, hSz1, hSz2, hSz3, hSz4, hSz5⟩ := hSz
        go_simp
        try rfl
      simp only [Act.put, List.setIfInBounds_toArray, List.set_cons_zero, List.set_cons_succ]
      refine wpAnyH_all (rs := [18]) (by kernel_rfl) (by simp) (fun jj hjj => ?_)
      obtain rfl := List.mem_singleton.1 hjj
      clear hjj
      refine wpOpJ_call (f := 68) (args := #[.agg #[.int .i64 x1, .int .i64 (x2 : Int), .int .i64 (x3 : Int), .int .i64 (x4 : Int)]]) (some 23) rfl rfl (by rfl) ?hcallr11s18 ?_
      case hcallr11s18 => go_simp
      refine hht.mono ?_
      clear hht
      rintro e W2 ⟨rfl, hbW2⟩
      replace HS := HSL.out W2 hbW2
      refine ⟨HS, ?_⟩
      simp only [Act.put, List.setIfInBounds_toArray, List.set_cons_zero, List.set_cons_succ]
      refine wpAnyJ_take (i := 19) (v := ?vr11s19) (some 24) rfl rfl (by kernel_rfl) (by kernel_rfl) (by kernel_rfl) (fun _ _ _ h => h) (Or.inl ⟨by rfl, ?hyr11s19⟩) HS ?_
      case hyr11s19 =>
        intro wz hSz
        obtain ⟨hSz0, hSz1, hSz2, hSz3, hSz4, hSz5⟩ := hSz
        go_simp
        try rfl
      simp only [Act.put, List.setIfInBounds_toArray, List.set_cons_zero, List.set_cons_succ]
      refine wpAnyJ_take (i := 20) (v := undef) (some 25) rfl rfl (by kernel_rfl) (by kernel_rfl) (by kernel_rfl) (fun _ _ _ h => h) (Or.inr ⟨by rfl, rfl⟩) HS ?_
      simp only [Act.put, List.setIfInBounds_toArray, List.set_cons_zero, List.set_cons_succ]
      refine wpAnyJ_take (i := 21) (v := undef) (some 26) rfl rfl (by kernel_rfl) (by kernel_rfl) (by kernel_rfl) (fun _ _ _ h => h) (Or.inr ⟨by rfl, rfl⟩) HS ?_
      simp only [Act.put, List.setIfInBounds_toArray, List.set_cons_zero, List.set_cons_succ]
      refine wpAnyJ_take (i := 22) (v := undef) (some 27) rfl rfl (by kernel_rfl) (by kernel_rfl) (by kernel_rfl) (fun _ _ _ h => h) (Or.inr ⟨by rfl, rfl⟩) HS ?_
      simp only [Act.put, List.setIfInBounds_toArray, List.set_cons_zero, List.set_cons_succ]
      refine wpAnyJ_take (i := 23) (v := undef) (some 28) rfl rfl (by kernel_rfl) (by kernel_rfl) (by kernel_rfl) (fun _ _ _ h => h) (Or.inr ⟨by rfl, rfl⟩) HS ?_
      simp only [Act.put, List.setIfInBounds_toArray, List.set_cons_zero, List.set_cons_succ]
      refine wpAnyJ_take (i := 24) (v := undef) (some 29) rfl rfl (by kernel_rfl) (by kernel_rfl) (by kernel_rfl) (fun _ _ _ h => h) (Or.inr ⟨by rfl, rfl⟩) HS ?_
      simp only [Act.put, List.setIfInBounds_toArray, List.set_cons_zero, List.set_cons_succ]
      refine wpAnyJ_take (i := 25) (v := undef) (some 30) rfl rfl (by kernel_rfl) (by kernel_rfl) (by kernel_rfl) (fun _ _ _ h => h) (Or.inr ⟨by rfl, rfl⟩) HS ?_
      simp only [Act.put, List.setIfInBounds_toArray, List.set_cons_zero, List.set_cons_succ]
      refine wpAnyJ_take (i := 26) (v := undef) (some 31) rfl rfl (by kernel_rfl) (by kernel_rfl) (by kernel_rfl) (fun _ _ _ h => h) (Or.inr ⟨by rfl, rfl⟩) HS ?_
      simp only [Act.put, List.setIfInBounds_toArray, List.set_cons_zero, List.set_cons_succ]
      refine wpAnyJ_take (i := 27) (v := undef) (some 32) rfl rfl (by kernel_rfl) (by kernel_rfl) (by kernel_rfl) (fun _ _ _ h => h) (Or.inr ⟨by rfl, rfl⟩) HS ?_
      simp only [Act.put, List.setIfInBounds_toArray, List.set_cons_zero, List.set_cons_succ]
      refine wpAnyJ_take (i := 28) (v := ?vr11s28) (some 33) rfl rfl (by kernel_rfl) (by kernel_rfl) (by kernel_rfl) (fun _ _ _ h => h) (Or.inl ⟨by rfl, ?hyr11s28⟩) HS ?_
      case hyr11s28 =>
        intro wz hSz
        obtain ⟨hSz0, hSz1, hSz2, hSz3, hSz4, hSz5⟩ := hSz
        go_simp
        try rfl
      simp only [Act.put, List.setIfInBounds_toArray, List.set_cons_zero, List.set_cons_succ]
      refine wpAnyJ_take (i := 29) (v := ?vr11s29) (some 34) rfl rfl (by kernel_rfl) (by kernel_rfl) (by kernel_rfl) (fun _ _ _ h => h) (Or.inl ⟨by rfl, ?hyr11s29⟩) HS ?_
      case hyr11s29 =>
        intro wz hSz
        obtain ⟨hSz0, hSz1, hSz2, hSz3, hSz4, hSz5⟩ := hSz
        go_simp
        try rfl
      simp only [Act.put, List.setIfInBounds_toArray, List.set_cons_zero, List.set_cons_succ]
      refine wpAnyH_done (by kernel_rfl) ?_ _
      have hS2 := HS
      have HB2 : Hid (Below W.heap.size W W2) := HBDt.out W2 hbW2
      have hsl := sleep_any (HMW.out.later HB2.out) hq h6 x2 q2 er HER.out
      clear HS HSL HSL0 HP HRG HER hbW2
      obtain ⟨k0, k1, k2, k3, -, -⟩ := hS2
      go_wp2_with (first | (go_at_call 70; refine hsl.mono ?_; clear hsl; rintro e w9 h9; obtain ⟨rfl, h9b⟩ := h9))
      go_ret
      exact ⟨rfl, by rw [HTN.out]; exact h9b⟩
    · have e6 : x1 = 6 := by omega
      rw [if_neg (show ¬ x1 < 4 by omega), if_neg (show ¬ x1 = 4 by omega), if_neg (show ¬ x1 = 5 by omega)] at her2
      have HTN : Hid (trNext s (x1, (x2 : Int), (x3 : Int), (x4 : Int)) = { s with slp := updG s.slp x2 false }) := by rw [e6]; exact tn6 s x2 x3 x4
      have p4b : (x1 == 4) = false := beq_eq_false_iff_ne.2 (by omega)
      have p5b : (x1 == 5) = false := beq_eq_false_iff_ne.2 p4
      have p6b : (x1 == 6) = true := beq_iff_eq.2 e6
      have HER : Hid (er = if s.slp x2 = true then 0 else 6) := her2
      clear her her2 ht p4 e6
      go_enter Tryz.func39, Tryz.ntmps39
      go_upto_region 1 with fail
      rw [← HW.out]
      refine wp_region_held (S := fun W' => W'.cell? ⟨w.heap.size, 0, none⟩ = some (.int .i64 x1) ∧ W'.cell? ⟨w.heap.size, 1, none⟩ = some (.int .i64 (x2 : Int)) ∧ W'.cell? ⟨w.heap.size, 2, none⟩ = some (.int .i64 (x3 : Int)) ∧ W'.cell? ⟨w.heap.size, 3, none⟩ = some (.int .i64 (x4 : Int)) ∧ W'.cell? ⟨H + 4, 0, none⟩ = some (.slice pa ts.length pc) ∧ W'.cell? ⟨H + 4, 1, none⟩ = some (.int .i64 (hands : Int))) (by kernel_rfl) ?_
      rw [← HWd.out]
      refine wpAnyJ_take (i := 0) (v := ?vr12s0) (some 5) rfl rfl (by kernel_rfl) (by kernel_rfl) (by kernel_rfl) (fun _ _ _ h => h) (Or.inl ⟨by rfl, ?hyr12s0⟩) HS ?_
      case hyr12s0 =>
        intro wz hSz
        obtain ⟨hSz0, hSz1, hSz2, hSz3, hSz4, hSz5⟩ := hSz
        go_simp
        try rfl
      simp only [Act.put, List.setIfInBounds_toArray, List.set_cons_zero, List.set_cons_succ]
      refine wpAnyJ_take (i := 1) (v := ?vr12s1) (some 6) rfl rfl (by kernel_rfl) (by kernel_rfl) (by kernel_rfl) (fun _ _ _ h => h) (Or.inl ⟨by rfl, ?hyr12s1⟩) HS ?_
      case hyr12s1 =>
        intro wz hSz
        obtain ⟨hSz0, hSz1, hSz2, hSz3, hSz4, hSz5⟩ := hSz
        go_simp
        try rfl
      simp only [Act.put, List.setIfInBounds_toArray, List.set_cons_zero, List.set_cons_succ]
      refine wpAnyJ_take (i := 2) (v := ?vr12s2) (some 7) rfl rfl (by kernel_rfl) (by kernel_rfl) (by kernel_rfl) (fun _ _ _ h => h) (Or.inl ⟨by rfl, ?hyr12s2⟩) HS ?_
      case hyr12s2 =>
        intro wz hSz
        obtain ⟨hSz0, hSz1, hSz2, hSz3, hSz4, hSz5⟩ := hSz
        go_simp
        try rfl
      simp only [Act.put, List.setIfInBounds_toArray, List.set_cons_zero, List.set_cons_succ]
      refine wpAnyJ_take (i := 3) (v := ?vr12s3) (some 8) rfl rfl (by kernel_rfl) (by kernel_rfl) (by kernel_rfl) (fun _ _ _ h => h) (Or.inl ⟨by rfl, ?hyr12s3⟩) HS ?_
      case hyr12s3 =>
        intro wz hSz
        obtain ⟨hSz0, hSz1, hSz2, hSz3, hSz4, hSz5⟩ := hSz
        go_simp
        try rfl
      simp only [Act.put, List.setIfInBounds_toArray, List.set_cons_zero, List.set_cons_succ]
      refine wpAnyJ_take (i := 4) (v := ?vr12s4) (some 9) rfl rfl (by kernel_rfl) (by kernel_rfl) (by kernel_rfl) (fun _ _ _ h => h) (Or.inl ⟨by rfl, ?hyr12s4⟩) HS ?_
      case hyr12s4 =>
        intro wz hSz
        obtain ⟨hSz0, hSz1, hSz2, hSz3, hSz4, hSz5⟩ := hSz
        go_simp
        try rfl
      simp only [Act.put, List.setIfInBounds_toArray, List.set_cons_zero, List.set_cons_succ]
      refine wpAnyJ_take (i := 5) (v := ?vr12s5) (some 10) rfl rfl (by kernel_rfl) (by kernel_rfl) (by kernel_rfl) (fun _ _ _ h => h) (Or.inl ⟨by rfl, ?hyr12s5⟩) HS ?_
      case hyr12s5 =>
        intro wz hSz
        obtain ⟨hSz0, hSz1, hSz2, hSz3, hSz4, hSz5⟩ := hSz
        go_simp
        try rfl
      simp only [Act.put, List.setIfInBounds_toArray, List.set_cons_zero, List.set_cons_succ]
      refine wpAnyJ_take (i := 6) (v := ?vr12s6) (some 11) rfl rfl (by kernel_rfl) (by kernel_rfl) (by kernel_rfl) (fun _ _ _ h => h) (Or.inl ⟨by rfl, ?hyr12s6⟩) HS ?_
      case hyr12s6 =>
        intro wz hSz
        obtain ⟨hSz0, hSz1, hSz2, hSz3, hSz4, hSz5⟩ := hSz
        go_simp
        try rfl
      simp only [Act.put, List.setIfInBounds_toArray, List.set_cons_zero, List.set_cons_succ]
      refine wpAnyJ_take (i := 7) (v := ?vr12s7) (some 12) rfl rfl (by kernel_rfl) (by kernel_rfl) (by kernel_rfl) (fun _ _ _ h => h) (Or.inl ⟨by rfl, ?hyr12s7⟩) HS ?_
      case hyr12s7 =>
        intro wz hSz
        obtain ⟨hSz0, hSz1, hSz2, hSz3, hSz4, hSz5⟩ := hSz
        go_simp
        try rfl
      simp only [Act.put, List.setIfInBounds_toArray, List.set_cons_zero, List.set_cons_succ]
      refine wpAnyJ_take (i := 8) (v := ?vr12s8) (some 13) rfl rfl (by kernel_rfl) (by kernel_rfl) (by kernel_rfl) (fun _ _ _ h => h) (Or.inl ⟨by rfl, ?hyr12s8⟩) HS ?_
      case hyr12s8 =>
        intro wz hSz
        obtain ⟨hSz0, hSz1, hSz2, hSz3, hSz4, hSz5⟩ := hSz
        go_simp
        try rfl
      simp only [Act.put, List.setIfInBounds_toArray, List.set_cons_zero, List.set_cons_succ]
      refine wpAnyJ_take (i := 9) (v := ?vr12s9) (some 14) rfl rfl (by kernel_rfl) (by kernel_rfl) (by kernel_rfl) (fun _ _ _ h => h) (Or.inl ⟨by rfl, ?hyr12s9⟩) HS ?_
      case hyr12s9 =>
        intro wz hSz
        obtain ⟨hSz0, hSz1, hSz2, hSz3, hSz4, hSz5⟩ := hSz
        go_simp
        try rfl
      simp only [Act.put, List.setIfInBounds_toArray, List.set_cons_zero, List.set_cons_succ]
      refine wpAnyJ_take (i := 10) (v := ?vr12s10) (some 15) rfl rfl (by kernel_rfl) (by kernel_rfl) (by kernel_rfl) (fun _ _ _ h => h) (Or.inl ⟨by rfl, ?hyr12s10⟩) HS ?_
      case hyr12s10 =>
        intro wz hSz
        obtain ⟨hSz0, hSz1, hSz2, hSz3, hSz4, hSz5⟩ := hSz
        go_simp
        try rfl
      simp only [Act.put, List.setIfInBounds_toArray, List.set_cons_zero, List.set_cons_succ]
      refine wpAnyJ_take (i := 11) (v := ?vr12s11) (some 16) rfl rfl (by kernel_rfl) (by kernel_rfl) (by kernel_rfl) (fun _ _ _ h => h) (Or.inl ⟨by rfl, ?hyr12s11⟩) HS ?_
      case hyr12s11 =>
        intro wz hSz
        obtain ⟨hSz0, hSz1, hSz2, hSz3, hSz4, hSz5⟩ := hSz
        go_simp
        try rfl
      simp only [Act.put, List.setIfInBounds_toArray, List.set_cons_zero, List.set_cons_succ]
      refine wpAnyJ_take (i := 12) (v := ?vr12s12) (some 17) rfl rfl (by kernel_rfl) (by kernel_rfl) (by kernel_rfl) (fun _ _ _ h => h) (Or.inl ⟨by rfl, ?hyr12s12⟩) HS ?_
      case hyr12s12 =>
        intro wz hSz
        obtain ⟨hSz0, hSz1, hSz2, hSz3, hSz4, hSz5⟩ := hSz
        go_simp
        try rfl
      simp only [Act.put, List.setIfInBounds_toArray, List.set_cons_zero, List.set_cons_succ]
      refine wpAnyJ_take (i := 13) (v := ?vr12s13) (some 18) rfl rfl (by kernel_rfl) (by kernel_rfl) (by kernel_rfl) (fun _ _ _ h => h) (Or.inl ⟨by rfl, ?hyr12s13⟩) HS ?_
      case hyr12s13 =>
        intro wz hSz
        obtain ⟨hSz0, hSz1, hSz2, hSz3, hSz4, hSz5⟩ := hSz
        go_simp
        try rfl
      simp only [Act.put, List.setIfInBounds_toArray, List.set_cons_zero, List.set_cons_succ]
      refine wpAnyJ_take (i := 14) (v := ?vr12s14) (some 19) rfl rfl (by kernel_rfl) (by kernel_rfl) (by kernel_rfl) (fun _ _ _ h => h) (Or.inl ⟨by rfl, ?hyr12s14⟩) HS ?_
      case hyr12s14 =>
        intro wz hSz
        obtain ⟨hSz0, hSz1, hSz2, hSz3, hSz4, hSz5⟩ := hSz
        go_simp
        try rfl
      simp only [Act.put, List.setIfInBounds_toArray, List.set_cons_zero, List.set_cons_succ]
      refine wpAnyJ_take (i := 15) (v := ?vr12s15) (some 20) rfl rfl (by kernel_rfl) (by kernel_rfl) (by kernel_rfl) (fun _ _ _ h => h) (Or.inl ⟨by rfl, ?hyr12s15⟩) HS ?_
      case hyr12s15 =>
        intro wz hSz
        obtain ⟨hSz0, hSz1, hSz2, hSz3, hSz4, hSz5⟩ := hSz
        go_simp
        try rfl
      simp only [Act.put, List.setIfInBounds_toArray, List.set_cons_zero, List.set_cons_succ]
      refine wpAnyJ_take (i := 16) (v := ?vr12s16) (some 21) rfl rfl (by kernel_rfl) (by kernel_rfl) (by kernel_rfl) (fun _ _ _ h => h) (Or.inl ⟨by rfl, ?hyr12s16⟩) HS ?_
      case hyr12s16 =>
        intro wz hSz
        obtain ⟨hSz0, hSz1, hSz2, hSz3, hSz4, hSz5⟩ := hSz
        go_simp
        try rfl
      simp only [Act.put, List.setIfInBounds_toArray, List.set_cons_zero, List.set_cons_succ]
      refine wpAnyJ_take (i := 17) (v := ?vr12s17) (some 22) rfl rfl (by kernel_rfl) (by kernel_rfl) (by kernel_rfl) (fun _ _ _ h => h) (Or.inl ⟨by rfl, ?hyr12s17⟩) HS ?_
      case hyr12s17 =>
        intro wz hSz
        obtain ⟨hSz0, hSz1, hSz2, hSz3, hSz4, hSz5⟩ := hSz
        go_simp
        try rfl
      simp only [Act.put, List.setIfInBounds_toArray, List.set_cons_zero, List.set_cons_succ]
      refine wpAnyH_all (rs := [18]) (by kernel_rfl) (by simp) (fun jj hjj => ?_)
      obtain rfl := List.mem_singleton.1 hjj
      clear hjj
      refine wpOpJ_call (f := 68) (args := #[.agg #[.int .i64 x1, .int .i64 (x2 : Int), .int .i64 (x3 : Int), .int .i64 (x4 : Int)]]) (some 23) rfl rfl (by rfl) ?hcallr12s18 ?_
      case hcallr12s18 => go_simp
      refine hht.mono ?_
      clear hht
      rintro e W2 ⟨rfl, hbW2⟩
      replace HS := HSL.out W2 hbW2
      refine ⟨HS, ?_⟩
      simp only [Act.put, List.setIfInBounds_toArray, List.set_cons_zero, List.set_cons_succ]
      refine wpAnyJ_take (i := 19) (v := ?vr12s19) (some 24) rfl rfl (by kernel_rfl) (by kernel_rfl) (by kernel_rfl) (fun _ _ _ h => h) (Or.inl ⟨by rfl, ?hyr12s19⟩) HS ?_
      case hyr12s19 =>
        intro wz hSz
        obtain ⟨hSz0, hSz1, hSz2, hSz3, hSz4, hSz5⟩ := hSz
        go_simp
        try rfl
      simp only [Act.put, List.setIfInBounds_toArray, List.set_cons_zero, List.set_cons_succ]
      refine wpAnyJ_take (i := 20) (v := undef) (some 25) rfl rfl (by kernel_rfl) (by kernel_rfl) (by kernel_rfl) (fun _ _ _ h => h) (Or.inr ⟨by rfl, rfl⟩) HS ?_
      simp only [Act.put, List.setIfInBounds_toArray, List.set_cons_zero, List.set_cons_succ]
      refine wpAnyJ_take (i := 21) (v := undef) (some 26) rfl rfl (by kernel_rfl) (by kernel_rfl) (by kernel_rfl) (fun _ _ _ h => h) (Or.inr ⟨by rfl, rfl⟩) HS ?_
      simp only [Act.put, List.setIfInBounds_toArray, List.set_cons_zero, List.set_cons_succ]
      refine wpAnyJ_take (i := 22) (v := undef) (some 27) rfl rfl (by kernel_rfl) (by kernel_rfl) (by kernel_rfl) (fun _ _ _ h => h) (Or.inr ⟨by rfl, rfl⟩) HS ?_
      simp only [Act.put, List.setIfInBounds_toArray, List.set_cons_zero, List.set_cons_succ]
      refine wpAnyJ_take (i := 23) (v := undef) (some 28) rfl rfl (by kernel_rfl) (by kernel_rfl) (by kernel_rfl) (fun _ _ _ h => h) (Or.inr ⟨by rfl, rfl⟩) HS ?_
      simp only [Act.put, List.setIfInBounds_toArray, List.set_cons_zero, List.set_cons_succ]
      refine wpAnyJ_take (i := 24) (v := undef) (some 29) rfl rfl (by kernel_rfl) (by kernel_rfl) (by kernel_rfl) (fun _ _ _ h => h) (Or.inr ⟨by rfl, rfl⟩) HS ?_
      simp only [Act.put, List.setIfInBounds_toArray, List.set_cons_zero, List.set_cons_succ]
      refine wpAnyJ_take (i := 25) (v := undef) (some 30) rfl rfl (by kernel_rfl) (by kernel_rfl) (by kernel_rfl) (fun _ _ _ h => h) (Or.inr ⟨by rfl, rfl⟩) HS ?_
      simp only [Act.put, List.setIfInBounds_toArray, List.set_cons_zero, List.set_cons_succ]
      refine wpAnyJ_take (i := 26) (v := undef) (some 31) rfl rfl (by kernel_rfl) (by kernel_rfl) (by kernel_rfl) (fun _ _ _ h => h) (Or.inr ⟨by rfl, rfl⟩) HS ?_
      simp only [Act.put, List.setIfInBounds_toArray, List.set_cons_zero, List.set_cons_succ]
      refine wpAnyJ_take (i := 27) (v := undef) (some 32) rfl rfl (by kernel_rfl) (by kernel_rfl) (by kernel_rfl) (fun _ _ _ h => h) (Or.inr ⟨by rfl, rfl⟩) HS ?_
      simp only [Act.put, List.setIfInBounds_toArray, List.set_cons_zero, List.set_cons_succ]
      refine wpAnyJ_take (i := 28) (v := ?vr12s28) (some 33) rfl rfl (by kernel_rfl) (by kernel_rfl) (by kernel_rfl) (fun _ _ _ h => h) (Or.inl ⟨by rfl, ?hyr12s28⟩) HS ?_
      case hyr12s28 =>
        intro wz hSz
        obtain ⟨hSz0, hSz1, hSz2, hSz3, hSz4, hSz5⟩ := hSz
        go_simp
        try rfl
      simp only [Act.put, List.setIfInBounds_toArray, List.set_cons_zero, List.set_cons_succ]
      refine wpAnyJ_take (i := 29) (v := ?vr12s29) (some 34) rfl rfl (by kernel_rfl) (by kernel_rfl) (by kernel_rfl) (fun _ _ _ h => h) (Or.inl ⟨by rfl, ?hyr12s29⟩) HS ?_
      case hyr12s29 =>
        intro wz hSz
        obtain ⟨hSz0, hSz1, hSz2, hSz3, hSz4, hSz5⟩ := hSz
        go_simp
        try rfl
      simp only [Act.put, List.setIfInBounds_toArray, List.set_cons_zero, List.set_cons_succ]
      refine wpAnyH_done (by kernel_rfl) ?_ _
      have hS2 := HS
      have HB2 : Hid (Below W.heap.size W W2) := HBDt.out W2 hbW2
      have hwk := wake_any (HMW.out.later HB2.out) h6 x2 q2 er HER.out
      clear HS HSL HSL0 HP HRG HER hbW2
      obtain ⟨k0, k1, k2, k3, -, -⟩ := hS2
      go_wp2_with (first | (go_at_call 71; refine hwk.mono ?_; clear hwk; rintro e w9 h9; obtain ⟨rfl, h9b⟩ := h9))
      go_ret
      exact ⟨rfl, by rw [HTN.out]; exact h9b⟩
end
end Go.Proofs.YtandhiiaflhenaaGreatDoor
