/- The walks of YardTells where Shares tells an error. -/
import Derived.Test.YtajmnnjafhanaaaDoorYn
namespace Go.Proofs.YtajmnnjafhanaaaDoor
open Go.RowKit Go.Deep

set_option maxRecDepth 100000 in
set_option maxHeartbeats 4000000 in
theorem tells_bad (v : Value) (gs : List Jb) (n : Int) (w : World) (hg : JobsAt w v gs) (hT : Typed w) (he : jobErr gs ≠ 0) :
    Calls Tryd.prog 3 #[v, .int .i64 n] w fun e w' => e = .returned (.bool true) ∧ Below w.heap.size w w' := by
  have hdj := dJobs_any v gs w hg
  have hck := check_any v gs w hg
  have HER : Hid (∀ q wx, Below w.heap.size w wx → Calls Tryd.prog 5 #[errV q, .int .i64 q] wx fun e w' => e = .returned (.bool true) ∧ Below w.heap.size w w') := fun q wx hb => (error_same q wx (hT.low hb)).mono (fun e w' h => ⟨h.1, hb.trans (h.2.mono hb.size)⟩)
  have hl1 : 1 ≤ gs.length := by cases gs with | nil => exact absurd rfl he | cons x r => simp
  obtain ⟨q, hq⟩ : ∃ q, q = jobErr gs := ⟨_, rfl⟩
  have hE0 : jobErr gs = q := hq.symm
  have hF : srvErr gs n = q := by unfold srvErr; rw [if_neg he, hq]
  have hSH : (jobErr gs ≠ 0 ∧ q = jobErr gs) ∨ (jobErr gs = 0 ∧ gs.length = 0 ∧ q = 5) ∨ (jobErr gs = 0 ∧ 1 ≤ gs.length ∧ manyB n = false ∧ q = 1) := Or.inl ⟨he, hq⟩
  rw [← hq] at he
  have HER4 : Hid (∀ wx, Below w.heap.size w wx → Calls Tryd.prog 5 #[errV q, .int .i64 q] wx fun e w' => e = .returned (.bool true) ∧ Below wx.heap.size wx w') := fun wx hb => error_same q wx (hT.low hb)
  have HS : Hid (∀ wx, Below w.heap.size w wx → Calls Tryd.prog 8 #[v, .int .i64 n] wx fun e w' => ∃ ov lv, e = .returned (.tuple #[ov, lv, errV q]) ∧ IntsAt w' ov (srvOut gs n) ∧ JobsAt w' lv (srvLeft gs n) ∧ Below wx.heap.size wx w') := fun wx hb => by have h := serve_one v gs n wx (hg.later hb); rw [hF] at h; exact h
  have hz : srvOut gs n = [] ∧ srvLeft gs n = [] := by unfold srvOut srvLeft; rw [if_neg (by rw [hF]; first | exact he | omega), if_neg (by rw [hF]; first | exact he | omega)]; exact ⟨rfl, rfl⟩
  rw [hz.1, hz.2] at HS
  have HH : Hid (∀ wx, Below w.heap.size w wx → Calls Tryd.prog 11 #[v, .int .i64 n] wx fun e w' => e = .returned (.tuple #[.slice none 0 0, errV q]) ∧ Below wx.heap.size wx w') := fun wx hb => shares_no v gs n q wx (hg.later hb) hSH
  rw [hE0] at hdj hck
  obtain ⟨_, a, c, rfl, _⟩ := hg
  have hqz : (q == 0) = false := beq_eq_false_iff_ne.2 he
  clear he hq
  generalize gs.length = m at *
  clear hE0 hF hSH hT hz
  go_enter Tryd.func3, Tryd.ntmps3
  go_wp2_with fail
  refine hdj.mono ?_
  clear hdj
  rintro e w ⟨rfl, rfl⟩
  go_wp2_with fail
  refine hck.mono ?_
  clear hck
  rintro e w1 ⟨rfl, hb1⟩
  have her := HER.out q w1 hb1
  clear hb1
  go_wp2_with fail
  refine her.mono ?_
  clear her
  rintro e w2 ⟨rfl, hb2⟩
  have HB3 : Hid (Below w.heap.size w w2) := hb2
  have hsv := HS.out w2 hb2
  clear HS hb2
  go_wp2_with fail
  refine hsv.mono ?_
  clear hsv
  rintro e w4 ⟨ov, lv, rfl, hi4, hj4, hb4⟩
  have HB4 : Hid (Below w.heap.size w w4) := HB3.out.trans (hb4.mono HB3.out.size)
  have HP4 : Hid (IntsAt w4 (.slice none 0 0) [] ∧ JobsAt w4 (.slice none 0 0) []) := ⟨nil_ints _, nil_jobs _⟩
  have HI4 : Hid (IntsAt w4 ov []) := hi4
  have HJ4 : Hid (JobsAt w4 lv []) := hj4
  obtain ⟨-, oa, oc, rfl, -⟩ := hi4
  obtain ⟨-, la, lc, rfl, -⟩ := hj4
  have her : Calls Tryd.prog 5 #[errV q, .int .i64 q] w4 fun e w' => e = .returned (.bool true) ∧ Below w4.heap.size w4 w' := (HER4.out w4 HB4.out)
  clear hb4 HB3
  go_wp2_with fail
  refine her.mono ?_
  clear her
  rintro e w5 ⟨rfl, hb5⟩
  have hsi := sameInts_any _ _ _ w5 (HI4.out.later hb5) (HP4.out.1.later hb5)
  have HB5 : Hid (Below w.heap.size w w5) := HB4.out.trans (hb5.mono HB4.out.size)
  have HJ5 : Hid (JobsAt w5 (.slice la 0 lc) [] ∧ JobsAt w5 (.slice none 0 0) []) := ⟨HJ4.out.later hb5, nil_jobs _⟩
  clear hb5 HB4 HI4 HJ4 HP4
  go_wp2_with fail
  refine hsi.mono ?_
  clear hsi
  rintro e w6 ⟨rfl, hb6⟩
  have hsj := sameJobs_any _ _ _ w6 (HJ5.out.1.later hb6) (HJ5.out.2.later hb6)
  have HB6 : Hid (Below w.heap.size w w6) := HB5.out.trans (hb6.mono HB5.out.size)
  clear hb6 HB5 HJ5
  go_wp2_with fail
  refine hsj.mono ?_
  clear hsj
  rintro e w7 ⟨rfl, hb7⟩
  have HB7 : Hid (Below w.heap.size w w7) := HB6.out.trans (hb7.mono HB6.out.size)
  have hsh := HH.out w7 HB7.out
  clear hb7 HB6 HH
  go_wp2_with fail
  refine wp_loop_rounds 1 ?_
  rw [rounds_succ]
  go_wp2_with fail
  refine wp_loop_rounds 1 ?_
  rw [rounds_succ]
  go_wp2_with fail
  refine wp_loop_rounds 1 ?_
  rw [rounds_succ]
  go_wp2_with fail
  refine hsh.mono ?_
  clear hsh
  rintro e w8 ⟨rfl, hb8⟩
  have HB8 : Hid (Below w.heap.size w w8) := HB7.out.trans (hb8.mono HB7.out.size)
  have her := HER.out q w8 HB8.out
  clear hb8 HB7
  go_wp2_with fail
  refine her.mono ?_
  clear her
  rintro e w9 ⟨rfl, hb9⟩
  have hsi := sameInts_any _ _ _ w9 (nil_ints w9) (nil_ints w9)
  go_wp2_with fail
  refine hsi.mono ?_
  clear hsi
  rintro e w10 ⟨rfl, hb10⟩
  go_wp2
  go_ret
  exact ⟨rfl, hb9.trans (hb10.mono hb9.size)⟩
set_option maxRecDepth 100000 in
set_option maxHeartbeats 4000000 in
theorem tells_loNone (v : Value) (gs : List Jb) (n : Int) (w : World) (hg : JobsAt w v gs) (hT : Typed w) (he : jobErr gs = 0) (hn : n < 0) (hlen : gs.length = 0) :
    Calls Tryd.prog 3 #[v, .int .i64 n] w fun e w' => e = .returned (.bool true) ∧ Below w.heap.size w w' := by
  have hdj := dJobs_any v gs w hg
  have hck := check_any v gs w hg
  have HER : Hid (∀ q wx, Below w.heap.size w wx → Calls Tryd.prog 5 #[errV q, .int .i64 q] wx fun e w' => e = .returned (.bool true) ∧ Below w.heap.size w w') := fun q wx hb => (error_same q wx (hT.low hb)).mono (fun e w' h => ⟨h.1, hb.trans (h.2.mono hb.size)⟩)
  have hmb : manyB n = false := by unfold manyB; simp; omega
  have hE0 : jobErr gs = 0 := he
  have hF : srvErr gs n = 1 := by unfold srvErr; rw [if_pos he, if_neg (by rw [hmb]; simp)]
  have hSH : (jobErr gs ≠ 0 ∧ (5 : Int) = jobErr gs) ∨ (jobErr gs = 0 ∧ gs.length = 0 ∧ (5 : Int) = 5) ∨ (jobErr gs = 0 ∧ 1 ≤ gs.length ∧ manyB n = false ∧ (5 : Int) = 1) := Or.inr (Or.inl ⟨he, hlen, rfl⟩)
  have HER4 : Hid (∀ wx, Below w.heap.size w wx → Calls Tryd.prog 5 #[errV 1, .int .i64 1] wx fun e w' => e = .returned (.bool true) ∧ Below wx.heap.size wx w') := fun wx hb => error_same 1 wx (hT.low hb)
  have HS : Hid (∀ wx, Below w.heap.size w wx → Calls Tryd.prog 8 #[v, .int .i64 n] wx fun e w' => ∃ ov lv, e = .returned (.tuple #[ov, lv, errV 1]) ∧ IntsAt w' ov (srvOut gs n) ∧ JobsAt w' lv (srvLeft gs n) ∧ Below wx.heap.size wx w') := fun wx hb => by have h := serve_one v gs n wx (hg.later hb); rw [hF] at h; exact h
  have hz : srvOut gs n = [] ∧ srvLeft gs n = [] := by unfold srvOut srvLeft; rw [if_neg (by rw [hF]; first | exact he | omega), if_neg (by rw [hF]; first | exact he | omega)]; exact ⟨rfl, rfl⟩
  rw [hz.1, hz.2] at HS
  have HH : Hid (∀ wx, Below w.heap.size w wx → Calls Tryd.prog 11 #[v, .int .i64 n] wx fun e w' => e = .returned (.tuple #[.slice none 0 0, errV 5]) ∧ Below wx.heap.size wx w') := fun wx hb => shares_no v gs n 5 wx (hg.later hb) hSH
  rw [hE0] at hdj hck
  obtain ⟨_, a, c, rfl, _⟩ := hg
  have hn0 : n < 0 := hn
  clear hmb he
  rw [hlen] at hdj hck HS HH ⊢
  clear hE0 hF hSH hT hlen hz
  go_enter Tryd.func3, Tryd.ntmps3
  go_wp2_with fail
  refine hdj.mono ?_
  clear hdj
  rintro e w ⟨rfl, rfl⟩
  go_wp2_with fail
  refine hck.mono ?_
  clear hck
  rintro e w1 ⟨rfl, hb1⟩
  have her := HER.out 0 w1 hb1
  clear hb1
  go_wp2_with fail
  refine her.mono ?_
  clear her
  rintro e w2 ⟨rfl, hb2⟩
  have HB3 : Hid (Below w.heap.size w w2) := hb2
  have hsv := HS.out w2 hb2
  clear HS hb2
  go_wp2_with fail
  refine hsv.mono ?_
  clear hsv
  rintro e w4 ⟨ov, lv, rfl, hi4, hj4, hb4⟩
  have HB4 : Hid (Below w.heap.size w w4) := HB3.out.trans (hb4.mono HB3.out.size)
  have HP4 : Hid (IntsAt w4 (.slice none 0 0) [] ∧ JobsAt w4 (.slice none 0 0) []) := ⟨nil_ints _, nil_jobs _⟩
  have HI4 : Hid (IntsAt w4 ov []) := hi4
  have HJ4 : Hid (JobsAt w4 lv []) := hj4
  obtain ⟨-, oa, oc, rfl, -⟩ := hi4
  obtain ⟨-, la, lc, rfl, -⟩ := hj4
  have her : Calls Tryd.prog 5 #[errV 1, .int .i64 1] w4 fun e w' => e = .returned (.bool true) ∧ Below w4.heap.size w4 w' := (HER4.out w4 HB4.out)
  clear hb4 HB3
  go_wp2_with fail
  refine her.mono ?_
  clear her
  rintro e w5 ⟨rfl, hb5⟩
  have hsi := sameInts_any _ _ _ w5 (HI4.out.later hb5) (HP4.out.1.later hb5)
  have HB5 : Hid (Below w.heap.size w w5) := HB4.out.trans (hb5.mono HB4.out.size)
  have HJ5 : Hid (JobsAt w5 (.slice la 0 lc) [] ∧ JobsAt w5 (.slice none 0 0) []) := ⟨HJ4.out.later hb5, nil_jobs _⟩
  clear hb5 HB4 HI4 HJ4 HP4
  go_wp2_with fail
  refine hsi.mono ?_
  clear hsi
  rintro e w6 ⟨rfl, hb6⟩
  have hsj := sameJobs_any _ _ _ w6 (HJ5.out.1.later hb6) (HJ5.out.2.later hb6)
  have HB6 : Hid (Below w.heap.size w w6) := HB5.out.trans (hb6.mono HB5.out.size)
  clear hb6 HB5 HJ5
  go_wp2_with fail
  refine hsj.mono ?_
  clear hsj
  rintro e w7 ⟨rfl, hb7⟩
  have HB7 : Hid (Below w.heap.size w w7) := HB6.out.trans (hb7.mono HB6.out.size)
  have hsh := HH.out w7 HB7.out
  clear hb7 HB6 HH
  go_wp2_with fail
  refine wp_loop_rounds 1 ?_
  rw [rounds_succ]
  go_wp2_with fail
  refine wp_loop_rounds 1 ?_
  rw [rounds_succ]
  go_wp2_with fail
  refine wp_loop_rounds 1 ?_
  rw [rounds_succ]
  go_wp2_with fail
  refine hsh.mono ?_
  clear hsh
  rintro e w8 ⟨rfl, hb8⟩
  have HB8 : Hid (Below w.heap.size w w8) := HB7.out.trans (hb8.mono HB7.out.size)
  have her := HER.out 5 w8 HB8.out
  clear hb8 HB7
  go_wp2_with fail
  refine her.mono ?_
  clear her
  rintro e w9 ⟨rfl, hb9⟩
  have hsi := sameInts_any _ _ _ w9 (nil_ints w9) (nil_ints w9)
  go_wp2_with fail
  refine hsi.mono ?_
  clear hsi
  rintro e w10 ⟨rfl, hb10⟩
  go_wp2
  go_ret
  exact ⟨rfl, hb9.trans (hb10.mono hb9.size)⟩
set_option maxRecDepth 100000 in
set_option maxHeartbeats 4000000 in
theorem tells_loSome (v : Value) (gs : List Jb) (n : Int) (w : World) (hg : JobsAt w v gs) (hT : Typed w) (he : jobErr gs = 0) (hn : n < 0) (hl1 : 1 ≤ gs.length) :
    Calls Tryd.prog 3 #[v, .int .i64 n] w fun e w' => e = .returned (.bool true) ∧ Below w.heap.size w w' := by
  have hdj := dJobs_any v gs w hg
  have hck := check_any v gs w hg
  have HER : Hid (∀ q wx, Below w.heap.size w wx → Calls Tryd.prog 5 #[errV q, .int .i64 q] wx fun e w' => e = .returned (.bool true) ∧ Below w.heap.size w w') := fun q wx hb => (error_same q wx (hT.low hb)).mono (fun e w' h => ⟨h.1, hb.trans (h.2.mono hb.size)⟩)
  have hmb : manyB n = false := by unfold manyB; simp; omega
  have hE0 : jobErr gs = 0 := he
  have hF : srvErr gs n = 1 := by unfold srvErr; rw [if_pos he, if_neg (by rw [hmb]; simp)]
  have hSH : (jobErr gs ≠ 0 ∧ (1 : Int) = jobErr gs) ∨ (jobErr gs = 0 ∧ gs.length = 0 ∧ (1 : Int) = 5) ∨ (jobErr gs = 0 ∧ 1 ≤ gs.length ∧ manyB n = false ∧ (1 : Int) = 1) := Or.inr (Or.inr ⟨he, hl1, hmb, rfl⟩)
  have HER4 : Hid (∀ wx, Below w.heap.size w wx → Calls Tryd.prog 5 #[errV 1, .int .i64 1] wx fun e w' => e = .returned (.bool true) ∧ Below wx.heap.size wx w') := fun wx hb => error_same 1 wx (hT.low hb)
  have HS : Hid (∀ wx, Below w.heap.size w wx → Calls Tryd.prog 8 #[v, .int .i64 n] wx fun e w' => ∃ ov lv, e = .returned (.tuple #[ov, lv, errV 1]) ∧ IntsAt w' ov (srvOut gs n) ∧ JobsAt w' lv (srvLeft gs n) ∧ Below wx.heap.size wx w') := fun wx hb => by have h := serve_one v gs n wx (hg.later hb); rw [hF] at h; exact h
  have hz : srvOut gs n = [] ∧ srvLeft gs n = [] := by unfold srvOut srvLeft; rw [if_neg (by rw [hF]; first | exact he | omega), if_neg (by rw [hF]; first | exact he | omega)]; exact ⟨rfl, rfl⟩
  rw [hz.1, hz.2] at HS
  have HH : Hid (∀ wx, Below w.heap.size w wx → Calls Tryd.prog 11 #[v, .int .i64 n] wx fun e w' => e = .returned (.tuple #[.slice none 0 0, errV 1]) ∧ Below wx.heap.size wx w') := fun wx hb => shares_no v gs n 1 wx (hg.later hb) hSH
  rw [hE0] at hdj hck
  obtain ⟨_, a, c, rfl, _⟩ := hg
  have hn0 : n < 0 := hn
  have hlz : ((gs.length : Int) == 0) = false := beq_eq_false_iff_ne.2 (by omega)
  clear hmb he
  generalize gs.length = m at *
  clear hE0 hF hSH hT hz
  go_enter Tryd.func3, Tryd.ntmps3
  go_wp2_with fail
  refine hdj.mono ?_
  clear hdj
  rintro e w ⟨rfl, rfl⟩
  go_wp2_with fail
  refine hck.mono ?_
  clear hck
  rintro e w1 ⟨rfl, hb1⟩
  have her := HER.out 0 w1 hb1
  clear hb1
  go_wp2_with fail
  refine her.mono ?_
  clear her
  rintro e w2 ⟨rfl, hb2⟩
  have HB3 : Hid (Below w.heap.size w w2) := hb2
  have hsv := HS.out w2 hb2
  clear HS hb2
  go_wp2_with fail
  refine hsv.mono ?_
  clear hsv
  rintro e w4 ⟨ov, lv, rfl, hi4, hj4, hb4⟩
  have HB4 : Hid (Below w.heap.size w w4) := HB3.out.trans (hb4.mono HB3.out.size)
  have HP4 : Hid (IntsAt w4 (.slice none 0 0) [] ∧ JobsAt w4 (.slice none 0 0) []) := ⟨nil_ints _, nil_jobs _⟩
  have HI4 : Hid (IntsAt w4 ov []) := hi4
  have HJ4 : Hid (JobsAt w4 lv []) := hj4
  obtain ⟨-, oa, oc, rfl, -⟩ := hi4
  obtain ⟨-, la, lc, rfl, -⟩ := hj4
  have her : Calls Tryd.prog 5 #[errV 1, .int .i64 1] w4 fun e w' => e = .returned (.bool true) ∧ Below w4.heap.size w4 w' := (HER4.out w4 HB4.out)
  clear hb4 HB3
  go_wp2_with fail
  refine her.mono ?_
  clear her
  rintro e w5 ⟨rfl, hb5⟩
  have hsi := sameInts_any _ _ _ w5 (HI4.out.later hb5) (HP4.out.1.later hb5)
  have HB5 : Hid (Below w.heap.size w w5) := HB4.out.trans (hb5.mono HB4.out.size)
  have HJ5 : Hid (JobsAt w5 (.slice la 0 lc) [] ∧ JobsAt w5 (.slice none 0 0) []) := ⟨HJ4.out.later hb5, nil_jobs _⟩
  clear hb5 HB4 HI4 HJ4 HP4
  go_wp2_with fail
  refine hsi.mono ?_
  clear hsi
  rintro e w6 ⟨rfl, hb6⟩
  have hsj := sameJobs_any _ _ _ w6 (HJ5.out.1.later hb6) (HJ5.out.2.later hb6)
  have HB6 : Hid (Below w.heap.size w w6) := HB5.out.trans (hb6.mono HB5.out.size)
  clear hb6 HB5 HJ5
  go_wp2_with fail
  refine hsj.mono ?_
  clear hsj
  rintro e w7 ⟨rfl, hb7⟩
  have HB7 : Hid (Below w.heap.size w w7) := HB6.out.trans (hb7.mono HB6.out.size)
  have hsh := HH.out w7 HB7.out
  clear hb7 HB6 HH
  go_wp2_with fail
  refine wp_loop_rounds 1 ?_
  rw [rounds_succ]
  go_wp2_with fail
  refine wp_loop_rounds 1 ?_
  rw [rounds_succ]
  go_wp2_with fail
  refine wp_loop_rounds 1 ?_
  rw [rounds_succ]
  go_wp2_with fail
  refine hsh.mono ?_
  clear hsh
  rintro e w8 ⟨rfl, hb8⟩
  have HB8 : Hid (Below w.heap.size w w8) := HB7.out.trans (hb8.mono HB7.out.size)
  have her := HER.out 1 w8 HB8.out
  clear hb8 HB7
  go_wp2_with fail
  refine her.mono ?_
  clear her
  rintro e w9 ⟨rfl, hb9⟩
  have hsi := sameInts_any _ _ _ w9 (nil_ints w9) (nil_ints w9)
  go_wp2_with fail
  refine hsi.mono ?_
  clear hsi
  rintro e w10 ⟨rfl, hb10⟩
  go_wp2
  go_ret
  exact ⟨rfl, hb9.trans (hb10.mono hb9.size)⟩
set_option maxRecDepth 100000 in
set_option maxHeartbeats 4000000 in
theorem tells_hiNone (v : Value) (gs : List Jb) (n : Int) (w : World) (hg : JobsAt w v gs) (hT : Typed w) (he : jobErr gs = 0) (hn : 1000 < n) (hlen : gs.length = 0) :
    Calls Tryd.prog 3 #[v, .int .i64 n] w fun e w' => e = .returned (.bool true) ∧ Below w.heap.size w w' := by
  have hdj := dJobs_any v gs w hg
  have hck := check_any v gs w hg
  have HER : Hid (∀ q wx, Below w.heap.size w wx → Calls Tryd.prog 5 #[errV q, .int .i64 q] wx fun e w' => e = .returned (.bool true) ∧ Below w.heap.size w w') := fun q wx hb => (error_same q wx (hT.low hb)).mono (fun e w' h => ⟨h.1, hb.trans (h.2.mono hb.size)⟩)
  have hmb : manyB n = false := by unfold manyB; simp; omega
  have hE0 : jobErr gs = 0 := he
  have hF : srvErr gs n = 1 := by unfold srvErr; rw [if_pos he, if_neg (by rw [hmb]; simp)]
  have hSH : (jobErr gs ≠ 0 ∧ (5 : Int) = jobErr gs) ∨ (jobErr gs = 0 ∧ gs.length = 0 ∧ (5 : Int) = 5) ∨ (jobErr gs = 0 ∧ 1 ≤ gs.length ∧ manyB n = false ∧ (5 : Int) = 1) := Or.inr (Or.inl ⟨he, hlen, rfl⟩)
  have HER4 : Hid (∀ wx, Below w.heap.size w wx → Calls Tryd.prog 5 #[errV 1, .int .i64 1] wx fun e w' => e = .returned (.bool true) ∧ Below wx.heap.size wx w') := fun wx hb => error_same 1 wx (hT.low hb)
  have HS : Hid (∀ wx, Below w.heap.size w wx → Calls Tryd.prog 8 #[v, .int .i64 n] wx fun e w' => ∃ ov lv, e = .returned (.tuple #[ov, lv, errV 1]) ∧ IntsAt w' ov (srvOut gs n) ∧ JobsAt w' lv (srvLeft gs n) ∧ Below wx.heap.size wx w') := fun wx hb => by have h := serve_one v gs n wx (hg.later hb); rw [hF] at h; exact h
  have hz : srvOut gs n = [] ∧ srvLeft gs n = [] := by unfold srvOut srvLeft; rw [if_neg (by rw [hF]; first | exact he | omega), if_neg (by rw [hF]; first | exact he | omega)]; exact ⟨rfl, rfl⟩
  rw [hz.1, hz.2] at HS
  have HH : Hid (∀ wx, Below w.heap.size w wx → Calls Tryd.prog 11 #[v, .int .i64 n] wx fun e w' => e = .returned (.tuple #[.slice none 0 0, errV 5]) ∧ Below wx.heap.size wx w') := fun wx hb => shares_no v gs n 5 wx (hg.later hb) hSH
  rw [hE0] at hdj hck
  obtain ⟨_, a, c, rfl, _⟩ := hg
  have hn0 : ¬ n < 0 := by omega
  clear hmb he
  rw [hlen] at hdj hck HS HH ⊢
  clear hE0 hF hSH hT hlen hz
  go_enter Tryd.func3, Tryd.ntmps3
  go_wp2_with fail
  refine hdj.mono ?_
  clear hdj
  rintro e w ⟨rfl, rfl⟩
  go_wp2_with fail
  refine hck.mono ?_
  clear hck
  rintro e w1 ⟨rfl, hb1⟩
  have her := HER.out 0 w1 hb1
  clear hb1
  go_wp2_with fail
  refine her.mono ?_
  clear her
  rintro e w2 ⟨rfl, hb2⟩
  have HB3 : Hid (Below w.heap.size w w2) := hb2
  have hsv := HS.out w2 hb2
  clear HS hb2
  go_wp2_with fail
  refine hsv.mono ?_
  clear hsv
  rintro e w4 ⟨ov, lv, rfl, hi4, hj4, hb4⟩
  have HB4 : Hid (Below w.heap.size w w4) := HB3.out.trans (hb4.mono HB3.out.size)
  have HP4 : Hid (IntsAt w4 (.slice none 0 0) [] ∧ JobsAt w4 (.slice none 0 0) []) := ⟨nil_ints _, nil_jobs _⟩
  have HI4 : Hid (IntsAt w4 ov []) := hi4
  have HJ4 : Hid (JobsAt w4 lv []) := hj4
  obtain ⟨-, oa, oc, rfl, -⟩ := hi4
  obtain ⟨-, la, lc, rfl, -⟩ := hj4
  have her : Calls Tryd.prog 5 #[errV 1, .int .i64 1] w4 fun e w' => e = .returned (.bool true) ∧ Below w4.heap.size w4 w' := (HER4.out w4 HB4.out)
  clear hb4 HB3
  go_wp2_with fail
  refine her.mono ?_
  clear her
  rintro e w5 ⟨rfl, hb5⟩
  have hsi := sameInts_any _ _ _ w5 (HI4.out.later hb5) (HP4.out.1.later hb5)
  have HB5 : Hid (Below w.heap.size w w5) := HB4.out.trans (hb5.mono HB4.out.size)
  have HJ5 : Hid (JobsAt w5 (.slice la 0 lc) [] ∧ JobsAt w5 (.slice none 0 0) []) := ⟨HJ4.out.later hb5, nil_jobs _⟩
  clear hb5 HB4 HI4 HJ4 HP4
  go_wp2_with fail
  refine hsi.mono ?_
  clear hsi
  rintro e w6 ⟨rfl, hb6⟩
  have hsj := sameJobs_any _ _ _ w6 (HJ5.out.1.later hb6) (HJ5.out.2.later hb6)
  have HB6 : Hid (Below w.heap.size w w6) := HB5.out.trans (hb6.mono HB5.out.size)
  clear hb6 HB5 HJ5
  go_wp2_with fail
  refine hsj.mono ?_
  clear hsj
  rintro e w7 ⟨rfl, hb7⟩
  have HB7 : Hid (Below w.heap.size w w7) := HB6.out.trans (hb7.mono HB6.out.size)
  have hsh := HH.out w7 HB7.out
  clear hb7 HB6 HH
  go_wp2_with fail
  refine wp_loop_rounds 1 ?_
  rw [rounds_succ]
  go_wp2_with fail
  refine wp_loop_rounds 1 ?_
  rw [rounds_succ]
  go_wp2_with fail
  refine wp_loop_rounds 1 ?_
  rw [rounds_succ]
  go_wp2_with fail
  refine hsh.mono ?_
  clear hsh
  rintro e w8 ⟨rfl, hb8⟩
  have HB8 : Hid (Below w.heap.size w w8) := HB7.out.trans (hb8.mono HB7.out.size)
  have her := HER.out 5 w8 HB8.out
  clear hb8 HB7
  go_wp2_with fail
  refine her.mono ?_
  clear her
  rintro e w9 ⟨rfl, hb9⟩
  have hsi := sameInts_any _ _ _ w9 (nil_ints w9) (nil_ints w9)
  go_wp2_with fail
  refine hsi.mono ?_
  clear hsi
  rintro e w10 ⟨rfl, hb10⟩
  go_wp2
  go_ret
  exact ⟨rfl, hb9.trans (hb10.mono hb9.size)⟩
set_option maxRecDepth 100000 in
set_option maxHeartbeats 4000000 in
theorem tells_hiSome (v : Value) (gs : List Jb) (n : Int) (w : World) (hg : JobsAt w v gs) (hT : Typed w) (he : jobErr gs = 0) (hn : 1000 < n) (hl1 : 1 ≤ gs.length) :
    Calls Tryd.prog 3 #[v, .int .i64 n] w fun e w' => e = .returned (.bool true) ∧ Below w.heap.size w w' := by
  have hdj := dJobs_any v gs w hg
  have hck := check_any v gs w hg
  have HER : Hid (∀ q wx, Below w.heap.size w wx → Calls Tryd.prog 5 #[errV q, .int .i64 q] wx fun e w' => e = .returned (.bool true) ∧ Below w.heap.size w w') := fun q wx hb => (error_same q wx (hT.low hb)).mono (fun e w' h => ⟨h.1, hb.trans (h.2.mono hb.size)⟩)
  have hmb : manyB n = false := by unfold manyB; simp; omega
  have hE0 : jobErr gs = 0 := he
  have hF : srvErr gs n = 1 := by unfold srvErr; rw [if_pos he, if_neg (by rw [hmb]; simp)]
  have hSH : (jobErr gs ≠ 0 ∧ (1 : Int) = jobErr gs) ∨ (jobErr gs = 0 ∧ gs.length = 0 ∧ (1 : Int) = 5) ∨ (jobErr gs = 0 ∧ 1 ≤ gs.length ∧ manyB n = false ∧ (1 : Int) = 1) := Or.inr (Or.inr ⟨he, hl1, hmb, rfl⟩)
  have HER4 : Hid (∀ wx, Below w.heap.size w wx → Calls Tryd.prog 5 #[errV 1, .int .i64 1] wx fun e w' => e = .returned (.bool true) ∧ Below wx.heap.size wx w') := fun wx hb => error_same 1 wx (hT.low hb)
  have HS : Hid (∀ wx, Below w.heap.size w wx → Calls Tryd.prog 8 #[v, .int .i64 n] wx fun e w' => ∃ ov lv, e = .returned (.tuple #[ov, lv, errV 1]) ∧ IntsAt w' ov (srvOut gs n) ∧ JobsAt w' lv (srvLeft gs n) ∧ Below wx.heap.size wx w') := fun wx hb => by have h := serve_one v gs n wx (hg.later hb); rw [hF] at h; exact h
  have hz : srvOut gs n = [] ∧ srvLeft gs n = [] := by unfold srvOut srvLeft; rw [if_neg (by rw [hF]; first | exact he | omega), if_neg (by rw [hF]; first | exact he | omega)]; exact ⟨rfl, rfl⟩
  rw [hz.1, hz.2] at HS
  have HH : Hid (∀ wx, Below w.heap.size w wx → Calls Tryd.prog 11 #[v, .int .i64 n] wx fun e w' => e = .returned (.tuple #[.slice none 0 0, errV 1]) ∧ Below wx.heap.size wx w') := fun wx hb => shares_no v gs n 1 wx (hg.later hb) hSH
  rw [hE0] at hdj hck
  obtain ⟨_, a, c, rfl, _⟩ := hg
  have hn0 : ¬ n < 0 := by omega
  have hlz : ((gs.length : Int) == 0) = false := beq_eq_false_iff_ne.2 (by omega)
  clear hmb he
  generalize gs.length = m at *
  clear hE0 hF hSH hT hz
  go_enter Tryd.func3, Tryd.ntmps3
  go_wp2_with fail
  refine hdj.mono ?_
  clear hdj
  rintro e w ⟨rfl, rfl⟩
  go_wp2_with fail
  refine hck.mono ?_
  clear hck
  rintro e w1 ⟨rfl, hb1⟩
  have her := HER.out 0 w1 hb1
  clear hb1
  go_wp2_with fail
  refine her.mono ?_
  clear her
  rintro e w2 ⟨rfl, hb2⟩
  have HB3 : Hid (Below w.heap.size w w2) := hb2
  have hsv := HS.out w2 hb2
  clear HS hb2
  go_wp2_with fail
  refine hsv.mono ?_
  clear hsv
  rintro e w4 ⟨ov, lv, rfl, hi4, hj4, hb4⟩
  have HB4 : Hid (Below w.heap.size w w4) := HB3.out.trans (hb4.mono HB3.out.size)
  have HP4 : Hid (IntsAt w4 (.slice none 0 0) [] ∧ JobsAt w4 (.slice none 0 0) []) := ⟨nil_ints _, nil_jobs _⟩
  have HI4 : Hid (IntsAt w4 ov []) := hi4
  have HJ4 : Hid (JobsAt w4 lv []) := hj4
  obtain ⟨-, oa, oc, rfl, -⟩ := hi4
  obtain ⟨-, la, lc, rfl, -⟩ := hj4
  have her : Calls Tryd.prog 5 #[errV 1, .int .i64 1] w4 fun e w' => e = .returned (.bool true) ∧ Below w4.heap.size w4 w' := (HER4.out w4 HB4.out)
  clear hb4 HB3
  go_wp2_with fail
  refine her.mono ?_
  clear her
  rintro e w5 ⟨rfl, hb5⟩
  have hsi := sameInts_any _ _ _ w5 (HI4.out.later hb5) (HP4.out.1.later hb5)
  have HB5 : Hid (Below w.heap.size w w5) := HB4.out.trans (hb5.mono HB4.out.size)
  have HJ5 : Hid (JobsAt w5 (.slice la 0 lc) [] ∧ JobsAt w5 (.slice none 0 0) []) := ⟨HJ4.out.later hb5, nil_jobs _⟩
  clear hb5 HB4 HI4 HJ4 HP4
  go_wp2_with fail
  refine hsi.mono ?_
  clear hsi
  rintro e w6 ⟨rfl, hb6⟩
  have hsj := sameJobs_any _ _ _ w6 (HJ5.out.1.later hb6) (HJ5.out.2.later hb6)
  have HB6 : Hid (Below w.heap.size w w6) := HB5.out.trans (hb6.mono HB5.out.size)
  clear hb6 HB5 HJ5
  go_wp2_with fail
  refine hsj.mono ?_
  clear hsj
  rintro e w7 ⟨rfl, hb7⟩
  have HB7 : Hid (Below w.heap.size w w7) := HB6.out.trans (hb7.mono HB6.out.size)
  have hsh := HH.out w7 HB7.out
  clear hb7 HB6 HH
  go_wp2_with fail
  refine wp_loop_rounds 1 ?_
  rw [rounds_succ]
  go_wp2_with fail
  refine wp_loop_rounds 1 ?_
  rw [rounds_succ]
  go_wp2_with fail
  refine wp_loop_rounds 1 ?_
  rw [rounds_succ]
  go_wp2_with fail
  refine hsh.mono ?_
  clear hsh
  rintro e w8 ⟨rfl, hb8⟩
  have HB8 : Hid (Below w.heap.size w w8) := HB7.out.trans (hb8.mono HB7.out.size)
  have her := HER.out 1 w8 HB8.out
  clear hb8 HB7
  go_wp2_with fail
  refine her.mono ?_
  clear her
  rintro e w9 ⟨rfl, hb9⟩
  have hsi := sameInts_any _ _ _ w9 (nil_ints w9) (nil_ints w9)
  go_wp2_with fail
  refine hsi.mono ?_
  clear hsi
  rintro e w10 ⟨rfl, hb10⟩
  go_wp2
  go_ret
  exact ⟨rfl, hb9.trans (hb10.mono hb9.size)⟩
set_option maxRecDepth 100000 in
set_option maxHeartbeats 4000000 in
theorem tells_none (v : Value) (gs : List Jb) (n : Int) (w : World) (hg : JobsAt w v gs) (hT : Typed w) (he : jobErr gs = 0) (hn : 0 ≤ n) (hn2 : n ≤ 1000) (hlen : gs.length = 0) :
    Calls Tryd.prog 3 #[v, .int .i64 n] w fun e w' => e = .returned (.bool true) ∧ Below w.heap.size w w' := by
  have hdj := dJobs_any v gs w hg
  have hck := check_any v gs w hg
  have HER : Hid (∀ q wx, Below w.heap.size w wx → Calls Tryd.prog 5 #[errV q, .int .i64 q] wx fun e w' => e = .returned (.bool true) ∧ Below w.heap.size w w') := fun q wx hb => (error_same q wx (hT.low hb)).mono (fun e w' h => ⟨h.1, hb.trans (h.2.mono hb.size)⟩)
  have hmb : manyB n = true := by unfold manyB; simp; omega
  have hE0 : jobErr gs = 0 := he
  have hF : srvErr gs n = 0 := by unfold srvErr; rw [if_pos he, if_pos hmb]
  have hSH : (jobErr gs ≠ 0 ∧ (5 : Int) = jobErr gs) ∨ (jobErr gs = 0 ∧ gs.length = 0 ∧ (5 : Int) = 5) ∨ (jobErr gs = 0 ∧ 1 ≤ gs.length ∧ manyB n = false ∧ (5 : Int) = 1) := Or.inr (Or.inl ⟨he, hlen, rfl⟩)
  have HER4 : Hid (∀ wx, Below w.heap.size w wx → Calls Tryd.prog 5 #[errV 0, .int .i64 0] wx fun e w' => e = .returned (.bool true) ∧ Below wx.heap.size wx w') := fun wx hb => error_same 0 wx (hT.low hb)
  have HS : Hid (∀ wx, Below w.heap.size w wx → Calls Tryd.prog 8 #[v, .int .i64 n] wx fun e w' => ∃ ov lv, e = .returned (.tuple #[ov, lv, errV 0]) ∧ IntsAt w' ov (srvOut gs n) ∧ JobsAt w' lv (srvLeft gs n) ∧ Below wx.heap.size wx w') := fun wx hb => by have h := serve_one v gs n wx (hg.later hb); rw [hF] at h; exact h
  have HD : Hid (∀ wx, Below w.heap.size w wx → Calls Tryd.prog 7 #[v, .int .i64 n] wx fun e w' => ∃ ov av, e = .returned (.tuple #[ov, av]) ∧ IntsAt w' ov (srvOut gs n) ∧ JobsAt w' av (srvLeft gs n) ∧ Below wx.heap.size wx w') := fun wx hb => dServe_one v gs n wx (hg.later hb) hF
  have HH : Hid (∀ wx, Below w.heap.size w wx → Calls Tryd.prog 11 #[v, .int .i64 n] wx fun e w' => e = .returned (.tuple #[.slice none 0 0, errV 5]) ∧ Below wx.heap.size wx w') := fun wx hb => shares_no v gs n 5 wx (hg.later hb) hSH
  rw [hE0] at hdj hck
  obtain ⟨_, a, c, rfl, _⟩ := hg
  clear hmb he
  have HZ : Hid ((srvOut gs n).length ≤ 1000) := by
    obtain ⟨_, N, rfl, hN⟩ := srv_right hF
    show _ ≤ _
    unfold srvOut
    rw [if_pos hF, intsOf_length, Int.toNat_natCast]
    exact Nat.le_trans (end_len N) hN
  generalize srvOut gs n = zs at *
  generalize srvLeft gs n = js at *
  rw [hlen] at hdj hck HS HD HH ⊢
  clear hE0 hF hSH hT hlen
  go_enter Tryd.func3, Tryd.ntmps3
  go_wp2_with fail
  refine hdj.mono ?_
  clear hdj
  rintro e w ⟨rfl, rfl⟩
  go_wp2_with fail
  refine hck.mono ?_
  clear hck
  rintro e w1 ⟨rfl, hb1⟩
  have her := HER.out 0 w1 hb1
  clear hb1
  go_wp2_with fail
  refine her.mono ?_
  clear her
  rintro e w2 ⟨rfl, hb2⟩
  have hds := HD.out w2 hb2
  go_wp2_with fail
  refine hds.mono ?_
  clear hds
  rintro e w3 ⟨dv, dl, rfl, hi3, hj3, hb3⟩
  have HB3 : Hid (Below w.heap.size w w3) := hb2.trans (hb3.mono hb2.size)
  have HI3 : Hid (IntsAt w3 dv zs) := hi3
  have HJ3 : Hid (JobsAt w3 dl js) := hj3
  obtain ⟨-, da, dc, rfl, -⟩ := hi3
  obtain ⟨-, ea, ec, rfl, -⟩ := hj3
  clear hb2 hb3 HD
  have hsv := HS.out w3 HB3.out
  clear HS
  go_wp2_with fail
  refine hsv.mono ?_
  clear hsv
  rintro e w4 ⟨ov, lv, rfl, hi4, hj4, hb4⟩
  have HB4 : Hid (Below w.heap.size w w4) := HB3.out.trans (hb4.mono HB3.out.size)
  have HP4 : Hid (IntsAt w4 (.slice da zs.length dc) zs ∧ JobsAt w4 (.slice ea js.length ec) js) := ⟨HI3.out.later hb4, HJ3.out.later hb4⟩
  have HI4 : Hid (IntsAt w4 ov zs) := hi4
  have HJ4 : Hid (JobsAt w4 lv js) := hj4
  obtain ⟨-, oa, oc, rfl, -⟩ := hi4
  obtain ⟨-, la, lc, rfl, -⟩ := hj4
  have her : Calls Tryd.prog 5 #[errV 0, .int .i64 0] w4 fun e w' => e = .returned (.bool true) ∧ Below w4.heap.size w4 w' := (HER4.out w4 HB4.out)
  clear hb4 HB3 HI3 HJ3
  go_wp2_with fail
  refine her.mono ?_
  clear her
  rintro e w5 ⟨rfl, hb5⟩
  have hsi := sameInts_any _ _ _ w5 (HI4.out.later hb5) (HP4.out.1.later hb5)
  have HB5 : Hid (Below w.heap.size w w5) := HB4.out.trans (hb5.mono HB4.out.size)
  have HJ5 : Hid (JobsAt w5 (.slice la js.length lc) js ∧ JobsAt w5 (.slice ea js.length ec) js) := ⟨HJ4.out.later hb5, HP4.out.2.later hb5⟩
  clear hb5 HB4 HI4 HJ4 HP4
  go_wp2_with fail
  refine hsi.mono ?_
  clear hsi
  rintro e w6 ⟨rfl, hb6⟩
  have hsj := sameJobs_any _ _ _ w6 (HJ5.out.1.later hb6) (HJ5.out.2.later hb6)
  have HB6 : Hid (Below w.heap.size w w6) := HB5.out.trans (hb6.mono HB5.out.size)
  clear hb6 HB5 HJ5
  go_wp2_with fail
  refine hsj.mono ?_
  clear hsj
  rintro e w7 ⟨rfl, hb7⟩
  have HB7 : Hid (Below w.heap.size w w7) := HB6.out.trans (hb7.mono HB6.out.size)
  have hsh := HH.out w7 HB7.out
  clear hb7 HB6 HH
  go_wp2_with fail
  refine wp_loop_rounds 1 ?_
  rw [rounds_succ]
  go_wp2_with fail
  refine wp_loop_rounds 1 ?_
  rw [rounds_succ]
  go_wp2_with fail
  refine wp_loop_rounds 1 ?_
  rw [rounds_succ]
  go_wp2_with fail
  refine hsh.mono ?_
  clear hsh
  rintro e w8 ⟨rfl, hb8⟩
  have HB8 : Hid (Below w.heap.size w w8) := HB7.out.trans (hb8.mono HB7.out.size)
  have her := HER.out 5 w8 HB8.out
  clear hb8 HB7
  go_wp2_with fail
  refine her.mono ?_
  clear her
  rintro e w9 ⟨rfl, hb9⟩
  have hsi := sameInts_any _ _ _ w9 (nil_ints w9) (nil_ints w9)
  go_wp2_with fail
  refine hsi.mono ?_
  clear hsi
  rintro e w10 ⟨rfl, hb10⟩
  go_wp2
  go_ret
  exact ⟨rfl, hb9.trans (hb10.mono hb9.size)⟩
end Go.Proofs.YtajmnnjafhanaaaDoor
