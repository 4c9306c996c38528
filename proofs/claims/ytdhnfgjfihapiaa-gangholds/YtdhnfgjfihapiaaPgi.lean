/- The program's gang: worksOf, emptyHands. -/
import Derived.Test.YtdhnfgjfihapiaaPgh
namespace Go.Proofs.Ytdhnfgjfihapiaa
open Go.RowKit Go.Deep Go.Maps

theorem PlanAt.task {w : World} {v : Value} {ts : List (Int × List Int)} (h : PlanAt w v ts) {k : Nat} (hk : k < ts.length) : ∃ b o c nv, v = .slice (some ⟨b, o, none⟩) ts.length c ∧ b < w.heap.size ∧ w.cell? ⟨b, o + k * 2, none⟩ = some (.int .i64 (workOf ts k)) ∧ w.cell? ⟨b, o + k * 2 + 1, none⟩ = some nv ∧ IntsAt w nv (needsOf ts k) := by
  obtain ⟨hl, a, c, rfl, h⟩ := h
  rcases h with e | ⟨b, o, rfl, hb, hc⟩
  · subst e; simp at hk
  · obtain ⟨h1, nv, h2, h3⟩ := hc k hk
    exact ⟨b, o, c, nv, rfl, hb, h1, h2, h3⟩
theorem Try.infoHandP : (Try.prog.info? 83).map (fun i => (i.zero, i.size, i.bytes)) = some (some (.pointer none), 1, 8) := by kernel_rfl
set_option maxRecDepth 100000 in
set_option maxHeartbeats 4000000 in
theorem worksOf_any (v : Value) (ts : List (Int × List Int)) (w : World) (hp : PlanAt w v ts) (h30 : ts.length ≤ 30) :
    Calls Try.prog 18 #[v] w fun e w' => e = .returned (.slice (some ⟨w.heap.size, 0, none⟩) ts.length ts.length) ∧ w'.rowIs w.heap.size 3 ts.length (fun k => .int .i64 (workOf ts k)) ∧ Below w.heap.size w w' := by
  have HP : Hid (PlanAt w v ts) := hp
  obtain ⟨a, c, rfl⟩ : ∃ a c, v = .slice a ts.length c := by obtain ⟨hl, a, c, hv, -⟩ := hp; exact ⟨a, c, hv⟩
  clear hp
  have hmk := fun wx => run_make_row' (P := Try.prog) 30 3 (.int .i64 0) 8 Try.underlying30 Try.info3 rfl .i64 .i64 ts.length (by omega) (by omega) wx
  go_enter Try.func18, Try.ntmps18
  go_upto_region 2 with fail
  obtain ⟨W, hW⟩ : ∃ W, W = w.alloc (.cells (madeCells #[.int .i64 0] ts.length) 3) := ⟨_, rfl⟩
  rw [← hW]
  have HW : Hid (W.rowIs w.heap.size 3 ts.length (fun k => if k < 0 then .int .i64 (workOf ts k) else .int .i64 0) ∧ Below w.heap.size w W ∧ w.heap.size < W.heap.size) := by
    rw [hW]
    exact ⟨⟨_, heap_alloc_new w _, size_madeCells _ _, fun i hi => by simp [madeCells, hi, Nat.mod_one]⟩, (Below.refl _ _).alloc (Nat.le_refl _) _, by simp⟩
  clear hW hmk
  go_wp2
  go_loopw [11] (fun s11 wr => ∃ k : Nat, s11 = .int .i64 k ∧ k ≤ ts.length ∧ Hid (wr.rowIs w.heap.size 3 ts.length (fun j => if j < k then .int .i64 (workOf ts j) else .int .i64 0) ∧ Below w.heap.size w wr ∧ w.heap.size < wr.heap.size)) (fun s11 _ => ts.length - (intOf s11).toNat)
  case atStart => exact ⟨0, rfl, Nat.zero_le _, HW⟩
  case round =>
    clear HW
    obtain ⟨k, rfl, hk, hR⟩ := hrel
    by_cases hkl : k < ts.length
    · have hkl' : (k : Int) < (ts.length : Int) := by omega
      obtain ⟨b, o, c', nv, hv, hbl, hcw, hcn, hi⟩ := (HP.out.later (hR.out.2.1)).task hkl
      simp only [Value.slice.injEq, true_and] at hv
      obtain ⟨rfl, rfl⟩ := hv
      obtain ⟨na, nl, nc, rfl⟩ : ∃ na nl nc, nv = .slice na nl nc := by obtain ⟨_, a, c, hv, _⟩ := hi; exact ⟨a, _, c, hv⟩
      obtain ⟨x, hx⟩ : ∃ x, x = workOf ts k := ⟨_, rfl⟩
      rw [← hx] at hcw
      have hfz := hR.out.1.frozen k
      have hck := hR.out.1.cell hkl
      rw [if_neg (by omega)] at hck
      have hlt := hR.out.2.2
      have HX : Hid (x = workOf ts k) := hx
      clear hx hi
      go_wp2
      refine ⟨⟨k + 1, by go_num, by omega, ?_⟩, by simp [intOf]; omega⟩
      show _ ∧ _ ∧ _
      refine ⟨((hR.out.1.set k (.int .i64 x)).of_block (Below.heap_alloc _ _ _ (by simp; omega))).congr (fun j _ => ?_), (hR.out.2.1.setCell (p := ⟨w.heap.size, k, none⟩) (Nat.le_refl _) _).alloc (by simp; omega) _, by simp; omega⟩
      by_cases e : j = k
      · subst e
        rw [if_pos rfl, if_pos (by omega), HX.out]
      · rw [if_neg e]
        by_cases e2 : j < k
        · rw [if_pos e2, if_pos (by omega)]
        · rw [if_neg e2, if_neg (by omega)]
    · have hkl' : ¬ (k : Int) < (ts.length : Int) := by omega
      go_wp2
      go_ret
      exact ⟨rfl, hR.out.1.congr (fun j hj => by rw [if_pos (by omega)]), hR.out.2.1⟩
/-- So many hands, one behind the other, none of which has anything. -/
structure EmH (s count room : Nat) (w0 w : World) : Prop where
  row : w.rowIs s 83 count (fun j => .pointer (some ⟨s + 2 + 2 * j, 0, none⟩))
  hand : ∀ j, j < count → Hnd.Hd (s + 2 + 2 * j) (s + 1 + 2 * j) room (-1) [] w
  size : w.heap.size = s + 1 + 2 * count
  below : Below w0.heap.size w0 w
set_option maxRecDepth 100000 in
set_option maxHeartbeats 4000000 in
theorem emptyHands_any (count room : Nat) (w : World) (h6 : count ≤ 6) (h1 : 1 ≤ room) (h16 : room ≤ 16) :
    Calls Try.prog 15 #[.int .i64 count, .int .i64 room] w fun e w' => e = .returned (.tuple #[.slice (some ⟨w.heap.size, 0, none⟩) count count, .nilIface]) ∧ EmH w.heap.size count room w w' := by
  have hmk := fun wx => run_make_row' (P := Try.prog) 57 83 (.pointer none) 8 Try.underlying57 Try.infoHandP rfl .i64 .i64 count (by omega) (by omega) wx
  go_enter Try.func15, Try.ntmps15
  go_upto_region 2 with fail
  obtain ⟨W, hW⟩ : ∃ W, W = w.alloc (.cells (madeCells #[.pointer none] count) 83) := ⟨_, rfl⟩
  rw [← hW]
  have HW : Hid (W.rowIs w.heap.size 83 count (fun j => if j < 0 then .pointer (some ⟨w.heap.size + 2 + 2 * j, 0, none⟩) else .pointer none) ∧ (∀ j, j < 0 → Hnd.Hd (w.heap.size + 2 + 2 * j) (w.heap.size + 1 + 2 * j) room (-1) [] W) ∧ W.heap.size = w.heap.size + 1 + 2 * 0 ∧ Below w.heap.size w W) := by
    rw [hW]
    exact ⟨⟨_, heap_alloc_new w _, size_madeCells _ _, fun i hi => by simp [madeCells, hi, Nat.mod_one]⟩, fun j hj => by omega, by simp, (Below.refl _ _).alloc (Nat.le_refl _) _⟩
  clear hW hmk
  go_wp2
  go_loopw [14, 9] (fun s14 s9 wr => ∃ k : Nat, s14 = .int .i64 k ∧ k ≤ count ∧ Hid (wr.rowIs w.heap.size 83 count (fun j => if j < k then .pointer (some ⟨w.heap.size + 2 + 2 * j, 0, none⟩) else .pointer none) ∧ (∀ j, j < k → Hnd.Hd (w.heap.size + 2 + 2 * j) (w.heap.size + 1 + 2 * j) room (-1) [] wr) ∧ wr.heap.size = w.heap.size + 1 + 2 * k ∧ Below w.heap.size w wr)) (fun s14 _ _ => count - (intOf s14).toNat)
  case atStart => exact ⟨0, rfl, Nat.zero_le _, HW⟩
  case round =>
    clear HW
    obtain ⟨k, rfl, hk, hR⟩ := hrel
    by_cases hkl : k < count
    · have hkl' : (k : Int) < (count : Int) := by omega
      have hn := Hnd.hNew_good room wr h1 h16
      go_wp2_with (first | (go_at_call 28; refine hn.mono ?_; clear hn; rintro e w2 ⟨rfl, hH, hb, hs⟩; have hr2 := hR.out.1.of_block (hb.block _ hR.out.1.lt); have hfz := hr2.frozen k; have hck := hr2.cell hkl; rw [if_neg (by omega)] at hck; have HH : Hid (Hnd.Hd (wr.heap.size + 1) wr.heap.size room (-1) [] w2 ∧ Below wr.heap.size wr w2 ∧ w2.heap.size = wr.heap.size + 2) := ⟨hH, hb, hs⟩; clear hH hb hs hr2))
      have hsz := hR.out.2.2.1
      refine ⟨⟨k + 1, by go_num, by omega, ?_⟩, by simp [intOf]; omega⟩
      obtain ⟨hH, hb, hs⟩ := HH.out
      have hne : ∀ b, b ≠ w.heap.size → (w2.setCell ⟨w.heap.size, k, none⟩ (.pointer (some ⟨wr.heap.size + 1, 0, none⟩))).heap[b]? = w2.heap[b]? := fun b hb => Below.heap_setCell _ _ _ _ (by show b ≠ w.heap.size; exact hb)
      show _ ∧ _ ∧ _ ∧ _
      refine ⟨((hR.out.1.of_block (hb.block _ hR.out.1.lt)).set k _).congr (fun j _ => ?_), fun j hj => ?_, by simp; omega, (hR.out.2.2.2.trans (hb.mono hR.out.2.2.2.size)).setCell (p := ⟨w.heap.size, k, none⟩) (Nat.le_refl _) _⟩
      · by_cases e : j = k
        · subst e
          rw [if_pos rfl, if_pos (by omega), hsz]
          congr 3
          omega
        · rw [if_neg e]
          by_cases e2 : j < k
          · rw [if_pos e2, if_pos (by omega)]
          · rw [if_neg e2, if_neg (by omega)]
      · by_cases e : j = k
        · subst e
          have := hH.of_blocks (hne _ (by omega)) (hne _ (by omega))
          generalize (w2.setCell ⟨w.heap.size, j, none⟩ (.pointer (some ⟨wr.heap.size + 1, 0, none⟩))) = W3 at this ⊢
          rw [hsz] at this
          rw [show w.heap.size + 2 + 2 * j = w.heap.size + 1 + 2 * j + 1 by omega]
          exact this
        · have hj2 := hR.out.2.1 j (by omega)
          exact (hj2.of_blocks (hb.block _ hj2.row.lt) (hb.block _ hj2.ring.lt)).of_blocks (hne _ (by omega)) (hne _ (by omega))
    · have hkl' : ¬ (k : Int) < (count : Int) := by omega
      obtain rfl : k = count := by omega
      go_wp2
      go_ret2
      exact ⟨rfl, hR.out.1.congr (fun j hj => by rw [if_pos (by omega)]), hR.out.2.1, hR.out.2.2.1, hR.out.2.2.2⟩
end Go.Proofs.Ytdhnfgjfihapiaa
