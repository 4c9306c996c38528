/- trace.Parse: the contracts of readWord, readLine. -/
import Derived.Test.YtiekhigjllbalaaGreatDoorTrd
namespace Go.Proofs.YtiekhigjllbalaaGreatDoor
open Go.RowKit Go.Deep

theorem FormsAt.words {w : World} (h : FormsAt w) : w.cell? ⟨0, 0, none⟩ = some (.string ⟨#[116, 111, 111, 107]⟩) ∧ w.cell? ⟨0, 1, none⟩ = some (.int .i64 2) ∧ w.cell? ⟨0, 2, none⟩ = some (.string ⟨#[115, 116, 111, 108, 101]⟩) ∧ w.cell? ⟨0, 3, none⟩ = some (.int .i64 3) ∧ w.cell? ⟨0, 4, none⟩ = some (.string ⟨#[102, 101, 116, 99, 104, 101, 100]⟩) ∧ w.cell? ⟨0, 5, none⟩ = some (.int .i64 2) ∧ w.cell? ⟨0, 6, none⟩ = some (.string ⟨#[102, 105, 110, 105, 115, 104, 101, 100]⟩) ∧ w.cell? ⟨0, 7, none⟩ = some (.int .i64 2) ∧ w.cell? ⟨0, 8, none⟩ = some (.string ⟨#[115, 108, 101, 112, 116]⟩) ∧ w.cell? ⟨0, 9, none⟩ = some (.int .i64 1) ∧ w.cell? ⟨0, 10, none⟩ = some (.string ⟨#[119, 111, 107, 101]⟩) ∧ w.cell? ⟨0, 11, none⟩ = some (.int .i64 1) :=
  ⟨(h.2 0 (by omega)).1, (h.2 0 (by omega)).2, (h.2 1 (by omega)).1, (h.2 1 (by omega)).2, (h.2 2 (by omega)).1, (h.2 2 (by omega)).2, (h.2 3 (by omega)).1, (h.2 3 (by omega)).2, (h.2 4 (by omega)).1, (h.2 4 (by omega)).2, (h.2 5 (by omega)).1, (h.2 5 (by omega)).2⟩
theorem form_ix0 (a0 a1 a2 a3 a4 a5 a6 a7 a8 a9 a10 a11 : Value) (w : World) : (Instr.index 91 (.agg #[a0, a1, a2, a3, a4, a5, a6, a7, a8, a9, a10, a11]) (.int .i64 0)).run Tryz.prog w = .ok (.agg #[a0, a1]) w := by kernel_rfl
theorem form_ix1 (a0 a1 a2 a3 a4 a5 a6 a7 a8 a9 a10 a11 : Value) (w : World) : (Instr.index 91 (.agg #[a0, a1, a2, a3, a4, a5, a6, a7, a8, a9, a10, a11]) (.int .i64 1)).run Tryz.prog w = .ok (.agg #[a2, a3]) w := by kernel_rfl
theorem form_ix2 (a0 a1 a2 a3 a4 a5 a6 a7 a8 a9 a10 a11 : Value) (w : World) : (Instr.index 91 (.agg #[a0, a1, a2, a3, a4, a5, a6, a7, a8, a9, a10, a11]) (.int .i64 2)).run Tryz.prog w = .ok (.agg #[a4, a5]) w := by kernel_rfl
theorem form_ix3 (a0 a1 a2 a3 a4 a5 a6 a7 a8 a9 a10 a11 : Value) (w : World) : (Instr.index 91 (.agg #[a0, a1, a2, a3, a4, a5, a6, a7, a8, a9, a10, a11]) (.int .i64 3)).run Tryz.prog w = .ok (.agg #[a6, a7]) w := by kernel_rfl
theorem form_ix4 (a0 a1 a2 a3 a4 a5 a6 a7 a8 a9 a10 a11 : Value) (w : World) : (Instr.index 91 (.agg #[a0, a1, a2, a3, a4, a5, a6, a7, a8, a9, a10, a11]) (.int .i64 4)).run Tryz.prog w = .ok (.agg #[a8, a9]) w := by kernel_rfl
theorem form_ix5 (a0 a1 a2 a3 a4 a5 a6 a7 a8 a9 a10 a11 : Value) (w : World) : (Instr.index 91 (.agg #[a0, a1, a2, a3, a4, a5, a6, a7, a8, a9, a10, a11]) (.int .i64 5)).run Tryz.prog w = .ok (.agg #[a10, a11]) w := by kernel_rfl
set_option maxRecDepth 100000 in
set_option maxHeartbeats 4000000 in
theorem readWord_any (l : List UInt8) (w : World) (hf : FormsAt w) :
    Calls Tryz.prog 47 #[strL l] w fun e w' => e = .returned (.tuple #[.int .i64 (whatD l), .bool (decide (whatD l ≠ 0))]) ∧ Below w.heap.size w w' := by
  obtain ⟨c0, c1, c2, c3, c4, c5, c6, c7, c8, c9, c10, c11⟩ := hf.words
  have i0 := form_ix0
  have i1 := form_ix1
  have i2 := form_ix2
  have i3 := form_ix3
  have i4 := form_ix4
  have i5 := form_ix5
  clear hf
  unfold strL
  by_cases h1 : [116, 111, 111, 107] = l
  · subst h1
    have HR : Hid (whatD [116, 111, 111, 107] = 1) := (show whatD [116, 111, 111, 107] = 1 by decide)
    go_enter Tryz.func47, Tryz.ntmps47
    go_wp2
    refine wp_loop_rounds 1 ?_
    rw [rounds_succ]
    go_wp2
    go_ret2
    refine ⟨by rw [HR.out]; rfl, ?_⟩
    repeat (refine Below.alloc ?_ (by first | omega | (simp only [nblk_alloc]; omega)) _)
    exact Below.refl _ _
  by_cases h2 : [115, 116, 111, 108, 101] = l
  · subst h2
    have HR : Hid (whatD [115, 116, 111, 108, 101] = 2) := (show whatD [115, 116, 111, 108, 101] = 2 by decide)
    go_enter Tryz.func47, Tryz.ntmps47
    go_wp2
    refine wp_loop_rounds 2 ?_
    rw [rounds_succ]
    go_wp2
    rw [rounds_succ]
    go_wp2
    go_ret2
    refine ⟨by rw [HR.out]; rfl, ?_⟩
    repeat (refine Below.alloc ?_ (by first | omega | (simp only [nblk_alloc]; omega)) _)
    exact Below.refl _ _
  by_cases h3 : [102, 101, 116, 99, 104, 101, 100] = l
  · subst h3
    have HR : Hid (whatD [102, 101, 116, 99, 104, 101, 100] = 3) := (show whatD [102, 101, 116, 99, 104, 101, 100] = 3 by decide)
    go_enter Tryz.func47, Tryz.ntmps47
    go_wp2
    refine wp_loop_rounds 3 ?_
    rw [rounds_succ]
    go_wp2
    rw [rounds_succ]
    go_wp2
    rw [rounds_succ]
    go_wp2
    go_ret2
    refine ⟨by rw [HR.out]; rfl, ?_⟩
    repeat (refine Below.alloc ?_ (by first | omega | (simp only [nblk_alloc]; omega)) _)
    exact Below.refl _ _
  by_cases h4 : [102, 105, 110, 105, 115, 104, 101, 100] = l
  · subst h4
    have HR : Hid (whatD [102, 105, 110, 105, 115, 104, 101, 100] = 4) := (show whatD [102, 105, 110, 105, 115, 104, 101, 100] = 4 by decide)
    go_enter Tryz.func47, Tryz.ntmps47
    go_wp2
    refine wp_loop_rounds 4 ?_
    rw [rounds_succ]
    go_wp2
    rw [rounds_succ]
    go_wp2
    rw [rounds_succ]
    go_wp2
    rw [rounds_succ]
    go_wp2
    go_ret2
    refine ⟨by rw [HR.out]; rfl, ?_⟩
    repeat (refine Below.alloc ?_ (by first | omega | (simp only [nblk_alloc]; omega)) _)
    exact Below.refl _ _
  by_cases h5 : [115, 108, 101, 112, 116] = l
  · subst h5
    have HR : Hid (whatD [115, 108, 101, 112, 116] = 5) := (show whatD [115, 108, 101, 112, 116] = 5 by decide)
    go_enter Tryz.func47, Tryz.ntmps47
    go_wp2
    refine wp_loop_rounds 5 ?_
    rw [rounds_succ]
    go_wp2
    rw [rounds_succ]
    go_wp2
    rw [rounds_succ]
    go_wp2
    rw [rounds_succ]
    go_wp2
    rw [rounds_succ]
    go_wp2
    go_ret2
    refine ⟨by rw [HR.out]; rfl, ?_⟩
    repeat (refine Below.alloc ?_ (by first | omega | (simp only [nblk_alloc]; omega)) _)
    exact Below.refl _ _
  by_cases h6 : [119, 111, 107, 101] = l
  · subst h6
    have HR : Hid (whatD [119, 111, 107, 101] = 6) := (show whatD [119, 111, 107, 101] = 6 by decide)
    go_enter Tryz.func47, Tryz.ntmps47
    go_wp2
    refine wp_loop_rounds 6 ?_
    rw [rounds_succ]
    go_wp2
    rw [rounds_succ]
    go_wp2
    rw [rounds_succ]
    go_wp2
    rw [rounds_succ]
    go_wp2
    rw [rounds_succ]
    go_wp2
    rw [rounds_succ]
    go_wp2
    go_ret2
    refine ⟨by rw [HR.out]; rfl, ?_⟩
    repeat (refine Below.alloc ?_ (by first | omega | (simp only [nblk_alloc]; omega)) _)
    exact Below.refl _ _
  have n0 : (([116, 111, 111, 107] : List UInt8) == l) = false := beq_eq_false_iff_ne.2 h1
  have n1 : (([115, 116, 111, 108, 101] : List UInt8) == l) = false := beq_eq_false_iff_ne.2 h2
  have n2 : (([102, 101, 116, 99, 104, 101, 100] : List UInt8) == l) = false := beq_eq_false_iff_ne.2 h3
  have n3 : (([102, 105, 110, 105, 115, 104, 101, 100] : List UInt8) == l) = false := beq_eq_false_iff_ne.2 h4
  have n4 : (([115, 108, 101, 112, 116] : List UInt8) == l) = false := beq_eq_false_iff_ne.2 h5
  have n5 : (([119, 111, 107, 101] : List UInt8) == l) = false := beq_eq_false_iff_ne.2 h6
  have HR : Hid (whatD l = 0) := (show whatD l = 0 by unfold whatD; rw [if_neg (fun e => h1 e.symm), if_neg (fun e => h2 e.symm), if_neg (fun e => h3 e.symm), if_neg (fun e => h4 e.symm), if_neg (fun e => h5 e.symm), if_neg (fun e => h6 e.symm)])
  go_enter Tryz.func47, Tryz.ntmps47
  go_wp2
  refine wp_loop_rounds 7 ?_
  rw [rounds_succ]
  go_wp2
  rw [rounds_succ]
  go_wp2
  rw [rounds_succ]
  go_wp2
  rw [rounds_succ]
  go_wp2
  rw [rounds_succ]
  go_wp2
  rw [rounds_succ]
  go_wp2
  rw [rounds_succ]
  go_wp2
  go_ret2
  refine ⟨by rw [HR.out]; rfl, ?_⟩
  repeat (refine Below.alloc ?_ (by first | omega | (simp only [nblk_alloc]; omega)) _)
  exact Below.refl _ _
/-- A function that returns a deed, which lies in a block of its own, and a bool. -/
theorem deed_ret2 {fn : Func} {Q : Ending → World → Prop} {a : Act} {w : World} {b s t : Nat} {a1 a2 a3 a4 v : Value} (hr : fn.results = #[ResultVar.cell s 34, ResultVar.tmp t]) (h : w.heap[b]? = some (.cells #[a1, a2, a3, a4] 34 (0, 0))) (ht : a.tmps[s]? = some (.pointer (some ⟨b, 0, none⟩))) (hu : a.tmps[t]? = some v) (hd : a.defers = []) (hq : Q (.returned (.tuple #[.agg #[a1, a2, a3, a4], v])) w) :
    bodyPost Tryz.prog fn Q Exit.ret a w := by
  have q0 : w.cell? ⟨b, 0, none⟩ = some a1 := by simp [World.cell?, h]
  have q1 : w.cell? ⟨b, 1, none⟩ = some a2 := by simp [World.cell?, h]
  have q2 : w.cell? ⟨b, 2, none⟩ = some a3 := by simp [World.cell?, h]
  have q3 : w.cell? ⟨b, 3, none⟩ = some a4 := by simp [World.cell?, h]
  refine bodyPost_ret (v := .tuple #[.agg #[a1, a2, a3, a4], v]) ?_ hd hq
  simp [results, hr, go_sem, ht, hu, q0, q1, q2, q3]
def deed4 (w : World) (b : Nat) (a1 a2 a3 a4 : Value) : World := (((w.setCell ⟨b, 0, none⟩ a1).setCell ⟨b, 1, none⟩ a2).setCell ⟨b, 2, none⟩ a3).setCell ⟨b, 3, none⟩ a4
theorem blk_set_same (w : World) (g k : Nat) (cur : Array Value) (t : TypeId) (x : Value) (h : w.heap[g]? = some (.cells cur t (0, 0))) : (w.setCell ⟨g, k, none⟩ x).heap[g]? = some (.cells (cur.setIfInBounds k x) t (0, 0)) := by
  rw [setCell_eq_setRow w g k cur t (0, 0) x h, setRow_heap w g cur _ t _ h]
theorem deed4_block {w : World} {b : Nat} {t : TypeId} {o1 o2 o3 o4 : Value} (h : w.heap[b]? = some (.cells #[o1, o2, o3, o4] t (0, 0))) (a1 a2 a3 a4 : Value) : (deed4 w b a1 a2 a3 a4).heap[b]? = some (.cells #[a1, a2, a3, a4] t (0, 0)) := by
  have h1 := blk_set_same w b 0 _ t a1 h
  have h2 := blk_set_same _ b 1 _ t a2 h1
  have h3 := blk_set_same _ b 2 _ t a3 h2
  have h4 := blk_set_same _ b 3 _ t a4 h3
  simpa [deed4] using h4
theorem deed4_below {B : Nat} {w0 w : World} {b : Nat} (h : Below B w0 w) (hb : B ≤ b) (a1 a2 a3 a4 : Value) : Below B w0 (deed4 w b a1 a2 a3 a4) :=
  (((h.setCell (p := ⟨b, 0, none⟩) hb _).setCell (p := ⟨b, 1, none⟩) hb _).setCell (p := ⟨b, 2, none⟩) hb _).setCell (p := ⟨b, 3, none⟩) hb _
/-- What readLine tells of a line. -/
def LineOut (l : List UInt8) (w : World) (e : Ending) (w' : World) : Prop := (∃ a b c d : Int, e = .returned (.tuple #[.agg #[.int .i64 a, .int .i64 b, .int .i64 c, .int .i64 d], .bool (lineD l).isSome]) ∧ ∀ x, lineD l = some x → x = (a, b, c, d)) ∧ Below w.heap.size w w'
theorem LineOut.no {l : List UInt8} {w w' : World} (h : lineD l = none) (a b c d : Int) (hb : Below w.heap.size w w') : LineOut l w (.returned (.tuple #[.agg #[.int .i64 a, .int .i64 b, .int .i64 c, .int .i64 d], .bool false])) w' :=
  ⟨⟨a, b, c, d, by rw [h]; rfl, fun x hx => by rw [h] at hx; cases hx⟩, hb⟩
theorem LineOut.yes {l : List UInt8} {w w' : World} {a b c d : Int} (h : lineD l = some (a, b, c, d)) (hb : Below w.heap.size w w') : LineOut l w (.returned (.tuple #[.agg #[.int .i64 a, .int .i64 b, .int .i64 c, .int .i64 d], .bool true])) w' :=
  ⟨⟨a, b, c, d, by rw [h]; rfl, fun x hx => by rw [h] at hx; exact (Option.some.inj hx).symm⟩, hb⟩
end Go.Proofs.YtiekhigjllbalaaGreatDoor
