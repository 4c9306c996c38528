/- Between two steps of ParkPlays: the program's park and the document's row have the same. -/
import Derived.Test.YtajpkchcfphehaaDoorG
import Derived.Test.YtajpkchcfphehaaDoorI
namespace Go.Proofs.YtajpkchcfphehaaDoor
open Go.RowKit Go.Deep

theorem err_ok (w : World) (hg : Typed w) : Calls Tryd.prog 5 #[.nilIface, .int .i64 0] w fun ev w' => ev = .returned (.bool true) ∧ Below w.heap.size w w' := error_any 0 0 w hg
theorem err_is (q : Int) (hq : q ≠ 0) (w : World) (hg : Typed w) : Calls Tryd.prog 5 #[errV q, .int .i64 q] w fun ev w' => ev = .returned (.bool true) ∧ Below w.heap.size w w' := by
  have := error_any q q w hg
  rw [errQ_some hq] at this
  simpa [errV] using this
theorem below_drew (B : Nat) (w : World) (q : Nat) : Below B w (w.drewN q) := ⟨rfl, rfl, rfl, Nat.le_refl _, fun _ _ => rfl⟩
theorem Rds.later {A : Nat → Prop} {w w' : World} {v : Value} {xs : List Int} (h : Rds A w v xs) (hb : Below w.heap.size w w') : Rds A w' v xs := h.of_blocks hb.size (fun b _ hw => hb.block b hw)

/-- Between two steps: a park in which those of xs sleep, and the document's row of them. -/
structure WM (S hands B : Nat) (xs ys : List Int) (v rv : Value) (w wr : World) : Prop where
  pk : Pk S hands xs v wr
  row : RowI (S + 1) wr rv ys
  ap : Apart v rv
  BS : B ≤ S
  below : Below B w wr
/-- Besides, a block of its own with the two numbers of the step. -/
structure PR (S V hands B : Nat) (y : Int) (xs ys : List Int) (v rv : Value) (w wr : World) : Prop where
  wm : WM S hands B xs ys v rv w wr
  vc : ∃ x, wr.heap[V]? = some (.cells #[.int .i64 x, .int .i64 y] 30 (0, 0))
  vS : S < V
  vv : v.ownBlock ≠ some V
  vr : rv.ownBlock ≠ some V
variable {S V hands B : Nat} {y : Int} {xs xs' ys ys' : List Int} {v v' rv rv' : Value} {w wr w1 w' : World}
theorem PR.cell (h : PR S V hands B y xs ys v rv w wr) : wr.cell? ⟨V, 1, none⟩ = some (.int .i64 y) := by
  obtain ⟨x, hx⟩ := h.vc
  simp [World.cell?, hx]
theorem PR.lt (h : PR S V hands B y xs ys v rv w wr) : V < wr.heap.size := by
  obtain ⟨x, hx⟩ := h.vc
  exact (Array.getElem?_eq_some_iff.1 hx).1
theorem WM.later (h : WM S hands B xs ys v rv w wr) (hb : Below wr.heap.size wr w') : WM S hands B xs ys v rv w w' :=
  ⟨h.pk.later hb, h.row.of_blocks (fun k e => hb.block k (h.row.low e).2), h.ap, h.BS, h.below.trans (hb.mono (by have := h.pk.lt; have := h.BS; omega))⟩
theorem PR.later (h : PR S V hands B y xs ys v rv w wr) (hb : Below wr.heap.size wr w') : PR S V hands B y xs ys v rv w w' := by
  have hl := h.lt
  obtain ⟨x, hx⟩ := h.vc
  exact ⟨h.wm.later hb, ⟨x, (hb.block V hl).trans hx⟩, h.vS, h.vv, h.vr⟩
/-- A call of the park. -/
theorem PR.park (h : PR S V hands B y xs ys v rv w wr) (hp : Pk S hands xs' v' w') (hk : Ks S v.ownBlock wr w') (hn : Near wr.heap.size v v') : PR S V hands B y xs' ys v' rv w w' := by
  have hl := h.lt
  have hS := h.vS
  have hB := h.wm.BS
  obtain ⟨x, hx⟩ := h.vc
  refine ⟨⟨hp, h.wm.row.of_blocks (fun k e => hk.block k (h.wm.row.low e).2 (by have := (h.wm.row.low e).1; omega) (fun e2 => h.wm.ap k e2 e)), fun k e1 e2 => ?_, hB, ?_⟩, ⟨x, (hk.block V hl (by omega) h.vv).trans hx⟩, hS, fun e => ?_, h.vr⟩
  · rcases hn k e1 with h1 | h1
    · exact h.wm.ap k h1 e2
    · have := (h.wm.row.low e2).2; omega
  · exact h.wm.below.trans (hk.below hB (fun j e => by have := (h.wm.pk.row.low e).1; omega) (by omega))
  · rcases hn V e with h1 | h1
    · exact h.vv h1
    · omega
/-- The document's row is a new one. -/
theorem PR.new (h : PR S V hands B y xs ys v rv w wr) (hr : RowI wr.heap.size w' rv' ys') (hb : Below wr.heap.size wr w') : PR S V hands B y xs ys' v rv' w w' := by
  have hl := h.lt
  have hS := h.vS
  have hB := h.wm.BS
  have h2 := h.later hb
  refine ⟨⟨h2.wm.pk, hr.mono (by omega), fun k e1 e2 => ?_, hB, h2.wm.below⟩, h2.vc, hS, h2.vv, fun e => ?_⟩
  · have := (h.wm.pk.row.low e1).2
    have := (hr.low e2).1
    omega
  · have := (hr.low e).1
    omega
/-- One more in the document's row. -/
theorem PR.app (h : PR S V hands B y xs ys v rv w wr) {o : Obj} (hr : RowI (S + 1) w' rv' ys') (hg : (wr.alloc o).grownBy w' rv.ownBlock) (hat : rv'.ownBlock = rv.ownBlock ∨ rv'.ownBlock = some (wr.alloc o).heap.size) : PR S V hands B y xs ys' v rv' w w' := by
  have hS := h.vS
  have hB := h.wm.BS
  have h2 := h.later ((Below.refl _ wr).alloc (Nat.le_refl _) o)
  have hl := h2.lt
  have hl1 := h.lt
  obtain ⟨x, hx⟩ := h2.vc
  have hsz : (wr.alloc o).heap.size = wr.heap.size + 1 := by simp
  refine ⟨⟨h2.wm.pk.of_blocks (hg.block S h2.wm.pk.lt (fun e => ?_)) (fun k e => hg.block k (h2.wm.pk.row.low e).2 (fun e2 => h.wm.ap k e e2.symm)), hr, fun k e1 e2 => ?_, hB, ?_⟩, ⟨x, (hg.block V hl (fun e => h.vr e.symm)).trans hx⟩, hS, h2.vv, fun e => ?_⟩
  · have := (h.wm.row.low e.symm).1; omega
  · rcases hat with h1 | h1
    · exact h.wm.ap k e1 (h1.symm.trans e2)
    · have e3 := h1.symm.trans e2
      have := (h.wm.pk.row.low e1).2
      simp only [Option.some.injEq] at e3
      omega
  · refine h2.wm.below.trans ⟨hg.os, hg.tape, hg.output, hg.size, fun k hk => hg.block k (by omega) (fun e => ?_)⟩
    have := (h.wm.row.low e.symm).1
    omega
  · rcases hat with h1 | h1
    · exact h.vr (h1.symm.trans e)
    · have e3 := h1.symm.trans e
      simp only [Option.some.injEq] at e3
      omega
/-- The two numbers of the step, while they are laid. -/
def VM (V : Nat) (w0 w : World) : Prop := w0.heap.size = V ∧ Below V w0 w ∧ ∃ x y, w.heap[V]? = some (.cells #[.int .i64 x, .int .i64 y] 30 (0, 0))
theorem VM.start (w : World) : VM w.heap.size w (w.alloc (.cells #[.int .i64 0, .int .i64 0] 30)) := ⟨rfl, (Below.refl _ _).alloc (Nat.le_refl _) _, 0, 0, heap_alloc_new w _⟩
theorem VM.set {V : Nat} {w0 w : World} (h : VM V w0 w) (k : Nat) (hk : k < 2) (z : Int) : VM V w0 (w.setCell ⟨V, k, none⟩ (.int .i64 z)) := by
  obtain ⟨h0, hb, x, y, hx⟩ := h
  refine ⟨h0, hb.setCell (Nat.le_refl _) _, ?_⟩
  rcases (by omega : k = 0 ∨ k = 1) with rfl | rfl
  · exact ⟨z, y, by rw [setCell_eq_setRow w V 0 _ 30 (0, 0) _ hx, setRow_heap w V _ _ 30 _ hx]; rfl⟩
  · exact ⟨x, z, by rw [setCell_eq_setRow w V 1 _ 30 (0, 0) _ hx, setRow_heap w V _ _ 30 _ hx]; rfl⟩
end Go.Proofs.YtajpkchcfphehaaDoor
