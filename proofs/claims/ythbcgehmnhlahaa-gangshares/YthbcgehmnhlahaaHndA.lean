/- A ring in memory: nineteen cells; what a call of it keeps; place, empty, takeFirst. -/
import Derived.Test.YthbcgehmnhlahaaProg
import Derived.WalkKit
import Derived.WalkSpells
import Derived.Deep.LoopGhost
import Derived.Deep.Light
import Derived.Deep.OwnRows
import Derived.Shelf.Abstract
import Derived.OrdersHeld
import Derived.Deep.Draws
namespace Go.Proofs.Ythbcgehmnhlahaa.Hnd
open Go.RowKit Go.Deep

def upd (f : Nat → Int) (x : Nat) (v : Int) : Nat → Int := fun y => if y = x then v else f y
theorem upd_at (f : Nat → Int) (x : Nat) (v : Int) : upd f x v x = v := by simp [upd]
theorem upd_ne (f : Nat → Int) {x y : Nat} (v : Int) (h : y ≠ x) : upd f x v y = f y := by simp [upd, h]
def intRow (f : Nat → Int) : Nat → Value := fun k => .int .i64 (f k)
theorem row_upd {w : World} {b t n x : Nat} {f : Nat → Int} {v : Int} (h : w.rowIs b t n (intRow f)) : (w.setCell ⟨b, x, none⟩ (.int .i64 v)).rowIs b t n (intRow (upd f x v)) :=
  (h.set x _).congr (fun k _ => by unfold intRow upd; split <;> rfl)

/-- What is kept by a call of a ring: all but its block, and new blocks. -/
structure Kr (R : Nat) (w w' : World) : Prop where
  os : w'.os = w.os
  tape : w'.tape = w.tape
  output : w'.output = w.output
  size : w.heap.size ≤ w'.heap.size
  block : ∀ k, k < w.heap.size → k ≠ R → w'.heap[k]? = w.heap[k]?
theorem Kr.refl (R : Nat) (w : World) : Kr R w w := ⟨rfl, rfl, rfl, Nat.le_refl _, fun _ _ _ => rfl⟩
theorem Kr.trans {R : Nat} {a b c : World} (h : Kr R a b) (k : Kr R b c) : Kr R a c :=
  ⟨k.os.trans h.os, k.tape.trans h.tape, k.output.trans h.output, Nat.le_trans h.size k.size, fun i hi hR => (k.block i (Nat.lt_of_lt_of_le hi h.size) hR).trans (h.block i hi hR)⟩
theorem Kr.below {R B : Nat} {w w' : World} (h : Kr R w w') (hR : B ≤ R) (hB : B ≤ w.heap.size) : Below B w w' :=
  ⟨h.os, h.tape, h.output, h.size, fun k hk => h.block k (by omega) (by omega)⟩
theorem Kr.setR {R : Nat} {w0 w : World} (h : Kr R w0 w) (j : Nat) (u : Value) : Kr R w0 (w.setCell ⟨R, j, none⟩ u) :=
  ⟨h.os, h.tape, h.output, by simpa using h.size, fun k hk hR => (Below.heap_setCell _ _ _ _ (by show k ≠ R; exact hR)).trans (h.block k hk hR)⟩
theorem Kr.setNew {R : Nat} {w0 w : World} (h : Kr R w0 w) {b : Nat} (hb : w0.heap.size ≤ b) (j : Nat) (u : Value) : Kr R w0 (w.setCell ⟨b, j, none⟩ u) :=
  ⟨h.os, h.tape, h.output, by simpa using h.size, fun k hk hR => (Below.heap_setCell _ _ _ _ (by show k ≠ b; omega)).trans (h.block k hk hR)⟩
theorem Kr.alloc {R : Nat} {w0 w : World} (h : Kr R w0 w) (o : Obj) : Kr R w0 (w.alloc o) :=
  ⟨h.os, h.tape, h.output, by have := h.size; simp; omega, fun k hk hR => (Below.heap_alloc _ _ _ (Nat.lt_of_lt_of_le hk h.size)).trans (h.block k hk hR)⟩
theorem Kr.drew {R : Nat} {w0 w : World} (h : Kr R w0 w) : Kr R w0 w.drew := ⟨h.os, h.tape, h.output, h.size, h.block⟩
theorem Kr.drewN {R : Nat} {w0 w : World} (h : Kr R w0 w) (n : Nat) : Kr R w0 (w.drewN n) := ⟨h.os, h.tape, h.output, h.size, h.block⟩

/-- A ring lies in block R: sixteen places, its room, its first place, how many; the numbers that it has. -/
structure RgS (R : Nat) (g : Nat → Int) (f room : Nat) (xs : List Int) (w : World) : Prop where
  row : w.rowIs R 101 19 (intRow g)
  rm : g 16 = room
  first : g 17 = f
  count : g 18 = xs.length
  fl : f < 16
  le : xs.length ≤ room
  r16 : room ≤ 16
  has : ∀ i, i < xs.length → g ((f + i) % 16) = xs.getD i 0
def Rg (R room : Nat) (xs : List Int) (w : World) : Prop := ∃ g f, RgS R g f room xs w
theorem RgS.of_block {R : Nat} {g : Nat → Int} {f room : Nat} {xs : List Int} {w w' : World} (h : RgS R g f room xs w) (e : w'.heap[R]? = w.heap[R]?) : RgS R g f room xs w' :=
  ⟨h.row.of_block e, h.rm, h.first, h.count, h.fl, h.le, h.r16, h.has⟩
theorem Rg.of_block {R room : Nat} {xs : List Int} {w w' : World} (h : Rg R room xs w) (e : w'.heap[R]? = w.heap[R]?) : Rg R room xs w' := by
  obtain ⟨g, f, h⟩ := h
  exact ⟨g, f, h.of_block e⟩
theorem Rg.lt {R room : Nat} {xs : List Int} {w : World} (h : Rg R room xs w) : R < w.heap.size := by
  obtain ⟨g, f, h⟩ := h
  exact h.row.lt
theorem Rg.alloc {R room : Nat} {xs : List Int} {w : World} (h : Rg R room xs w) (o : Obj) : Rg R room xs (w.alloc o) := h.of_block (Below.heap_alloc _ _ _ h.lt)
theorem Rg.setOther {R room : Nat} {xs : List Int} {w : World} (h : Rg R room xs w) {b : Nat} (hb : R ≠ b) (j : Nat) (u : Value) : Rg R room xs (w.setCell ⟨b, j, none⟩ u) := h.of_block (Below.heap_setCell _ _ _ _ (by show R ≠ b; exact hb))
theorem Rg.drewN {R room : Nat} {xs : List Int} {w : World} (h : Rg R room xs w) (n : Nat) : Rg R room xs (w.drewN n) := h.of_block rfl
theorem Rg.drew {R room : Nat} {xs : List Int} {w : World} (h : Rg R room xs w) : Rg R room xs w.drew := h.of_block rfl
theorem Rg.le {R room : Nat} {xs : List Int} {w : World} (h : Rg R room xs w) : xs.length ≤ room ∧ room ≤ 16 := by
  obtain ⟨g, f, h⟩ := h
  exact ⟨h.le, h.r16⟩

theorem place_any (R : Nat) (g : Nat → Int) (f i : Nat) (w : World) (hr : w.rowIs R 101 19 (intRow g)) (hf : g 17 = f) (hfl : f < 16) (hi : i ≤ 16) :
    Calls Try.prog 45 #[.pointer (some ⟨R, 0, none⟩), .int .i64 i] w fun e w' => e = .returned (.int .i64 ((f + i) % 16 : Nat)) ∧ w' = w := by
  have h17 := hr.cell (i := 17) (by omega)
  unfold intRow at h17
  rw [hf] at h17
  clear hr hf
  go_enter Try.func45, Try.ntmps45
  go_wp2
  go_ret
  exact ⟨rfl, rfl⟩

theorem empty_any (R : Nat) (g : Nat → Int) (p : Nat) (w : World) (hr : w.rowIs R 101 19 (intRow g)) (hp : p < 16) :
    Calls Try.prog 44 #[.pointer (some ⟨R, 0, none⟩), .int .i64 p] w fun e w' => e = .returned (.int .i64 (g p)) ∧ w' = w.setCell ⟨R, p, none⟩ (.int .i64 0) := by
  have hc := hr.cell (i := p) (by omega)
  have hf := hr.frozen p
  unfold intRow at hc
  clear hr
  go_enter Try.func44, Try.ntmps44
  go_wp2
  go_ret
  exact ⟨rfl, rfl⟩
end Go.Proofs.Ythbcgehmnhlahaa.Hnd
