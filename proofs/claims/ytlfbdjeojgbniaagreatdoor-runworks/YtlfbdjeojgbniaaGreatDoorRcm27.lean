/- A ring in memory: nineteen cells; what a call of it keeps; place, empty, takeFirst. The contracts of takeFirst, New, Push, Pop, Steal, Len. The contract of Push. The contracts of Half and All. A hand in memory: its block has what is near, and the ring; the contracts of New, push, Put, Take, Rob, Near, Len. -/
import Derived.Test.YtlfbdjeojgbniaaGreatDoorProg
import Derived.WalkKit
import Derived.WalkSpells
import Derived.Deep.LoopGhost
import Derived.Deep.Light
import Derived.Deep.OwnRows
import Derived.Shelf.Abstract
import Derived.OrdersHeld
import Derived.Deep.Draws
import Derived.Deep.RegionWith
import Derived.BigRegion
import Derived.Deep.QuietTactic
import Derived.BigQuiet
import Derived.WalkSmall

namespace Go.Proofs.YtlfbdjeojgbniaaGreatDoor.Hnd
open Go.RowKit Go.Deep

def upd (f : Nat → Int) (x : Nat) (v : Int) : Nat → Int := fun y => if y = x then v else f y
theorem upd_at (f : Nat → Int) (x : Nat) (v : Int) : upd f x v x = v := by simp [upd]
theorem upd_ne (f : Nat → Int) {x y : Nat} (v : Int) (h : y ≠ x) : upd f x v y = f y := by simp [upd, h]
def intRow (f : Nat → Int) : Nat → Value := fun k => .int .i64 (f k)
theorem row_upd {w : World} {b t n x : Nat} {f : Nat → Int} {v : Int} (h : w.rowIs b t n (intRow f)) : (w.setCell ⟨b, x, none⟩ (.int .i64 v)).rowIs b t n (intRow (upd f x v)) :=
  (h.set x _).congr (fun k _ => by unfold intRow upd; split <;> rfl)

/-- What is kept by a call of a ring: all but its block, and new blocks. -/
structure Kr (R : Nat) (w w' : World) : Prop where
  os : w'.os = w.os
  tape : w'.tape = w.tape
  output : w'.output = w.output
  size : w.heap.size ≤ w'.heap.size
  block : ∀ k, k < w.heap.size → k ≠ R → w'.heap[k]? = w.heap[k]?
theorem Kr.refl (R : Nat) (w : World) : Kr R w w := ⟨rfl, rfl, rfl, Nat.le_refl _, fun _ _ _ => rfl⟩
theorem Kr.trans {R : Nat} {a b c : World} (h : Kr R a b) (k : Kr R b c) : Kr R a c :=
  ⟨k.os.trans h.os, k.tape.trans h.tape, k.output.trans h.output, Nat.le_trans h.size k.size, fun i hi hR => (k.block i (Nat.lt_of_lt_of_le hi h.size) hR).trans (h.block i hi hR)⟩
theorem Kr.below {R B : Nat} {w w' : World} (h : Kr R w w') (hR : B ≤ R) (hB : B ≤ w.heap.size) : Below B w w' :=
  ⟨h.os, h.tape, h.output, h.size, fun k hk => h.block k (by omega) (by omega)⟩
theorem Kr.setR {R : Nat} {w0 w : World} (h : Kr R w0 w) (j : Nat) (u : Value) : Kr R w0 (w.setCell ⟨R, j, none⟩ u) :=
  ⟨h.os, h.tape, h.output, by simpa using h.size, fun k hk hR => (Below.heap_setCell _ _ _ _ (by show k ≠ R; exact hR)).trans (h.block k hk hR)⟩
theorem Kr.setNew {R : Nat} {w0 w : World} (h : Kr R w0 w) {b : Nat} (hb : w0.heap.size ≤ b) (j : Nat) (u : Value) : Kr R w0 (w.setCell ⟨b, j, none⟩ u) :=
  ⟨h.os, h.tape, h.output, by simpa using h.size, fun k hk hR => (Below.heap_setCell _ _ _ _ (by show k ≠ b; omega)).trans (h.block k hk hR)⟩
theorem Kr.alloc {R : Nat} {w0 w : World} (h : Kr R w0 w) (o : Obj) : Kr R w0 (w.alloc o) :=
  ⟨h.os, h.tape, h.output, by have := h.size; simp; omega, fun k hk hR => (Below.heap_alloc _ _ _ (Nat.lt_of_lt_of_le hk h.size)).trans (h.block k hk hR)⟩
theorem Kr.drew {R : Nat} {w0 w : World} (h : Kr R w0 w) : Kr R w0 w.drew := ⟨h.os, h.tape, h.output, h.size, h.block⟩
theorem Kr.drewN {R : Nat} {w0 w : World} (h : Kr R w0 w) (n : Nat) : Kr R w0 (w.drewN n) := ⟨h.os, h.tape, h.output, h.size, h.block⟩

/-- A ring lies in block R: sixteen places, its room, its first place, how many; the numbers that it has. -/
structure RgS (R : Nat) (g : Nat → Int) (f room : Nat) (xs : List Int) (w : World) : Prop where
  row : w.rowIs R 232 19 (intRow g)
  rm : g 16 = room
  first : g 17 = f
  count : g 18 = xs.length
  fl : f < 16
  le : xs.length ≤ room
  r16 : room ≤ 16
  has : ∀ i, i < xs.length → g ((f + i) % 16) = xs.getD i 0
def Rg (R room : Nat) (xs : List Int) (w : World) : Prop := ∃ g f, RgS R g f room xs w
theorem RgS.of_block {R : Nat} {g : Nat → Int} {f room : Nat} {xs : List Int} {w w' : World} (h : RgS R g f room xs w) (e : w'.heap[R]? = w.heap[R]?) : RgS R g f room xs w' :=
  ⟨h.row.of_block e, h.rm, h.first, h.count, h.fl, h.le, h.r16, h.has⟩
theorem Rg.of_block {R room : Nat} {xs : List Int} {w w' : World} (h : Rg R room xs w) (e : w'.heap[R]? = w.heap[R]?) : Rg R room xs w' := by
  obtain ⟨g, f, h⟩ := h
  exact ⟨g, f, h.of_block e⟩
theorem Rg.lt {R room : Nat} {xs : List Int} {w : World} (h : Rg R room xs w) : R < w.heap.size := by
  obtain ⟨g, f, h⟩ := h
  exact h.row.lt
theorem Rg.alloc {R room : Nat} {xs : List Int} {w : World} (h : Rg R room xs w) (o : Obj) : Rg R room xs (w.alloc o) := h.of_block (Below.heap_alloc _ _ _ h.lt)
theorem Rg.setOther {R room : Nat} {xs : List Int} {w : World} (h : Rg R room xs w) {b : Nat} (hb : R ≠ b) (j : Nat) (u : Value) : Rg R room xs (w.setCell ⟨b, j, none⟩ u) := h.of_block (Below.heap_setCell _ _ _ _ (by show R ≠ b; exact hb))
theorem Rg.drewN {R room : Nat} {xs : List Int} {w : World} (h : Rg R room xs w) (n : Nat) : Rg R room xs (w.drewN n) := h.of_block rfl
theorem Rg.drew {R room : Nat} {xs : List Int} {w : World} (h : Rg R room xs w) : Rg R room xs w.drew := h.of_block rfl
theorem Rg.le {R room : Nat} {xs : List Int} {w : World} (h : Rg R room xs w) : xs.length ≤ room ∧ room ≤ 16 := by
  obtain ⟨g, f, h⟩ := h
  exact ⟨h.le, h.r16⟩

theorem place_any (R : Nat) (g : Nat → Int) (f i : Nat) (w : World) (hr : w.rowIs R 232 19 (intRow g)) (hf : g 17 = f) (hfl : f < 16) (hi : i ≤ 16) :
    Calls Tryz.prog 208 #[.pointer (some ⟨R, 0, none⟩), .int .i64 i] w fun e w' => e = .returned (.int .i64 ((f + i) % 16 : Nat)) ∧ w' = w := by
  have h17 := hr.cell (i := 17) (by omega)
  unfold intRow at h17
  rw [hf] at h17
  clear hr hf
  go_enter Tryz.func208, Tryz.ntmps208
  go_wp2
  go_ret
  exact ⟨rfl, rfl⟩

theorem empty_any (R : Nat) (g : Nat → Int) (p : Nat) (w : World) (hr : w.rowIs R 232 19 (intRow g)) (hp : p < 16) :
    Calls Tryz.prog 207 #[.pointer (some ⟨R, 0, none⟩), .int .i64 p] w fun e w' => e = .returned (.int .i64 (g p)) ∧ w' = w.setCell ⟨R, p, none⟩ (.int .i64 0) := by
  have hc := hr.cell (i := p) (by omega)
  have hf := hr.frozen p
  unfold intRow at hc
  clear hr
  go_enter Tryz.func207, Tryz.ntmps207
  go_wp2
  go_ret
  exact ⟨rfl, rfl⟩
end Go.Proofs.YtlfbdjeojgbniaaGreatDoor.Hnd

namespace Go.Proofs.YtlfbdjeojgbniaaGreatDoor.Hnd
open Go.RowKit Go.Deep

theorem empty_rg (R : Nat) (g : Nat → Int) (p : Nat) (w : World) (hr : w.rowIs R 232 19 (intRow g)) (hp : p < 16) :
    Calls Tryz.prog 207 #[.pointer (some ⟨R, 0, none⟩), .int .i64 p] w fun e w' => e = .returned (.int .i64 (g p)) ∧ w'.rowIs R 232 19 (intRow (upd g p 0)) ∧ Kr R w w' := by
  refine (empty_any R g p w hr hp).mono ?_
  rintro e w' ⟨rfl, rfl⟩
  exact ⟨rfl, row_upd hr, (Kr.refl _ _).setR _ _⟩

set_option maxHeartbeats 1000000 in
theorem takeFirst_any (R : Nat) (room : Nat) (x : Int) (xs : List Int) (w : World) (h : Rg R room (x :: xs) w) :
    Calls Tryz.prog 221 #[.pointer (some ⟨R, 0, none⟩)] w fun e w' => e = .returned (.int .i64 x) ∧ Rg R room xs w' ∧ Kr R w w' := by
  obtain ⟨g, f, h⟩ := h
  have HS : Hid (RgS R g f room (x :: xs) w) := h
  have h17 := h.row.cell (i := 17) (by omega)
  unfold intRow at h17
  rw [h.first] at h17
  have hfl := h.fl
  have hx : g f = x := by
    have := h.has 0 (by simp)
    rw [Nat.add_zero, Nat.mod_eq_of_lt hfl] at this
    simpa using this
  have he := empty_rg R g f w h.row hfl
  rw [hx] at he
  have hle := h.le
  have hr16 := h.r16
  simp only [List.length_cons] at hle
  clear h hx
  go_enter Tryz.func221, Tryz.ntmps221
  go_wp2_with fail
  refine he.mono ?_
  clear he h17
  rintro e w1 ⟨rfl, hr1, hk1⟩
  have hpl := place_any R (upd g f 0) f 1 w1 hr1 (by rw [upd_ne _ _ (by omega)]; exact HS.out.first) hfl (by omega)
  obtain ⟨q, hq⟩ : ∃ q, q = (f + 1) % 16 := ⟨_, rfl⟩
  rw [← hq] at hpl
  have HQ : Hid (q = (f + 1) % 16) := hq
  have f17 := hr1.frozen 17
  have f18 := hr1.frozen 18
  have h17 := hr1.cell (i := 17) (by omega)
  have h18 := hr1.cell (i := 18) (by omega)
  unfold intRow at h17 h18
  rw [upd_ne _ _ (by omega), HS.out.count] at h18
  rw [upd_ne _ _ (by omega), HS.out.first] at h17
  have HR1 : Hid (w1.rowIs R 232 19 (intRow (upd g f 0))) := hr1
  simp only [List.length_cons] at h18
  clear hr1 hq
  go_wp2_with (first | (go_at_call 208; refine hpl.mono ?_; clear hpl; rintro e w' ⟨rfl, rfl⟩))
  go_ret
  refine ⟨rfl, ⟨_, q, row_upd (row_upd HR1.out), ?_, ?_, ?_, ?_, ?_, ?_, ?_⟩, (hk1.setR _ _).setR _ _⟩
  · rw [upd_ne _ _ (by omega), upd_ne _ _ (by omega), upd_ne _ _ (by omega)]; exact HS.out.rm
  · rw [upd_ne _ _ (by omega), upd_at]
  · rw [upd_at]
  · have := HQ.out; omega
  · omega
  · omega
  · intro i hi
    have h2 := HS.out.has (i + 1) (by simp; omega)
    have := HQ.out
    rw [upd_ne _ _ (by omega), upd_ne _ _ (by omega), upd_ne _ _ (by omega), show (q + i) % 16 = (f + (i + 1)) % 16 by omega, h2]
    simp

theorem New_bad (room : Int) (w : World) (h : room < 1 ∨ 16 < room) : Calls Tryz.prog 116 #[.int .i64 room] w fun e w' => e = .returned (.tuple #[.pointer none, .iface 97 (.int .i64 1)]) ∧ w' = w := by
  by_cases h1 : room < 1
  · go_enter Tryz.func116, Tryz.ntmps116
    go_wp2
    go_ret2
    exact ⟨rfl, rfl⟩
  · have h2 : 16 < room := by omega
    go_enter Tryz.func116, Tryz.ntmps116
    go_wp2
    go_ret2
    exact ⟨rfl, rfl⟩
theorem New_good (room : Nat) (w : World) (h1 : 1 ≤ room) (h2 : room ≤ 16) : Calls Tryz.prog 116 #[.int .i64 room] w fun e w' => e = .returned (.tuple #[.pointer (some ⟨w.heap.size, 0, none⟩), .nilIface]) ∧ Rg w.heap.size room [] w' ∧ Below w.heap.size w w' ∧ w'.heap.size = w.heap.size + 1 := by
  have g1 : ¬ (room : Int) < 1 := by omega
  have g2 : ¬ (16 : Int) < (room : Int) := by omega
  go_enter Tryz.func116, Tryz.ntmps116
  go_wp2
  go_ret2
  refine ⟨rfl, ⟨fun i => if i = 16 then room else 0, 0, World.rowIs_alloc _ _ _ _ ?_, rfl, rfl, rfl, by omega, Nat.zero_le _, h2, fun i hi => by simp at hi⟩, (Below.refl _ _).alloc (Nat.le_refl _) _, by simp⟩
  intro i hi
  change i < 19 at hi
  rcases (by omega : i = 0 ∨ i = 1 ∨ i = 2 ∨ i = 3 ∨ i = 4 ∨ i = 5 ∨ i = 6 ∨ i = 7 ∨ i = 8 ∨ i = 9 ∨ i = 10 ∨ i = 11 ∨ i = 12 ∨ i = 13 ∨ i = 14 ∨ i = 15 ∨ i = 16 ∨ i = 17 ∨ i = 18) with rfl | rfl | rfl | rfl | rfl | rfl | rfl | rfl | rfl | rfl | rfl | rfl | rfl | rfl | rfl | rfl | rfl | rfl | rfl <;> rfl

def errV (k : Int) : Value := .iface 97 (.int .i64 k)

theorem Pop_none (R room : Nat) (w : World) (h : Rg R room [] w) : Calls Tryz.prog 186 #[.pointer (some ⟨R, 0, none⟩)] w fun e w' => e = .returned (.tuple #[.int .i64 0, errV 5]) ∧ w' = w := by
  obtain ⟨g, f, h⟩ := h
  have h18 := h.row.cell (i := 18) (by omega)
  unfold intRow at h18
  rw [h.count] at h18
  simp only [List.length_nil] at h18
  clear h
  go_enter Tryz.func186, Tryz.ntmps186
  go_wp2
  go_ret2
  exact ⟨rfl, rfl⟩

theorem getD_snoc_lt (xs : List Int) (x : Int) {i : Nat} (h : i < xs.length) : (xs ++ [x]).getD i 0 = xs.getD i 0 := by
  simp [List.getD_eq_getElem?_getD, List.getElem?_append_left h]
theorem getD_snoc_at (xs : List Int) (x : Int) : (xs ++ [x]).getD xs.length 0 = x := by
  simp [List.getD_eq_getElem?_getD]

theorem Pop_one (R room : Nat) (x : Int) (xs : List Int) (w : World) (h : Rg R room (xs ++ [x]) w) : Calls Tryz.prog 186 #[.pointer (some ⟨R, 0, none⟩)] w fun e w' => e = .returned (.tuple #[.int .i64 x, .nilIface]) ∧ Rg R room xs w' ∧ Kr R w w' := by
  obtain ⟨g, f, h⟩ := h
  have HS : Hid (RgS R g f room (xs ++ [x]) w) := h
  have hle := h.le
  have hr16 := h.r16
  simp only [List.length_append, List.length_singleton] at hle
  have h18 := h.row.cell (i := 18) (by omega)
  have f18 := h.row.frozen 18
  unfold intRow at h18
  rw [h.count] at h18
  simp only [List.length_append, List.length_singleton] at h18
  have hr1 := row_upd (x := 18) (v := (xs.length : Int)) h.row
  have hpl := place_any R _ f xs.length _ hr1 (by rw [upd_ne _ _ (by omega)]; exact h.first) h.fl (by omega)
  obtain ⟨q, hq⟩ : ∃ q, q = (f + xs.length) % 16 := ⟨_, rfl⟩
  rw [← hq] at hpl
  have hem := empty_rg R _ q _ hr1 (by omega)
  have hx : upd g 18 xs.length q = x := by
    rw [upd_ne _ _ (by omega), hq, h.has xs.length (by simp)]
    exact getD_snoc_at xs x
  rw [hx] at hem
  have hne : (((xs.length + 1 : Nat) : Int) == 0) = false := by simp; omega
  have HQ : Hid (q = (f + xs.length) % 16) := hq
  clear h hr1 hq hx
  go_enter Tryz.func186, Tryz.ntmps186
  go_wp2_with (first | (go_at_call 208; refine hpl.mono ?_; clear hpl; rintro e w' ⟨rfl, rfl⟩) | (go_at_call 207; refine hem.mono ?_; clear hem; rintro e w' ⟨rfl, hr, hk⟩))
  go_ret2
  refine ⟨rfl, ⟨_, f, hr, ?_, ?_, ?_, HS.out.fl, by omega, hr16, ?_⟩, ((Kr.refl _ _).setR _ _).trans hk⟩
  · rw [upd_ne _ _ (by have := HQ.out; omega), upd_ne _ _ (by omega)]; exact HS.out.rm
  · rw [upd_ne _ _ (by have := HQ.out; omega), upd_ne _ _ (by omega)]; exact HS.out.first
  · rw [upd_ne _ _ (by have := HQ.out; omega), upd_at]
  · intro i hi
    have := HQ.out
    have h2 := HS.out.has i (by simp; omega)
    rw [upd_ne _ _ (by omega), upd_ne _ _ (by omega), h2]
    exact getD_snoc_lt xs x hi
end Go.Proofs.YtlfbdjeojgbniaaGreatDoor.Hnd

namespace Go.Proofs.YtlfbdjeojgbniaaGreatDoor.Hnd
open Go.RowKit Go.Deep

theorem Push_full (R room : Nat) (xs : List Int) (n : Int) (w : World) (h : Rg R room xs w) (hl : xs.length = room) : Calls Tryz.prog 220 #[.pointer (some ⟨R, 0, none⟩), .int .i64 n] w fun e w' => e = .returned (errV 4) ∧ Rg R room xs w' ∧ Kr R w w' := by
  have HR : Hid (Rg R room xs w) := h
  obtain ⟨g, f, h⟩ := h
  have h18 := h.row.cell (i := 18) (by omega)
  have h16 := h.row.cell (i := 16) (by omega)
  unfold intRow at h18 h16
  rw [h.count, hl] at h18
  rw [h.rm] at h16
  have he : ((room : Int) == (room : Int)) = true := by simp
  clear h
  go_enter Tryz.func220, Tryz.ntmps220
  go_wp2
  go_quiet (fail)
  go_wp2
  go_ret
  exact ⟨rfl, HR.out.drewN _, (Kr.refl _ _).drewN _⟩

set_option maxHeartbeats 1000000 in
theorem Push_one (R room : Nat) (xs : List Int) (n : Int) (w : World) (h : Rg R room xs w) (hl : xs.length < room) : Calls Tryz.prog 220 #[.pointer (some ⟨R, 0, none⟩), .int .i64 n] w fun e w' => e = .returned .nilIface ∧ Rg R room (xs ++ [n]) w' ∧ Kr R w w' := by
  obtain ⟨g, f, h⟩ := h
  have HS : Hid (RgS R g f room xs w) := h
  have hle := h.le
  have hr16 := h.r16
  have h18 := h.row.cell (i := 18) (by omega)
  have h16 := h.row.cell (i := 16) (by omega)
  unfold intRow at h18 h16
  rw [h.count] at h18
  rw [h.rm] at h16
  have f18 := h.row.frozen 18
  have hne : ((xs.length : Int) == (room : Int)) = false := by simp; omega
  obtain ⟨q, hq⟩ : ∃ q, q = (f + xs.length) % 16 := ⟨_, rfl⟩
  have hq16 : q < 16 := by omega
  have hpl : ∀ k, Calls Tryz.prog 208 #[.pointer (some ⟨R, 0, none⟩), .int .i64 xs.length] (w.drewN k) fun e w' => e = .returned (.int .i64 (q : Nat)) ∧ w' = w.drewN k := fun k => by
    rw [hq]
    exact place_any R g f xs.length (w.drewN k) (h.row.of_block rfl) h.first h.fl (by omega)
  have hcq := h.row.cell (i := q) (by omega)
  have fq := h.row.frozen q
  unfold intRow at hcq
  have HQ : Hid (q = (f + xs.length) % 16) := hq
  have hq18 : ¬ q = 18 := by omega
  clear h hq
  go_enter Tryz.func220, Tryz.ntmps220
  go_wp2
  go_quiet (fail)
  go_wp2
  go_region_with (go_at_call 208; refine (hpl _).mono ?_; rintro e w' ⟨rfl, rfl⟩)
  go_wp2
  go_ret
  have hS := HS.out
  have hQ := HQ.out
  refine ⟨rfl, ⟨_, f, row_upd (row_upd (hS.row.of_block rfl)), ?_, ?_, ?_, hS.fl, by simp; omega, hr16, ?_⟩, (((Kr.refl _ _).drewN _).setR _ _).setR _ _⟩
  · rw [upd_ne _ _ (by omega), upd_ne _ _ (by omega)]; exact hS.rm
  · rw [upd_ne _ _ (by omega), upd_ne _ _ (by omega)]; exact hS.first
  · rw [upd_at]; simp
  · intro i hi
    simp only [List.length_append, List.length_singleton] at hi
    rw [upd_ne _ _ (by omega)]
    by_cases e : i = xs.length
    · subst e
      rw [← hQ, upd_at, getD_snoc_at]
    · rw [upd_ne _ _ (by omega), hS.has i (by omega), getD_snoc_lt _ _ (by omega)]
end Go.Proofs.YtlfbdjeojgbniaaGreatDoor.Hnd

namespace Go.Proofs.YtlfbdjeojgbniaaGreatDoor.Hnd
open Go.RowKit Go.Deep

/-- A slice of numbers in a block from B on. -/
def RowZ (B : Nat) (w : World) (v : Value) (zs : List Int) : Prop :=
  ∃ b c, v = .slice (some ⟨b, 0, none⟩) zs.length c ∧ zs.length ≤ c ∧ B ≤ b ∧ b < w.heap.size ∧ ∀ k, k < zs.length → w.cell? ⟨b, k, none⟩ = some (.int .i64 (zs.getD k 0))
theorem RowZ.kr {B R : Nat} {w w' : World} {v : Value} {zs : List Int} (h : RowZ B w v zs) (hk : Kr R w w') (hR : R < B) : RowZ B w' v zs := by
  obtain ⟨b, c, hv, hcap, hb, hl, hc⟩ := h
  exact ⟨b, c, hv, hcap, hb, Nat.lt_of_lt_of_le hl hk.size, fun k hk' => (World.cell?_of_block (hk.block b hl (by omega))).trans (hc k hk')⟩
theorem row_rowZ {B b n c : Nat} {w : World} {f : Nat → Int} {zs : List Int} (h : w.rowIs b 3 n (intRow f)) (hn : zs.length = n) (hf : ∀ k, k < n → f k = zs.getD k 0) (hB : B ≤ b) (hcap : n ≤ c) : RowZ B w (.slice (some ⟨b, 0, none⟩) n c) zs :=
  ⟨b, c, by rw [hn], by omega, hB, h.lt, fun k hk => by rw [h.cell (by omega)]; unfold intRow; rw [hf k (by omega)]⟩

theorem Tryz.info3 : (Tryz.prog.info? 3).map (fun i => (i.zero, i.size, i.bytes)) = some (some (.int .i64 0), 1, 8) := by kernel_rfl

/-- What Half's loop has come to: k are taken. -/
structure HalfM (R room N n k : Nat) (xs : List Int) (w wr : World) (h : Nat → Int) : Prop where
  row : wr.rowIs N 3 n (intRow h)
  has : ∀ j, j < k → h j = xs.getD j 0
  ring : Rg R room (xs.drop k) wr
  kept : Kr R w wr

theorem getD_drop (xs : List Int) (k i : Nat) : (xs.drop k).getD i 0 = xs.getD (k + i) 0 := by simp [List.getD_eq_getElem?_getD]

set_option maxHeartbeats 1000000 in
theorem Half_any (R room : Nat) (xs : List Int) (w : World) (h : Rg R room xs w) :
    Calls Tryz.prog 209 #[.pointer (some ⟨R, 0, none⟩)] w fun e w' => (∃ v, e = .returned v ∧ RowZ w.heap.size w' v (xs.take ((xs.length + 1) / 2))) ∧ Rg R room (xs.drop ((xs.length + 1) / 2)) w' ∧ Kr R w w' := by
  have HR : Hid (Rg R room xs w) := h
  have hlt := h.lt
  obtain ⟨hle, hr16⟩ := h.le
  obtain ⟨g, f, h⟩ := h
  have h18 := h.row.cell (i := 18) (by omega)
  unfold intRow at h18
  rw [h.count] at h18
  clear h
  obtain ⟨n, hn⟩ : ∃ n, n = (xs.length + 1) / 2 := ⟨_, rfl⟩
  have hq : ((xs.length : Int) + 1).tdiv 2 = (n : Int) := by rw [Int.tdiv_eq_ediv_of_nonneg (by omega)]; omega
  have hq2 : ((xs.length : Int) + 1) / 2 = (n : Int) := by omega
  have hn9 : n ≤ 8 := by omega
  have hnx : n ≤ xs.length := by omega
  rw [← hn]
  clear hn
  have hmk := fun wx => run_make_row' (P := Tryz.prog) 73 3 (.int .i64 0) 8 Tryz.underlying73 Tryz.info3 rfl .i64 .i64 n (by omega) (by omega) wx
  go_enter Tryz.func209, Tryz.ntmps209
  go_wp2
  have HM : Hid (HalfM R room w.heap.size n 0 xs w (w.alloc (.cells (madeCells #[.int .i64 0] n) 3)) (fun _ => 0)) :=
    ⟨World.rowIs_made w (.int .i64 0) n 3, fun j hj => by omega, HR.out.alloc _, (Kr.refl _ _).alloc _⟩
  clear hmk h18 hq hq2
  go_loopw [14] (fun s wr => ∃ k : Nat, ∃ hh, k ≤ n ∧ s = .int .i64 k ∧ Hid (HalfM R room w.heap.size n k xs w wr hh)) (fun s _ => n - (intOf s).toNat)
  case atStart => exact ⟨0, _, Nat.zero_le _, rfl, HM⟩
  case round =>
    clear HM
    obtain ⟨k, hh, hk, rfl, hM⟩ := hrel
    by_cases hkn : k < n
    · have hkx : k < xs.length := by omega
      have hrg := hM.out.ring
      rw [List.drop_eq_getElem_cons hkx] at hrg
      have htk := takeFirst_any R room xs[k] (xs.drop (k + 1)) wr hrg
      have HX : Hid (xs.getD k 0 = xs[k]) := by show _ = _; rw [List.getD_eq_getElem?_getD, List.getElem?_eq_getElem hkx]; rfl
      generalize xs[k] = x at *
      clear hrg
      go_wp2_with (first | (go_at_call 221; refine htk.mono ?_; clear htk; rintro e w1 ⟨rfl, hr1, hk1⟩; have hrow1 := hM.out.row.of_block (hk1.block w.heap.size hM.out.row.lt (by omega)); have hc1 := hrow1.cell hkn; have hf1 := hrow1.frozen k; unfold intRow at hc1))
      go_roundw
      case measure => simp [intOf]; omega
      case rel =>
        refine ⟨k + 1, _, by omega, by go_num, ⟨row_upd hrow1, fun j hj => ?_, hr1.setOther (by omega) _ _, (hM.out.kept.trans hk1).setNew (Nat.le_refl _) _ _⟩⟩
        by_cases e : j = k
        · subst e; rw [upd_at, HX.out]
        · rw [upd_ne _ _ e]; exact hM.out.has j (by omega)
    · have hke : k = n := by omega
      subst hke
      go_wp2
      go_ret
      refine ⟨⟨_, rfl, row_rowZ hM.out.row (by simp; omega) (fun j hj => ?_) (Nat.le_refl _) (Nat.le_refl _)⟩, hM.out.ring, hM.out.kept⟩
      rw [hM.out.has j hj]
      simp [List.getD_eq_getElem?_getD, hj]

end Go.Proofs.YtlfbdjeojgbniaaGreatDoor.Hnd

namespace Go.Proofs.YtlfbdjeojgbniaaGreatDoor.Hnd
open Go.RowKit Go.Deep

/-- What came out: nothing, or a row of its own. -/
def OutZ (C : Nat) (w : World) (v : Value) (o : List Int) : Prop := (o = [] ∧ v = .slice none 0 0) ∨ RowZ C w v o
theorem OutZ.shape {C : Nat} {w : World} {v : Value} {o : List Int} (h : OutZ C w v o) : ∃ a c, v = .slice a o.length c ∧ ∀ k, k < o.length → ∃ b, a = some ⟨b, 0, none⟩ ∧ C ≤ b ∧ b < w.heap.size ∧ w.cell? ⟨b, k, none⟩ = some (.int .i64 (o.getD k 0)) := by
  rcases h with ⟨rfl, rfl⟩ | ⟨b, c, rfl, hcap, hb, hl, hc⟩
  · exact ⟨none, 0, rfl, fun k hk => by simp at hk⟩
  · exact ⟨_, c, rfl, fun k hk => ⟨b, rfl, hb, hl, hc k hk⟩⟩
theorem OutZ.at {C k n c : Nat} {w : World} {a : Option Addr} {o : List Int} (h : OutZ C w (.slice a n c) o) (hk : k < o.length) : ∃ b, a = some ⟨b, 0, none⟩ ∧ C ≤ b ∧ b < w.heap.size ∧ w.cell? ⟨b, k, none⟩ = some (.int .i64 (o.getD k 0)) := by
  rcases h with ⟨rfl, _⟩ | ⟨b, c', hv, hcap, hb, hl, hc⟩
  · simp at hk
  · simp only [Value.slice.injEq] at hv
    exact ⟨b, hv.1, hb, hl, hc k hk⟩
theorem RowZ.mono {B B' : Nat} {w : World} {v : Value} {zs : List Int} (h : RowZ B w v zs) (hb : B' ≤ B) : RowZ B' w v zs := by
  obtain ⟨b, c, hv, hcap, h1, hl, hc⟩ := h
  exact ⟨b, c, hv, hcap, Nat.le_trans hb h1, hl, hc⟩
theorem OutZ.mono {B B' : Nat} {w : World} {v : Value} {zs : List Int} (h : OutZ B w v zs) (hb : B' ≤ B) : OutZ B' w v zs := h.imp id (fun h => h.mono hb)
theorem OutZ.set {C I x : Nat} {w : World} {v : Value} {o : List Int} (h : OutZ C w v o) (hI : I < C) (u : Value) : OutZ C (w.setCell ⟨I, x, none⟩ u) v o := by
  rcases h with h | ⟨b, c, hv, hcap, hb, hl, hc⟩
  · exact Or.inl h
  · exact Or.inr ⟨b, c, hv, hcap, hb, by simpa using hl, fun k hk => (World.cell?_of_block (Below.heap_setCell w ⟨I, x, none⟩ u b (by show b ≠ I; omega))).trans (hc k hk)⟩
theorem OutZ.kr {B R : Nat} {w w' : World} {v : Value} {zs : List Int} (h : OutZ B w v zs) (hk : Kr R w w') (hR : R < B) : OutZ B w' v zs := h.imp id (fun h => h.kr hk hR)

/-- What is kept by a call of a hand: all but its two blocks, and new blocks. -/
structure Kh (H R : Nat) (w w' : World) : Prop where
  os : w'.os = w.os
  tape : w'.tape = w.tape
  output : w'.output = w.output
  size : w.heap.size ≤ w'.heap.size
  block : ∀ k, k < w.heap.size → k ≠ H → k ≠ R → w'.heap[k]? = w.heap[k]?
theorem Kh.refl (H R : Nat) (w : World) : Kh H R w w := ⟨rfl, rfl, rfl, Nat.le_refl _, fun _ _ _ _ => rfl⟩
theorem Kh.trans {H R : Nat} {a b c : World} (h : Kh H R a b) (k : Kh H R b c) : Kh H R a c :=
  ⟨k.os.trans h.os, k.tape.trans h.tape, k.output.trans h.output, Nat.le_trans h.size k.size, fun i hi hH hR => (k.block i (Nat.lt_of_lt_of_le hi h.size) hH hR).trans (h.block i hi hH hR)⟩
theorem Kr.kh {R : Nat} {w w' : World} (h : Kr R w w') (H : Nat) : Kh H R w w' := ⟨h.os, h.tape, h.output, h.size, fun k hk _ hR => h.block k hk hR⟩
theorem Kh.setH {H R : Nat} {w0 w : World} (h : Kh H R w0 w) (j : Nat) (u : Value) : Kh H R w0 (w.setCell ⟨H, j, none⟩ u) :=
  ⟨h.os, h.tape, h.output, by simpa using h.size, fun k hk hH hR => (Below.heap_setCell _ _ _ _ (by show k ≠ H; exact hH)).trans (h.block k hk hH hR)⟩
theorem Kh.below {H R B : Nat} {w w' : World} (h : Kh H R w w') (hH : B ≤ H) (hR : B ≤ R) (hB : B ≤ w.heap.size) : Below B w w' :=
  ⟨h.os, h.tape, h.output, h.size, fun k hk => h.block k (by omega) (by omega) (by omega)⟩

def handRow (nr : Int) (R : Nat) : Nat → Value := fun k => if k = 0 then .int .i64 nr else .pointer (some ⟨R, 0, none⟩)
/-- A hand lies in block H: what is near, and its ring in block R. -/
structure Hd (H R room : Nat) (nr : Int) (xs : List Int) (w : World) : Prop where
  row : w.rowIs H 195 2 (handRow nr R)
  ring : Rg R room xs w
  ne : H ≠ R
  one : 1 ≤ room
  near : nr = -1 ∨ 0 ≤ nr
theorem Hd.c0 {H R room : Nat} {nr : Int} {xs : List Int} {w : World} (h : Hd H R room nr xs w) : w.cell? ⟨H, 0, none⟩ = some (.int .i64 nr) := by
  have := h.row.cell (i := 0) (by omega)
  simpa [handRow] using this
theorem Hd.c1 {H R room : Nat} {nr : Int} {xs : List Int} {w : World} (h : Hd H R room nr xs w) : w.cell? ⟨H, 1, none⟩ = some (.pointer (some ⟨R, 0, none⟩)) := by
  have := h.row.cell (i := 1) (by omega)
  simpa [handRow] using this
theorem Hd.set {H R room : Nat} {nr : Int} {xs : List Int} {w : World} (h : Hd H R room nr xs w) (n : Int) (hn : n = -1 ∨ 0 ≤ n) : Hd H R room n xs (w.setCell ⟨H, 0, none⟩ (.int .i64 n)) :=
  ⟨(h.row.set 0 _).congr (fun k _ => by unfold handRow; split <;> simp_all), h.ring.setOther (fun e => h.ne e.symm) _ _, h.ne, h.one, hn⟩
theorem Hd.kr {H R room : Nat} {nr : Int} {xs xs' : List Int} {w w' : World} (h : Hd H R room nr xs w) (hr : Rg R room xs' w') (hk : Kr R w w') : Hd H R room nr xs' w' :=
  ⟨h.row.of_block (hk.block H h.row.lt h.ne), hr, h.ne, h.one, h.near⟩
theorem Hd.of_blocks {H R room : Nat} {nr : Int} {xs : List Int} {w w' : World} (h : Hd H R room nr xs w) (e1 : w'.heap[H]? = w.heap[H]?) (e2 : w'.heap[R]? = w.heap[R]?) : Hd H R room nr xs w' :=
  ⟨h.row.of_block e1, h.ring.of_block e2, h.ne, h.one, h.near⟩

theorem hNew_bad (room : Int) (w : World) (h : room < 1 ∨ 16 < room) : Calls Tryz.prog 83 #[.int .i64 room] w fun e w' => e = .returned (.tuple #[.pointer none, errV 1]) ∧ w' = w := by
  have hn := New_bad room w h
  go_enter Tryz.func83, Tryz.ntmps83
  go_wp2_with (first | (go_at_call 116; refine hn.mono ?_; clear hn; rintro e w' ⟨rfl, rfl⟩))
  go_ret2
  exact ⟨rfl, rfl⟩
theorem hNew_good (room : Nat) (w : World) (h1 : 1 ≤ room) (h2 : room ≤ 16) : Calls Tryz.prog 83 #[.int .i64 room] w fun e w' => e = .returned (.tuple #[.pointer (some ⟨w.heap.size + 1, 0, none⟩), .nilIface]) ∧ Hd (w.heap.size + 1) w.heap.size room (-1) [] w' ∧ Below w.heap.size w w' ∧ w'.heap.size = w.heap.size + 2 := by
  have hn := New_good room w h1 h2
  go_enter Tryz.func83, Tryz.ntmps83
  go_wp2_with (first | (go_at_call 116; refine hn.mono ?_; clear hn; rintro e w1 ⟨rfl, hr, hb, hs⟩))
  go_ret2
  refine ⟨rfl, ⟨?_, hr.alloc _, by omega, h1, Or.inl rfl⟩, hb.alloc (by omega) _, by simp [hs]⟩
  rw [← hs]
  refine World.rowIs_alloc _ _ _ _ ?_
  intro i hi
  change i < 2 at hi
  rcases (by omega : i = 0 ∨ i = 1) with rfl | rfl <;> rfl

theorem push_room (H R room : Nat) (nr n : Int) (xs : List Int) (w : World) (h : Hd H R room nr xs w) (hl : xs.length < room) :
    Calls Tryz.prog 206 #[.pointer (some ⟨H, 0, none⟩), .int .i64 n] w fun e w' => e = .returned (.slice none 0 0) ∧ Hd H R room nr (xs ++ [n]) w' ∧ Kr R w w' := by
  have hp := Push_one R room xs n w h.ring hl
  have hc := h.c1
  have HH : Hid (Hd H R room nr xs w) := h
  clear h
  go_enter Tryz.func206, Tryz.ntmps206
  go_wp2_with (first | (go_at_call 220; refine hp.mono ?_; clear hp; rintro e w' ⟨rfl, hr, hk⟩))
  go_ret
  exact ⟨rfl, HH.out.kr hr hk, hk⟩
theorem push_full (H R room : Nat) (nr n : Int) (xs : List Int) (w : World) (h : Hd H R room nr xs w) (hl : xs.length = room) :
    Calls Tryz.prog 206 #[.pointer (some ⟨H, 0, none⟩), .int .i64 n] w fun e w' => (∃ v, e = .returned v ∧ RowZ w.heap.size w' v (xs.take ((xs.length + 1) / 2))) ∧ Hd H R room nr (xs.drop ((xs.length + 1) / 2) ++ [n]) w' ∧ Kr R w w' := by
  have hp := Push_full R room xs n w h.ring hl
  have hc := h.c1
  have hll : (xs.drop ((xs.length + 1) / 2)).length < room := by have := h.one; simp; omega
  have HH : Hid (Hd H R room nr xs w) := h
  have HF : Hid (∀ w1, Rg R room xs w1 → Calls Tryz.prog 209 #[.pointer (some ⟨R, 0, none⟩)] w1 fun e w' => (∃ v, e = .returned v ∧ RowZ w1.heap.size w' v (xs.take ((xs.length + 1) / 2))) ∧ Rg R room (xs.drop ((xs.length + 1) / 2)) w' ∧ Kr R w1 w') := fun w1 => Half_any R room xs w1
  clear h hl
  generalize xs.take ((xs.length + 1) / 2) = o at *
  generalize xs.drop ((xs.length + 1) / 2) = r at *
  go_enter Tryz.func206, Tryz.ntmps206
  go_wp2_with fail
  refine hp.mono ?_
  clear hp hc
  rintro e w1 ⟨rfl, hr1, hk1⟩
  unfold errV
  have hH1 := HH.out.kr hr1 hk1
  have hc := hH1.c1
  have hha := HF.out w1 hr1
  have HH1 : Hid (Hd H R room nr xs w1) := hH1
  clear hH1
  go_wp2_with fail
  refine hha.mono ?_
  clear hha hc
  rintro e w2 ⟨⟨v, rfl, hv⟩, hr2, hk2⟩
  have hH2 := HH1.out.kr hr2 hk2
  have hc := hH2.c1
  have hp := Push_one R room _ n w2 hr2 hll
  have HH2 : Hid (Hd H R room nr r w2) := hH2
  have HV : Hid (RowZ w1.heap.size w2 v o) := hv
  clear hH2 hv
  obtain ⟨a, c, rfl⟩ : ∃ a c, v = .slice a o.length c := by obtain ⟨b, c, hv, _⟩ := HV.out; exact ⟨_, c, hv⟩
  go_wp2_with fail
  refine hp.mono ?_
  clear hp hc
  rintro e w3 ⟨rfl, hr3, hk3⟩
  go_wp2
  go_ret
  exact ⟨⟨_, rfl, (HV.out.kr hk3 (HH1.out.ring.lt)).mono hk1.size⟩, HH2.out.kr hr3 hk3, (hk1.trans hk2).trans hk3⟩

/-- What goes out at a Put, and the ring behind it. -/
def putO (room : Nat) (nr : Int) (xs : List Int) : List Int := if nr = -1 ∨ xs.length < room then [] else xs.take ((xs.length + 1) / 2)
def putR (room : Nat) (nr : Int) (xs : List Int) : List Int := if nr = -1 then xs else if xs.length < room then xs ++ [nr] else xs.drop ((xs.length + 1) / 2) ++ [nr]

theorem Put_any (H R room : Nat) (nr : Int) (xs : List Int) (n : Nat) (w : World) (h : Hd H R room nr xs w) :
    Calls Tryz.prog 184 #[.pointer (some ⟨H, 0, none⟩), .int .i64 n] w fun e w' => (∃ v, e = .returned v ∧ OutZ w.heap.size w' v (putO room nr xs)) ∧ Hd H R room n (putR room nr xs) w' ∧ Kh H R w w' := by
  have hn0 : ¬ (n : Int) < 0 := by omega
  have hc := h.c0
  have hf := h.row.frozen 0
  have HH : Hid (Hd H R room nr xs w) := h
  have hHlt := h.row.lt
  by_cases hnr : nr = -1
  · subst hnr
    clear h
    go_enter Tryz.func184, Tryz.ntmps184
    go_wp2
    go_ret
    refine ⟨⟨_, rfl, Or.inl ⟨by simp [putO], rfl⟩⟩, ?_, (Kh.refl _ _ _).setH _ _⟩
    simp only [putR, if_true]
    exact HH.out.set _ (Or.inr (by omega))
  · have hne : (nr != -1) = true := by simp [hnr]
    by_cases hl : xs.length < room
    · have hp := push_room H R room nr nr xs w h hl
      have HL : Hid (¬ nr = -1 ∧ xs.length < room) := ⟨hnr, hl⟩
      clear h hl hnr
      go_enter Tryz.func184, Tryz.ntmps184
      go_wp2_with fail
      refine hp.mono ?_
      clear hp hc hf
      rintro e w1 ⟨rfl, hH1, hk1⟩
      have hf := hH1.row.frozen 0
      have hc := hH1.c0
      have HH1 : Hid (Hd H R room nr (xs ++ [nr]) w1) := hH1
      clear hH1
      go_wp2
      go_ret
      refine ⟨⟨_, rfl, Or.inl ⟨by simp [putO, HL.out], rfl⟩⟩, ?_, (hk1.kh H).setH _ _⟩
      simp only [putR, HL.out, if_false, if_true]
      exact HH1.out.set _ (Or.inr (by omega))
    · have hp := push_full H R room nr nr xs w h (by have := h.ring.le; omega)
      have HL : Hid (¬ nr = -1 ∧ ¬ xs.length < room) := ⟨hnr, hl⟩
      have hpo : putO room nr xs = xs.take ((xs.length + 1) / 2) := by simp [putO, HL.out]
      have hpr : putR room nr xs = xs.drop ((xs.length + 1) / 2) ++ [nr] := by simp [putR, HL.out]
      rw [hpo, hpr]
      clear h hl hnr hpo hpr
      generalize xs.take ((xs.length + 1) / 2) = o at *
      generalize xs.drop ((xs.length + 1) / 2) ++ [nr] = r at *
      go_enter Tryz.func184, Tryz.ntmps184
      go_wp2_with fail
      refine hp.mono ?_
      clear hp hc hf
      rintro e w1 ⟨⟨v, rfl, hv⟩, hH1, hk1⟩
      have hf := hH1.row.frozen 0
      have hc := hH1.c0
      have HH1 : Hid (Hd H R room nr r w1) := hH1
      have HV : Hid (OutZ w.heap.size w1 v o) := Or.inr hv
      obtain ⟨a, c, rfl⟩ : ∃ a c, v = .slice a o.length c := by obtain ⟨b, c, hv, _⟩ := hv; exact ⟨_, c, hv⟩
      clear hH1 hv
      go_wp2
      go_ret
      exact ⟨⟨_, rfl, HV.out.set hHlt _⟩, HH1.out.set _ (Or.inr (by omega)), (hk1.kh H).setH _ _⟩

theorem Take_near (H R room : Nat) (nr : Int) (xs : List Int) (w : World) (h : Hd H R room nr xs w) (hnr : nr ≠ -1) :
    Calls Tryz.prog 157 #[.pointer (some ⟨H, 0, none⟩)] w fun e w' => e = .returned (.tuple #[.int .i64 nr, .nilIface]) ∧ Hd H R room (-1) xs w' ∧ Kh H R w w' := by
  have hc := h.c0
  have hf := h.row.frozen 0
  have HH : Hid (Hd H R room nr xs w) := h
  have hne : (nr == -1) = false := by simp [hnr]
  clear h hnr
  go_enter Tryz.func157, Tryz.ntmps157
  go_wp2
  go_ret2
  exact ⟨rfl, HH.out.set _ (Or.inl rfl), (Kh.refl _ _ _).setH _ _⟩
theorem Take_one (H R room : Nat) (x : Int) (xs : List Int) (w : World) (h : Hd H R room (-1) (xs ++ [x]) w) :
    Calls Tryz.prog 157 #[.pointer (some ⟨H, 0, none⟩)] w fun e w' => e = .returned (.tuple #[.int .i64 x, .nilIface]) ∧ Hd H R room (-1) xs w' ∧ Kh H R w w' := by
  have hc := h.c0
  have hc1 := h.c1
  have hp := Pop_one R room x xs w h.ring
  have HH : Hid (Hd H R room (-1) (xs ++ [x]) w) := h
  clear h
  go_enter Tryz.func157, Tryz.ntmps157
  go_wp2_with (first | (go_at_call 186; refine hp.mono ?_; clear hp; rintro e w' ⟨rfl, hr, hk⟩))
  go_ret2
  exact ⟨rfl, HH.out.kr hr hk, hk.kh H⟩
theorem Take_none (H R room : Nat) (w : World) (h : Hd H R room (-1) [] w) :
    Calls Tryz.prog 157 #[.pointer (some ⟨H, 0, none⟩)] w fun e w' => e = .returned (.tuple #[.int .i64 0, errV 5]) ∧ w' = w := by
  have hc := h.c0
  have hc1 := h.c1
  have hp := Pop_none R room w h.ring
  clear h
  go_enter Tryz.func157, Tryz.ntmps157
  go_wp2_with (first | (go_at_call 186; refine hp.mono ?_; clear hp; rintro e w' ⟨rfl, rfl⟩))
  go_ret2
  exact ⟨rfl, rfl⟩
theorem Rob_any (H R room : Nat) (nr : Int) (xs : List Int) (w : World) (h : Hd H R room nr xs w) :
    Calls Tryz.prog 188 #[.pointer (some ⟨H, 0, none⟩)] w fun e w' => (∃ v, e = .returned v ∧ RowZ w.heap.size w' v (xs.take ((xs.length + 1) / 2))) ∧ Hd H R room nr (xs.drop ((xs.length + 1) / 2)) w' ∧ Kh H R w w' := by
  have hc1 := h.c1
  have hp := Half_any R room xs w h.ring
  have HH : Hid (Hd H R room nr xs w) := h
  clear h
  go_enter Tryz.func188, Tryz.ntmps188
  go_wp2_with (first | (go_at_call 209; refine hp.mono ?_; clear hp; rintro e w' ⟨⟨v, rfl, hv⟩, hr, hk⟩))
  go_ret
  exact ⟨⟨_, rfl, hv⟩, HH.out.kr hr hk, hk.kh H⟩
/-- All that a hand has. -/
def allH (nr : Int) (xs : List Int) : List Int := if nr = -1 then xs else xs ++ [nr]
end Go.Proofs.YtlfbdjeojgbniaaGreatDoor.Hnd
