/- The contracts of takeFirst, New, Push, Pop, Steal, Len. -/
import Derived.Test.YthbcgehmnhlahaaHndA
namespace Go.Proofs.Ythbcgehmnhlahaa.Hnd
open Go.RowKit Go.Deep

theorem empty_rg (R : Nat) (g : Nat → Int) (p : Nat) (w : World) (hr : w.rowIs R 101 19 (intRow g)) (hp : p < 16) :
    Calls Try.prog 44 #[.pointer (some ⟨R, 0, none⟩), .int .i64 p] w fun e w' => e = .returned (.int .i64 (g p)) ∧ w'.rowIs R 101 19 (intRow (upd g p 0)) ∧ Kr R w w' := by
  refine (empty_any R g p w hr hp).mono ?_
  rintro e w' ⟨rfl, rfl⟩
  exact ⟨rfl, row_upd hr, (Kr.refl _ _).setR _ _⟩

set_option maxHeartbeats 1000000 in
theorem takeFirst_any (R : Nat) (room : Nat) (x : Int) (xs : List Int) (w : World) (h : Rg R room (x :: xs) w) :
    Calls Try.prog 49 #[.pointer (some ⟨R, 0, none⟩)] w fun e w' => e = .returned (.int .i64 x) ∧ Rg R room xs w' ∧ Kr R w w' := by
  obtain ⟨g, f, h⟩ := h
  have HS : Hid (RgS R g f room (x :: xs) w) := h
  have h17 := h.row.cell (i := 17) (by omega)
  unfold intRow at h17
  rw [h.first] at h17
  have hfl := h.fl
  have hx : g f = x := by
    have := h.has 0 (by simp)
    rw [Nat.add_zero, Nat.mod_eq_of_lt hfl] at this
    simpa using this
  have he := empty_rg R g f w h.row hfl
  rw [hx] at he
  have hle := h.le
  have hr16 := h.r16
  simp only [List.length_cons] at hle
  clear h hx
  go_enter Try.func49, Try.ntmps49
  go_wp2_with fail
  refine he.mono ?_
  clear he h17
  rintro e w1 ⟨rfl, hr1, hk1⟩
  have hpl := place_any R (upd g f 0) f 1 w1 hr1 (by rw [upd_ne _ _ (by omega)]; exact HS.out.first) hfl (by omega)
  obtain ⟨q, hq⟩ : ∃ q, q = (f + 1) % 16 := ⟨_, rfl⟩
  rw [← hq] at hpl
  have HQ : Hid (q = (f + 1) % 16) := hq
  have f17 := hr1.frozen 17
  have f18 := hr1.frozen 18
  have h17 := hr1.cell (i := 17) (by omega)
  have h18 := hr1.cell (i := 18) (by omega)
  unfold intRow at h17 h18
  rw [upd_ne _ _ (by omega), HS.out.count] at h18
  rw [upd_ne _ _ (by omega), HS.out.first] at h17
  have HR1 : Hid (w1.rowIs R 101 19 (intRow (upd g f 0))) := hr1
  simp only [List.length_cons] at h18
  clear hr1 hq
  go_wp2_with (first | (go_at_call 45; refine hpl.mono ?_; clear hpl; rintro e w' ⟨rfl, rfl⟩))
  go_ret
  refine ⟨rfl, ⟨_, q, row_upd (row_upd HR1.out), ?_, ?_, ?_, ?_, ?_, ?_, ?_⟩, (hk1.setR _ _).setR _ _⟩
  · rw [upd_ne _ _ (by omega), upd_ne _ _ (by omega), upd_ne _ _ (by omega)]; exact HS.out.rm
  · rw [upd_ne _ _ (by omega), upd_at]
  · rw [upd_at]
  · have := HQ.out; omega
  · omega
  · omega
  · intro i hi
    have h2 := HS.out.has (i + 1) (by simp; omega)
    have := HQ.out
    rw [upd_ne _ _ (by omega), upd_ne _ _ (by omega), upd_ne _ _ (by omega), show (q + i) % 16 = (f + (i + 1)) % 16 by omega, h2]
    simp

theorem New_bad (room : Int) (w : World) (h : room < 1 ∨ 16 < room) : Calls Try.prog 29 #[.int .i64 room] w fun e w' => e = .returned (.tuple #[.pointer none, .iface 58 (.int .i64 1)]) ∧ w' = w := by
  by_cases h1 : room < 1
  · go_enter Try.func29, Try.ntmps29
    go_wp2
    go_ret2
    exact ⟨rfl, rfl⟩
  · have h2 : 16 < room := by omega
    go_enter Try.func29, Try.ntmps29
    go_wp2
    go_ret2
    exact ⟨rfl, rfl⟩
theorem New_good (room : Nat) (w : World) (h1 : 1 ≤ room) (h2 : room ≤ 16) : Calls Try.prog 29 #[.int .i64 room] w fun e w' => e = .returned (.tuple #[.pointer (some ⟨w.heap.size, 0, none⟩), .nilIface]) ∧ Rg w.heap.size room [] w' ∧ Below w.heap.size w w' ∧ w'.heap.size = w.heap.size + 1 := by
  have g1 : ¬ (room : Int) < 1 := by omega
  have g2 : ¬ (16 : Int) < (room : Int) := by omega
  go_enter Try.func29, Try.ntmps29
  go_wp2
  go_ret2
  refine ⟨rfl, ⟨fun i => if i = 16 then room else 0, 0, World.rowIs_alloc _ _ _ _ ?_, rfl, rfl, rfl, by omega, Nat.zero_le _, h2, fun i hi => by simp at hi⟩, (Below.refl _ _).alloc (Nat.le_refl _) _, by simp⟩
  intro i hi
  change i < 19 at hi
  rcases (by omega : i = 0 ∨ i = 1 ∨ i = 2 ∨ i = 3 ∨ i = 4 ∨ i = 5 ∨ i = 6 ∨ i = 7 ∨ i = 8 ∨ i = 9 ∨ i = 10 ∨ i = 11 ∨ i = 12 ∨ i = 13 ∨ i = 14 ∨ i = 15 ∨ i = 16 ∨ i = 17 ∨ i = 18) with rfl | rfl | rfl | rfl | rfl | rfl | rfl | rfl | rfl | rfl | rfl | rfl | rfl | rfl | rfl | rfl | rfl | rfl | rfl <;> rfl

def errV (k : Int) : Value := .iface 58 (.int .i64 k)

theorem Pop_none (R room : Nat) (w : World) (h : Rg R room [] w) : Calls Try.prog 34 #[.pointer (some ⟨R, 0, none⟩)] w fun e w' => e = .returned (.tuple #[.int .i64 0, errV 5]) ∧ w' = w := by
  obtain ⟨g, f, h⟩ := h
  have h18 := h.row.cell (i := 18) (by omega)
  unfold intRow at h18
  rw [h.count] at h18
  simp only [List.length_nil] at h18
  clear h
  go_enter Try.func34, Try.ntmps34
  go_wp2
  go_ret2
  exact ⟨rfl, rfl⟩

theorem getD_snoc_lt (xs : List Int) (x : Int) {i : Nat} (h : i < xs.length) : (xs ++ [x]).getD i 0 = xs.getD i 0 := by
  simp [List.getD_eq_getElem?_getD, List.getElem?_append_left h]
theorem getD_snoc_at (xs : List Int) (x : Int) : (xs ++ [x]).getD xs.length 0 = x := by
  simp [List.getD_eq_getElem?_getD]

theorem Pop_one (R room : Nat) (x : Int) (xs : List Int) (w : World) (h : Rg R room (xs ++ [x]) w) : Calls Try.prog 34 #[.pointer (some ⟨R, 0, none⟩)] w fun e w' => e = .returned (.tuple #[.int .i64 x, .nilIface]) ∧ Rg R room xs w' ∧ Kr R w w' := by
  obtain ⟨g, f, h⟩ := h
  have HS : Hid (RgS R g f room (xs ++ [x]) w) := h
  have hle := h.le
  have hr16 := h.r16
  simp only [List.length_append, List.length_singleton] at hle
  have h18 := h.row.cell (i := 18) (by omega)
  have f18 := h.row.frozen 18
  unfold intRow at h18
  rw [h.count] at h18
  simp only [List.length_append, List.length_singleton] at h18
  have hr1 := row_upd (x := 18) (v := (xs.length : Int)) h.row
  have hpl := place_any R _ f xs.length _ hr1 (by rw [upd_ne _ _ (by omega)]; exact h.first) h.fl (by omega)
  obtain ⟨q, hq⟩ : ∃ q, q = (f + xs.length) % 16 := ⟨_, rfl⟩
  rw [← hq] at hpl
  have hem := empty_rg R _ q _ hr1 (by omega)
  have hx : upd g 18 xs.length q = x := by
    rw [upd_ne _ _ (by omega), hq, h.has xs.length (by simp)]
    exact getD_snoc_at xs x
  rw [hx] at hem
  have hne : (((xs.length + 1 : Nat) : Int) == 0) = false := by simp; omega
  have HQ : Hid (q = (f + xs.length) % 16) := hq
  clear h hr1 hq hx
  go_enter Try.func34, Try.ntmps34
  go_wp2_with (first | (go_at_call 45; refine hpl.mono ?_; clear hpl; rintro e w' ⟨rfl, rfl⟩) | (go_at_call 44; refine hem.mono ?_; clear hem; rintro e w' ⟨rfl, hr, hk⟩))
  go_ret2
  refine ⟨rfl, ⟨_, f, hr, ?_, ?_, ?_, HS.out.fl, by omega, hr16, ?_⟩, ((Kr.refl _ _).setR _ _).trans hk⟩
  · rw [upd_ne _ _ (by have := HQ.out; omega), upd_ne _ _ (by omega)]; exact HS.out.rm
  · rw [upd_ne _ _ (by have := HQ.out; omega), upd_ne _ _ (by omega)]; exact HS.out.first
  · rw [upd_ne _ _ (by have := HQ.out; omega), upd_at]
  · intro i hi
    have := HQ.out
    have h2 := HS.out.has i (by simp; omega)
    rw [upd_ne _ _ (by omega), upd_ne _ _ (by omega), h2]
    exact getD_snoc_lt xs x hi
end Go.Proofs.Ythbcgehmnhlahaa.Hnd
