/- The contract of Push. -/
import Derived.Test.YthbcgehmnhlahaaHndB
import Derived.Deep.RegionWith
import Derived.BigRegion
import Derived.Deep.QuietTactic
import Derived.BigQuiet
import Derived.WalkSmall
namespace Go.Proofs.Ythbcgehmnhlahaa.Hnd
open Go.RowKit Go.Deep

theorem Push_full (R room : Nat) (xs : List Int) (n : Int) (w : World) (h : Rg R room xs w) (hl : xs.length = room) : Calls Try.prog 48 #[.pointer (some ⟨R, 0, none⟩), .int .i64 n] w fun e w' => e = .returned (errV 4) ∧ Rg R room xs w' ∧ Kr R w w' := by
  have HR : Hid (Rg R room xs w) := h
  obtain ⟨g, f, h⟩ := h
  have h18 := h.row.cell (i := 18) (by omega)
  have h16 := h.row.cell (i := 16) (by omega)
  unfold intRow at h18 h16
  rw [h.count, hl] at h18
  rw [h.rm] at h16
  have he : ((room : Int) == (room : Int)) = true := by simp
  clear h
  go_enter Try.func48, Try.ntmps48
  go_wp2
  go_quiet (fail)
  go_wp2
  go_ret
  exact ⟨rfl, HR.out.drewN _, (Kr.refl _ _).drewN _⟩

set_option maxHeartbeats 1000000 in
theorem Push_one (R room : Nat) (xs : List Int) (n : Int) (w : World) (h : Rg R room xs w) (hl : xs.length < room) : Calls Try.prog 48 #[.pointer (some ⟨R, 0, none⟩), .int .i64 n] w fun e w' => e = .returned .nilIface ∧ Rg R room (xs ++ [n]) w' ∧ Kr R w w' := by
  obtain ⟨g, f, h⟩ := h
  have HS : Hid (RgS R g f room xs w) := h
  have hle := h.le
  have hr16 := h.r16
  have h18 := h.row.cell (i := 18) (by omega)
  have h16 := h.row.cell (i := 16) (by omega)
  unfold intRow at h18 h16
  rw [h.count] at h18
  rw [h.rm] at h16
  have f18 := h.row.frozen 18
  have hne : ((xs.length : Int) == (room : Int)) = false := by simp; omega
  obtain ⟨q, hq⟩ : ∃ q, q = (f + xs.length) % 16 := ⟨_, rfl⟩
  have hq16 : q < 16 := by omega
  have hpl : ∀ k, Calls Try.prog 45 #[.pointer (some ⟨R, 0, none⟩), .int .i64 xs.length] (w.drewN k) fun e w' => e = .returned (.int .i64 (q : Nat)) ∧ w' = w.drewN k := fun k => by
    rw [hq]
    exact place_any R g f xs.length (w.drewN k) (h.row.of_block rfl) h.first h.fl (by omega)
  have hcq := h.row.cell (i := q) (by omega)
  have fq := h.row.frozen q
  unfold intRow at hcq
  have HQ : Hid (q = (f + xs.length) % 16) := hq
  have hq18 : ¬ q = 18 := by omega
  clear h hq
  go_enter Try.func48, Try.ntmps48
  go_wp2
  go_quiet (fail)
  go_wp2
  go_region_with (go_at_call 45; refine (hpl _).mono ?_; rintro e w' ⟨rfl, rfl⟩)
  go_wp2
  go_ret
  have hS := HS.out
  have hQ := HQ.out
  refine ⟨rfl, ⟨_, f, row_upd (row_upd (hS.row.of_block rfl)), ?_, ?_, ?_, hS.fl, by simp; omega, hr16, ?_⟩, (((Kr.refl _ _).drewN _).setR _ _).setR _ _⟩
  · rw [upd_ne _ _ (by omega), upd_ne _ _ (by omega)]; exact hS.rm
  · rw [upd_ne _ _ (by omega), upd_ne _ _ (by omega)]; exact hS.first
  · rw [upd_at]; simp
  · intro i hi
    simp only [List.length_append, List.length_singleton] at hi
    rw [upd_ne _ _ (by omega)]
    by_cases e : i = xs.length
    · subst e
      rw [← hQ, upd_at, getD_snoc_at]
    · rw [upd_ne _ _ (by omega), hS.has i (by omega), getD_snoc_lt _ _ (by omega)]
end Go.Proofs.Ythbcgehmnhlahaa.Hnd
