/- The contracts of New, Put, Len. -/
import Derived.Test.YtpmmnkacbebfhaaDoorB
import Derived.BigQuiet
namespace Go.Proofs.YtpmmnkacbebfhaaDoor
open Go.RowKit Go.Deep

def errV (k : Int) : Value := .iface 43 (.int .i64 k)

theorem New_bad (room : Int) (w : World) (h : room < 1 ∨ 16 < room) : Calls Tryd.prog 5 #[.int .i64 room] w fun e w' => e = .returned (.tuple #[.pointer none, errV 1]) ∧ w' = w := by
  by_cases h1 : room < 1
  · go_enter Tryd.func5, Tryd.ntmps5
    go_wp2
    go_ret2
    exact ⟨rfl, rfl⟩
  · have h2 : 16 < room := by omega
    go_enter Tryd.func5, Tryd.ntmps5
    go_wp2
    go_ret2
    exact ⟨rfl, rfl⟩
theorem New_good (room : Nat) (w : World) (h1 : 1 ≤ room) (h2 : room ≤ 16) : Calls Tryd.prog 5 #[.int .i64 room] w fun e w' => e = .returned (.tuple #[.pointer (some ⟨w.heap.size, 0, none⟩), .nilIface]) ∧ Sp w.heap.size room [] (.slice none 0 0) w' ∧ Below w.heap.size w w' := by
  have g1 : ¬ (room : Int) < 1 := by omega
  have g2 : ¬ (16 : Int) < (room : Int) := by omega
  go_enter Tryd.func5, Tryd.ntmps5
  go_wp2
  go_ret2
  refine ⟨rfl, ⟨?_, RowI.nil _ _, by simp⟩, (Below.refl _ _).alloc (Nat.le_refl _) _⟩
  exact heap_alloc_new w _

theorem drew_drewN (w : World) (n : Nat) : w.drew.drewN n = w.drewN (n + 1) := by
  show ({ w with drawn := w.drawn + 1 + n } : World) = { w with drawn := w.drawn + (n + 1) }
  rw [Nat.add_assoc, Nat.add_comm 1 n]
/-- A row is where it was, or in a new block. -/
def Near (n : Nat) (v v' : Value) : Prop := ∀ k, v'.ownBlock = some k → v.ownBlock = some k ∨ n ≤ k

theorem Put_full (S room : Nat) (xs ys : List Int) (v lv : Value) (A : Nat → Prop) (w : World) (h : Sp S room xs v w) (hl : Rds A w lv ys) (hf : 60 < xs.length + ys.length) :
    Calls Tryd.prog 6 #[.pointer (some ⟨S, 0, none⟩), lv] w fun e w' => e = .returned (errV 4) ∧ w' = w := by
  have hc := h.c0
  have hle := h.le
  obtain ⟨a, c, rfl⟩ := h.row.shape
  obtain ⟨a', c', rfl⟩ := hl.shape
  have hgt : (60 : Int) - xs.length < ys.length := by omega
  clear h hl
  go_enter Tryd.func6, Tryd.ntmps6
  go_wp2
  go_ret
  exact ⟨rfl, rfl⟩
theorem Put_good (S room : Nat) (xs ys : List Int) (v lv : Value) (A : Nat → Prop) (w : World) (h : Sp S room xs v w) (hl : Rds A w lv ys) (hf : xs.length + ys.length ≤ 60) :
    Calls Tryd.prog 6 #[.pointer (some ⟨S, 0, none⟩), lv] w fun e w' => e = .returned .nilIface ∧ ∃ v', Sp S room (xs ++ ys) v' w' ∧ Ks S v.ownBlock w w' ∧ Near w.heap.size v v' := by
  have HS : Hid (Sp S room xs v w) := h
  have HL : Hid (Rds A w lv ys) := hl
  have hc := h.c0
  have hle := h.le
  have hlt := h.lt
  have hz := h.fz 0
  obtain ⟨a, c, rfl⟩ := h.row.shape
  obtain ⟨a', c', rfl⟩ := hl.shape
  have hgt : ¬ (60 : Int) - xs.length < ys.length := by omega
  clear h hl
  go_enter Tryd.func6, Tryd.ntmps6
  go_wp2_with (first | (at_builtin; refine wpList_append_rows rfl (.tmp 19) (.tmp 20) rfl (S + 1) A (.slice a xs.length c) (.slice a' ys.length c') xs ys rfl rfl HS.out.row HL.out (by omega) (by omega) ?_; intro v2 w2 hown hgr hat; obtain ⟨a2, c2, rfl⟩ := hown.shape; rw [List.length_append] at hown hat; have hbk := hgr.block S hlt (fun e => by have := (HS.out.row.low e.symm).1; omega); have hz2 := (World.frozen?_of_block (a := ⟨S, 0, none⟩) hbk).trans hz; have hc2 := (World.cell?_of_block (a := ⟨S, 0, none⟩) hbk).trans hc; clear hc hz))
  go_ret
  refine ⟨rfl, _, HS.out.set hbk hown (by simp; omega), ((Ks.refl _ _ _).grown hgr (fun j e => Or.inl e)).setS _ _, fun k e => ?_⟩
  rcases hat with h1 | h1
  · exact Or.inl (h1.symm.trans e)
  · rw [h1] at e
    simp only [Option.some.injEq] at e
    exact Or.inr (by omega)
theorem Len_any (S room : Nat) (xs : List Int) (v : Value) (w : World) (h : Sp S room xs v w) :
    Calls Tryd.prog 7 #[.pointer (some ⟨S, 0, none⟩)] w fun e w' => e = .returned (.tuple #[.int .i64 (min room xs.length : Nat), .int .i64 (xs.length - room : Nat)]) ∧ ∃ q, w' = w.drewN q := by
  have hc := h.c0
  have hc1 := h.c1
  have hle := h.le
  obtain ⟨a, c, rfl⟩ := h.row.shape
  clear h
  by_cases hr : room ≤ xs.length
  · have e1 : min room xs.length = room := by omega
    have e2 : ((xs.length - room : Nat) : Int) = (xs.length : Int) - room := by omega
    rw [e1, e2]
    have e3 : min (room : Int) (xs.length : Int) = room := by omega
    have e4 : (room : Int) ≤ xs.length := by omega
    go_enter Tryd.func7, Tryd.ntmps7
    go_wp2
    go_region
    go_wp2
    go_quiet (fail)
    go_wp2
    go_ret2
    exact ⟨rfl, _, drew_drewN _ _⟩
  · have e1 : min room xs.length = xs.length := by omega
    have e2 : ((xs.length - room : Nat) : Int) = 0 := by omega
    rw [e1, e2]
    have e3 : min (room : Int) (xs.length : Int) = xs.length := by omega
    have e4 : ¬ (room : Int) ≤ xs.length := by omega
    go_enter Tryd.func7, Tryd.ntmps7
    go_wp2
    go_region
    go_wp2
    go_quiet (fail)
    go_wp2
    go_ret2
    exact ⟨rfl, _, drew_drewN _ _⟩
end Go.Proofs.YtpmmnkacbebfhaaDoor
