/- The contracts of New, Put, Len. -/
import Derived.Test.YthbcgehmnhlahaaSplB
import Derived.BigQuiet
namespace Go.Proofs.Ythbcgehmnhlahaa.Spl
open Go.RowKit Go.Deep

def errV (k : Int) : Value := .iface 58 (.int .i64 k)

theorem New_bad (room : Int) (w : World) (h : room < 1 ∨ 16 < room) : Calls Try.prog 9 #[.int .i64 room] w fun e w' => e = .returned (.tuple #[.pointer none, errV 1]) ∧ w' = w := by
  by_cases h1 : room < 1
  · go_enter Try.func9, Try.ntmps9
    go_wp2
    go_ret2
    exact ⟨rfl, rfl⟩
  · have h2 : 16 < room := by omega
    go_enter Try.func9, Try.ntmps9
    go_wp2
    go_ret2
    exact ⟨rfl, rfl⟩
theorem New_good (room : Nat) (w : World) (h1 : 1 ≤ room) (h2 : room ≤ 16) : Calls Try.prog 9 #[.int .i64 room] w fun e w' => e = .returned (.tuple #[.pointer (some ⟨w.heap.size, 0, none⟩), .nilIface]) ∧ Sp w.heap.size room [] (.slice none 0 0) w' ∧ Below w.heap.size w w' := by
  have g1 : ¬ (room : Int) < 1 := by omega
  have g2 : ¬ (16 : Int) < (room : Int) := by omega
  go_enter Try.func9, Try.ntmps9
  go_wp2
  go_ret2
  refine ⟨rfl, ⟨?_, RowI.nil _ _, by simp⟩, (Below.refl _ _).alloc (Nat.le_refl _) _⟩
  exact heap_alloc_new w _

theorem drew_drewN (w : World) (n : Nat) : w.drew.drewN n = w.drewN (n + 1) := by
  show ({ w with drawn := w.drawn + 1 + n } : World) = { w with drawn := w.drawn + (n + 1) }
  rw [Nat.add_assoc, Nat.add_comm 1 n]
/-- A row is where it was, or in a new block. -/
def Near (n : Nat) (v v' : Value) : Prop := ∀ k, v'.ownBlock = some k → v.ownBlock = some k ∨ n ≤ k

theorem Put_full (S room : Nat) (xs ys : List Int) (v lv : Value) (A : Nat → Prop) (w : World) (h : Sp S room xs v w) (hl : Rds A w lv ys) (hf : 60 < xs.length + ys.length) :
    Calls Try.prog 11 #[.pointer (some ⟨S, 0, none⟩), lv] w fun e w' => e = .returned (errV 4) ∧ w' = w := by
  have hc := h.c0
  have hle := h.le
  obtain ⟨a, c, rfl⟩ := h.row.shape
  obtain ⟨a', c', rfl⟩ := hl.shape
  have hgt : (60 : Int) - xs.length < ys.length := by omega
  clear h hl
  go_enter Try.func11, Try.ntmps11
  go_wp2
  go_ret
  exact ⟨rfl, rfl⟩
theorem Put_good (S room : Nat) (xs ys : List Int) (v lv : Value) (A : Nat → Prop) (w : World) (h : Sp S room xs v w) (hl : Rds A w lv ys) (hf : xs.length + ys.length ≤ 60) :
    Calls Try.prog 11 #[.pointer (some ⟨S, 0, none⟩), lv] w fun e w' => e = .returned .nilIface ∧ ∃ v', Sp S room (xs ++ ys) v' w' ∧ Ks S v.ownBlock w w' ∧ Near w.heap.size v v' := by
  have HS : Hid (Sp S room xs v w) := h
  have HL : Hid (Rds A w lv ys) := hl
  have hc := h.c0
  have hle := h.le
  have hlt := h.lt
  have hz := h.fz 0
  obtain ⟨a, c, rfl⟩ := h.row.shape
  obtain ⟨a', c', rfl⟩ := hl.shape
  have hgt : ¬ (60 : Int) - xs.length < ys.length := by omega
  clear h hl
  go_enter Try.func11, Try.ntmps11
  go_wp2_with (first | (at_builtin; refine wpList_append_rows rfl (.tmp 19) (.tmp 20) rfl (S + 1) A (.slice a xs.length c) (.slice a' ys.length c') xs ys rfl rfl HS.out.row HL.out (by omega) (by omega) ?_; intro v2 w2 hown hgr hat; obtain ⟨a2, c2, rfl⟩ := hown.shape; rw [List.length_append] at hown hat; have hbk := hgr.block S hlt (fun e => by have := (HS.out.row.low e.symm).1; omega); have hz2 := (World.frozen?_of_block (a := ⟨S, 0, none⟩) hbk).trans hz; have hc2 := (World.cell?_of_block (a := ⟨S, 0, none⟩) hbk).trans hc; clear hc hz))
  go_ret
  refine ⟨rfl, _, HS.out.set hbk hown (by simp; omega), ((Ks.refl _ _ _).grown hgr (fun j e => Or.inl e)).setS _ _, fun k e => ?_⟩
  rcases hat with h1 | h1
  · exact Or.inl (h1.symm.trans e)
  · rw [h1] at e
    simp only [Option.some.injEq] at e
    exact Or.inr (by omega)
end Go.Proofs.Ythbcgehmnhlahaa.Spl
