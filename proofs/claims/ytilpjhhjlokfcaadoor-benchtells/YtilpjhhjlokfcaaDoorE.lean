/- The contracts of next and its closure. -/
import Derived.Test.YtilpjhhjlokfcaaDoorD
namespace Go.Proofs.YtilpjhhjlokfcaaDoor
open Go.RowKit

/-- A slice value of n bools, the k-th T k. -/
def BoolsAt (w : World) (v : Value) (n : Nat) (T : Nat → Bool) : Prop :=
  ∃ b o c, v = .slice (some ⟨b, o, none⟩) n c ∧ b < w.heap.size ∧ ∀ k, k < n → w.cell? ⟨b, o + k, none⟩ = some (.bool (T k))

theorem BoolsAt.later {w w' : World} {v : Value} {n : Nat} {T : Nat → Bool} (h : BoolsAt w v n T) (hb : Below w.heap.size w w') : BoolsAt w' v n T := by
  obtain ⟨b, o, c, hv, hlt, hc⟩ := h
  exact ⟨b, o, c, hv, Nat.lt_of_lt_of_le hlt hb.size, fun k hk => (hb.cell (p := ⟨b, o + k, none⟩) hlt).trans (hc k hk)⟩

/-- The k-th task can be next: it is not placed, and all that it needs are. -/
def freeB (ts : List (Int × List Int)) (T : Nat → Bool) (k : Nat) : Bool := !T k && !(needsOf ts k).any (fun y => !T y.toNat)

/-- The least task that can be next; -1, if none can. -/
def NextIs (ts : List (Int × List Int)) (T : Nat → Bool) (r : Int) : Prop :=
  (∃ k : Nat, k < ts.length ∧ (∀ j, j < k → freeB ts T j = false) ∧ freeB ts T k = true ∧ r = k) ∨ ((∀ j, j < ts.length → freeB ts T j = false) ∧ r = -1)
theorem NextIs.some {ts : List (Int × List Int)} {T : Nat → Bool} (k : Nat) (h1 : k < ts.length) (h2 : ∀ j, j < k → freeB ts T j = false) (h3 : freeB ts T k = true) : NextIs ts T k := Or.inl ⟨k, h1, h2, h3, rfl⟩
theorem NextIs.none {ts : List (Int × List Int)} {T : Nat → Bool} (h : ∀ j, j < ts.length → freeB ts T j = false) : NextIs ts T (-1) := Or.inr ⟨h, rfl⟩
theorem NextIs.elim {ts : List (Int × List Int)} {T : Nat → Bool} {motive : ∀ r, NextIs ts T r → Prop} (some : ∀ (k : Nat) (h1 : k < ts.length) (h2 : ∀ j, j < k → freeB ts T j = false) (h3 : freeB ts T k = true), motive k (NextIs.some k h1 h2 h3))
    (none : ∀ h : ∀ j, j < ts.length → freeB ts T j = false, motive (-1) (NextIs.none h)) {r : Int} (h : NextIs ts T r) : motive r h := by
  rcases h with ⟨k, h1, h2, h3, rfl⟩ | ⟨h, rfl⟩
  · exact some k h1 h2 h3
  · exact none h

end Go.Proofs.YtilpjhhjlokfcaaDoor
