/- The document's own Free and Order, as the statement's package has them. -/
import Derived.Test.YtkbcjhmcbfppkaaDoorM
import Derived.Test.YtkbcjhmcbfppkaaDoorK
namespace Go.Proofs.YtkbcjhmcbfppkaaDoor
open Go.RowKit Go.Deep

theorem owned_shape {w : World} {base : Nat} {v : Value} {n : Nat} {xs : List Value} (h : w.ownsRow base 3 1 v n xs) : ∃ a c, v = .slice a n c := by
  rcases h.2 with ⟨h1, h2⟩ | ⟨g, cap, cur, hv, _⟩
  · exact ⟨none, 0, by rw [h1, h2]⟩
  · exact ⟨_, _, hv⟩

def missing (ts : List (Int × List Int)) (T : Nat → Bool) (k : Nat) : Bool := (needsOf ts k).any (fun y => !T y.toNat)

theorem freeB_eq (ts : List (Int × List Int)) (T : Nat → Bool) (k : Nat) : freeB ts T k = (!T k && !missing ts T k) := rfl

theorem unseen_all (S : Nat → Bool) (n : Nat) (h : unseen S n = 0) : ∀ k, k < n → S k = true := by
  induction n with
  | zero => intro k hk; omega
  | succ n ih =>
    intro k hk
    unfold unseen at h
    by_cases e : k = n
    · subst e
      cases hs : S k with
      | true => rfl
      | false => rw [hs] at h; simp at h
    · exact ih (by omega) k (by omega)

def OrdMem (N n : Nat) (w wr : World) (s : Value) (ord : List Nat) : Prop :=
  wr.ownsRow (N + 1) 3 1 s ord.length (ord.map natV) ∧ wr.rowIs N 4 n (fun k => .bool (has ord k)) ∧ Below N w wr
theorem OrdMem.later {N n : Nat} {w wr w' : World} {s : Value} {ord : List Nat} (h : OrdMem N n w wr s ord) (hb : Below wr.heap.size wr w') : OrdMem N n w w' s ord :=
  ⟨h.1.kept (row := none) ⟨hb.os, hb.tape, hb.output, hb.size, fun k hk _ => hb.block k hk⟩ (by cases s.ownBlock <;> simp), h.2.1.of_block (hb.block N h.2.1.lt), h.2.2.trans (hb.mono (Nat.le_of_lt h.2.1.lt))⟩
theorem OrdMem.bools {N n : Nat} {w wr : World} {s : Value} {ord : List Nat} (h : OrdMem N n w wr s ord) : BoolsAt wr (.slice (some ⟨N, 0, none⟩) n n) n (has ord) :=
  ⟨N, 0, n, rfl, h.2.1.lt, fun k hk => by rw [Nat.zero_add]; exact h.2.1.cell hk⟩

theorem need_lt {ts : List (Int × List Int)} (hr : InRange ts) {x y : Nat} (hx : x < ts.length) (h : Need ts x y) : y < ts.length := by
  have := hr x hx _ h; omega
end Go.Proofs.YtkbcjhmcbfppkaaDoor
