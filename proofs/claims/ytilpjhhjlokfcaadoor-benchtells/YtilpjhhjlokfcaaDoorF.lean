/- The contract of Order. -/
import Derived.Test.YtilpjhhjlokfcaaDoorE
namespace Go.Proofs.YtilpjhhjlokfcaaDoor
open Go.RowKit

def has (l : List Nat) (x : Nat) : Bool := l.contains x

theorem mark_has (l : List Nat) (y : Nat) : mark (has l) y = has (l ++ [y]) := by
  funext x
  unfold mark has
  by_cases e : x = y
  · subst e; simp
  · simp [e]

/-- An order so far: each could be next, of several the least. -/
def Ords (ts : List (Int × List Int)) (ord : List Nat) : Prop := ∀ m, m < ord.length → NextIs ts (has (ord.take m)) (ord.getD m 0 : Nat)

/-- A whole order: nothing could be next. -/
def OrdIs (ts : List (Int × List Int)) (ord : List Nat) : Prop := Ords ts ord ∧ NextIs ts (has ord) (-1)

theorem Ords.nil (ts : List (Int × List Int)) : Ords ts [] := fun m hm => by simp at hm
theorem Ords.snoc {ts : List (Int × List Int)} {ord : List Nat} {y : Nat} (h : Ords ts ord) (hn : NextIs ts (has ord) (y : Nat)) : Ords ts (ord ++ [y]) := by
  intro m hm
  simp at hm
  by_cases e : m = ord.length
  · subst e; simpa using hn
  · have hlt : m < ord.length := by omega
    have := h m hlt
    rw [List.take_append_of_le_length (by omega), show (ord ++ [y]).getD m 0 = ord.getD m 0 by simp [List.getElem?_append_left hlt]]
    exact this

theorem NextIs.pos {ts : List (Int × List Int)} {T : Nat → Bool} {r : Int} (h : NextIs ts T r) (hr : 0 ≤ r) : ∃ k : Nat, r = k ∧ k < ts.length ∧ T k = false := by
  cases h using NextIs.elim with
  | some k hk _ hf => exact ⟨k, rfl, hk, by unfold freeB at hf; simp at hf; exact hf.1⟩
  | none => omega
theorem NextIs.neg {ts : List (Int × List Int)} {T : Nat → Bool} {r : Int} (h : NextIs ts T r) (hr : ¬ 0 ≤ r) : r = -1 := by
  cases h using NextIs.elim with
  | some k => omega
  | none => rfl

def intsOf (l : List Nat) : List Int := l.map Int.ofNat
theorem intsOf_length (l : List Nat) : (intsOf l).length = l.length := by simp [intsOf]
theorem intsOf_getD (l : List Nat) (k : Nat) : (intsOf l).getD k 0 = ((l.getD k 0 : Nat) : Int) := by
  unfold intsOf
  by_cases h : k < l.length
  · simp [h]
  · simp [List.getElem?_eq_none (Nat.le_of_not_lt h)]

theorem CheckIs.ok {ts : List (Int × List Int)} {p q : Int} (h : CheckIs ts p q) (hq : q = 0) : p = 0 ∧ ts.length ≤ 30 ∧ (∀ j, j < ts.length → errOf ts j = 0) ∧ ∀ j, j < ts.length → ¬ Reach ts j j := by
  cases h using CheckIs.elim with
  | full => omega
  | task k _ _ _ h => exact absurd hq h
  | ring => omega
  | none h1 h2 h3 => exact ⟨rfl, h1, h2, h3⟩

theorem ints_of_owns {w : World} {base : Nat} {v : Value} {ord : List Nat} (h : w.ownsRow base 3 1 v ord.length (ord.map natV)) (hl : ord.length * 8 ≤ 140737488351232) : IntsAt w v (intsOf ord) := by
  refine ⟨by rw [intsOf_length]; exact hl, ?_⟩
  rw [intsOf_length]
  rcases h.2 with ⟨hv, h0⟩ | ⟨g, cap, cur, hv, hg, hh, hn, hcap, hsz, htake⟩
  · exact ⟨none, 0, by rw [hv, h0], Or.inl (by rw [List.eq_nil_of_length_eq_zero h0]; rfl)⟩
  · refine ⟨some ⟨g, 0, none⟩, cap, hv, ?_⟩
    right
    refine ⟨g, 0, rfl, lt_of_block hh, fun k hk => ?_⟩
    subst hv
    have := World.ownsRow.cellAt h k (by omega)
    rw [Nat.zero_add, this, intsOf_getD]
    simp [natV, hk]

theorem DfsMem.later {N n : Nat} {w wr w' : World} {s6 : Value} {S : Nat → Bool} {st : List Nat} (h : DfsMem N n w wr s6 S st) (hb : Below wr.heap.size wr w') : DfsMem N n w w' s6 S st := {
  own := h.own.kept (row := none) ⟨hb.os, hb.tape, hb.output, hb.size, fun k hk _ => hb.block k hk⟩ (by cases s6.ownBlock <;> simp)
  shape := h.shape
  row := h.row.of_block (hb.block N h.row.lt)
  below := h.below.trans (hb.mono (Nat.le_of_lt h.row.lt))
  }

theorem DfsMem.bools {N n : Nat} {w wr : World} {s6 : Value} {S : Nat → Bool} {st : List Nat} (h : DfsMem N n w wr s6 S st) : BoolsAt wr (.slice (some ⟨N, 0, none⟩) n n) n S :=
  ⟨N, 0, n, rfl, h.row.lt, fun k hk => by rw [Nat.zero_add]; exact h.row.cell hk⟩

theorem DfsMem.startOrder (w : World) (n : Nat) (hn : n ≤ 1000000000) : DfsMem w.heap.size n w ((w.alloc (.cells (madeCells #[.bool false] n) 4)).alloc (.cells (madeCells #[.int .i64 0] n) 3)) (.slice (some ⟨w.heap.size + 1, 0, none⟩) 0 n) (has []) [] := {
  own := by
    have h := World.ownsRow_made (base := w.heap.size + 1) (e := 3) (size := 1) (w.alloc (.cells (madeCells #[.bool false] n) 4)) (madeCells #[.int .i64 0] n) n (by simp) (by unfold maxLen; omega) (by rw [size_madeCells]; omega)
    simpa using h
  shape := ⟨_, _, rfl⟩
  row := ((World.rowIs_made w (.bool false) n 4).congr (fun k _ => by simp [has])).alloc _
  below := ((Below.refl _ _).alloc (Nat.le_refl _) _).alloc (by simp) _
  }

end Go.Proofs.YtilpjhhjlokfcaaDoor
