/- What JoinPlays has in memory: a join, and what is done. -/
import Derived.Test.YtabmagmgoaiehaaDoorU
namespace Go.Proofs.YtabmagmgoaiehaaDoor
open Go.RowKit Go.Deep

theorem below_drewN {B : Nat} {w w' : World} (h : Below B w w') (q : Nat) : Below B w (w'.drewN q) := ⟨h.os, h.tape, h.output, h.size, h.block⟩
theorem JnT.drewN {J M A D C : Nat} {ts : List (Int × List Int)} {S : Nat → Bool} {w : World} (h : JnT J M A D C ts S w) (q : Nat) : JnT J M A D C ts S (w.drewN q) :=
  Jn.later h (below_drewN (Below.refl _ _) q)

theorem rowIs_type {w : World} {b n n' : Nat} {t t' : TypeId} {f f' : Nat → Value} (h : w.rowIs b t n f) (h' : w.rowIs b t' n' f') : t = t' := by
  obtain ⟨c, hb, _⟩ := h
  obtain ⟨c', hb', _⟩ := h'
  rw [hb] at hb'
  simp at hb'
  exact hb'.2
theorem DoneAt.not_row {w : World} {B n n' : Nat} {S : Nat → Bool} {t : TypeId} {f : Nat → Value} (h : DoneAt w B n S) (h' : w.rowIs B t n' f) : False := by
  obtain ⟨m, D, ⟨es, clock, hb, _⟩, _⟩ := h
  obtain ⟨c, hb', _⟩ := h'
  rw [hb] at hb'
  simp at hb'
theorem RowI.not_row {C b n : Nat} {w : World} {v : Value} {zs : List Int} {t : TypeId} {f : Nat → Value} (h : RowI C w v zs) (hb : v.ownBlock = some b) (h' : w.rowIs b t n f) : t = 3 := by
  rcases h.2 with ⟨rfl, _⟩ | ⟨g, cap, cur, rfl, _, hh, _⟩
  · simp [Value.ownBlock] at hb
  · simp only [Value.ownBlock, Option.some.injEq] at hb
    subst hb
    obtain ⟨c, hb', _⟩ := h'
    rw [hh] at hb'
    simp at hb'
    exact hb'.2.symm
/-- A join feels nothing of bools that are written. -/
theorem Jn.setBool {J M A D C n T n' x : Nat} {miss : Nat → Nat} {aft : Nat → List Nat} {S : Nat → Bool} {w : World} {f : Nat → Value} (h : Jn J M A D C n miss aft S w) (hT : w.rowIs T 4 n' f) (u : Value) : Jn J M A D C n miss aft S (w.setCell ⟨T, x, none⟩ u) := by
  have keep : ∀ k, k ≠ T → (w.setCell ⟨T, x, none⟩ u).heap[k]? = w.heap[k]? := fun k hk => Below.heap_setCell _ _ _ _ (by show k ≠ T; exact hk)
  obtain ⟨av, ha⟩ := h.aft
  refine ⟨h.row.of_block (keep J ?_), h.miss.of_block (keep M ?_), ⟨av, ha.row.of_block (keep A ?_), fun k hk => (ha.own k hk).of_blocks (fun b hb => keep b ?_)⟩, h.done.of_block (keep D ?_), h.lt, h.ne, h.le⟩
  · rintro rfl; exact absurd (rowIs_type h.row hT) (by decide)
  · rintro rfl; exact absurd (rowIs_type h.miss hT) (by decide)
  · rintro rfl; exact absurd (rowIs_type ha.row hT) (by decide)
  · rintro rfl; exact absurd ((ha.own k hk).not_row hb hT) (by decide)
  · rintro rfl; exact h.done.not_row hT

/-- What JoinEnds has in memory: a join, and what was told. -/
structure EM (J M A D C T : Nat) (ts : List (Int × List Int)) (S td : Nat → Bool) (w wr : World) : Prop where
  jn : JnT J M A D C ts S wr
  row : wr.rowIs T 4 ts.length (fun k => .bool (td k))
  low : w.heap.size ≤ M ∧ w.heap.size ≤ A ∧ w.heap.size ≤ D ∧ w.heap.size ≤ T
  up : M < T ∧ A < T ∧ D < T
  below : Below w.heap.size w wr
/-- A row that is new stays while a join turns. -/
theorem RowI.turned {J M A D C T : Nat} {ts : List (Int × List Int)} {S td : Nat → Bool} {w wr w' : World} {v : Value} {zs : List Int} (hr : RowI (T + 1) wr v zs) (h : EM J M A D C T ts S td w wr) (hk : Kx (fun k => k = M ∨ k = A ∨ k = D) wr w') : RowI (T + 1) w' v zs :=
  hr.of_blocks (fun b hb => hk.block b (hr.low hb).2 (by have := (hr.low hb).1; have := h.up; rintro (e | e | e) <;> omega))
section
variable {J M A D C T : Nat} {ts : List (Int × List Int)} {S td : Nat → Bool} {w wr w' : World}
theorem EM.later (h : EM J M A D C T ts S td w wr) (hb : Below wr.heap.size wr w') : EM J M A D C T ts S td w w' :=
  ⟨Jn.later h.jn hb, h.row.of_block (hb.block _ h.row.lt), h.low, h.up, h.below.trans (hb.mono h.below.size)⟩
theorem EM.congr {td' : Nat → Bool} (h : EM J M A D C T ts S td w wr) (e : ∀ k, k < ts.length → td k = td' k) : EM J M A D C T ts S td' w wr :=
  ⟨h.jn, h.row.congr (fun k hk => by rw [e k hk]), h.low, h.up, h.below⟩
theorem EM.done {S2 : Nat → Bool} (h : EM J M A D C T ts S td w wr) (hj : JnT J M A D C ts S2 w') (hk : Kx (fun k => k = M ∨ k = A ∨ k = D) wr w') : EM J M A D C T ts S2 td w w' := by
  obtain ⟨l1, l2, l3, l4⟩ := h.low
  refine ⟨hj, h.row.of_block (hk.block T h.row.lt ?_), h.low, h.up, h.below.trans (hk.below (fun j e => by rcases e with e | e | e <;> omega) h.below.size)⟩
  rintro (rfl | rfl | rfl)
  · exact absurd (rowIs_type (Jn.miss h.jn) h.row) (by decide)
  · obtain ⟨av, ha⟩ := Jn.aft h.jn
    exact absurd (rowIs_type ha.row h.row) (by decide)
  · exact (Jn.done h.jn).not_row h.row
theorem EM.mark (h : EM J M A D C T ts S td w wr) (k : Nat) : EM J M A D C T ts S (mark td k) w (wr.setCell ⟨T, k, none⟩ (.bool true)) :=
  ⟨Jn.setBool h.jn h.row _, (h.row.set k _).congr (fun j _ => by unfold Go.Proofs.YtabmagmgoaiehaaDoor.mark; split <;> simp_all), h.low, h.up, h.below.setCell h.low.2.2.2 _⟩
end

end Go.Proofs.YtabmagmgoaiehaaDoor
