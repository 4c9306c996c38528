/- A log and a world ahead of it: what is kept; each call in that form. -/
import Derived.Test.YtbknbakbfblbiaaDoorLgi
import Derived.Test.YtbknbakbfblbiaaDoorDt
import Derived.Test.YtbknbakbfblbiaaDoorI
namespace Go.Proofs.YtbknbakbfblbiaaDoor
open Go.RowKit Go.Deep

/-- A log, and what was ahead of it is as it was. -/
def LgW (B L : Nat) (ts : List (Int × List Int)) (s : Ls) (w0 w : World) : Prop := (∃ T X, Lg B T X L ts s w) ∧ Below B w0 w ∧ Typed w0 ∧ 0 < B
variable {B T L : Nat} {ts : List (Int × List Int)} {s s' : Ls} {w0 w w' : World} {X : Nat → Prop}
theorem Lg.leB (h : Lg B T X L ts s w) : B ≤ w.heap.size := by
  obtain ⟨⟨XJ, J, pv, dv, hM⟩, _⟩ := h
  exact hM.leB
theorem Lg.ge (h : Lg B T X L ts s w) : ∀ b, X b → B ≤ b := by
  obtain ⟨⟨XJ, J, pv, dv, hM⟩, _⟩ := h
  exact fun b hb => (hM.lt b hb).2
theorem Lg.le (h : Lg B T X L ts s w) : ts.length ≤ 30 := h.2.2.good.le
theorem LgW.typed (h : LgW B L ts s w0 w) : Typed w := by
  have hp := h.2.2.1
  exact (h.2.1.cell (p := ⟨0, 0, none⟩) (by have := h.2.2.2; show 0 < B; omega)).trans hp
theorem LgW.later (h : LgW B L ts s w0 w) (hb : Below w.heap.size w w') : LgW B L ts s w0 w' := by
  obtain ⟨⟨T, X, hl⟩, h2, h3⟩ := h
  exact ⟨⟨T, X, hl.later hb⟩, h2.trans (hb.mono hl.leB), h3⟩
theorem LgW.to (h : LgW B L ts s w0 w) (hl : Lg B T X L ts s w) (ht : LgTo B T X L ts s' w w') : LgW B L ts s' w0 w' := by
  obtain ⟨X', h1, h2, h3⟩ := ht
  exact ⟨⟨T, X', h1⟩, h.2.1.trans (h2.below hl.ge hl.leB), h.2.2⟩
theorem LgW.ok (h : LgW B L ts s w0 w) : s.Ok ts := by
  obtain ⟨⟨T, X, hl⟩, _⟩ := h
  exact hl.2.1
theorem LgW.below (h : LgW B L ts s w0 w) : Below B w0 w := h.2.1

theorem newW (v : Value) (ts : List (Int × List Int)) (w : World) (hp : PlanAt w v ts) (hck : CheckIs ts 0 0) (ht : Typed w) :
    Calls Tryd.prog 6 #[v] w fun e w' => ∃ L, e = .returned (.tuple #[.pointer (some ⟨L, 0, none⟩), .nilIface]) ∧ LgW w.heap.size L ts Ls.new w w' := by
  refine (newL_good v ts w hp hck).mono ?_
  rintro e w' ⟨⟨L, X, T, rfl, hl⟩, hb⟩
  exact ⟨L, rfl, ⟨T, X, hl⟩, hb, ht, ht.pos⟩
theorem failW (n : Int) (h : LgW B L ts s w0 w) (hn : -9223372036854775808 ≤ n ∧ n < 9223372036854775808) :
    Calls Tryd.prog 7 #[.pointer (some ⟨L, 0, none⟩), .int .i64 n] w fun e w' => e = .returned (.tuple #[]) ∧ LgW B L ts (s.fail n) w0 w' := by
  obtain ⟨T, X, hl⟩ := h.1
  refine (fail_any n hl hn).mono ?_
  rintro e w' ⟨rfl, ht⟩
  exact ⟨rfl, h.to hl ht⟩
theorem doneW (i : Int) (h : LgW B L ts s w0 w) : Calls Tryd.prog 8 #[.pointer (some ⟨L, 0, none⟩), .int .i64 i] w fun e w' => e = .returned (errV (s.doneE ts i)) ∧ LgW B L ts (s.done ts i) w0 w' := by
  obtain ⟨T, X, hl⟩ := h.1
  refine (doneL_any i hl).mono ?_
  rintro e w' ⟨rfl, ht⟩
  exact ⟨rfl, h.to hl ht⟩
theorem syncW (h : LgW B L ts s w0 w) : Calls Tryd.prog 10 #[.pointer (some ⟨L, 0, none⟩)] w fun e w' => e = .returned (errV s.syncE) ∧ LgW B L ts s.sync w0 w' := by
  obtain ⟨T, X, hl⟩ := h.1
  refine (syncL_any hl).mono ?_
  rintro e w' ⟨rfl, ht⟩
  exact ⟨rfl, h.to hl ht⟩
theorem crashW (keep : Int) (h : LgW B L ts s w0 w) : Calls Tryd.prog 11 #[.pointer (some ⟨L, 0, none⟩), .int .i64 keep] w fun e w' => e = .returned (.tuple #[]) ∧ LgW B L ts (s.crash keep) w0 w' := by
  obtain ⟨T, X, hl⟩ := h.1
  refine (crash_any keep hl).mono ?_
  rintro e w' ⟨rfl, ht⟩
  exact ⟨rfl, h.to hl ht⟩
theorem bytesW (h : LgW B L ts s w0 w) : Calls Tryd.prog 14 #[.pointer (some ⟨L, 0, none⟩)] w fun e w' => e = .returned (.int .i64 (dataOf s.recs s.half).length) ∧ w' = w := by
  obtain ⟨T, X, hl⟩ := h.1
  exact bytes_any hl hl.le
theorem allW (h : LgW B L ts s w0 w) : Calls Tryd.prog 12 #[.pointer (some ⟨L, 0, none⟩)] w fun e w' => (∃ v, e = .returned v ∧ RowI w.heap.size w' v (intsOf s.recs)) ∧ Below w.heap.size w w' := by
  obtain ⟨T, X, hl⟩ := h.1
  have h30 := hl.le
  obtain ⟨⟨XJ, J, pv, dv, hM⟩, hok, _⟩ := hl
  exact allL_any hM hok h30
theorem errorW (q k : Int) (h : LgW B L ts s w0 w) : Calls Tryd.prog 9 #[errV q, .int .i64 k] w fun e w' => e = .returned (.bool (q == k)) ∧ LgW B L ts s w0 w' := by
  refine (error_any q k w h.typed).mono ?_
  rintro e w' ⟨rfl, hb⟩
  exact ⟨rfl, h.later hb⟩
end Go.Proofs.YtbknbakbfblbiaaDoor
