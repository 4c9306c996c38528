/- The document's own reader of weaves in memory; next. -/
import Derived.Test.YtcankblanhpmpaaDoorWd
namespace Go.Proofs.YtcankblanhpmpaaDoor
open Go.RowKit Go.Deep

/-- The document's reader lies in block R: its text, its place, its tasks, its fault. -/
def Rw (R : Nat) (l : List UInt8) (i : Nat) (e : Int) (ts : List (Int × List Int)) (w : World) : Prop :=
  ∃ tv, w.heap[R]? = some (.cells #[.string ⟨l.toArray⟩, .int .i64 i, tv, .int .i64 e] 44 (0, 0)) ∧ RowT (R + 1) (fun _ => True) w tv ts
theorem Rw.cells {R i : Nat} {l : List UInt8} {e : Int} {ts : List (Int × List Int)} {w : World} (h : Rw R l i e ts w) :
    w.cell? ⟨R, 0, none⟩ = some (.string ⟨l.toArray⟩) ∧ w.cell? ⟨R, 1, none⟩ = some (.int .i64 i) ∧ w.cell? ⟨R, 3, none⟩ = some (.int .i64 e) ∧ ∀ j, w.frozen? ⟨R, j, none⟩ = false := by
  obtain ⟨tv, h, _⟩ := h
  refine ⟨by simp [World.cell?, h], by simp [World.cell?, h], by simp [World.cell?, h], fun j => by simp [World.frozen?, h]⟩
theorem Rw.drewN {R i : Nat} {l : List UInt8} {e : Int} {ts : List (Int × List Int)} {w : World} (h : Rw R l i e ts w) (n : Nat) : Rw R l i e ts (w.drewN n) := by
  obtain ⟨tv, h1, h2⟩ := h
  exact ⟨tv, h1, h2.of_kinds (fun _ _ _ _ => rfl) (fun _ _ _ _ => rfl)⟩
theorem Rw.place {R i : Nat} {l : List UInt8} {e : Int} {ts : List (Int × List Int)} {w : World} (h : Rw R l i e ts w) (k : Nat) : Rw R l k e ts (w.setCell ⟨R, 1, none⟩ (.int .i64 k)) := by
  obtain ⟨tv, h1, h2⟩ := h
  refine ⟨tv, ?_, h2.of_blocks (fun k hk _ _ => Below.heap_setCell _ _ _ _ (by show k ≠ R; omega))⟩
  have := heap_setCell_same w R 1 _ 44 (.int .i64 k) h1
  simpa using this
theorem Rw.fault {R i : Nat} {l : List UInt8} {e : Int} {ts : List (Int × List Int)} {w : World} (h : Rw R l i e ts w) (e' : Int) : Rw R l i e' ts (w.setCell ⟨R, 3, none⟩ (.int .i64 e')) := by
  obtain ⟨tv, h1, h2⟩ := h
  refine ⟨tv, ?_, h2.of_blocks (fun k hk _ _ => Below.heap_setCell _ _ _ _ (by show k ≠ R; omega))⟩
  have := heap_setCell_same w R 3 _ 44 (.int .i64 e') h1
  simpa using this

/-- Is the next byte one? -/
def nextB (e : Int) (l : List UInt8) (i : Nat) (c : UInt8) : Bool := decide (e = 0) && decide ((l.drop i).head? = some c)

set_option maxRecDepth 100000 in
set_option maxHeartbeats 2000000 in
theorem nextR_any (R : Nat) (l : List UInt8) (i : Nat) (e : Int) (ts : List (Int × List Int)) (c : UInt8) (w : World) (_hl : l.length ≤ 200) (hi : i ≤ l.length) (hr : Rw R l i e ts w) :
    Calls Tryd.prog 22 #[.pointer (some ⟨R, 0, none⟩), .int .u8 (c.toNat : Int)] w fun ev w' => ev = .returned (.bool (nextB e l i c)) ∧ ∃ n, w' = w.drewN n := by
  obtain ⟨h0, h1, h3, -⟩ := hr.cells
  clear hr
  by_cases he : e = 0
  · subst he
    have hee : ((0 : Int) == 0) = true := rfl
    by_cases hil : i < l.length
    · have hsz : i < (⟨l.toArray⟩ : ByteArray).size := by show i < l.toArray.size; simpa using hil
      have hxe : (⟨l.toArray⟩ : ByteArray)[i]'hsz = l[i] := rfl
      have hli : (i : Int) < (l.length : Int) := by omega
      by_cases hc : l[i] = c
      · have hb : (((((⟨l.toArray⟩ : ByteArray)[i]'hsz).toNat : Int)) == (c.toNat : Int)) = true := by rw [hxe, hc]; simp
        have hb2 : ((l[i].toNat : Int) == (c.toNat : Int)) = true := by rw [hc]; simp
        have HB : Hid (nextB 0 l i c = true) := by show _ = _; unfold nextB; rw [head_drop hil, hc]; simp
        clear hxe hc
        go_enter Tryd.func22, Tryd.ntmps22
        go_wp2
        go_quiet (fail)
        go_wp2
        go_ret
        exact ⟨by rw [HB.out]; rfl, _, rfl⟩
      · have hnt : ¬ (l[i].toNat : Int) = (c.toNat : Int) := fun h => hc (UInt8.toNat_inj.1 (by omega))
        have hb : (((((⟨l.toArray⟩ : ByteArray)[i]'hsz).toNat : Int)) == (c.toNat : Int)) = false := by rw [hxe]; simpa using hnt
        have hb2 : ((l[i].toNat : Int) == (c.toNat : Int)) = false := by simpa using hnt
        have HB : Hid (nextB 0 l i c = false) := by show _ = _; unfold nextB; rw [head_drop hil]; simpa using hc
        clear hxe hc hnt
        go_enter Tryd.func22, Tryd.ntmps22
        go_wp2
        go_quiet (fail)
        go_wp2
        go_ret
        exact ⟨by rw [HB.out]; rfl, _, rfl⟩
    · have hli : decide ((i : Int) < (l.length : Int)) = false := decide_eq_false (by omega)
      have HB : Hid (nextB 0 l i c = false) := by show _ = _; unfold nextB; rw [head_end (by omega)]; simp
      go_enter Tryd.func22, Tryd.ntmps22
      go_wp2
      go_quiet (fail)
      go_wp2
      go_ret
      exact ⟨by rw [HB.out]; rfl, _, rfl⟩
  · have hee : (e == 0) = false := by simp [he]
    have HB : Hid (nextB e l i c = false) := by show _ = _; unfold nextB; simp [he]
    go_enter Tryd.func22, Tryd.ntmps22
    go_wp2
    go_quiet (fail)
    go_wp2
    go_ret
    exact ⟨by rw [HB.out]; rfl, _, rfl⟩
end Go.Proofs.YtcankblanhpmpaaDoor
