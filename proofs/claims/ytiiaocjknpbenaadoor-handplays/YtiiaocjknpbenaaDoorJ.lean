/- The document's own hand in memory; its Take, Rob, Put, Len. -/
import Derived.Test.YtiiaocjknpbenaaDoorG
import Derived.Deep.RegionLaw
namespace Go.Proofs.YtiiaocjknpbenaaDoor
open Go.RowKit Go.Deep

/-- The document's hand lies in block M: its room, what is near, and its ring as a row of its own. -/
structure Mh (M room : Nat) (nr : Int) (xs : List Int) (v : Value) (w : World) : Prop where
  cells : w.heap[M]? = some (.cells #[.int .i64 room, .int .i64 nr, v] 31 (0, 0))
  row : RowI (M + 1) w v xs
  near : nr = -1 ∨ 0 ≤ nr
  le : xs.length ≤ room
  r16 : room ≤ 16
theorem Mh.lt {M room : Nat} {nr : Int} {xs : List Int} {v : Value} {w : World} (h : Mh M room nr xs v w) : M < w.heap.size := (Array.getElem?_eq_some_iff.1 h.cells).1
theorem Mh.c0 {M room : Nat} {nr : Int} {xs : List Int} {v : Value} {w : World} (h : Mh M room nr xs v w) : w.cell? ⟨M, 0, none⟩ = some (.int .i64 room) := by simp [World.cell?, h.cells]
theorem Mh.c1 {M room : Nat} {nr : Int} {xs : List Int} {v : Value} {w : World} (h : Mh M room nr xs v w) : w.cell? ⟨M, 1, none⟩ = some (.int .i64 nr) := by simp [World.cell?, h.cells]
theorem Mh.c2 {M room : Nat} {nr : Int} {xs : List Int} {v : Value} {w : World} (h : Mh M room nr xs v w) : w.cell? ⟨M, 2, none⟩ = some v := by simp [World.cell?, h.cells]
theorem Mh.fz {M room : Nat} {nr : Int} {xs : List Int} {v : Value} {w : World} (h : Mh M room nr xs v w) (j : Nat) : w.frozen? ⟨M, j, none⟩ = false := by simp [World.frozen?, h.cells]
theorem Mh.of_blocks {M room : Nat} {nr : Int} {xs : List Int} {v : Value} {w w' : World} (h : Mh M room nr xs v w) (h1 : w'.heap[M]? = w.heap[M]?) (h2 : ∀ k, v.ownBlock = some k → w'.heap[k]? = w.heap[k]?) : Mh M room nr xs v w' :=
  ⟨h1.trans h.cells, h.row.of_blocks h2, h.near, h.le, h.r16⟩
theorem Mh.later {M room : Nat} {nr : Int} {xs : List Int} {v : Value} {w w' : World} (h : Mh M room nr xs v w) (hb : Below w.heap.size w w') : Mh M room nr xs v w' :=
  h.of_blocks (hb.block _ h.lt) (fun _ e => hb.block _ (h.row.low e).2)
/-- Another one is near. -/
theorem Mh.setN {M room : Nat} {nr n : Int} {xs : List Int} {v : Value} {w : World} (h : Mh M room nr xs v w) (hn : n = -1 ∨ 0 ≤ n) : Mh M room n xs v (w.setCell ⟨M, 1, none⟩ (.int .i64 n)) := by
  refine ⟨?_, h.row.of_blocks (fun k e => Below.heap_setCell _ _ _ _ (by show k ≠ M; have := (h.row.low e).1; omega)), hn, h.le, h.r16⟩
  rw [setCell_eq_setRow w M 1 _ 31 (0, 0) _ h.cells, setRow_heap w M _ _ 31 _ h.cells]; rfl
/-- Its ring is another one. -/
theorem Mh.setV {M room : Nat} {nr : Int} {xs ys : List Int} {v v' : Value} {w w1 : World} (h : Mh M room nr xs v w) (h1 : w1.heap[M]? = w.heap[M]?) (hr : RowI (M + 1) w1 v' ys) (hy : ys.length ≤ room) : Mh M room nr ys v' (w1.setCell ⟨M, 2, none⟩ v') := by
  have hM : w1.heap[M]? = some (.cells #[.int .i64 room, .int .i64 nr, v] 31 (0, 0)) := h1.trans h.cells
  refine ⟨?_, hr.of_blocks (fun k e => Below.heap_setCell _ _ _ _ (by show k ≠ M; have := (hr.low e).1; omega)), h.near, hy, h.r16⟩
  rw [setCell_eq_setRow w1 M 2 _ 31 (0, 0) _ hM, setRow_heap w1 M _ _ 31 _ hM]; rfl
theorem below_drew (B : Nat) (w : World) (q : Nat) : Below B w (w.drewN q) := ⟨rfl, rfl, rfl, Nat.le_refl _, fun _ _ => rfl⟩
/-- The last one is cut off. -/
theorem RowI.init {b : Nat} {w : World} {a : Option Addr} {c : Nat} {x : Int} {xs : List Int} (h : RowI b w (.slice a (xs.length + 1) c) (xs ++ [x])) : RowI b w (.slice a xs.length c) xs := by
  rcases h.2 with ⟨hv, h0⟩ | ⟨g, cap, cur, hv, hb, hh, hc, hm, hs, ht⟩
  · simp at h0
  · simp only [Value.slice.injEq] at hv
    obtain ⟨rfl, _, rfl⟩ := hv
    simp only [List.length_append, List.length_singleton, Nat.mul_one, List.map_append] at hc ht
    refine ⟨by simp, Or.inr ⟨g, c, cur, rfl, hb, hh, by omega, hm, hs, ?_⟩⟩
    have := congrArg (List.take xs.length) ht
    rw [List.take_take, Nat.min_eq_left (by omega)] at this
    rw [Nat.mul_one, this]
    simp

theorem refTake_near (M room : Nat) (nr : Int) (xs : List Int) (v : Value) (w : World) (h : Mh M room nr xs v w) (hn : nr ≠ -1) :
    Calls Tryd.prog 6 #[.pointer (some ⟨M, 0, none⟩)] w fun e w' => e = .returned (.tuple #[.int .i64 nr, .bool true]) ∧ Mh M room (-1) xs v w' ∧ Below M w w' := by
  have HH : Hid (Mh M room nr xs v w) := h
  have hc1 := h.c1
  have hf1 := h.fz 1
  have h0 : 0 ≤ nr := h.near.resolve_left hn
  clear h hn
  go_enter Tryd.func6, Tryd.ntmps6
  go_wp2
  go_ret2
  exact ⟨rfl, HH.out.setN (Or.inl rfl), (Below.refl _ _).setCell (p := ⟨M, 1, none⟩) (Nat.le_refl _) _⟩
theorem refTake_none (M room : Nat) (v : Value) (w : World) (h : Mh M room (-1) [] v w) :
    Calls Tryd.prog 6 #[.pointer (some ⟨M, 0, none⟩)] w fun e w' => e = .returned (.tuple #[.int .i64 0, .bool false]) ∧ w' = w := by
  have hc1 := h.c1
  have hc2 := h.c2
  obtain ⟨a, c, rfl⟩ := h.row.shape
  simp only [List.length_nil] at hc2
  clear h
  go_enter Tryd.func6, Tryd.ntmps6
  go_wp2
  go_ret2
  exact ⟨rfl, rfl⟩
set_option maxHeartbeats 2000000 in
theorem refTake_one (M room : Nat) (x : Int) (xs : List Int) (v : Value) (w : World) (h : Mh M room (-1) (xs ++ [x]) v w) :
    Calls Tryd.prog 6 #[.pointer (some ⟨M, 0, none⟩)] w fun e w' => e = .returned (.tuple #[.int .i64 x, .bool true]) ∧ (∃ v', Mh M room (-1) xs v' w') ∧ Below M w w' := by
  have HH : Hid (Mh M room (-1) (xs ++ [x]) v w) := h
  have hc1 := h.c1
  have hc2 := h.c2
  have hf2 := h.fz 2
  have hle := h.le
  have hr16 := h.r16
  obtain ⟨g, c, rfl, hg, hgl, hcap, _⟩ := h.row.full (by simp)
  have hx := h.row.cell (k := xs.length) (by simp)
  rw [getD_snoc_at] at hx
  simp only [List.length_append, List.length_singleton] at *
  have HI : Hid (RowI (M + 1) w (.slice (some ⟨g, 0, none⟩) xs.length c) xs) := h.row.init
  have hne : (((xs.length + 1 : Nat) : Int) == 0) = false := by simp; omega
  clear h
  go_enter Tryd.func6, Tryd.ntmps6
  go_wp2
  go_quiet (fail)
  go_wp2
  go_region
  go_wp2
  go_ret2
  exact ⟨rfl, ⟨_, HH.out.setV rfl (HI.out.of_blocks (fun _ _ => rfl)) (by omega)⟩, (below_drew _ _ _).setCell (p := ⟨M, 2, none⟩) (Nat.le_refl _) _⟩
theorem refLen_any (M room : Nat) (nr : Int) (xs : List Int) (v : Value) (w : World) (h : Mh M room nr xs v w) :
    Calls Tryd.prog 15 #[.pointer (some ⟨M, 0, none⟩)] w fun e w' => e = .returned (.int .i64 (allH nr xs).length) ∧ w' = w := by
  have hc1 := h.c1
  have hc2 := h.c2
  have hle := h.le
  have hr16 := h.r16
  obtain ⟨a, c, rfl⟩ := h.row.shape
  have hnr := h.near
  clear h
  by_cases hn : nr = -1
  · subst hn
    have hA : allH (-1) xs = xs := by simp [allH]
    rw [hA]
    clear hA
    go_enter Tryd.func15, Tryd.ntmps15
    go_wp2
    go_ret
    exact ⟨rfl, rfl⟩
  · have hA : ((allH nr xs).length : Int) = (xs.length : Int) + 1 := by simp [allH, hn]
    have h0 : 0 ≤ nr := hnr.resolve_left hn
    rw [hA]
    clear hA hnr hn
    go_enter Tryd.func15, Tryd.ntmps15
    go_wp2
    go_ret
    exact ⟨rfl, rfl⟩
end Go.Proofs.YtiiaocjknpbenaaDoor
