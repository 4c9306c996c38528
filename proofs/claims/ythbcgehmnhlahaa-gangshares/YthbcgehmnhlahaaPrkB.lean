/- slices.Delete of the first ones of a row of numbers. -/
import Derived.Test.YthbcgehmnhlahaaPrkA
import Derived.Test.YthbcgehmnhlahaaShelf
namespace Go.Proofs.Ythbcgehmnhlahaa.Prk
open Go.RowKit Go.Deep

theorem grown_setCells (g : Nat) : ∀ (vs : List Value) (o : Nat) (w : World), w.grownBy (w.setCells g o vs) (some g)
  | [], _, w => ⟨rfl, rfl, rfl, Nat.le_refl _, fun _ _ _ => rfl⟩
  | v :: r, o, w => by
    have h1 : w.grownBy (w.setCell ⟨g, o, none⟩ v) (some g) := ⟨rfl, rfl, rfl, by simp, fun k _ hne => Below.heap_setCell _ _ _ _ (by show k ≠ g; intro e; exact hne (by rw [e]))⟩
    exact h1.trans (grown_setCells g r (o + 1) _)
theorem heap_setCells (g : Nat) (t : TypeId) : ∀ (vs : List Value) (o : Nat) (w : World) (cur : Array Value), w.heap[g]? = some (.cells cur t (0, 0)) → ∃ cur', (w.setCells g o vs).heap[g]? = some (.cells cur' t (0, 0)) ∧ cur'.size = cur.size
  | [], _, _, cur, h => ⟨cur, h, rfl⟩
  | v :: r, o, w, cur, h => by
    have h1 : (w.setCell ⟨g, o, none⟩ v).heap[g]? = some (.cells (cur.setIfInBounds o v) t (0, 0)) := by
      rw [setCell_eq_setRow w g o cur t (0, 0) v h, setRow_heap w g cur _ t _ h]
    obtain ⟨cur', h2, h3⟩ := heap_setCells g t r (o + 1) _ _ h1
    exact ⟨cur', h2, by rw [h3]; simp⟩

theorem RowI.cut {b g n c : Nat} {w w' : World} {zs ys : List Int} (h : RowI b w (.slice (some ⟨g, 0, none⟩) n c) zs) {cur' : Array Value} {cur : Array Value} (hc : w.heap[g]? = some (.cells cur 3 (0, 0))) (h' : w'.heap[g]? = some (.cells cur' 3 (0, 0))) (hs : cur'.size = cur.size) (hy : ys.length ≤ zs.length) (hcell : ∀ k, k < ys.length → w'.cell? ⟨g, k, none⟩ = some (.int .i64 (ys.getD k 0))) : RowI b w' (.slice (some ⟨g, 0, none⟩) ys.length c) ys := by
  rcases h.2 with ⟨hv, _⟩ | ⟨g', cap, cur2, hv, hb, hh, hcp, hm, hsz, _⟩
  · simp at hv
  · simp only [Value.slice.injEq, Option.some.injEq, Addr.mk.injEq, and_true] at hv
    obtain ⟨rfl, rfl, rfl⟩ := hv
    rw [hc] at hh
    simp only [Option.some.injEq, Obj.cells.injEq, and_true] at hh
    obtain rfl := hh
    refine ⟨by simp, Or.inr ⟨g, c, cur', rfl, hb, h', by omega, hm, by omega, ?_⟩⟩
    apply List.ext_getElem?
    intro k
    rw [Nat.mul_one, List.getElem?_take]
    by_cases hk : k < ys.length
    · have h1 := hcell k hk
      rw [cell_of_row w' g k cur' 3 (0, 0) h'] at h1
      rw [if_pos hk, Array.getElem?_toList, h1]
      simp [List.getD_eq_getElem?_getD, List.getElem?_eq_getElem hk]
    · rw [if_neg hk, List.getElem?_eq_none (by simpa using hk)]

theorem delete_first (b : Nat) (v : Value) (zs : List Int) (j : Nat) (w : World) (h : RowI b w v zs) (hj : j ≤ zs.length) :
    Calls Try.prog 35 #[v, .int .i64 0, .int .i64 j] w fun e w' => ∃ v', e = .returned v' ∧ RowI b w' v' (zs.drop j) ∧ w.grownBy w' v.ownBlock ∧ v'.ownBlock = v.ownBlock := by
  by_cases hz : zs = []
  · subst hz
    obtain rfl : j = 0 := by simpa using hj
    obtain ⟨a, c, rfl⟩ := h.shape
    refine (Try.slices_Delete_int_empty a c w).mono ?_
    rintro e w' ⟨rfl, rfl⟩
    exact ⟨_, rfl, h, ⟨rfl, rfl, rfl, Nat.le_refl _, fun _ _ _ => rfl⟩, rfl⟩
  · obtain ⟨g, c, rfl, hb, hg, hc, hm⟩ := h.full (List.length_pos_iff.2 hz)
    obtain ⟨cur, hcur⟩ : ∃ cur, w.heap[g]? = some (.cells cur 3 (0, 0)) := by
      rcases h.2 with ⟨hv, _⟩ | ⟨g', cap, cur2, hv, _, hh, _⟩
      · simp at hv
      · simp only [Value.slice.injEq, Option.some.injEq, Addr.mk.injEq, and_true] at hv
        obtain ⟨rfl, _⟩ := hv
        exact ⟨_, hh⟩
    have hfz : ∀ k, w.frozen? ⟨g, k, none⟩ = false := fun k => by simp [World.frozen?, hcur]
    refine (Try.slices_Delete_int_cells g 0 zs.length c 0 j zs w (Nat.le_refl _) hc (by unfold maxLen at hm; omega) (Nat.zero_le _) hj (fun k hk => by rw [Nat.zero_add]; exact h.cell hk) (fun k _ => hfz _)).mono ?_
    rintro e w' ⟨rfl, q, rfl⟩
    have hl : zs.length - (j - 0) = (zs.drop j).length := by simp
    rw [hl]
    obtain ⟨cur', hc1, hc2⟩ := heap_setCells g 3 (((zs.take zs.length).take 0 ++ (zs.take zs.length).drop j ++ List.replicate (j - 0) 0).map (Value.int .i64)) 0 (w.drewN q) cur hcur
    have hL : (((zs.take zs.length).take 0 ++ (zs.take zs.length).drop j ++ List.replicate (j - 0) 0).map (Value.int .i64)).length = zs.length := by simp; omega
    refine ⟨_, rfl, h.cut hcur hc1 hc2 (by simp) (fun k hk => ?_), ⟨(grown_setCells g _ 0 _).os, (grown_setCells g _ 0 _).tape, (grown_setCells g _ 0 _).output, (grown_setCells g _ 0 (w.drewN q)).size, (grown_setCells g _ 0 (w.drewN q)).block⟩, rfl⟩
    have hk' : k < zs.length - j := by simpa using hk
    have := World.cell?_setCells_in g (((zs.take zs.length).take 0 ++ (zs.take zs.length).drop j ++ List.replicate (j - 0) 0).map (Value.int .i64)) 0 (w.drewN q) (fun i hi => by rw [Nat.zero_add]; have := h.cell (k := i) (by omega); show (w.cell? _).isSome = true; rw [this]; rfl) k (by omega)
    rw [Nat.zero_add] at this
    rw [this]
    simp only [List.getElem_map, List.take_length, List.take_zero, List.nil_append]
    rw [List.getElem_append_left (by simpa using hk)]
    simp [List.getD_eq_getElem?_getD]
    rw [List.getElem?_eq_getElem (by omega)]
    rfl
end Go.Proofs.Ythbcgehmnhlahaa.Prk
