/- What CellsSame asks first: a plan of two tasks. -/
import Derived.Test.YtkdlhhogbpjplaaDoorCln
namespace Go.Proofs.YtkdlhhogbpjplaaDoor
open Go.RowKit Go.Deep

theorem cells_four {w : World} {b : Nat} {a1 a2 a3 a4 : Value} {t : TypeId} (h : w.heap[b]? = some (.cells #[a1, a2, a3, a4] t (0, 0))) :
    w.cell? ⟨b, 0, none⟩ = some a1 ∧ w.cell? ⟨b, 1, none⟩ = some a2 ∧ w.cell? ⟨b, 2, none⟩ = some a3 ∧ w.cell? ⟨b, 3, none⟩ = some a4 :=
  ⟨by simp [World.cell?, h], by simp [World.cell?, h], by simp [World.cell?, h], by simp [World.cell?, h]⟩
/-- The world in which the fact is asked. -/
def facW (w : World) : World := ((w.alloc (.cells #[.int .i64 0] 3)).alloc (.cells #[.int .i64 1, .slice none 0 0, .int .i64 1, .slice (some ⟨w.heap.size, 0, none⟩) 1 1] 58)).alloc (.cells #[.int .i64 1, .int .i64 5, .int .i64 3, .int .i64 3] 23)
theorem facW_below (w : World) : Below w.heap.size w (facW w) := (((Below.refl _ _).alloc (Nat.le_refl _) _).alloc (by simp) _).alloc (by simp; omega) _
theorem facW_plan (w : World) : PlanAt (facW w) (.slice (some ⟨w.heap.size + 1, 0, none⟩) 2 2) (chainTs 1 2) := by
  have h1 : (facW w).heap[w.heap.size]? = some (.cells #[.int .i64 0] 3 (0, 0)) := by
    unfold facW
    rw [blk_alloc_lt _ _ _ (by simp; omega), blk_alloc_lt _ _ _ (by simp)]
    exact blk_alloc_new w _
  have h2 : (facW w).heap[w.heap.size + 1]? = some (.cells #[.int .i64 1, .slice none 0 0, .int .i64 1, .slice (some ⟨w.heap.size, 0, none⟩) 1 1] 58 (0, 0)) := by
    unfold facW
    rw [blk_alloc_lt _ _ _ (by simp)]
    have := blk_alloc_new (w.alloc (.cells #[.int .i64 0] 3)) (.cells #[.int .i64 1, .slice none 0 0, .int .i64 1, .slice (some ⟨w.heap.size, 0, none⟩) 1 1] 58)
    rwa [nblk_alloc] at this
  obtain ⟨c0, c1, c2, c3⟩ := cells_four h2
  have hs : (facW w).heap.size = w.heap.size + 3 := by simp [facW]
  refine ⟨by decide, _, _, rfl, Or.inr ⟨w.heap.size + 1, 0, rfl, by omega, fun k hk => ?_⟩⟩
  have hk2 : k < 2 := hk
  match k, hk2 with
  | 0, _ => exact ⟨c0, _, c1, by show IntsAt _ _ []; exact ⟨by simp, none, 0, rfl, Or.inl rfl⟩⟩
  | 1, _ => exact ⟨c2, _, c3, by
      show IntsAt _ _ [0]
      refine ⟨by decide, _, _, rfl, Or.inr ⟨w.heap.size, 0, rfl, by omega, fun j hj => ?_⟩⟩
      have hj0 : j = 0 := by simp at hj; omega
      subst hj0
      simp [World.cell?, h1]⟩
theorem facW_ops (w : World) : OpsAt (facW w) (.slice (some ⟨w.heap.size + 1 + 1, 0, none⟩) 2 2) [(1, 5), (3, 3)] := by
  have h2 : (facW w).heap[w.heap.size + 1 + 1]? = some (.cells #[.int .i64 1, .int .i64 5, .int .i64 3, .int .i64 3] 23 (0, 0)) := by
    unfold facW
    have := blk_alloc_new ((w.alloc (.cells #[.int .i64 0] 3)).alloc (.cells #[.int .i64 1, .slice none 0 0, .int .i64 1, .slice (some ⟨w.heap.size, 0, none⟩) 1 1] 58)) (.cells #[.int .i64 1, .int .i64 5, .int .i64 3, .int .i64 3] 23)
    rwa [nblk_alloc, nblk_alloc] at this
  obtain ⟨c0, c1, c2, c3⟩ := cells_four h2
  have hs : (facW w).heap.size = w.heap.size + 3 := by simp [facW]
  refine ⟨by decide, _, _, rfl, Or.inr ⟨w.heap.size + 1 + 1, 0, rfl, by omega, fun k hk => ?_⟩⟩
  have hk2 : k < 2 := hk
  match k, hk2 with
  | 0, _ => exact ⟨c0, c1⟩
  | 1, _ => exact ⟨c2, c3⟩
theorem fact_calls (w : World) :
    Calls Tryd.prog 12 #[.slice (some ⟨w.heap.size + 1, 0, none⟩) 2 2, .slice (some ⟨w.heap.size + 1 + 1, 0, none⟩) 2 2] (facW w) fun e w' => (∃ g, e = .returned (.tuple #[.slice (some ⟨g, 0, none⟩) 2 2, .nilIface]) ∧ w'.cell? ⟨g, 0, none⟩ = some (.int .i64 5) ∧ w'.cell? ⟨g, 2, none⟩ = some (.int .i64 15)) ∧ Below w.heap.size w w' := by
  refine (cAll_any _ _ _ _ (facW w) (facW_plan w) (facW_ops w)).mono ?_
  rintro e w' ⟨⟨p, q, hck, hcase⟩, hb⟩
  obtain ⟨-, rfl⟩ := chain_check (by omega) hck
  have hbw : Below w.heap.size w w' := (facW_below w).trans (hb.mono (facW_below w).size)
  rcases hcase with ⟨hne, _⟩ | ⟨_, _, ord, g, hord, rfl, hrow⟩
  · exact absurd (show allErr 0 (chainTs 1 2).length [(1, 5), (3, 3)] = 0 from rfl) hne
  · obtain ⟨-, -, herr, hno⟩ := hck.ok rfl
    have hr := inRange_of herr
    have hS := alongC_sol (op := fun k => ([(1, 5), (3, 3)] : List Opn).getD k (0, 0)) hord.nodup hord.behind hr hord.below (hord.mem hr hno)
    have f0 : alongC (chainTs 1 2) (fun k => ([(1, 5), (3, 3)] : List Opn).getD k (0, 0)) ord 0 = (5, false) := by
      rw [hS 0 (by rw [chainTs_length]; omega)]
      rfl
    have f1 : alongC (chainTs 1 2) (fun k => ([(1, 5), (3, 3)] : List Opn).getD k (0, 0)) ord 1 = (15, false) := by
      rw [hS 1 (by rw [chainTs_length]; omega)]
      show doC (3, 3) [alongC (chainTs 1 2) (fun k => ([(1, 5), (3, 3)] : List Opn).getD k (0, 0)) ord 0] = _
      rw [f0]
      rfl
    have c0 := hrow.cell (i := 0 * 2) (by rw [chainTs_length]; omega)
    have c1 := hrow.cell (i := 1 * 2) (by rw [chainTs_length]; omega)
    rw [cellRow_num, f0] at c0
    rw [cellRow_num, f1] at c1
    exact ⟨⟨g, rfl, c0, c1⟩, hbw⟩
/-- In whatever order, the same cells. -/
theorem same_out {ts : List (Int × List Int)} {op : Nat → Opn} {o1 o2 : List Nat} (hr : InRange ts) (hno : ∀ j, j < ts.length → ¬ Reach ts j j) (hd1 : o1.Nodup) (hb1 : Behind ts o1) (hx1 : ∀ x, x ∈ o1 → x < ts.length) (ha1 : ∀ x, x < ts.length → x ∈ o1) (hd2 : o2.Nodup) (hb2 : Behind ts o2) (hx2 : ∀ x, x ∈ o2 → x < ts.length) (ha2 : ∀ x, x < ts.length → x ∈ o2) :
    outL ts.length (alongC ts op o1) = outL ts.length (alongC ts op o2) := by
  unfold outL
  refine List.map_congr_left fun i hi => ?_
  exact alongC_same hr hno hd1 hb1 hx1 ha1 hd2 hb2 hx2 ha2 i (List.mem_range.1 hi)
theorem OrdIs.each {ts : List (Int × List Int)} {ord : List Nat} (h : OrdIs ts ord) (hr : InRange ts) (hno : ∀ j, j < ts.length → ¬ Reach ts j j) : EachZ ts.length (intsOf ord) ∧ natsOf (intsOf ord) = ord := by
  refine ⟨⟨by rw [intsOf_length]; exact h.length hr hno, ?_, fun x hx => ?_⟩, ?_⟩
  · unfold intsOf
    refine List.pairwise_map.2 (List.Pairwise.imp (fun {a b} hne e => hne ?_) h.nodup)
    have : (a : Int) = (b : Int) := e
    omega
  · unfold intsOf at hx
    obtain ⟨y, hy, rfl⟩ := List.mem_map.1 hx
    have := h.below y hy
    show (0 : Int) ≤ (y : Int) ∧ (y : Int) < _
    omega
  · unfold natsOf intsOf
    rw [List.map_map]
    conv => rhs; rw [← List.map_id ord]
    exact List.map_congr_left fun x _ => rfl
theorem chk_det {ts : List (Int × List Int)} {p q p' q' : Int} (h : CheckIs ts p q) (h' : CheckIs ts p' q') : p = p' ∧ q = q' := by
  cases h using CheckIs.elim with
  | full hf =>
    cases h' using CheckIs.elim with
    | full => exact ⟨rfl, rfl⟩
    | task k hk => omega
    | ring k hk => omega
    | none hk => omega
  | task k h30 hk hz hne =>
    cases h' using CheckIs.elim with
    | full => omega
    | task k2 _ hk2 hz2 hne2 =>
      have : k = k2 := by
        rcases Nat.lt_trichotomy k k2 with h | h | h
        · exact absurd (hz2 k h) hne
        · exact h
        · exact absurd (hz k2 h) hne2
      subst this; exact ⟨rfl, rfl⟩
    | ring k2 _ hall => exact absurd (hall k hk) hne
    | none _ hall => exact absurd (hall k hk) hne
  | ring k h30 hall hk hf hr =>
    cases h' using CheckIs.elim with
    | full => omega
    | task k2 _ hk2 _ hne2 => exact absurd (hall k2 hk2) hne2
    | ring k2 _ _ hk2 hf2 hr2 =>
      have : k = k2 := by
        rcases Nat.lt_trichotomy k k2 with h | h | h
        · exact absurd hr (hf2 k h)
        · exact h
        · exact absurd hr2 (hf k2 h)
      subst this; exact ⟨rfl, rfl⟩
    | none _ _ hno => exact absurd hr (hno k hk)
  | none h30 hall hno =>
    cases h' using CheckIs.elim with
    | full => omega
    | task k2 _ hk2 _ hne2 => exact absurd (hall k2 hk2) hne2
    | ring k2 _ _ hk2 _ hr2 => exact absurd hr2 (hno k2 hk2)
    | none => exact ⟨rfl, rfl⟩
end Go.Proofs.YtkdlhhogbpjplaaDoor
