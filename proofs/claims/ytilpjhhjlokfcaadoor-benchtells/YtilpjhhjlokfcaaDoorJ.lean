/- A plan that the call itself makes: tasks appended one by one; chain. -/
import Derived.Test.YtilpjhhjlokfcaaDoorC
namespace Go.Proofs.YtilpjhhjlokfcaaDoor
open Go.RowKit Go.Deep

/-- The needs of a task in a block of their own; none: the nil slice. -/
def NeedsBlk (w : World) (nv : Value) (zs : List Int) : Prop :=
  (zs = [] ∧ nv = .slice none 0 0) ∨ (∃ blk, nv = .slice (some ⟨blk, 0, none⟩) zs.length zs.length ∧ w.heap[blk]? = some (.cells (zs.map (Value.int .i64)).toArray 3 (0, 0)))

/-- A plan in memory of the call's own (blocks from N on). -/
def OwnPlan (N : Nat) (w : World) (v : Value) (ts : List (Int × List Int)) : Prop :=
  ∃ xs, w.ownsRow N 51 2 v ts.length xs ∧ ∀ j, j < ts.length → xs[j * 2]? = some (.int .i64 (ts.getD j (0, [])).1) ∧ ∃ nv, xs[j * 2 + 1]? = some nv ∧ NeedsBlk w nv (needsOf ts j)

theorem NeedsBlk.later {w w' : World} {nv : Value} {zs : List Int} (h : NeedsBlk w nv zs) (hb : Below w.heap.size w w') : NeedsBlk w' nv zs := by
  rcases h with h | ⟨blk, h1, h2⟩
  · exact Or.inl h
  · exact Or.inr ⟨blk, h1, (hb.block blk (lt_of_block h2)).trans h2⟩

theorem NeedsBlk.grown {w w' : World} {nv v : Value} {zs : List Int} {N n : Nat} {xs : List Value} (h : NeedsBlk w nv zs) (ho : w.ownsRow N 51 2 v n xs) (hg : w.grownBy w' v.ownBlock) : NeedsBlk w' nv zs := by
  rcases h with h | ⟨blk, h1, h2⟩
  · exact Or.inl h
  · refine Or.inr ⟨blk, h1, (hg.block blk (lt_of_block h2) (fun e => ?_)).trans h2⟩
    rcases ho.2 with ⟨hv, _⟩ | ⟨g, cap, cur, hv, _, hh, _⟩
    · subst hv; simp [Value.ownBlock] at e
    · subst hv
      simp only [Value.ownBlock, Option.some.injEq] at e
      subst e
      rw [h2] at hh
      simp at hh

theorem OwnPlan.nil (N : Nat) (w : World) : OwnPlan N w (.slice none 0 0) [] := ⟨[], World.ownsRow_nil _ _ _ _, fun j hj => by simp at hj⟩

theorem OwnPlan.later {N : Nat} {w w' : World} {v : Value} {ts : List (Int × List Int)} (h : OwnPlan N w v ts) (hb : Below w.heap.size w w') : OwnPlan N w' v ts := by
  obtain ⟨xs, ho, hx⟩ := h
  refine ⟨xs, ho.kept (row := none) ⟨hb.os, hb.tape, hb.output, hb.size, fun k hk _ => hb.block k hk⟩ (by cases v.ownBlock <;> simp), fun j hj => ?_⟩
  obtain ⟨h1, nv, h2, h3⟩ := hx j hj
  exact ⟨h1, nv, h2, h3.later hb⟩

theorem getD_snoc {α : Type} (l : List α) (x d : α) (j : Nat) (hj : j < l.length) : (l ++ [x]).getD j d = l.getD j d := by simp [List.getElem?_append_left hj]
theorem getD_snoc_at {α : Type} (l : List α) (x d : α) : (l ++ [x]).getD l.length d = x := by simp

theorem OwnPlan.append {N : Nat} {w w' : World} {v v' nv : Value} {ts : List (Int × List Int)} {xs : List Value} {wk : Int} {zs : List Int}
    (ho : w.ownsRow N 51 2 v ts.length xs) (hx : ∀ j, j < ts.length → xs[j * 2]? = some (.int .i64 (ts.getD j (0, [])).1) ∧ ∃ nv, xs[j * 2 + 1]? = some nv ∧ NeedsBlk w nv (needsOf ts j))
    (hn : NeedsBlk w nv zs) (ho' : w'.ownsRow N 51 2 v' (ts.length + 1) (xs ++ [.int .i64 wk, nv])) (hg : w.grownBy w' v.ownBlock) : OwnPlan N w' v' (ts ++ [(wk, zs)]) := by
  have hl : xs.length = ts.length * 2 := ho.1
  refine ⟨xs ++ [.int .i64 wk, nv], by simpa using ho', fun j hj => ?_⟩
  simp at hj
  by_cases e : j = ts.length
  · subst e
    unfold needsOf
    rw [getD_snoc_at]
    refine ⟨by rw [← hl]; simp, nv, by rw [← hl]; simp, hn.grown ho hg⟩
  · have hlt : j < ts.length := by omega
    obtain ⟨h1, nv2, h2, h3⟩ := hx j hlt
    unfold needsOf at h3 ⊢
    rw [getD_snoc _ _ _ _ hlt]
    exact ⟨by rw [List.getElem?_append_left (by omega)]; exact h1, nv2, by rw [List.getElem?_append_left (by omega)]; exact h2, h3.grown ho hg⟩

theorem NeedsBlk.ints {w : World} {nv : Value} {zs : List Int} (h : NeedsBlk w nv zs) (hl : zs.length * 8 ≤ 140737488351232) : IntsAt w nv zs := by
  refine ⟨hl, ?_⟩
  rcases h with ⟨rfl, rfl⟩ | ⟨blk, rfl, hb⟩
  · exact ⟨none, 0, rfl, Or.inl rfl⟩
  · refine ⟨_, _, rfl, Or.inr ⟨blk, 0, rfl, lt_of_block hb, fun k hk => ?_⟩⟩
    simp [World.cell?, hb, hk]

theorem OwnPlan.planAt {N : Nat} {w : World} {v : Value} {ts : List (Int × List Int)} (h : OwnPlan N w v ts) (hl : ts.length * 32 ≤ 140737488351232) (hn : ∀ j, j < ts.length → (needsOf ts j).length * 8 ≤ 140737488351232) : PlanAt w v ts := by
  obtain ⟨xs, ho, hx⟩ := h
  refine ⟨hl, ?_⟩
  rcases ho.2 with ⟨hv, h0⟩ | ⟨g, cap, cur, hv, _, hh, _⟩
  · exact ⟨none, 0, by rw [hv, h0], Or.inl (List.eq_nil_of_length_eq_zero h0)⟩
  · subst hv
    refine ⟨_, _, rfl, Or.inr ⟨g, 0, rfl, lt_of_block hh, fun k hk => ?_⟩⟩
    obtain ⟨h1, nv, h2, h3⟩ := hx k hk
    have e1 := ho.cellAt (k * 2) (by omega)
    have e2 := ho.cellAt (k * 2 + 1) (by omega)
    rw [Nat.zero_add]
    exact ⟨by rw [e1]; exact h1, nv, by rw [e2]; exact h2, h3.ints (hn k hk)⟩

/-- So many tasks, one behind the other. -/
def chainTs (work : Int) : Nat → List (Int × List Int)
  | 0 => []
  | n + 1 => chainTs work n ++ [(work, if n = 0 then [] else [(n : Int) - 1])]
theorem chainTs_length (work : Int) (n : Nat) : (chainTs work n).length = n := by
  induction n with
  | zero => rfl
  | succ n ih => simp [chainTs, ih]

theorem Tryd.info51 : (Tryd.prog.info? 51).map (fun i => (i.zero, i.size, i.bytes)) = some (some (.agg #[.int .i64 0, .slice none 0 0]), 2, 32) := by kernel_rfl
end Go.Proofs.YtilpjhhjlokfcaaDoor
