/- The document's Serve; the sameness of ints. -/
import Derived.Test.YtajmnnjafhanaaaDoorYi
import Derived.Test.YtajmnnjafhanaaaDoorYe
namespace Go.Proofs.YtajmnnjafhanaaaDoor
open Go.RowKit Go.Deep

theorem append_none (ty : TypeId) (a : Option Addr) (c : Nat) (w : World) : (Builtin.append_ #[22, 22] ty #[.slice none 0 0, .slice a 0 c]).run Tryd.prog w = .ok (.slice none 0 0) w := by
  unfold Builtin.append_
  cases a with
  | none => go_simp
  | some a => go_simp
/-- append of jobs to none. -/
theorem wpList_append_jobs {ops : Array Oper} {rest : List Oper} {op : Oper} {a : Act} {Q : Exit → Act → World → Prop} {w : World} (hgd : op.guard = none) (s x : Operand) (ho : op.op = .call { callee := .builtin .append, args := #[s, x], argTypes := #[22, 22] })
    (gs : List Jb) (xv : Value) (hs : a.eval s = .slice none 0 0) (hx : a.eval x = xv) (hg : JobsAt w xv gs) (h6 : gs.length ≤ 6)
    (h : ∀ v' w', RowJ w.heap.size w' v' gs → Below w.heap.size w w' → wpList Tryd.prog ops Q rest (a.put op.dst v') w') : wpList Tryd.prog ops Q (op :: rest) a w := by
  refine wpList_plain hgd fun K hK => ?_
  obtain ⟨_, sa, c, rfl, hg⟩ := hg
  obtain ⟨v', w', hr, h2, h3⟩ : ∃ v' w', (Builtin.append_ #[22, 22] op.type #[.slice none 0 0, .slice sa gs.length c]).run Tryd.prog w = .ok v' w' ∧ RowJ w.heap.size w' v' gs ∧ Below w.heap.size w w' := by
    rcases hg with rfl | ⟨b, o, rfl, _, hc⟩
    · exact ⟨_, w, append_none op.type sa c w, RowJ.nil _ _, Below.refl _ _⟩
    · obtain ⟨i3, hi3, hz0, hz1, hz2⟩ := info_parts Tryd.info36
      obtain ⟨v', w', h1, h2, h3, _, _⟩ := run_append_own_at (P := Tryd.prog) w w.heap.size 22 op.type 36 i3 _ 2 16 Tryd.underlying22 hi3 hz0 hz1 hz2 rfl (by decide) (.slice none 0 0) 0 [] (World.ownsRow_nil _ _ _ _) ⟨b, o, none⟩ gs.length c (flatJ gs) (flatJ_length gs) (jobs_src hc) (flatJ_one gs) (by unfold maxLen; omega) (by omega) (Nat.le_refl _)
      rw [Nat.zero_add, List.nil_append] at h2
      exact ⟨v', w', h1, h2, ⟨h3.os, h3.tape, h3.output, h3.size, fun k hk => h3.block k hk (by simp [Value.ownBlock])⟩⟩
  unfold Oper.wp execOp
  simp only [ho, resolve, invoke, builtin, Sem.run_bind, Sem.run_pure, Result.andThen_ok, List.map_toArray, List.map_cons, List.map_nil, hs, hx, hr]
  exact hK _ _ (h v' w' h2 h3)
theorem flatJ_setW {os : List Jb} {i : Nat} (hi : i < os.length) (y : Int) : (flatJ os).set (i * 2 + 1) (.int .i64 y) = flatJ (os.set i (wgtJ os i, y)) := by
  rw [← flatJ_set hi]
  congr 1
  refine List.ext_getElem? fun j => ?_
  rw [List.getElem?_set]
  by_cases e : i * 2 = j
  · subst e
    rw [if_pos rfl, if_pos (by rw [flatJ_length]; omega)]
    exact (flatJ_at os i hi).1
  · rw [if_neg e]
theorem jobsL_set {n : Nat} {W F G : Nat → Int} {i : Nat} (hi : i < n) (y : Int) (hG : ∀ j, G j = if j = i then y else F j) : (jobsL n W F).set i (wgtJ (jobsL n W F) i, y) = jobsL n W G := by
  rw [(jobsL_at W F hi).1]
  unfold jobsL
  refine List.ext_getElem? fun j => ?_
  rw [List.getElem?_set]
  by_cases e : i = j
  · subst e
    simp [hi, hG]
  · rw [if_neg e]
    by_cases hj : j < n
    · have e2 : ¬ j = i := fun h => e h.symm
      simp [hj, hG, e2]
    · simp [hj]
/-- What the document's Serve keeps. -/
structure DM (B n : Nat) (W : Nat → Int) (w0 w : World) (av ov : Value) (s : Ys) : Prop where
  row : RowJ B w av (jobsL n W (fun k => (s.left k : Int)))
  out : RowI B w ov (intsOf s.out)
  below : Below B w0 w
  ge : B ≤ w.heap.size
theorem rows_apart {w : World} {B B' : Nat} {v u : Value} {gs : List Jb} {zs : List Int} {k : Nat} (h : RowJ B w v gs) (ho : RowI B' w u zs) (hv : v.ownBlock = some k) : u.ownBlock ≠ some k := by
  intro e
  rcases h.2 with ⟨rfl, _⟩ | ⟨g1, cap1, cur1, rfl, _, hg, _⟩
  · cases hv
  rcases ho.2 with ⟨rfl, _⟩ | ⟨g, cap, cur2, rfl, _, hh, _⟩
  · cases e
  have h1 : g1 = k := by simpa [Value.ownBlock] using hv
  have h2 : g = k := by simpa [Value.ownBlock] using e
  subst h1
  subst h2
  rw [hg] at hh
  simp at hh
theorem RowJ.low {b : Nat} {w : World} {v : Value} {gs : List Jb} (h : RowJ b w v gs) {k : Nat} (hk : v.ownBlock = some k) : b ≤ k ∧ k < w.heap.size := World.ownsRow.lt h k hk
theorem RowJ.of_blocks {b : Nat} {w w' : World} {v : Value} {gs : List Jb} (h : RowJ b w v gs) (hk : ∀ k, v.ownBlock = some k → w'.heap[k]? = w.heap[k]?) : RowJ b w' v gs := by
  rcases h.2 with ⟨rfl, hn⟩ | ⟨g, cap, cur, rfl, hb, hh, hr⟩
  · exact ⟨h.1, Or.inl ⟨rfl, hn⟩⟩
  · exact ⟨h.1, Or.inr ⟨g, cap, cur, rfl, hb, (hk g rfl).trans hh, hr⟩⟩
theorem DM.later {B n : Nat} {W : Nat → Int} {w0 w w' : World} {av ov : Value} {s : Ys} (h : DM B n W w0 w av ov s) (hb : Below w.heap.size w w') : DM B n W w0 w' av ov s :=
  ⟨h.row.of_blocks (fun k hk => hb.block k (h.row.low hk).2), h.out.of_blocks (fun k hk => hb.block k (h.out.low hk).2), h.below.trans (hb.mono h.ge), Nat.le_trans h.ge hb.size⟩
theorem DM.put {B n g c : Nat} {W : Nat → Int} {w0 w : World} {ov : Value} {s : Ys} (h : DM B n W w0 w (.slice (some ⟨g, 0, none⟩) n c) ov s) {k : Nat} (hk : k < n) (x : Nat) : DM B n W w0 (w.setCell ⟨g, k * 2 + 1, none⟩ (.int .i64 (x : Int))) (.slice (some ⟨g, 0, none⟩) n c) ov ⟨s.out, fun j => if j = k then x else s.left j⟩ := by
  refine ⟨?_, h.out.of_blocks (fun j hj => Below.heap_setCell _ _ _ _ (by show j ≠ g; intro e; exact rows_apart h.row h.out rfl (by rw [hj, e]))), h.below.setCell (p := ⟨g, k * 2 + 1, none⟩) (h.row.low rfl).1 _, by simpa using h.ge⟩
  have hr := h.row
  unfold RowJ at hr ⊢
  rw [jobsL_length] at hr ⊢
  have hst := (World.ownsRow.stored hr (k * 2 + 1) (.int .i64 (x : Int))).1
  rw [flatJ_setW (by rw [jobsL_length]; exact hk), jobsL_set (G := fun j => (((if j = k then x else s.left j : Nat) : Nat) : Int)) hk (x : Int) (fun j => by split <;> rfl)] at hst
  exact hst
theorem DM.more {B n : Nat} {W : Nat → Int} {w0 w w' : World} {av ov v' : Value} {s : Ys} {x : Nat} (h : DM B n W w0 w av ov s) (hr : RowI B w' v' (intsOf s.out ++ [(x : Int)])) (hg : w.grownBy w' ov.ownBlock) : DM B n W w0 w' av v' ⟨s.out ++ [x], s.left⟩ := by
  refine ⟨h.row.of_blocks (fun k hk => hg.block k (h.row.low hk).2 (fun e => rows_apart h.row h.out hk e.symm)), by rw [show intsOf (s.out ++ [x]) = intsOf s.out ++ [(x : Int)] by simp [intsOf]]; exact hr, h.below.trans ⟨hg.os, hg.tape, hg.output, hg.size, fun k hk => hg.block k (by have := h.ge; omega) (fun e => by have := (h.out.low e.symm).1; omega)⟩, Nat.le_trans h.ge hg.size⟩
/-- What is read of the document's jobs. -/
theorem DM.cells {B n : Nat} {W : Nat → Int} {w0 w : World} {av ov : Value} {s : Ys} (h : DM B n W w0 w av ov s) {k : Nat} (hk : k < n) : ∃ g c, av = .slice (some ⟨g, 0, none⟩) n c ∧ w.cell? ⟨g, k * 2, none⟩ = some (.int .i64 (W k)) ∧ w.cell? ⟨g, k * 2 + 1, none⟩ = some (.int .i64 (s.left k : Int)) ∧ w.frozen? ⟨g, k * 2 + 1, none⟩ = false := by
  obtain ⟨g, c, hv, _, _⟩ := h.row.shape (by rw [jobsL_length]; omega)
  rw [jobsL_length] at hv
  subst hv
  have hr := h.row
  unfold RowJ at hr
  rw [jobsL_length] at hr
  have h1 := World.ownsRow.cellAt hr (k * 2) (by omega)
  have h2 := World.ownsRow.cellAt hr (k * 2 + 1) (by omega)
  obtain ⟨h3, h4⟩ := flatJ_at (jobsL n W (fun k => (s.left k : Int))) k (by rw [jobsL_length]; exact hk)
  rw [(jobsL_at W _ hk).1] at h3
  rw [(jobsL_at W _ hk).2] at h4
  exact ⟨g, c, rfl, h1.trans h3, h2.trans h4, World.ownsRow.frozenAt hr (k * 2 + 1)⟩
theorem DM.at {B n g c : Nat} {W : Nat → Int} {w0 w : World} {ov : Value} {s : Ys} (h : DM B n W w0 w (.slice (some ⟨g, 0, none⟩) n c) ov s) {k : Nat} (hk : k < n) : w.cell? ⟨g, k * 2 + 1, none⟩ = some (.int .i64 (s.left k : Int)) ∧ w.frozen? ⟨g, k * 2 + 1, none⟩ = false := by
  obtain ⟨g2, c2, hv, _, h2, h3⟩ := h.cells hk
  simp only [Value.slice.injEq, Option.some.injEq, Addr.mk.injEq, true_and, and_true] at hv
  obtain ⟨rfl, rfl⟩ := hv
  exact ⟨h2, h3⟩
end Go.Proofs.YtajmnnjafhanaaaDoor
