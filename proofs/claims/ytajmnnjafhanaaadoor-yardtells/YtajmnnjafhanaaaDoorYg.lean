/- Jobs in a row of their own, place by place; copy of jobs; min of three; what Serve keeps in memory. -/
import Derived.Test.YtajmnnjafhanaaaDoorYf
namespace Go.Proofs.YtajmnnjafhanaaaDoor
open Go.RowKit Go.Deep

/-- What lies in a row of jobs, place by place. -/
def jobRow (W F : Nat → Int) : Nat → Value := fun j => .int .i64 (if j % 2 = 0 then W (j / 2) else F (j / 2))
theorem jobRow_wgt (W F : Nat → Int) (k : Nat) : jobRow W F (k * 2) = .int .i64 (W k) := by
  unfold jobRow
  rw [if_pos (by omega), show k * 2 / 2 = k by omega]
theorem jobRow_wts (W F : Nat → Int) (k : Nat) : jobRow W F (k * 2 + 1) = .int .i64 (F k) := by
  unfold jobRow
  rw [if_neg (by omega), show (k * 2 + 1) / 2 = k by omega]
def jobsL (n : Nat) (W F : Nat → Int) : List Jb := (List.range n).map (fun k => (W k, F k))
theorem jobsL_length (n : Nat) (W F : Nat → Int) : (jobsL n W F).length = n := by simp [jobsL]
theorem jobsL_at {n : Nat} (W F : Nat → Int) {k : Nat} (hk : k < n) : wgtJ (jobsL n W F) k = W k ∧ wtsJ (jobsL n W F) k = F k := by
  have e : (jobsL n W F).getD k (0, 0) = (W k, F k) := by simp [jobsL, hk]
  unfold wgtJ wtsJ
  rw [e]
  exact ⟨rfl, rfl⟩
theorem row_jobs {w : World} {L n : Nat} {W F : Nat → Int} (h : w.rowIs L 36 (n * 2) (jobRow W F)) (hn : n * 16 ≤ 140737488351232) : JobsAt w (.slice (some ⟨L, 0, none⟩) n n) (jobsL n W F) := by
  refine ⟨by rw [jobsL_length]; exact hn, _, n, by rw [jobsL_length], Or.inr ⟨L, 0, rfl, h.lt, fun k hk => ?_⟩⟩
  rw [jobsL_length] at hk
  have h1 := h.cell (i := k * 2) (by omega)
  have h2 := h.cell (i := k * 2 + 1) (by omega)
  rw [jobRow_wgt] at h1
  rw [jobRow_wts] at h2
  rw [(jobsL_at W F hk).1, (jobsL_at W F hk).2, Nat.zero_add]
  exact ⟨h1, h2⟩
theorem row_take {w : World} {L m : Nat} {W F G : Nat → Int} (h : w.rowIs L 36 m (jobRow W F)) (k : Nat) (x : Int) (hG : ∀ j, G j = if j = k then x else F j) :
    (w.setCell ⟨L, k * 2 + 1, none⟩ (.int .i64 x)).rowIs L 36 m (jobRow W G) := by
  refine (h.set (k * 2 + 1) (.int .i64 x)).congr (fun j _ => ?_)
  by_cases e1 : j = k * 2 + 1
  · subst e1
    rw [if_pos rfl, jobRow_wts, hG, if_pos rfl]
  · rw [if_neg e1]
    unfold jobRow
    by_cases e2 : j % 2 = 0
    · rw [if_pos e2, if_pos e2]
    · rw [if_neg e2, if_neg e2, hG, if_neg (by omega)]
theorem made_jobs (w : World) (n : Nat) : (w.alloc (.cells (madeCells #[.int .i64 0, .int .i64 0] (n * 2)) 36)).rowIs w.heap.size 36 (n * 2) (jobRow (fun _ => 0) (fun _ => 0)) :=
  ⟨_, blk_alloc_new _ _, size_madeCells _ _, fun i hi => by
    unfold jobRow
    rcases Nat.mod_two_eq_zero_or_one i with e | e <;> simp [madeCells, hi, e]⟩
theorem run_make_jobs (n : Nat) (hn : n ≤ 6) (wx : World) : (Instr.makeSlice 22 (.int .i64 (n : Int)) (.int .i64 (n : Int))).run Tryd.prog wx = .ok (.slice (some ⟨wx.heap.size, 0, none⟩) n n) (wx.alloc (.cells (madeCells #[.int .i64 0, .int .i64 0] (n * 2)) 36)) := by
  obtain ⟨i36, hi36, hz0, hz1, hz2⟩ := info_parts Tryd.info36
  have hr := run_make (P := Tryd.prog) wx 22 36 i36 _ Tryd.underlying22 hi36 hz0 .i64 .i64 n n (by omega) (by omega) (by rw [hz2]; omega) (by omega)
  simp only [hz1, Int.toNat_natCast] at hr
  exact hr
/-- min of three. -/
theorem run_min_three (ts : Array TypeId) (t : TypeId) (x y z m : Int) (h : m = min x (min y z)) (w : World) : (Builtin.min_ ts t #[.int .i64 x, .int .i64 y, .int .i64 z]).run Tryd.prog w = .ok (.int .i64 m) w := by
  have e : (if z < (if y < x then y else x) then z else (if y < x then y else x)) = m := by
    rw [h]
    split <;> split <;> omega
  simp [Builtin.min_, Builtin.min2, e]

/-- copy of jobs into a row of as many. -/
theorem run_copy_jobs (ty : TypeId) (w : World) (L : Nat) (gs : List Jb) (a : Option Addr) (c : Nat) (f : Nat → Value) (hrow : w.rowIs L 36 (gs.length * 2) f)
    (hsrc : gs = [] ∨ ∃ b o, a = some ⟨b, o, none⟩ ∧ b < w.heap.size ∧ ∀ k, k < gs.length → w.cell? ⟨b, o + k * 2, none⟩ = some (.int .i64 (wgtJ gs k)) ∧ w.cell? ⟨b, o + k * 2 + 1, none⟩ = some (.int .i64 (wtsJ gs k))) :
    ∃ w', (Builtin.copy_ #[22, 22] ty #[.slice (some ⟨L, 0, none⟩) gs.length gs.length, .slice a gs.length c]).run Tryd.prog w = .ok (goInt gs.length) w' ∧ w'.rowIs L 36 (gs.length * 2) (jobRow (wgtJ gs) (wtsJ gs)) ∧ Below L w w' := by
  obtain ⟨cur, hg, hcs, hcv⟩ := hrow
  obtain ⟨i3, hi3, hz0, hz1, hz2⟩ := info_parts Tryd.info36
  by_cases h0 : gs = []
  · subst h0
    refine ⟨w, ?_, ⟨cur, hg, hcs, fun i hi => by simp at hi⟩, Below.refl _ _⟩
    have hl : ∀ (x : Addr), (loadCells x 0).run Tryd.prog w = .ok #[] w := fun x => by simpa using run_loadCells_list (P := Tryd.prog) w x [] (by simp)
    cases a <;> simp [Builtin.copy_, run_underlying Tryd.underlying22, Builtin.lenOf, Builtin.firstCells, sizeOf, typeInfo, hi3, storeCells, hl]
  · obtain ⟨b, o, rfl, hbl, hc⟩ := hsrc.resolve_left h0
    have hl := run_loadCells_list (P := Tryd.prog) w ⟨b, o, none⟩ (flatJ gs) (jobs_src hc)
    have hst := run_storeCells_at Tryd.prog L 0 36 (flatJ gs) 0 cur w hg (by rw [flatJ_length]; omega) (flatJ_one gs)
    rw [flatJ_length] at hl
    refine ⟨w.setRow L (cur.toList.take (0 + 0) ++ flatJ gs ++ cur.toList.drop (0 + 0 + (flatJ gs).length)).toArray, ?_, ⟨_, setRow_heap w L _ _ 36 _ hg, ?_, fun i hi => ?_⟩, ?_⟩
    · have hmn : Nat.min gs.length gs.length = gs.length := Nat.min_self _
      simp [Builtin.copy_, run_underlying Tryd.underlying22, Builtin.lenOf, Builtin.firstCells, sizeOf, typeInfo, hi3, hz1, hl, hst, hmn]
    · simp [flatJ_length, hcs]
    · have e : (cur.toList.take (0 + 0) ++ flatJ gs ++ cur.toList.drop (0 + 0 + (flatJ gs).length)) = flatJ gs := by
        rw [List.drop_eq_nil_of_le (by rw [flatJ_length]; simp [hcs])]
        simp
      rw [e, List.getElem?_toArray]
      have h1 := flatJ_at gs (i / 2) (by omega)
      rcases Nat.mod_two_eq_zero_or_one i with e | e
      · rw [show i / 2 * 2 = i by omega] at h1
        rw [h1.1]; unfold jobRow; rw [if_pos e]
      · rw [show i / 2 * 2 + 1 = i by omega] at h1
        rw [h1.2]; unfold jobRow; rw [if_neg (by omega)]
    · exact below_setRow (Below.refl _ _) (Nat.le_refl _) _
theorem wpList_copy_jobs {ops : Array Oper} {rest : List Oper} {op : Oper} {a : Act} {Q : Exit → Act → World → Prop} {w : World} (hgd : op.guard = none) (d s : Operand) (ho : op.op = .call { callee := .builtin .copy, args := #[d, s], argTypes := #[22, 22] })
    (L : Nat) (gs : List Jb) (sa : Option Addr) (c : Nat) (f : Nat → Value) (hd : a.eval d = .slice (some ⟨L, 0, none⟩) gs.length gs.length) (hs : a.eval s = .slice sa gs.length c) (hrow : w.rowIs L 36 (gs.length * 2) f)
    (hsrc : JobsAt w (.slice sa gs.length c) gs)
    (h : ∀ w', Hid (w'.rowIs L 36 (gs.length * 2) (jobRow (wgtJ gs) (wtsJ gs))) → Below L w w' → wpList Tryd.prog ops Q rest (a.put op.dst (goInt gs.length)) w') : wpList Tryd.prog ops Q (op :: rest) a w := by
  refine wpList_plain hgd fun K hK => ?_
  obtain ⟨_, a2, c2, hv, hsrc⟩ := hsrc
  simp only [Value.slice.injEq, true_and] at hv
  obtain ⟨rfl, rfl⟩ := hv
  obtain ⟨w', hr, h2, h3⟩ := run_copy_jobs op.type w L gs sa c f hrow hsrc
  unfold Oper.wp execOp
  simp only [ho, resolve, invoke, builtin, Sem.run_bind, Sem.run_pure, Result.andThen_ok, List.map_toArray, List.map_cons, List.map_nil, hd, hs, hr]
  exact hK _ _ (h w' h2 h3)

/-- What Serve keeps: the jobs' row in block L, what was done in a row of its own, from block B on. -/
structure SM (B L n : Nat) (W : Nat → Int) (w0 w : World) (ov : Value) (s : Ys) : Prop where
  row : w.rowIs L 36 (n * 2) (jobRow W (fun k => (s.left k : Int)))
  out : RowI B w ov (intsOf s.out)
  below : Below B w0 w
  ge : B ≤ L
theorem row_apart {w : World} {B L m : Nat} {f : Nat → Value} {v : Value} {zs : List Int} (h : w.rowIs L 36 m f) (ho : RowI B w v zs) : v.ownBlock ≠ some L := by
  intro e
  obtain ⟨cur, hg, _⟩ := h
  rcases ho.2 with ⟨rfl, _⟩ | ⟨g, cap, cur2, rfl, _, hh, _⟩
  · cases e
  · have : g = L := by simpa [Value.ownBlock] using e
    subst this
    rw [hg] at hh
    simp at hh
theorem SM.later {B L n : Nat} {W : Nat → Int} {w0 w w' : World} {ov : Value} {s : Ys} (h : SM B L n W w0 w ov s) (hb : Below w.heap.size w w') : SM B L n W w0 w' ov s :=
  ⟨h.row.of_block (hb.block _ h.row.lt), h.out.of_blocks (fun k hk => hb.block k (h.out.low hk).2), h.below.trans (hb.mono (by have := h.row.lt; have := h.ge; omega)), h.ge⟩
theorem SM.put {B L n : Nat} {W : Nat → Int} {w0 w : World} {ov : Value} {s : Ys} (h : SM B L n W w0 w ov s) (k x : Nat) : SM B L n W w0 (w.setCell ⟨L, k * 2 + 1, none⟩ (.int .i64 (x : Int))) ov ⟨s.out, fun j => if j = k then x else s.left j⟩ :=
  ⟨row_take h.row k x (fun j => by dsimp only; split <;> rfl), h.out.of_blocks (fun j hj => Below.heap_setCell _ _ _ _ (by show j ≠ L; intro e; exact row_apart h.row h.out (by rw [hj, e]))), h.below.setCell (p := ⟨L, k * 2 + 1, none⟩) h.ge _, h.ge⟩
theorem SM.more {B L n : Nat} {W : Nat → Int} {w0 w w' : World} {ov v' : Value} {s : Ys} {x : Nat} (h : SM B L n W w0 w ov s) (hr : RowI B w' v' (intsOf s.out ++ [(x : Int)])) (hg : w.grownBy w' ov.ownBlock) : SM B L n W w0 w' v' ⟨s.out ++ [x], s.left⟩ := by
  have hL := h.row.lt
  have hB := h.ge
  refine ⟨h.row.of_block (hg.block L h.row.lt (fun e => row_apart h.row h.out e.symm)), by rw [show intsOf (s.out ++ [x]) = intsOf s.out ++ [(x : Int)] by simp [intsOf]]; exact hr, h.below.trans ⟨hg.os, hg.tape, hg.output, hg.size, fun k hk => hg.block k (by omega) (fun e => by have := (h.out.low e.symm).1; omega)⟩, h.ge⟩
theorem one_rds (w : World) (z : Int) : Rds (fun _ => True) (w.alloc (.cells #[.int .i64 z] 3)) (.slice (some ⟨w.heap.size, 0, none⟩) 1 1) [z] := by
  refine ⟨_, _, rfl, Nat.le_refl _, fun k hk => ⟨w.heap.size, 0, rfl, trivial, by simp, ?_⟩⟩
  obtain rfl : k = 0 := by simpa using hk
  unfold World.cell?
  dsimp only
  rw [blk_alloc_new]
  rfl
end Go.Proofs.YtajmnnjafhanaaaDoor
