/- behind: one behind the other. -/
import Derived.Test.YtcankblanhpmpaaDoorXi
namespace Go.Proofs.YtcankblanhpmpaaDoor
open Go.RowKit Go.Deep

theorem Tree.first_sorted (t : Tree) : ∀ n, (t.first n).Pairwise (· < ·) := by
  induction t with
  | num ds => intro n; simp [Tree.first]
  | seq a b iha _ => intro n; exact iha n
  | par a b iha ihb =>
    intro n
    simp only [Tree.first]
    rw [List.pairwise_append]
    refine ⟨iha n, ihb _, fun x hx y hy => ?_⟩
    have h1 := a.first_range n x hx
    have h2 := b.first_range _ y hy
    omega
theorem not_mem_take {fs : List Nat} (h : fs.Pairwise (· < ·)) {j : Nat} (hj : j < fs.length) : fs.getD j 0 ∉ fs.take j := by
  intro hm
  rw [List.getD_eq_getElem?_getD, List.getElem?_eq_getElem hj] at hm
  obtain ⟨q, hq, he⟩ := List.mem_take_iff_getElem.1 hm
  have := List.pairwise_iff_getElem.1 h q j (by omega) hj (by omega)
  simp at he
  omega
theorem needs_taken (fs : List Nat) (hs : fs.Pairwise (· < ·)) (zs : List Int) (T : List (Int × List Int)) {j : Nat} (hj : j < fs.length) (hx : fs.getD j 0 < T.length) : needsOf (setAll (fs.take j) zs T) (fs.getD j 0) = needsOf T (fs.getD j 0) := by
  unfold needsOf
  rw [setAll_getD _ _ _ _ hx, if_neg (not_mem_take hs hj)]
/-- The row of tasks of the document's reader. -/
theorem Rw.row {R i g cap n : Nat} {l : List UInt8} {e : Int} {ts : List (Int × List Int)} {w : World} (h : Rw R l i e ts w) (htv : w.cell? ⟨R, 2, none⟩ = some (.slice (some ⟨g, 0, none⟩) n cap)) :
    n = ts.length ∧ R + 1 ≤ g ∧ (∃ cs, w.heap[g]? = some (.cells cs 37 (0, 0))) ∧ RowT (R + 1) (fun _ => True) w (.slice (some ⟨g, 0, none⟩) n cap) ts := by
  obtain ⟨tv, h1, htr⟩ := h
  have htv' : w.cell? ⟨R, 2, none⟩ = some tv := by simp [World.cell?, h1]
  obtain rfl : Value.slice (some ⟨g, 0, none⟩) n cap = tv := Option.some.inj (htv.symm.trans htv')
  have htr' := htr
  obtain ⟨xs, ho, _⟩ := htr
  rcases ho.2 with ⟨hv, _⟩ | ⟨g', cap', cur, hv, hg, hh, _⟩
  · cases hv
  · simp only [Value.slice.injEq, Option.some.injEq, Addr.mk.injEq, and_true] at hv
    obtain ⟨rfl, rfl, rfl⟩ := hv
    exact ⟨rfl, hg, ⟨cur, hh⟩, htr'⟩
theorem Rw.setNeed {R i g cap n x : Nat} {l : List UInt8} {e : Int} {ts : List (Int × List Int)} {w : World} {nv : Value} {zs : List Int} (h : Rw R l i e ts w) (htv : w.cell? ⟨R, 2, none⟩ = some (.slice (some ⟨g, 0, none⟩) n cap)) (hx : x < ts.length) (hn : RowI (R + 1) w nv zs) :
    Rw R l i e (setN zs ts x) (w.setCell ⟨g, x * 2 + 1, none⟩ nv) := by
  obtain ⟨rfl, hg, ⟨cs, hT⟩, htr⟩ := h.row htv
  obtain ⟨tv, h1, _⟩ := h
  obtain rfl : Value.slice (some ⟨g, 0, none⟩) ts.length cap = tv := by
    have : w.cell? ⟨R, 2, none⟩ = some tv := by simp [World.cell?, h1]
    exact Option.some.inj (htv.symm.trans this)
  exact ⟨_, setT_other hT _ _ h1 (by decide), htr.set hx hn (fun _ _ => trivial)⟩
theorem rowT_needs {b : Nat} {A : Nat → Prop} {w : World} {g cap n x : Nat} {ts : List (Int × List Int)} (h : RowT b A w (.slice (some ⟨g, 0, none⟩) n cap) ts) (hx : x < ts.length) : (∃ nv, w.cell? ⟨g, x * 2 + 1, none⟩ = some nv ∧ RowI b w nv (needsOf ts x)) ∧ w.frozen? ⟨g, x * 2 + 1, none⟩ = false := by
  have hn : n = ts.length := by
    obtain ⟨a, c', e⟩ := h.shape
    simp only [Value.slice.injEq] at e
    exact e.2.1
  subst hn
  obtain ⟨xs, ho, hxs⟩ := h
  obtain ⟨_, nv, h2, h3, _⟩ := hxs x hx
  have e := ho.cellAt (x * 2 + 1) (by omega)
  exact ⟨⟨nv, by rw [e]; exact h2, h3⟩, ho.frozenAt _⟩
theorem run_index2 {o : Oper} {a : Act} {w : World} {g L cap x : Nat} (hop : o.op = Op.indexAddr 23 (.tmp 49) (.tmp 54)) (h1 : a.tmps[49]?.getD undef = .slice (some ⟨g, 0, none⟩) L cap) (h2 : a.tmps[54]?.getD undef = .int .i64 (x : Nat)) (hx : x < L) :
    (execOp a.eval o).run Tryd.prog w = .ok (.value (.pointer (some ⟨g, x * 2, none⟩))) w := by
  have hxI : (x : Int) < (L : Int) := by omega
  unfold execOp
  rw [hop]
  go_simp
theorem run_field2 {o : Oper} {a : Act} {w : World} {g n : Nat} (hop : o.op = Op.fieldAddr 37 (.tmp 59) 1) (h1 : a.tmps[59]?.getD undef = .pointer (some ⟨g, n, none⟩)) :
    (execOp a.eval o).run Tryd.prog w = .ok (.value (.pointer (some ⟨g, n + 1, none⟩))) w := by
  unfold execOp
  rw [hop]
  go_simp
theorem run_storeSlice2 {o : Oper} {a : Act} {w : World} {g n L nc : Nat} {na : Option Addr} {u : Value} (hop : o.op = Op.store 35 (.tmp 60) (.tmp 58)) (h1 : a.tmps[60]?.getD undef = .pointer (some ⟨g, n, none⟩)) (h2 : a.tmps[58]?.getD undef = .slice na L nc) (hc : w.cell? ⟨g, n, none⟩ = some u) (hf : w.frozen? ⟨g, n, none⟩ = false) :
    (execOp a.eval o).run Tryd.prog w = .ok .skip (w.setCell ⟨g, n, none⟩ (.slice na L nc)) := by
  unfold execOp
  rw [hop]
  go_simp

theorem r_index23 {o : Oper} {a : Act} {w : World} {m n g L cap x : Nat} (hop : o.op = Op.indexAddr 23 (.tmp m) (.tmp n)) (h1 : a.tmps[m]?.getD undef = .slice (some ⟨g, 0, none⟩) L cap) (h2 : a.tmps[n]?.getD undef = .int .i64 (x : Nat)) (hx : x < L) :
    (execOp a.eval o).run Tryd.prog w = .ok (.value (.pointer (some ⟨g, x * 2, none⟩))) w := by
  have hxI : (x : Int) < (L : Int) := by omega
  unfold execOp
  rw [hop]
  go_simp
theorem r_index35 {o : Oper} {a : Act} {w : World} {m n g L cap x : Nat} (hop : o.op = Op.indexAddr 35 (.tmp m) (.tmp n)) (h1 : a.tmps[m]?.getD undef = .slice (some ⟨g, 0, none⟩) L cap) (h2 : a.tmps[n]?.getD undef = .int .i64 (x : Nat)) (hx : x < L) :
    (execOp a.eval o).run Tryd.prog w = .ok (.value (.pointer (some ⟨g, x, none⟩))) w := by
  have hxI : (x : Int) < (L : Int) := by omega
  unfold execOp
  rw [hop]
  go_simp
theorem r_field37 {o : Oper} {a : Act} {w : World} {m g n : Nat} (hop : o.op = Op.fieldAddr 37 (.tmp m) 1) (h1 : a.tmps[m]?.getD undef = .pointer (some ⟨g, n, none⟩)) :
    (execOp a.eval o).run Tryd.prog w = .ok (.value (.pointer (some ⟨g, n + 1, none⟩))) w := by
  unfold execOp
  rw [hop]
  go_simp
theorem r_load23 {o : Oper} {a : Act} {w : World} {m : Nat} {q : Addr} {x : Option Addr} {y z : Nat} (hop : o.op = Op.load 23 (.tmp m)) (h1 : a.tmps[m]?.getD undef = .pointer (some q)) (hc : w.cell? q = some (.slice x y z)) :
    (execOp a.eval o).run Tryd.prog w = .ok (.value (.slice x y z)) w := by
  unfold execOp
  rw [hop]
  go_simp
theorem r_load35 {o : Oper} {a : Act} {w : World} {m : Nat} {q : Addr} {x : Option Addr} {y z : Nat} (hop : o.op = Op.load 35 (.tmp m)) (h1 : a.tmps[m]?.getD undef = .pointer (some q)) (hc : w.cell? q = some (.slice x y z)) :
    (execOp a.eval o).run Tryd.prog w = .ok (.value (.slice x y z)) w := by
  unfold execOp
  rw [hop]
  go_simp
theorem r_load3 {o : Oper} {a : Act} {w : World} {m : Nat} {q : Addr} {x : Int} (hop : o.op = Op.load 3 (.tmp m)) (h1 : a.tmps[m]?.getD undef = .pointer (some q)) (hc : w.cell? q = some (.int .i64 x)) :
    (execOp a.eval o).run Tryd.prog w = .ok (.value (.int .i64 x)) w := by
  unfold execOp
  rw [hop]
  go_simp
theorem r_move {o : Oper} {a : Act} {w : World} {m : Nat} {v : Value} (hop : o.op = Op.move (.tmp m)) (h1 : a.tmps[m]?.getD undef = v) : (execOp a.eval o).run Tryd.prog w = .ok (.value v) w := by
  have e : a.eval (.tmp m) = v := by simpa [Act.eval] using h1
  unfold execOp
  rw [hop]
  simp only [Sem.run_pure, e]
theorem r_nil {o : Oper} {a : Act} {w : World} {m : Nat} {q : Addr} (hop : o.op = Op.nilCheck (.tmp m)) (h1 : a.tmps[m]?.getD undef = .pointer (some q)) : (execOp a.eval o).run Tryd.prog w = .ok (.value (.pointer (some q))) w := by
  unfold execOp
  rw [hop]
  go_simp
theorem r_field44 {o : Oper} {a : Act} {w : World} {m g : Nat} (hop : o.op = Op.fieldAddr 44 (.tmp m) 2) (h1 : a.tmps[m]?.getD undef = .pointer (some ⟨g, 0, none⟩)) :
    (execOp a.eval o).run Tryd.prog w = .ok (.value (.pointer (some ⟨g, 2, none⟩))) w := by
  unfold execOp
  rw [hop]
  go_simp
theorem r_field46a {o : Oper} {a : Act} {w : World} {m g : Nat} (hop : o.op = Op.fieldAddr 46 (.tmp m) 0) (h1 : a.tmps[m]?.getD undef = .pointer (some ⟨g, 0, none⟩)) :
    (execOp a.eval o).run Tryd.prog w = .ok (.value (.pointer (some ⟨g, 0, none⟩))) w := by
  unfold execOp
  rw [hop]
  go_simp
theorem r_field46b {o : Oper} {a : Act} {w : World} {m g : Nat} (hop : o.op = Op.fieldAddr 46 (.tmp m) 1) (h1 : a.tmps[m]?.getD undef = .pointer (some ⟨g, 0, none⟩)) :
    (execOp a.eval o).run Tryd.prog w = .ok (.value (.pointer (some ⟨g, 1, none⟩))) w := by
  unfold execOp
  rw [hop]
  go_simp
theorem run_append0 {o : Oper} {a : Act} {w : World} {na : Option Addr} {nc : Nat} (hop : o.op = .call { callee := .builtin .append, args := #[.tmp 32, .tmp 44], argTypes := #[35, 35] }) (h1 : a.tmps[32]?.getD undef = .slice none 0 0) (h2 : a.tmps[44]?.getD undef = .slice na 0 nc) :
    (execOp a.eval o).run Tryd.prog w = .ok (.value (.slice none 0 0)) w := by
  have e1 : a.eval (.tmp 32) = .slice none 0 0 := by simpa [Act.eval] using h1
  have e2 : a.eval (.tmp 44) = .slice na 0 nc := by simpa [Act.eval] using h2
  unfold execOp
  simp only [hop, resolve, invoke, builtin, Sem.run_bind, Sem.run_pure, Result.andThen_ok, List.map_toArray, List.map_cons, List.map_nil, e1, e2, append_zero _ none 0 0 na nc w (Nat.le_refl _)]
theorem r_append {o : Oper} {a : Act} {w w' : World} {m n : Nat} {v x v' : Value} (hop : o.op = .call { callee := .builtin .append, args := #[.tmp m, .tmp n], argTypes := #[35, 35] }) (h1 : a.tmps[m]?.getD undef = v) (h2 : a.tmps[n]?.getD undef = x)
    (hr : (Builtin.append_ #[35, 35] o.type #[v, x]).run Tryd.prog w = .ok v' w') : (execOp a.eval o).run Tryd.prog w = .ok (.value v') w' := by
  have e1 : a.eval (.tmp m) = v := by simpa [Act.eval] using h1
  have e2 : a.eval (.tmp n) = x := by simpa [Act.eval] using h2
  unfold execOp
  simp only [hop, resolve, invoke, builtin, Sem.run_bind, Sem.run_pure, Result.andThen_ok, List.map_toArray, List.map_cons, List.map_nil, e1, e2, hr]
theorem r_assign {o : Oper} {a : Act} {w : World} {m : Nat} {v : Value} (hop : o.op = Op.assign (.tmp m)) (h1 : a.tmps[m]?.getD undef = v) : (execOp a.eval o).run Tryd.prog w = .ok (.value v) w := by
  have e : a.eval (.tmp m) = v := by simpa [Act.eval] using h1
  unfold execOp
  rw [hop]
  simp only [Sem.run_pure, e]
section
variable {P : Program} {ops : Array Oper} {md : Region.Mode} {Q : Exit → Act → World → Prop} {S : World → Prop}
theorem wpAnyH_runD {fuel : Nat} {listed : Array Bool} {a : Act} {w w' : World} {v : Value} {o : Oper} {i : Nat} (d : Option Nat) (hr : Region.ready md ops listed = [i]) (hi : ops[i]? = some o) (hd : o.dst = d) (hw : Region.wanted o (yielded ops a.tmps) = true) (hx : (execOp a.eval o).run P w = .ok (.value v) w') (hS : S w')
    (h : wpAnyH P md ops Q S fuel (listed.setIfInBounds i true) (a.put d v) w') : wpAnyH P md ops Q S (fuel + 1) listed a w := by
  subst hd
  exact wpAnyH_run hr hi hw hx hS h
end

/-- While what the first ones of t2 need is laid. -/
structure Lay2 (R : Nat) (l : List UInt8) (ts : List (Int × List Int)) (w : World) (B3 B4 : Nat) (wr : World) (t t2 : Tree) (i k k2 j : Nat) (fv lv fv2 lv2 : Value) (zf zl zf2 zl2 : List Int) (wk sp wk2 sp2 : Int) : Prop where
  rw : Rw R l k2 0 (setAll ((t2.first (ts.length + t.count)).take j) (ofNats (t.last ts.length)) (t2.lay V2 (t.lay V2 ts))) wr
  c : Cloths w.heap.size wr fv lv zf zl wk sp i k
  d : Cloths w.heap.size wr fv2 lv2 zf2 zl2 wk2 sp2 (k + 1) k2
  b3 : wr.heap[B3]? = some (.cells #[fv, lv, .int .i64 wk, .int .i64 sp] 46 (0, 0))
  b4 : wr.heap[B4]? = some (.cells #[fv2, lv2, .int .i64 wk2, .int .i64 sp2] 46 (0, 0))
  n0 : wr.heap[w.heap.size]? = some (.cells #[.slice none 0 0, .slice none 0 0, .int .i64 0, .int .i64 0] 46 (0, 0))
  kp : Kp R w wr

end Go.Proofs.YtcankblanhpmpaaDoor
