/- append of one row of numbers to another, whichever is empty. -/
import Derived.Test.YtcankblanhpmpaaDoorXg
namespace Go.Proofs.YtcankblanhpmpaaDoor
open Go.RowKit Go.Deep

theorem append_zero (ty : TypeId) (b : Option Addr) (n c : Nat) (a : Option Addr) (c' : Nat) (w : World) (h : n ≤ c) : (Builtin.append_ #[35, 35] ty #[.slice b n c, .slice a 0 c']).run Tryd.prog w = .ok (.slice b n c) w := by
  unfold Builtin.append_
  cases b with
  | none => 
    cases a with
    | none => go_simp
    | some a => go_simp
  | some b =>
    cases a with
    | none => go_simp
    | some a => go_simp
theorem RowI.cap {B : Nat} {w : World} {v : Value} {zs : List Int} (h : RowI B w v zs) : ∃ a c, v = .slice a zs.length c ∧ zs.length ≤ c := by
  rcases h.2 with ⟨rfl, hn⟩ | ⟨g, cap, cur, rfl, _, _, hc, _⟩
  · exact ⟨none, 0, by rw [hn], by omega⟩
  · exact ⟨_, _, rfl, hc⟩
theorem run_append_rows (ty : TypeId) {B C : Nat} {v x : Value} {zs ys : List Int} {w : World} (hv : RowI B w v zs) (hx : RowI C w x ys) (hb : zs.length + ys.length ≤ 1000) (hB : B ≤ w.heap.size) :
    ∃ v' w', (Builtin.append_ #[35, 35] ty #[v, x]).run Tryd.prog w = .ok v' w' ∧ RowI B w' v' (zs ++ ys) ∧ w.grownBy w' v.ownBlock ∧ (v'.ownBlock = v.ownBlock ∨ v'.ownBlock = some w.heap.size) := by
  by_cases hy : ys = []
  · subst hy
    obtain ⟨a, c, rfl⟩ := hx.shape
    obtain ⟨b, d, rfl, hd⟩ := hv.cap
    refine ⟨_, w, append_zero ty b _ d a c w hd, by rw [List.append_nil]; exact hv, ⟨rfl, rfl, rfl, Nat.le_refl _, fun _ _ _ => rfl⟩, Or.inl rfl⟩
  · have hpos : 0 < ys.length := List.length_pos_iff.2 hy
    obtain ⟨i3, hi3, hz0, hz1, hz2⟩ := info_parts Tryd.info3
    have hx' : w.ownsRow C 3 1 x ys.length (ys.map (Value.int .i64)) := hx
    obtain ⟨g, cap, rfl⟩ := owns_shape hx' hpos
    have hcl : ∀ j u, (ys.map (Value.int .i64))[j]? = some u → w.cell? ((⟨g, 0, none⟩ : Addr).add j) = some u := fun j u hu => hx'.cells rfl j u hu
    obtain ⟨v', w', h1, h2, h3, h4, h5⟩ := run_append_own_at (P := Tryd.prog) w B 35 ty 3 i3 (.int .i64 0) 1 8 Tryd.underlying35 hi3 hz0 hz1 hz2 rfl (by decide) v zs.length (zs.map (Value.int .i64)) hv ⟨g, 0, none⟩ ys.length cap (ys.map (Value.int .i64)) (by simp) hcl (by intro u hu; obtain ⟨x, _, rfl⟩ := List.mem_map.1 hu; rfl) (by unfold maxLen; omega) (by omega) hB
    refine ⟨v', w', h1, ?_, h3, h5⟩
    show w'.ownsRow B 3 1 v' (zs ++ ys).length ((zs ++ ys).map (Value.int .i64))
    rw [List.length_append, List.map_append]
    exact h2
theorem run_append_op {o : Oper} {a : Act} {s x : Operand} (ho : o.op = .call { callee := .builtin .append, args := #[s, x], argTypes := #[35, 35] })
    {B C : Nat} {v xv : Value} {zs ys : List Int} {w : World} (hs : a.eval s = v) (hx : a.eval x = xv) (hv : RowI B w v zs) (hxv : RowI C w xv ys) (hb : zs.length + ys.length ≤ 1000) (hB : B ≤ w.heap.size) :
    ∃ v' w', (execOp a.eval o).run Tryd.prog w = .ok (.value v') w' ∧ RowI B w' v' (zs ++ ys) ∧ w.grownBy w' v.ownBlock ∧ (v'.ownBlock = v.ownBlock ∨ v'.ownBlock = some w.heap.size) := by
  obtain ⟨v', w', hr, h2, h3, h4⟩ := run_append_rows o.type hv hxv hb hB
  refine ⟨v', w', ?_, h2, h3, h4⟩
  unfold execOp
  simp only [ho, resolve, invoke, builtin, Sem.run_bind, Sem.run_pure, Result.andThen_ok, List.map_toArray, List.map_cons, List.map_nil, hs, hx, hr]
theorem wpList_append_rows {ops : Array Oper} {rest : List Oper} {o : Oper} {a : Act} {Q : Exit → Act → World → Prop} {w : World} (hgd : o.guard = none) (s x : Operand) (ho : o.op = .call { callee := .builtin .append, args := #[s, x], argTypes := #[35, 35] })
    (B C : Nat) (v xv : Value) (zs ys : List Int) (hs : a.eval s = v) (hx : a.eval x = xv) (hv : RowI B w v zs) (hxv : RowI C w xv ys) (hb : zs.length + ys.length ≤ 1000) (hB : B ≤ w.heap.size)
    (h : ∀ v' w', RowI B w' v' (zs ++ ys) → w.grownBy w' v.ownBlock → (v'.ownBlock = v.ownBlock ∨ v'.ownBlock = some w.heap.size) → wpList Tryd.prog ops Q rest (a.put o.dst v') w') : wpList Tryd.prog ops Q (o :: rest) a w := by
  refine wpList_plain hgd fun K hK => ?_
  obtain ⟨v', w', hr, h2, h3, h4⟩ := run_append_rows o.type hv hxv hb hB
  unfold Oper.wp execOp
  simp only [ho, resolve, invoke, builtin, Sem.run_bind, Sem.run_pure, Result.andThen_ok, List.map_toArray, List.map_cons, List.map_nil, hs, hx, hr]
  exact hK _ _ (h v' w' h2 h3 h4)

/-- Rows of numbers are kept by whatever the document's reader does. -/
theorem RowI.kpw {R b : Nat} {w w' : World} {v : Value} {zs : List Int} {cs : Array Value} (h : RowI b w v zs) (hR : w.heap[R]? = some (.cells cs 44 (0, 0))) (hk : Kp R w w') : RowI b w' v zs := by
  refine h.of_blocks fun k e => ?_
  obtain ⟨c, hc⟩ := h.block e
  exact (hk.other hc (fun e => by rw [e, hR] at hc; simp at hc) (by decide)).trans hc.symm
theorem Rw.typed {R i : Nat} {l : List UInt8} {e : Int} {ts : List (Int × List Int)} {w : World} (h : Rw R l i e ts w) : ∃ cs, w.heap[R]? = some (.cells cs 44 (0, 0)) := by
  obtain ⟨tv, h, _⟩ := h
  exact ⟨_, h⟩
theorem Rw.same {R i i' : Nat} {l : List UInt8} {e e' : Int} {ts ts' : List (Int × List Int)} {w : World} (h : Rw R l i e ts w) (h' : Rw R l i' e' ts' w) : e = e' := by
  have h1 := h.cells.2.2.1
  have h2 := h'.cells.2.2.1
  rw [h1] at h2
  simpa using h2
theorem Cloths.kpw {R b : Nat} {w w' : World} {fv lv : Value} {zf zl : List Int} {wk sp : Int} {i k : Nat} {cs : Array Value} (h : Cloths b w fv lv zf zl wk sp i k) (hR : w.heap[R]? = some (.cells cs 44 (0, 0))) (hk : Kp R w w') : Cloths b w' fv lv zf zl wk sp i k := ⟨h.first.kpw hR hk, h.last.kpw hR hk, h.lf, h.ll, h.w0, h.w1, h.s0, h.s1⟩
end Go.Proofs.YtcankblanhpmpaaDoor
