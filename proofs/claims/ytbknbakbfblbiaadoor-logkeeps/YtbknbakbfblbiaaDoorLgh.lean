/- The contracts of slices.Clone at []int and api.Plan, of log.copied and log.New. -/
import Derived.Test.YtbknbakbfblbiaaDoorLgg
import Derived.Lib.SliceRun
namespace Go.Proofs.YtbknbakbfblbiaaDoor
open Go.RowKit Go.Deep

theorem add_lit (b off j : Nat) : (⟨b, off, none⟩ : Addr).add j = ⟨b, off + j, none⟩ := by
  unfold Addr.add
  split
  · rename_i h; subst h; rfl
  · rfl
theorem append_zeroP (ty : TypeId) (b : Option Addr) (n c : Nat) (a : Option Addr) (c' : Nat) (w : World) (h : n ≤ c) : (Builtin.append_ #[23, 23] ty #[.slice b n c, .slice a 0 c']).run Tryd.prog w = .ok (.slice b n c) w := by
  unfold Builtin.append_
  cases b with
  | none => 
    cases a with
    | none => go_simp
    | some a => go_simp
  | some b =>
    cases a with
    | none => go_simp
    | some a => go_simp
theorem wpList_append_zero {ops : Array Oper} {rest : List Oper} {o : Oper} {a : Act} {Q : Exit → Act → World → Prop} {w : World} (hgd : o.guard = none) (s x : Operand) (T : TypeId) (ho : o.op = .call { callee := .builtin .append, args := #[s, x], argTypes := #[T, T] })
    (b a1 : Option Addr) (n c c' : Nat) (hs : a.eval s = .slice b n c) (hx : a.eval x = .slice a1 0 c') (hr : (Builtin.append_ #[T, T] o.type #[.slice b n c, .slice a1 0 c']).run Tryd.prog w = .ok (.slice b n c) w)
    (h : wpList Tryd.prog ops Q rest (a.put o.dst (.slice b n c)) w) : wpList Tryd.prog ops Q (o :: rest) a w := by
  refine wpList_plain hgd fun K hK => ?_
  unfold Oper.wp execOp
  simp only [ho, resolve, invoke, builtin, Sem.run_bind, Sem.run_pure, Result.andThen_ok, List.map_toArray, List.map_cons, List.map_nil, hs, hx, hr]
  exact hK _ _ h

/-- Numbers in a block from B on that is not g. -/
def NbZ (B g : Nat) (w : World) (v : Value) (zs : List Int) : Prop :=
  zs.length * 8 ≤ 140737488351232 ∧ ∃ a c, v = .slice a zs.length c ∧ (zs = [] ∨ ∃ b o, a = some ⟨b, o, none⟩ ∧ b ≠ g ∧ B ≤ b ∧ b < w.heap.size ∧ ∀ k, k < zs.length → w.cell? ⟨b, o + k, none⟩ = some (.int .i64 (zs.getD k 0)))
theorem NbZ.later {B g : Nat} {w w' : World} {v : Value} {zs : List Int} (h : NbZ B g w v zs) (hb : Below w.heap.size w w') : NbZ B g w' v zs := by
  obtain ⟨h1, a, c, h2, h3⟩ := h
  exact ⟨h1, a, c, h2, h3.imp id (fun ⟨b, o, e, hn, hB, hlt, hc⟩ => ⟨b, o, e, hn, hB, Nat.lt_of_lt_of_le hlt hb.size, fun k hk => (hb.cell (p := ⟨b, o + k, none⟩) hlt).trans (hc k hk)⟩)⟩
theorem NbZ.set {B g : Nat} {w : World} {v : Value} {zs : List Int} (h : NbZ B g w v zs) (j : Nat) (u : Value) : NbZ B g (w.setCell ⟨g, j, none⟩ u) v zs := by
  obtain ⟨h1, a, c, h2, h3⟩ := h
  refine ⟨h1, a, c, h2, h3.imp id (fun ⟨b, o, e, hn, hB, hlt, hc⟩ => ⟨b, o, e, hn, hB, by simpa [World.setCell] using hlt, fun k hk => ?_⟩)⟩
  exact (World.cell?_setCell_other _ _ _ _ (fun e2 => hn (congrArg Addr.block e2).symm)).trans (hc k hk)

set_option maxRecDepth 100000 in
set_option maxHeartbeats 1000000 in
theorem cloneI_any (v : Value) (zs : List Int) (w : World) (g : Nat) (hz : IntsAt w v zs) (hl : zs.length ≤ 1000) (hg : g < w.heap.size) :
    Calls Tryd.prog 35 #[v] w fun e w' => (∃ nv, e = .returned nv ∧ NbZ w.heap.size g w' nv zs) ∧ Below w.heap.size w w' := by
  obtain ⟨i3, hi3, hz0, hz1, hz2⟩ := info_parts Tryd.info3
  have hA := hz.later (((Below.refl _ _).alloc (Nat.le_refl _) (.cells #[] 3)) : Below w.heap.size w (w.alloc (.cells #[] 3)))
  clear hz
  obtain ⟨h8, a, c, rfl, hA⟩ := hA
  have hemp : (w.alloc (.cells #[] 3)).ownsRow w.heap.size 3 1 (.slice (some ⟨w.heap.size, 0, none⟩) 0 0) 0 [] := World.ownsRow_lit (base := w.heap.size) (e := 3) (size := 1) w #[] 0 (Nat.le_refl _) (by unfold maxLen; omega) rfl
  have hnil := fun (wx : World) => Lib.run_eql_slice_nil (P := Tryd.prog) wx 24 3 a zs.length c 0 0 Tryd.underlying24
  cases a with
  | none =>
    have h0 : zs = [] := by
      rcases hA with h | ⟨b, o, e, _⟩
      · exact h
      · simp at e
    subst h0
    clear hA hemp
    simp only [List.length_nil] at hnil ⊢
    go_enter Tryd.func35, Tryd.ntmps35
    go_wp2
    go_ret
    exact ⟨⟨_, rfl, by simp, none, 0, rfl, Or.inl rfl⟩, Below.refl _ _⟩
  | some ad =>
    rcases hA with rfl | ⟨b, o, e, hbl, hc⟩
    · clear hemp
      simp only [List.length_nil] at hnil ⊢
      go_enter Tryd.func35, Tryd.ntmps35
      go_wp2_with (at_builtin; refine wpList_append_zero rfl (.tmp 5) (.tmp 6) 24 rfl (some ⟨w.heap.size, 0, none⟩) (some ad) 0 0 c rfl rfl (append_zero _ _ _ _ _ _ _ (Nat.le_refl _)) ?_)
      go_wp2
      go_ret
      exact ⟨⟨_, rfl, by simp, some ⟨w.heap.size, 0, none⟩, 0, rfl, Or.inl rfl⟩, (Below.refl _ _).alloc (Nat.le_refl _) _⟩
    · simp only [Option.some.injEq] at e
      subst e
      by_cases h0 : zs = []
      · subst h0
        clear hemp hc
        simp only [List.length_nil] at hnil ⊢
        go_enter Tryd.func35, Tryd.ntmps35
        go_wp2_with (at_builtin; refine wpList_append_zero rfl (.tmp 5) (.tmp 6) 24 rfl (some ⟨w.heap.size, 0, none⟩) (some ⟨b, o, none⟩) 0 0 c rfl rfl (append_zero _ _ _ _ _ _ _ (Nat.le_refl _)) ?_)
        go_wp2
        go_ret
        exact ⟨⟨_, rfl, by simp, some ⟨w.heap.size, 0, none⟩, 0, rfl, Or.inl rfl⟩, (Below.refl _ _).alloc (Nat.le_refl _) _⟩
      · have hpos : 0 < zs.length := List.length_pos_iff.2 h0
        have hsrc : ∀ j u, (zs.map (Value.int .i64))[j]? = some u → (w.alloc (.cells #[] 3)).cell? ((⟨b, o, none⟩ : Addr).add j) = some u := fun j u hu => by
          have hj : j < zs.length := by have := (List.getElem?_eq_some_iff.1 hu).1; simpa using this
          rw [add_lit, hc j hj]
          simpa [List.getD_eq_getElem?_getD, List.getElem?_eq_getElem hj] using hu
        clear hc
        go_enter Tryd.func35, Tryd.ntmps35
        go_wp2_with (at_builtin; refine wpList_append_own _ rfl (.tmp 5) (.tmp 6) 24 rfl w.heap.size 3 i3 (.int .i64 0) 1 8 Tryd.underlying24 hi3 hz0 hz1 hz2 rfl (by decide) _ 0 [] rfl hemp ⟨b, o, none⟩ zs.length c (zs.map (Value.int .i64)) rfl (by simp) hsrc ?c2 ?c3 ?c4 ?c5 ?_)
        case c2 => intro u hu; simp at hu; obtain ⟨_, _, rfl⟩ := hu; rfl
        case c3 => unfold maxLen; omega
        case c4 => omega
        case c5 => simp
        intro v' w1 hown' hgrow _
        replace hown' : RowI w.heap.size w1 v' zs := by
          show w1.ownsRow w.heap.size 3 1 v' zs.length (zs.map (Value.int .i64))
          simpa using hown'
        obtain ⟨vg, vc, rfl, hv1, hv2, _⟩ := hown'.full hpos
        have hB : Below w.heap.size w w1 := ((Below.refl _ _).alloc (Nat.le_refl _) _).grown hgrow (by simp) (fun k e => by simp [Value.ownBlock] at e; omega)
        have HN : Hid (NbZ w.heap.size g w1 (.slice (some ⟨vg, 0, none⟩) zs.length vc) zs) := ⟨by omega, _, _, rfl, Or.inr ⟨vg, 0, rfl, by omega, hv1, hv2, fun k hk => by rw [Nat.zero_add]; exact hown'.cell hk⟩⟩
        clear hown' hgrow
        go_wp2
        go_ret
        exact ⟨⟨_, rfl, HN.out⟩, hB⟩

theorem info_taskL : (Tryd.prog.info? 26).map (fun i => (i.zero, i.size, i.bytes)) = some (some (.agg #[.int .i64 0, .slice none 0 0]), 2, 32) := by kernel_rfl
/-- Tasks, cell by cell. -/
def flatQ (wk : Nat → Int) (nv : Nat → Value) : Nat → List Value
  | 0 => []
  | m + 1 => flatQ wk nv m ++ [.int .i64 (wk m), nv m]
theorem flatQ_length (wk : Nat → Int) (nv : Nat → Value) (m : Nat) : (flatQ wk nv m).length = m * 2 := by
  induction m with
  | zero => rfl
  | succ m ih => rw [flatQ, List.length_append, ih]; simp; omega
theorem flatQ_at (wk : Nat → Int) (nv : Nat → Value) (m a : Nat) (ha : a < m) : (flatQ wk nv m)[a * 2]? = some (.int .i64 (wk a)) ∧ (flatQ wk nv m)[a * 2 + 1]? = some (nv a) := by
  induction m with
  | zero => omega
  | succ m ih =>
    rw [flatQ]
    by_cases e : a = m
    · subst e
      rw [List.getElem?_append_right (by rw [flatQ_length]; exact Nat.le_refl _), List.getElem?_append_right (by rw [flatQ_length]; omega), flatQ_length]
      rw [Nat.sub_self, show a * 2 + 1 - a * 2 = 1 by omega]
      exact ⟨rfl, rfl⟩
    · rw [List.getElem?_append_left (by rw [flatQ_length]; omega), List.getElem?_append_left (by rw [flatQ_length]; omega)]
      exact ih (by omega)
theorem flatQ_set (wk : Nat → Int) (nv : Nat → Value) (m a : Nat) (u : Value) (ha : a < m) : (flatQ wk nv m).set (a * 2 + 1) u = flatQ wk (fun b => if b = a then u else nv b) m := by
  refine List.ext_getElem? fun j => ?_
  by_cases hj : j < m * 2
  · have h1 := flatQ_at wk nv m (j / 2) (by omega)
    have h2 := flatQ_at wk (fun b => if b = a then u else nv b) m (j / 2) (by omega)
    rw [List.getElem?_set]
    rcases Nat.mod_two_eq_zero_or_one j with e | e
    · have ej : j / 2 * 2 = j := by omega
      rw [ej] at h1 h2
      rw [if_neg (by omega), h1.1, h2.1]
    · have ej : j / 2 * 2 + 1 = j := by omega
      rw [ej] at h1 h2
      by_cases e2 : a * 2 + 1 = j
      · rw [if_pos e2, if_pos (by rw [flatQ_length]; omega), h2.2]
        have : j / 2 = a := by omega
        simp [this]
      · rw [if_neg e2, h1.2, h2.2]
        have : ¬ j / 2 = a := by omega
        simp [this]
  · rw [List.getElem?_eq_none (by rw [List.length_set, flatQ_length]; omega), List.getElem?_eq_none (by rw [flatQ_length]; omega)]
def wkQ (ts : List (Int × List Int)) (k : Nat) : Int := (ts.getD k (0, [])).1
/-- While a plan is copied: the first k tasks have needs of their own. -/
structure QM (ts : List (Int × List Int)) (nv : Nat → Value) (B g cap k : Nat) (w wr : World) : Prop where
  row : ∃ NN : Nat → Value, wr.ownsRow B 26 2 (.slice (some ⟨g, 0, none⟩) ts.length cap) ts.length (flatQ (wkQ ts) NN ts.length) ∧ (∀ b, b < ts.length → k ≤ b → NN b = nv b) ∧ ∀ b, b < k → NbZ B g wr (NN b) (needsOf ts b)
  below : Below B w wr
theorem QM.gB {ts : List (Int × List Int)} {nv : Nat → Value} {B g cap k : Nat} {w wr : World} (h : QM ts nv B g cap k w wr) : B ≤ g ∧ g < wr.heap.size := by
  obtain ⟨NN, h1, _⟩ := h.row
  exact h1.lt g rfl
theorem QM.later {ts : List (Int × List Int)} {nv : Nat → Value} {B g cap k : Nat} {w wr w' : World} (h : QM ts nv B g cap k w wr) (hb : Below wr.heap.size wr w') : QM ts nv B g cap k w w' := by
  have hg := h.gB
  obtain ⟨NN, h1, h2, h3⟩ := h.row
  exact ⟨⟨NN, h1.kept (row := none) ⟨hb.os, hb.tape, hb.output, hb.size, fun k hk _ => hb.block k hk⟩ (Or.inr (by simp [Value.ownBlock])), h2, fun b hlt => (h3 b hlt).later hb⟩, h.below.trans (hb.mono (by omega))⟩
theorem QM.store {ts : List (Int × List Int)} {nv : Nat → Value} {B g cap k : Nat} {w wr : World} {u : Value} (h : QM ts nv B g cap k w wr) (hk : k < ts.length) (hu : NbZ B g wr u (needsOf ts k)) : QM ts nv B g cap (k + 1) w (wr.setCell ⟨g, k * 2 + 1, none⟩ u) := by
  have hg := h.gB
  obtain ⟨NN, h1, h2, h3⟩ := h.row
  refine ⟨⟨fun b => if b = k then u else NN b, ?_, fun b hb hab => ?_, fun b hb => ?_⟩, h.below.setCell (by show B ≤ g; omega) _⟩
  · have := (World.ownsRow.stored h1 (k * 2 + 1) u).1
    rw [flatQ_set _ _ _ _ _ hk] at this
    exact this
  · show (if b = k then u else NN b) = _
    rw [if_neg (by omega)]
    exact h2 b hb (by omega)
  · show NbZ B g _ (if b = k then u else NN b) _
    by_cases e : b = k
    · rw [if_pos e, e]; exact hu.set _ _
    · rw [if_neg e]; exact (h3 b (by omega)).set _ _
theorem QM.cells {ts : List (Int × List Int)} {nv : Nat → Value} {B g cap k : Nat} {w wr : World} (h : QM ts nv B g cap k w wr) (hk : k < ts.length) : wr.cell? ⟨g, k * 2 + 1, none⟩ = some (nv k) ∧ wr.frozen? ⟨g, k * 2 + 1, none⟩ = false := by
  obtain ⟨NN, h1, h2, h3⟩ := h.row
  refine ⟨?_, World.ownsRow.frozenAt h1 (k * 2 + 1)⟩
  have := (World.ownsRow.cellAt h1 (k * 2 + 1) (by omega)).trans (flatQ_at _ _ _ k hk).2
  rw [this, h2 k hk (Nat.le_refl _)]
theorem QM.plan {ts : List (Int × List Int)} {nv : Nat → Value} {B g cap : Nat} {w wr : World} (h : QM ts nv B g cap ts.length w wr) (hl : ts.length ≤ 30) : PlanX (fun b => b < B) wr (.slice (some ⟨g, 0, none⟩) ts.length cap) ts := by
  have hg := h.gB
  obtain ⟨NN, h1, h2, h3⟩ := h.row
  refine ⟨by omega, _, _, rfl, Or.inr ⟨g, 0, rfl, by omega, hg.2, fun k hk => ?_⟩⟩
  have e1 := World.ownsRow.cellAt h1 (k * 2) (by omega)
  have e2 := World.ownsRow.cellAt h1 (k * 2 + 1) (by omega)
  obtain ⟨f1, f2⟩ := flatQ_at (wkQ ts) NN _ k hk
  rw [Nat.zero_add]
  refine ⟨e1.trans f1, NN k, e2.trans f2, ?_⟩
  obtain ⟨q1, a, c, q2, q3⟩ := h3 k hk
  exact ⟨q1, a, c, q2, q3.imp id (fun ⟨b, o, e, _, hB, hlt, hc⟩ => ⟨b, o, e, by omega, hlt, hc⟩)⟩
end Go.Proofs.YtbknbakbfblbiaaDoor
