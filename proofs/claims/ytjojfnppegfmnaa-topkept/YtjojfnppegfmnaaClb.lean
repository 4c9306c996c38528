/- Cells and ops in memory; a cell as a result; the contracts of isValue, Check, checkOp, checkOps; what closures make of two numbers; split. -/
import Derived.Test.YtjojfnppegfmnaaCla
import Derived.Lib.MinMax
import Derived.BigQuiet
import Derived.Deep.Light
namespace Go.Proofs.Ytjojfnppegfmnaa
open Go.RowKit Go.Deep

def numC (cs : List Cl) (k : Nat) : Int := (cs.getD k (0, false)).1
def fltC (cs : List Cl) (k : Nat) : Bool := (cs.getD k (0, false)).2
def whtO (os : List Opn) (k : Nat) : Int := (os.getD k (0, 0)).1
def numO (os : List Opn) (k : Nat) : Int := (os.getD k (0, 0)).2
/-- A slice value whose elements are the cells cs, in the world w. -/
def CellsAt (w : World) (v : Value) (cs : List Cl) : Prop :=
  cs.length * 16 ≤ 140737488351232 ∧ ∃ a c, v = .slice a cs.length c ∧ (cs = [] ∨ ∃ b o, a = some ⟨b, o, none⟩ ∧ b < w.heap.size ∧
    ∀ k, k < cs.length → w.cell? ⟨b, o + k * 2, none⟩ = some (.int .i64 (numC cs k)) ∧ w.cell? ⟨b, o + k * 2 + 1, none⟩ = some (.bool (fltC cs k)))
theorem CellsAt.later {w w' : World} {v : Value} {cs : List Cl} (h : CellsAt w v cs) (hb : Below w.heap.size w w') : CellsAt w' v cs := by
  obtain ⟨hl, a, c, hv, h⟩ := h
  refine ⟨hl, a, c, hv, ?_⟩
  rcases h with h | ⟨b, o, ha, hlt, hc⟩
  · exact Or.inl h
  · refine Or.inr ⟨b, o, ha, Nat.lt_of_lt_of_le hlt hb.size, fun k hk => ?_⟩
    obtain ⟨h1, h2⟩ := hc k hk
    exact ⟨(hb.cell (p := ⟨b, o + k * 2, none⟩) hlt).trans h1, (hb.cell (p := ⟨b, o + k * 2 + 1, none⟩) hlt).trans h2⟩
theorem CellsAt.nil (w : World) : CellsAt w (.slice none 0 0) [] := ⟨by simp, none, 0, rfl, Or.inl rfl⟩
/-- A slice value whose elements are the ops os, in the world w. -/
def OpsAt (w : World) (v : Value) (os : List Opn) : Prop :=
  os.length * 16 ≤ 140737488351232 ∧ ∃ a c, v = .slice a os.length c ∧ (os = [] ∨ ∃ b o, a = some ⟨b, o, none⟩ ∧ b < w.heap.size ∧
    ∀ k, k < os.length → w.cell? ⟨b, o + k * 2, none⟩ = some (.int .i64 (whtO os k)) ∧ w.cell? ⟨b, o + k * 2 + 1, none⟩ = some (.int .i64 (numO os k)))
theorem OpsAt.later {w w' : World} {v : Value} {os : List Opn} (h : OpsAt w v os) (hb : Below w.heap.size w w') : OpsAt w' v os := by
  obtain ⟨hl, a, c, hv, h⟩ := h
  refine ⟨hl, a, c, hv, ?_⟩
  rcases h with h | ⟨b, o, ha, hlt, hc⟩
  · exact Or.inl h
  · refine Or.inr ⟨b, o, ha, Nat.lt_of_lt_of_le hlt hb.size, fun k hk => ?_⟩
    obtain ⟨h1, h2⟩ := hc k hk
    exact ⟨(hb.cell (p := ⟨b, o + k * 2, none⟩) hlt).trans h1, (hb.cell (p := ⟨b, o + k * 2 + 1, none⟩) hlt).trans h2⟩
/-- A cell as a value; an op. -/
def clV (c : Cl) : Value := .agg #[.int .i64 c.1, .bool c.2]
def opV (o : Opn) : Value := .agg #[.int .i64 o.1, .int .i64 o.2]

/-- A function that returns a cell, which lies in a block of its own. -/
theorem cell_ret {fn : Func} {Q : Ending → World → Prop} {a : Act} {w : World} {b s : Nat} {a1 a2 : Value} (hr : fn.results = #[ResultVar.cell s 64]) (h0 : w.cell? ⟨b, 0, none⟩ = some a1) (h1 : w.cell? ⟨b, 1, none⟩ = some a2)
    (ht : a.tmps[s]? = some (.pointer (some ⟨b, 0, none⟩))) (hd : a.defers = []) (hq : Q (.returned (.agg #[a1, a2])) w) :
    bodyPost Try.prog fn Q Exit.ret a w := by
  refine bodyPost_ret (v := .agg #[a1, a2]) ?_ hd hq
  simp [results, hr, go_sem, ht, h0, h1]
/-- A cell laid whole. -/
def setP (w : World) (b : Nat) (a1 a2 : Value) : World := (w.setCell ⟨b, 0, none⟩ a1).setCell ⟨b, 1, none⟩ a2
theorem blk_setCell_same (w : World) (g k : Nat) (cur : Array Value) (t : TypeId) (x : Value) (h : w.heap[g]? = some (.cells cur t (0, 0))) : (w.setCell ⟨g, k, none⟩ x).heap[g]? = some (.cells (cur.setIfInBounds k x) t (0, 0)) := by
  rw [setCell_eq_setRow w g k cur t (0, 0) x h, setRow_heap w g cur _ t _ h]
theorem setP_block {w : World} {b : Nat} {t : TypeId} {o1 o2 : Value} (h : w.heap[b]? = some (.cells #[o1, o2] t (0, 0))) (a1 a2 : Value) : (setP w b a1 a2).heap[b]? = some (.cells #[a1, a2] t (0, 0)) := by
  have h1 := blk_setCell_same w b 0 _ t a1 h
  have h2 := blk_setCell_same _ b 1 _ t a2 h1
  simpa [setP] using h2
theorem pair_cells {w : World} {b : Nat} {t : TypeId} {a1 a2 : Value} (h : w.heap[b]? = some (.cells #[a1, a2] t (0, 0))) :
    w.cell? ⟨b, 0, none⟩ = some a1 ∧ w.cell? ⟨b, 1, none⟩ = some a2 ∧ ∀ j, w.frozen? ⟨b, j, none⟩ = false :=
  ⟨by simp [World.cell?, h], by simp [World.cell?, h], fun j => by simp [World.frozen?, h]⟩

theorem isValue_any (n : Int) (w : World) : Calls Try.prog 47 #[.int .i64 n] w fun e w' => e = .returned (.bool (fitsC n)) ∧ w' = w := by
  unfold fitsC
  by_cases h1 : -1000000000 ≤ n
  · by_cases h2 : n ≤ 1000000000
    all_goals
      go_enter Try.func47, Try.ntmps47
      go_wp2
      go_ret
      exact ⟨ret_bool (by simp [h1, h2]), rfl⟩
  · go_enter Try.func47, Try.ntmps47
    go_wp2
    go_ret
    exact ⟨ret_bool (by simp; intro h; omega), rfl⟩

set_option maxHeartbeats 1000000 in
theorem checkOp_any (a n : Int) (w : World) : Calls Try.prog 32 #[.agg #[.int .i64 a, .int .i64 n]] w fun e w' => e = .returned (errV (opErr (a, n))) ∧ Below w.heap.size w w' := by
  have hv := fun wx => isValue_any n wx
  have HB : Hid (Below w.heap.size w (w.alloc (.cells #[.int .i64 a, .int .i64 n] 78))) := (Below.refl _ _).alloc (Nat.le_refl _) _
  by_cases h1 : a < 1
  · have HE : Hid (opErr (a, n) = 1) := by show _ = _; unfold opErr; rw [if_neg]; dsimp only; omega
    go_enter Try.func32, Try.ntmps32
    go_wp2_with (go_at_call 47; refine (hv _).mono ?_; rintro e w2 ⟨rfl, rfl⟩)
    go_ret
    exact ⟨by rw [HE.out]; rfl, HB.out⟩
  · by_cases h2 : 5 < a
    · have HE : Hid (opErr (a, n) = 1) := by show _ = _; unfold opErr; rw [if_neg]; dsimp only; omega
      go_enter Try.func32, Try.ntmps32
      go_wp2_with (go_at_call 47; refine (hv _).mono ?_; rintro e w2 ⟨rfl, rfl⟩)
      go_ret
      exact ⟨by rw [HE.out]; rfl, HB.out⟩
    · cases hf : fitsC n
      · have HE : Hid (opErr (a, n) = 1) := by show _ = _; unfold opErr; rw [if_neg]; dsimp only; rw [hf]; simp
        rw [hf] at hv
        clear hf
        go_enter Try.func32, Try.ntmps32
        go_wp2_with (go_at_call 47; refine (hv _).mono ?_; rintro e w2 ⟨rfl, rfl⟩)
        go_ret
        exact ⟨by rw [HE.out]; rfl, HB.out⟩
      · have HE : Hid (opErr (a, n) = 0) := opErr_zero.2 ⟨by dsimp only; omega, by dsimp only; omega, hf⟩
        rw [hf] at hv
        clear hf
        go_enter Try.func32, Try.ntmps32
        go_wp2_with (go_at_call 47; refine (hv _).mono ?_; rintro e w2 ⟨rfl, rfl⟩)
        go_ret
        exact ⟨by rw [HE.out]; rfl, HB.out⟩

/-- What a closure makes of two numbers. -/
def JoinIn (g : Nat) (lb : Array Value) (t : Int) : Prop :=
  (∀ args w, (callFunc g args).run Try.prog w = .ok (.enter g args) w) ∧ ∀ a b w, fitsC a = true → fitsC b = true → Calls Try.prog g (#[.int .i64 a, .int .i64 b] ++ lb) w fun e w' => e = .returned (.int .i64 (stepC t a b)) ∧ w' = w
theorem joinMost (t : Int) (ht : t = 2) : JoinIn 61 #[] t := by
  refine ⟨enters_of Try.func61 (by kernel_rfl) rfl, fun a b w ha hb => ?_⟩
  show Calls Try.prog 61 #[.int .i64 a, .int .i64 b] w _
  unfold stepC
  rw [if_pos ht]
  clear ht
  by_cases h : a < b
  · have hm : max a b = b := by omega
    rw [if_pos h]
    go_enter Try.func61, Try.ntmps61
    go_wp2
    go_ret
    exact ⟨ret_int (by omega), rfl⟩
  · have hm : max a b = a := by omega
    rw [if_neg h]
    go_enter Try.func61, Try.ntmps61
    go_wp2
    go_ret
    exact ⟨ret_int (by omega), rfl⟩
theorem joinTimes (t : Int) (ht : t = 3) : JoinIn 62 #[] t := by
  refine ⟨enters_of Try.func62 (by kernel_rfl) rfl, fun a b w ha hb => ?_⟩
  show Calls Try.prog 62 #[.int .i64 a, .int .i64 b] w _
  have hbd := stepC_bound (w := t) ha hb
  have hs : stepC t a b = a * b := by unfold stepC; rw [if_neg (by omega), if_pos ht]
  rw [hs] at hbd ⊢
  obtain ⟨m, hm⟩ : ∃ m, m = a * b := ⟨_, rfl⟩
  have hw : IntKind.i64.wrap (a * b) = m := by rw [← hm, IntKind.wrap_i64] <;> omega
  rw [← hm] at hbd ⊢
  clear hm hs
  go_enter Try.func62, Try.ntmps62
  go_wp2
  go_ret
  exact ⟨rfl, rfl⟩
theorem joinSum (t : Int) (h2 : t ≠ 2) (h3 : t ≠ 3) : JoinIn 63 #[] t := by
  refine ⟨enters_of Try.func63 (by kernel_rfl) rfl, fun a b w ha hb => ?_⟩
  show Calls Try.prog 63 #[.int .i64 a, .int .i64 b] w _
  obtain ⟨a1, a2⟩ := fitsC_iff.1 ha
  obtain ⟨b1, b2⟩ := fitsC_iff.1 hb
  have hs : stepC t a b = a + b := by unfold stepC; rw [if_neg h2, if_neg h3]
  rw [hs]
  clear hs
  go_enter Try.func63, Try.ntmps63
  go_wp2
  go_ret
  exact ⟨rfl, rfl⟩
theorem joining_any (t : Int) (w : World) : Calls Try.prog 51 #[.int .i64 t] w fun e w' => (∃ g, e = .returned (.func (.func g) #[] #[]) ∧ JoinIn g #[] t) ∧ w' = w := by
  by_cases h2 : t = 2
  · have hj := joinMost t h2
    subst h2
    go_enter Try.func51, Try.ntmps51
    go_wp2
    go_ret
    exact ⟨⟨_, rfl, hj⟩, rfl⟩
  · by_cases h3 : t = 3
    · have hj := joinTimes t h3
      subst h3
      go_enter Try.func51, Try.ntmps51
      go_wp2
      go_ret
      exact ⟨⟨_, rfl, hj⟩, rfl⟩
    · have hj := joinSum t h2 h3
      have e2 : (t == (2 : Int)) = false := by simp [h2]
      have e3 : (t == (3 : Int)) = false := by simp [h3]
      clear h2 h3
      go_enter Try.func51, Try.ntmps51
      go_wp2
      go_ret
      exact ⟨⟨_, rfl, hj⟩, rfl⟩
end Go.Proofs.Ytjojfnppegfmnaa
