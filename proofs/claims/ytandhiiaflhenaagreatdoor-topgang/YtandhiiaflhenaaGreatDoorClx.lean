/- Cells and ops in memory; a cell as a result; the contracts of isValue, Check, checkOp, checkOps; what closures make of two numbers; split. The contracts of fold, split, IndexFunc at cells, first. The contracts of slices.IndexFunc at cells, of first, and of do. -/
import Derived.Test.YtandhiiaflhenaaGreatDoorCla
import Derived.Lib.MinMax
import Derived.BigQuiet
import Derived.Deep.Light

namespace Go.Proofs.YtandhiiaflhenaaGreatDoor
open Go.RowKit Go.Deep

def numC (cs : List Cl) (k : Nat) : Int := (cs.getD k (0, false)).1
def fltC (cs : List Cl) (k : Nat) : Bool := (cs.getD k (0, false)).2
def whtO (os : List Opn) (k : Nat) : Int := (os.getD k (0, 0)).1
def numO (os : List Opn) (k : Nat) : Int := (os.getD k (0, 0)).2
/-- A slice value whose elements are the cells cs, in the world w. -/
def CellsAt (w : World) (v : Value) (cs : List Cl) : Prop :=
  cs.length * 16 ≤ 140737488351232 ∧ ∃ a c, v = .slice a cs.length c ∧ (cs = [] ∨ ∃ b o, a = some ⟨b, o, none⟩ ∧ b < w.heap.size ∧
    ∀ k, k < cs.length → w.cell? ⟨b, o + k * 2, none⟩ = some (.int .i64 (numC cs k)) ∧ w.cell? ⟨b, o + k * 2 + 1, none⟩ = some (.bool (fltC cs k)))
theorem CellsAt.later {w w' : World} {v : Value} {cs : List Cl} (h : CellsAt w v cs) (hb : Below w.heap.size w w') : CellsAt w' v cs := by
  obtain ⟨hl, a, c, hv, h⟩ := h
  refine ⟨hl, a, c, hv, ?_⟩
  rcases h with h | ⟨b, o, ha, hlt, hc⟩
  · exact Or.inl h
  · refine Or.inr ⟨b, o, ha, Nat.lt_of_lt_of_le hlt hb.size, fun k hk => ?_⟩
    obtain ⟨h1, h2⟩ := hc k hk
    exact ⟨(hb.cell (p := ⟨b, o + k * 2, none⟩) hlt).trans h1, (hb.cell (p := ⟨b, o + k * 2 + 1, none⟩) hlt).trans h2⟩
theorem CellsAt.nil (w : World) : CellsAt w (.slice none 0 0) [] := ⟨by simp, none, 0, rfl, Or.inl rfl⟩
/-- A slice value whose elements are the ops os, in the world w. -/
def OpsAt (w : World) (v : Value) (os : List Opn) : Prop :=
  os.length * 16 ≤ 140737488351232 ∧ ∃ a c, v = .slice a os.length c ∧ (os = [] ∨ ∃ b o, a = some ⟨b, o, none⟩ ∧ b < w.heap.size ∧
    ∀ k, k < os.length → w.cell? ⟨b, o + k * 2, none⟩ = some (.int .i64 (whtO os k)) ∧ w.cell? ⟨b, o + k * 2 + 1, none⟩ = some (.int .i64 (numO os k)))
theorem OpsAt.later {w w' : World} {v : Value} {os : List Opn} (h : OpsAt w v os) (hb : Below w.heap.size w w') : OpsAt w' v os := by
  obtain ⟨hl, a, c, hv, h⟩ := h
  refine ⟨hl, a, c, hv, ?_⟩
  rcases h with h | ⟨b, o, ha, hlt, hc⟩
  · exact Or.inl h
  · refine Or.inr ⟨b, o, ha, Nat.lt_of_lt_of_le hlt hb.size, fun k hk => ?_⟩
    obtain ⟨h1, h2⟩ := hc k hk
    exact ⟨(hb.cell (p := ⟨b, o + k * 2, none⟩) hlt).trans h1, (hb.cell (p := ⟨b, o + k * 2 + 1, none⟩) hlt).trans h2⟩
/-- A cell as a value; an op. -/
def clV (c : Cl) : Value := .agg #[.int .i64 c.1, .bool c.2]
def opV (o : Opn) : Value := .agg #[.int .i64 o.1, .int .i64 o.2]

/-- A function that returns a cell, which lies in a block of its own. -/
theorem cell_ret {fn : Func} {Q : Ending → World → Prop} {a : Act} {w : World} {b s : Nat} {a1 a2 : Value} (hr : fn.results = #[ResultVar.cell s 86]) (h0 : w.cell? ⟨b, 0, none⟩ = some a1) (h1 : w.cell? ⟨b, 1, none⟩ = some a2)
    (ht : a.tmps[s]? = some (.pointer (some ⟨b, 0, none⟩))) (hd : a.defers = []) (hq : Q (.returned (.agg #[a1, a2])) w) :
    bodyPost Tryz.prog fn Q Exit.ret a w := by
  refine bodyPost_ret (v := .agg #[a1, a2]) ?_ hd hq
  simp [results, hr, go_sem, ht, h0, h1]
/-- A cell laid whole. -/
def setPC (w : World) (b : Nat) (a1 a2 : Value) : World := (w.setCell ⟨b, 0, none⟩ a1).setCell ⟨b, 1, none⟩ a2
theorem blk_setCell_sameC (w : World) (g k : Nat) (cur : Array Value) (t : TypeId) (x : Value) (h : w.heap[g]? = some (.cells cur t (0, 0))) : (w.setCell ⟨g, k, none⟩ x).heap[g]? = some (.cells (cur.setIfInBounds k x) t (0, 0)) := by
  rw [setCell_eq_setRow w g k cur t (0, 0) x h, setRow_heap w g cur _ t _ h]
theorem setP_blockC {w : World} {b : Nat} {t : TypeId} {o1 o2 : Value} (h : w.heap[b]? = some (.cells #[o1, o2] t (0, 0))) (a1 a2 : Value) : (setPC w b a1 a2).heap[b]? = some (.cells #[a1, a2] t (0, 0)) := by
  have h1 := blk_setCell_sameC w b 0 _ t a1 h
  have h2 := blk_setCell_sameC _ b 1 _ t a2 h1
  simpa [setPC] using h2
theorem pair_cells {w : World} {b : Nat} {t : TypeId} {a1 a2 : Value} (h : w.heap[b]? = some (.cells #[a1, a2] t (0, 0))) :
    w.cell? ⟨b, 0, none⟩ = some a1 ∧ w.cell? ⟨b, 1, none⟩ = some a2 ∧ ∀ j, w.frozen? ⟨b, j, none⟩ = false :=
  ⟨by simp [World.cell?, h], by simp [World.cell?, h], fun j => by simp [World.frozen?, h]⟩

theorem isValue_any (n : Int) (w : World) : Calls Tryz.prog 78 #[.int .i64 n] w fun e w' => e = .returned (.bool (fitsC n)) ∧ w' = w := by
  unfold fitsC
  by_cases h1 : -1000000000 ≤ n
  · by_cases h2 : n ≤ 1000000000
    all_goals
      go_enter Tryz.func78, Tryz.ntmps78
      go_wp2
      go_ret
      exact ⟨ret_bool (by simp [h1, h2]), rfl⟩
  · go_enter Tryz.func78, Tryz.ntmps78
    go_wp2
    go_ret
    exact ⟨ret_bool (by simp; intro h; omega), rfl⟩

set_option maxHeartbeats 1000000 in
theorem checkOp_any (a n : Int) (w : World) : Calls Tryz.prog 44 #[.agg #[.int .i64 a, .int .i64 n]] w fun e w' => e = .returned (errV (opErr (a, n))) ∧ Below w.heap.size w w' := by
  have hv := fun wx => isValue_any n wx
  have HB : Hid (Below w.heap.size w (w.alloc (.cells #[.int .i64 a, .int .i64 n] 121))) := (Below.refl _ _).alloc (Nat.le_refl _) _
  by_cases h1 : a < 1
  · have HE : Hid (opErr (a, n) = 1) := by show _ = _; unfold opErr; rw [if_neg]; dsimp only; omega
    go_enter Tryz.func44, Tryz.ntmps44
    go_wp2_with (go_at_call 78; refine (hv _).mono ?_; rintro e w2 ⟨rfl, rfl⟩)
    go_ret
    exact ⟨by rw [HE.out]; rfl, HB.out⟩
  · by_cases h2 : 5 < a
    · have HE : Hid (opErr (a, n) = 1) := by show _ = _; unfold opErr; rw [if_neg]; dsimp only; omega
      go_enter Tryz.func44, Tryz.ntmps44
      go_wp2_with (go_at_call 78; refine (hv _).mono ?_; rintro e w2 ⟨rfl, rfl⟩)
      go_ret
      exact ⟨by rw [HE.out]; rfl, HB.out⟩
    · cases hf : fitsC n
      · have HE : Hid (opErr (a, n) = 1) := by show _ = _; unfold opErr; rw [if_neg]; dsimp only; rw [hf]; simp
        rw [hf] at hv
        clear hf
        go_enter Tryz.func44, Tryz.ntmps44
        go_wp2_with (go_at_call 78; refine (hv _).mono ?_; rintro e w2 ⟨rfl, rfl⟩)
        go_ret
        exact ⟨by rw [HE.out]; rfl, HB.out⟩
      · have HE : Hid (opErr (a, n) = 0) := opErr_zero.2 ⟨by dsimp only; omega, by dsimp only; omega, hf⟩
        rw [hf] at hv
        clear hf
        go_enter Tryz.func44, Tryz.ntmps44
        go_wp2_with (go_at_call 78; refine (hv _).mono ?_; rintro e w2 ⟨rfl, rfl⟩)
        go_ret
        exact ⟨by rw [HE.out]; rfl, HB.out⟩

/-- What a closure makes of two numbers. -/
def JoinIn (g : Nat) (lb : Array Value) (t : Int) : Prop :=
  (∀ args w, (callFunc g args).run Tryz.prog w = .ok (.enter g args) w) ∧ ∀ a b w, fitsC a = true → fitsC b = true → Calls Tryz.prog g (#[.int .i64 a, .int .i64 b] ++ lb) w fun e w' => e = .returned (.int .i64 (stepC t a b)) ∧ w' = w
theorem joinMost (t : Int) (ht : t = 2) : JoinIn 108 #[] t := by
  refine ⟨enters_of Tryz.func108 (by kernel_rfl) rfl, fun a b w ha hb => ?_⟩
  show Calls Tryz.prog 108 #[.int .i64 a, .int .i64 b] w _
  unfold stepC
  rw [if_pos ht]
  clear ht
  by_cases h : a < b
  · have hm : max a b = b := by omega
    rw [if_pos h]
    go_enter Tryz.func108, Tryz.ntmps108
    go_wp2
    go_ret
    exact ⟨ret_int (by omega), rfl⟩
  · have hm : max a b = a := by omega
    rw [if_neg h]
    go_enter Tryz.func108, Tryz.ntmps108
    go_wp2
    go_ret
    exact ⟨ret_int (by omega), rfl⟩
theorem joinTimes (t : Int) (ht : t = 3) : JoinIn 109 #[] t := by
  refine ⟨enters_of Tryz.func109 (by kernel_rfl) rfl, fun a b w ha hb => ?_⟩
  show Calls Tryz.prog 109 #[.int .i64 a, .int .i64 b] w _
  have hbd := stepC_bound (w := t) ha hb
  have hs : stepC t a b = a * b := by unfold stepC; rw [if_neg (by omega), if_pos ht]
  rw [hs] at hbd ⊢
  obtain ⟨m, hm⟩ : ∃ m, m = a * b := ⟨_, rfl⟩
  have hw : IntKind.i64.wrap (a * b) = m := by rw [← hm, IntKind.wrap_i64] <;> omega
  rw [← hm] at hbd ⊢
  clear hm hs
  go_enter Tryz.func109, Tryz.ntmps109
  go_wp2
  go_ret
  exact ⟨rfl, rfl⟩
theorem joinSum (t : Int) (h2 : t ≠ 2) (h3 : t ≠ 3) : JoinIn 110 #[] t := by
  refine ⟨enters_of Tryz.func110 (by kernel_rfl) rfl, fun a b w ha hb => ?_⟩
  show Calls Tryz.prog 110 #[.int .i64 a, .int .i64 b] w _
  obtain ⟨a1, a2⟩ := fitsC_iff.1 ha
  obtain ⟨b1, b2⟩ := fitsC_iff.1 hb
  have hs : stepC t a b = a + b := by unfold stepC; rw [if_neg h2, if_neg h3]
  rw [hs]
  clear hs
  go_enter Tryz.func110, Tryz.ntmps110
  go_wp2
  go_ret
  exact ⟨rfl, rfl⟩
theorem joining_any (t : Int) (w : World) : Calls Tryz.prog 82 #[.int .i64 t] w fun e w' => (∃ g, e = .returned (.func (.func g) #[] #[]) ∧ JoinIn g #[] t) ∧ w' = w := by
  by_cases h2 : t = 2
  · have hj := joinMost t h2
    subst h2
    go_enter Tryz.func82, Tryz.ntmps82
    go_wp2
    go_ret
    exact ⟨⟨_, rfl, hj⟩, rfl⟩
  · by_cases h3 : t = 3
    · have hj := joinTimes t h3
      subst h3
      go_enter Tryz.func82, Tryz.ntmps82
      go_wp2
      go_ret
      exact ⟨⟨_, rfl, hj⟩, rfl⟩
    · have hj := joinSum t h2 h3
      have e2 : (t == (2 : Int)) = false := by simp [h2]
      have e3 : (t == (3 : Int)) = false := by simp [h3]
      clear h2 h3
      go_enter Tryz.func82, Tryz.ntmps82
      go_wp2
      go_ret
      exact ⟨⟨_, rfl, hj⟩, rfl⟩
end Go.Proofs.YtandhiiaflhenaaGreatDoor

namespace Go.Proofs.YtandhiiaflhenaaGreatDoor
open Go.RowKit Go.Deep

/-- What is told behind the last step of a fold. -/
def foldV : Option Int → Cl
  | none => (0, true)
  | some m => (m, false)
theorem getD_memC {α : Type} {l : List α} {k : Nat} (d : α) (hk : k < l.length) : l.getD k d ∈ l := by
  rw [List.getD_eq_getElem?_getD, List.getElem?_eq_getElem hk]
  exact List.getElem_mem hk
theorem drop_at {α : Type} {l : List α} {k : Nat} (d : α) (hk : k < l.length) : l.drop k = l.getD k d :: l.drop (k + 1) := by
  rw [List.drop_eq_getElem_cons hk, List.getD_eq_getElem?_getD, List.getElem?_eq_getElem hk]
  rfl
theorem new_pair (w : World) (a b : Value) (t : TypeId) : (w.alloc (.cells #[a, b] t)).heap[w.heap.size]? = some (.cells #[a, b] t (0, 0)) := blk_alloc_new w _

theorem setP_alloc {w : World} {b : Nat} {t : TypeId} {o1 o2 : Value} (h : w.heap[b]? = some (.cells #[o1, o2] t (0, 0))) (a1 a2 : Value) (x : Obj) : ((setPC w b a1 a2).alloc x).heap[b]? = some (.cells #[a1, a2] t (0, 0)) :=
  (Below.heap_alloc _ _ _ (lt_of_block (setP_blockC h a1 a2))).trans (setP_blockC h a1 a2)

set_option maxRecDepth 100000 in
set_option maxHeartbeats 1000000 in
theorem fold_any (n : Int) (v : Value) (cs : List Cl) (g : Nat) (lb : Array Value) (t : Int) (w : World) (hc : CellsAt w v cs) (hj : JoinIn g lb t) (hn : fitsC n = true) (hr : ∀ c, c ∈ cs → cellErr c = 0) :
    Calls Tryz.prog 81 #[.int .i64 n, v, .func (.func g) #[] lb] w fun e w' => e = .returned (clV (foldV (foldC t n cs))) ∧ Below w.heap.size w w' := by
  obtain ⟨hl, a, c, rfl, hc⟩ := hc
  obtain ⟨eg, hj⟩ := hj
  have HJ : Hid (∀ a b w, fitsC a = true → fitsC b = true → Calls Tryz.prog g (#[.int .i64 a, .int .i64 b] ++ lb) w fun e w' => e = .returned (.int .i64 (stepC t a b)) ∧ w' = w) := hj
  have HN : Hid (fitsC n = true) := hn
  have HR : Hid (∀ c, c ∈ cs → cellErr c = 0) := hr
  clear hj hn hr
  go_enter Tryz.func81, Tryz.ntmps81
  go_wp2
  go_loopw [0, 11] (fun s0 s11 wr => ∃ (m : Int) (k : Nat), k ≤ cs.length ∧ s0 = .int .i64 m ∧ s11 = .int .i64 k ∧ Hid (fitsC m = true) ∧ Hid (foldC t n cs = foldC t m (cs.drop k)) ∧ Below (w.heap.size + 1) (w.alloc (.cells #[.int .i64 0, .bool false] 86)) wr) (fun _ s11 _ => cs.length - (intOf s11).toNat)
  case atStart => exact ⟨n, 0, Nat.zero_le _, rfl, rfl, HN, by show _ = _; rw [List.drop_zero], Below.refl _ _⟩
  case round =>
    obtain ⟨m, k, hk, rfl, rfl, hm, hE, hb⟩ := hrel
    have hsz : w.heap.size < wr.heap.size := by have := hb.size; simp at this; omega
    have hB0 : wr.heap[w.heap.size]? = some (.cells #[.int .i64 0, .bool false] 86 (0, 0)) := (hb.block _ (by omega)).trans (new_pair w _ _ _)
    have hbw : Below w.heap.size w wr := ((Below.refl w.heap.size w).alloc (Nat.le_refl _) _).trans (hb.mono (by omega))
    by_cases hkl : k < cs.length
    · rcases hc with rfl | ⟨b, o, rfl, hbl, hc⟩
      · simp at hkl
      obtain ⟨hc1, hc2⟩ := hc k hkl
      have hc1' := (hbw.cell (p := ⟨b, o + k * 2, none⟩) hbl).trans hc1
      have hc2' := (hbw.cell (p := ⟨b, o + k * 2 + 1, none⟩) hbl).trans hc2
      clear hc hc1 hc2
      have hx := cellErr_zero.1 (HR.out _ (getD_memC (0, false) hkl))
      have HD : Hid (foldC t n cs = if fltC cs k = true then none else if fitsC (stepC t m (numC cs k)) = true then foldC t (stepC t m (numC cs k)) (cs.drop (k + 1)) else none) := by
        show _ = _
        rw [hE.out, drop_at (0, false) hkl]
        rfl
      have hxf : fitsC (numC cs k) = true := hx.1
      clear hx hE
      generalize numC cs k = x at *
      generalize fltC cs k = f at *
      have hB1 : (wr.alloc (.cells #[.int .i64 x, .bool f] 86)).heap[w.heap.size]? = some (.cells #[.int .i64 0, .bool false] 86 (0, 0)) := (Below.heap_alloc _ _ _ hsz).trans hB0
      obtain ⟨q0, q1, qf⟩ := pair_cells hB1
      have qf0 := qf 0
      have qf1 := qf 1
      obtain ⟨p0, p1, pf⟩ := pair_cells hB0
      have pf0 := pf 0
      have pf1 := pf 1
      clear pf
      have hbA : Below w.heap.size w (wr.alloc (.cells #[.int .i64 x, .bool f] 86)) := hbw.alloc hbw.size _
      have hbA2 : Below (w.heap.size + 1) (w.alloc (.cells #[.int .i64 0, .bool false] 86)) (wr.alloc (.cells #[.int .i64 x, .bool f] 86)) := hb.alloc (by omega) _
      have hcall := HJ.out m x (wr.alloc (.cells #[.int .i64 x, .bool f] 86)) hm.out hxf
      have HB1 : Hid (wr.heap[w.heap.size]? = some (.cells #[.int .i64 0, .bool false] 86 (0, 0))) := hB0
      clear hB1 hB0 hxf qf
      generalize stepC t m x = m2 at *
      have hv := fun wx => isValue_any m2 wx
      cases f
      · cases hf : fitsC m2
        · have HE : Hid (foldC t n cs = none) := by
            show _ = _
            rw [HD.out, hf]
            rfl
          rw [hf] at hv
          clear hf HD
          go_wp2_with (first | (go_at_fn g; refine hcall.mono ?_; rintro e w' ⟨rfl, rfl⟩) | (go_at_call 78; refine (hv _).mono ?_; rintro e w2 ⟨rfl, rfl⟩))
          obtain ⟨r0, r1, _⟩ := pair_cells (setP_alloc HB1.out (.int .i64 0) (.bool true) (.cells #[.int .i64 x, .bool false] 86))
          refine cell_ret rfl r0 r1 rfl rfl ⟨?_, ((hbw.setCell (p := ⟨w.heap.size, 0, none⟩) (Nat.le_refl _) _).setCell (p := ⟨w.heap.size, 1, none⟩) (Nat.le_refl _) _).alloc (by simp; omega) _⟩
          rw [HE.out]; rfl
        · have HE : Hid (foldC t n cs = foldC t m2 (cs.drop (k + 1))) := by
            show _ = _
            rw [HD.out, hf]
            rfl
          have HM : Hid (fitsC m2 = true) := hf
          rw [hf] at hv
          clear hf HD
          go_wp2_with (first | (go_at_fn g; refine hcall.mono ?_; rintro e w' ⟨rfl, rfl⟩) | (go_at_call 78; refine (hv _).mono ?_; rintro e w2 ⟨rfl, rfl⟩))
          go_roundw
          case rel => exact ⟨m2, k + 1, by omega, rfl, by go_num, HM, HE, hbA2⟩
          case measure => simp [intOf]; omega
      · have HE : Hid (foldC t n cs = none) := by
          show _ = _
          rw [HD.out]
          rfl
        clear HD
        go_wp2_with (first | (go_at_fn g; refine hcall.mono ?_; rintro e w' ⟨rfl, rfl⟩) | (go_at_call 78; refine (hv _).mono ?_; rintro e w2 ⟨rfl, rfl⟩))
        obtain ⟨r0, r1, _⟩ := pair_cells (setP_alloc HB1.out (.int .i64 0) (.bool true) (.cells #[.int .i64 x, .bool true] 86))
        refine cell_ret rfl r0 r1 rfl rfl ⟨?_, ((hbw.setCell (p := ⟨w.heap.size, 0, none⟩) (Nat.le_refl _) _).setCell (p := ⟨w.heap.size, 1, none⟩) (Nat.le_refl _) _).alloc (by simp; omega) _⟩
        rw [HE.out]; rfl
    · clear hc
      have HE : Hid (foldC t n cs = some m) := by
        show _ = _
        rw [hE.out, List.drop_of_length_le (by omega)]
        rfl
      obtain ⟨q0, q1, qf⟩ := pair_cells hB0
      have qf0 := qf 0
      have qf1 := qf 1
      have HB1 : Hid (wr.heap[w.heap.size]? = some (.cells #[.int .i64 0, .bool false] 86 (0, 0))) := hB0
      clear hB0 qf hE
      go_wp2
      obtain ⟨r0, r1, _⟩ := pair_cells (setP_blockC HB1.out (.int .i64 m) (.bool false))
      refine cell_ret rfl r0 r1 rfl rfl ⟨?_, (hbw.setCell (p := ⟨w.heap.size, 0, none⟩) (Nat.le_refl _) _).setCell (p := ⟨w.heap.size, 1, none⟩) (Nat.le_refl _) _⟩
      rw [HE.out]; rfl

set_option maxRecDepth 100000 in
set_option maxHeartbeats 1000000 in
theorem split_any (n : Int) (o : Option Int) (w : World) (hn : fitsC n = true) :
    Calls Tryz.prog 80 #[.int .i64 n, clV (foldV o)] w fun e w' => e = .returned (clV (endC 4 n o)) ∧ Below w.heap.size w w' := by
  have two : ∀ (c0 c1 u0 u1 : Value), Below w.heap.size w ((w.alloc (.cells #[c0, c1] 86)).alloc (.cells #[u0, u1] 86)) := fun c0 c1 u0 u1 => ((Below.refl _ _).alloc (Nat.le_refl _) _).alloc (by simp) _
  have blk : ∀ (c0 c1 u0 u1 : Value), ((w.alloc (.cells #[c0, c1] 86)).alloc (.cells #[u0, u1] 86)).heap[w.heap.size + 1]? = some (.cells #[u0, u1] 86 (0, 0)) := fun c0 c1 u0 u1 => by
    have := blk_alloc_new (w.alloc (.cells #[c0, c1] 86)) (.cells #[u0, u1] 86)
    simpa using this
  have TW : Hid (∀ (c0 c1 u0 u1 : Value), Below w.heap.size w ((w.alloc (.cells #[c0, c1] 86)).alloc (.cells #[u0, u1] 86))) := two
  have BK : Hid (∀ (c0 c1 u0 u1 : Value), ((w.alloc (.cells #[c0, c1] 86)).alloc (.cells #[u0, u1] 86)).heap[w.heap.size + 1]? = some (.cells #[u0, u1] 86 (0, 0))) := blk
  clear two blk
  cases o with
  | none =>
    show Calls Tryz.prog 80 #[.int .i64 n, .agg #[.int .i64 0, .bool true]] w _
    go_enter Tryz.func80, Tryz.ntmps80
    go_wp2
    obtain ⟨r0, r1, _⟩ := pair_cells (BK.out (.int .i64 0) (.bool true) (.int .i64 0) (.bool true))
    exact cell_ret rfl r0 r1 rfl rfl ⟨rfl, TW.out _ _ _ _⟩
  | some m =>
    show Calls Tryz.prog 80 #[.int .i64 n, .agg #[.int .i64 m, .bool false]] w _
    by_cases h0 : m = 0
    · subst h0
      go_enter Tryz.func80, Tryz.ntmps80
      go_wp2
      obtain ⟨r0, r1, _⟩ := pair_cells (BK.out (.int .i64 0) (.bool false) (.int .i64 0) (.bool true))
      exact cell_ret rfl r0 r1 rfl rfl ⟨rfl, TW.out _ _ _ _⟩
    · have HE : Hid (endC 4 n (some m) = (n.tdiv m, false)) := by
        show _ = _
        unfold endC
        dsimp only
        rw [if_pos rfl, if_neg h0]
      obtain ⟨d1, d2⟩ := fitsC_iff.1 (tdiv_fits (m := m) hn)
      have hw : IntKind.i64.wrap (n.tdiv m) = n.tdiv m := by rw [IntKind.wrap_i64] <;> omega
      have hz : (m == (0 : Int)) = false := by simp [h0]
      go_enter Tryz.func80, Tryz.ntmps80
      go_wp2
      obtain ⟨r0, r1, _⟩ := pair_cells (BK.out (.int .i64 m) (.bool false) (.int .i64 (n.tdiv m)) (.bool false))
      exact cell_ret rfl r0 r1 rfl rfl ⟨by rw [HE.out]; rfl, TW.out _ _ _ _⟩
end Go.Proofs.YtandhiiaflhenaaGreatDoor

namespace Go.Proofs.YtandhiiaflhenaaGreatDoor
open Go.RowKit Go.Deep

/-- The first cell that is no fault. -/
def FirstIs (cs : List Cl) (r : Int) : Prop :=
  (∃ k : Nat, r = k ∧ k < cs.length ∧ fltC cs k = false ∧ ∀ j, j < k → fltC cs j = true) ∨ (r = -1 ∧ ∀ j, j < cs.length → fltC cs j = true)
theorem firstC_hit (n : Int) : ∀ (cs : List Cl) (k : Nat), k < cs.length → fltC cs k = false → (∀ j, j < k → fltC cs j = true) → firstC n cs = (numC cs k, false) := by
  intro cs
  induction cs with
  | nil => intro k hk; simp at hk
  | cons c r ih =>
    intro k hk hf hj
    rw [firstC]
    cases k with
    | zero =>
      have hc : c.2 = false := hf
      rw [hc, if_neg (by simp)]
      exact Prod.ext rfl hc
    | succ k =>
      have hc : c.2 = true := hj 0 (by omega)
      rw [if_pos hc]
      exact ih k (by simpa using hk) hf (fun j h => hj (j + 1) (by omega))
theorem firstC_miss (n : Int) : ∀ (cs : List Cl), (∀ j, j < cs.length → fltC cs j = true) → firstC n cs = (n, false) := by
  intro cs
  induction cs with
  | nil => intro _; rfl
  | cons c r ih =>
    intro hj
    have hc : c.2 = true := hj 0 (by simp)
    rw [firstC, if_pos hc]
    exact ih (fun j h => hj (j + 1) (by simpa using h))

theorem entersF : ∀ args w, (callFunc 107 args).run Tryz.prog w = .ok (.enter 107 args) w := enters_of Tryz.func107 (by kernel_rfl) rfl
theorem noFault_any (n : Int) (f : Bool) (w : World) : Calls Tryz.prog 107 #[.agg #[.int .i64 n, .bool f]] w fun e w' => e = .returned (.bool (!f)) ∧ Below w.heap.size w w' := by
  have HB : Hid (Below w.heap.size w (w.alloc (.cells #[.int .i64 n, .bool f] 86))) := (Below.refl _ _).alloc (Nat.le_refl _) _
  go_enter Tryz.func107, Tryz.ntmps107
  go_wp2
  go_ret
  exact ⟨rfl, HB.out⟩

set_option maxRecDepth 100000 in
set_option maxHeartbeats 1000000 in
theorem indexC_any (v : Value) (cs : List Cl) (w : World) (hc : CellsAt w v cs) :
    Calls Tryz.prog 106 #[v, .func (.func 107) #[] #[]] w fun e w' => (∃ r, e = .returned (.int .i64 r) ∧ FirstIs cs r) ∧ Below w.heap.size w w' := by
  obtain ⟨hl, a, c, rfl, hc⟩ := hc
  have ef := entersF
  go_enter Tryz.func106, Tryz.ntmps106
  go_wp2
  go_loopw [8] (fun s8 wr => ∃ k : Nat, k ≤ cs.length ∧ s8 = .int .i64 k ∧ Hid (∀ j, j < k → fltC cs j = true) ∧ Below w.heap.size w wr) (fun s8 _ => cs.length - (intOf s8).toNat)
  case atStart => exact ⟨0, Nat.zero_le _, rfl, fun j hj => by omega, Below.refl _ _⟩
  case round =>
    obtain ⟨k, hk, rfl, hno, hb⟩ := hrel
    by_cases hkl : k < cs.length
    · rcases hc with rfl | ⟨b, o, rfl, hbl, hc⟩
      · simp at hkl
      obtain ⟨hc1, hc2⟩ := hc k hkl
      have hc1' := (hb.cell (p := ⟨b, o + k * 2, none⟩) hbl).trans hc1
      have hc2' := (hb.cell (p := ⟨b, o + k * 2 + 1, none⟩) hbl).trans hc2
      clear hc hc1 hc2
      have hcall := noFault_any (numC cs k) (fltC cs k) wr
      generalize numC cs k = x at *
      cases hf : fltC cs k
      · have HF : Hid (FirstIs cs k) := Or.inl ⟨k, rfl, hkl, hf, hno.out⟩
        rw [hf] at hcall hc2'
        clear hf hno
        go_wp2_with (go_at_fn 107; refine hcall.mono ?_; rintro e w2 ⟨rfl, hb2⟩)
        go_ret
        exact ⟨⟨_, rfl, HF.out⟩, hb.trans (hb2.mono hb.size)⟩
      · have HF : Hid (∀ j, j < k + 1 → fltC cs j = true) := fun j hj => by
          by_cases e : j = k
          · rw [e]; exact hf
          · exact hno.out j (by omega)
        rw [hf] at hcall hc2'
        clear hf hno
        go_wp2_with (go_at_fn 107; refine hcall.mono ?_; rintro e w2 ⟨rfl, hb2⟩)
        go_roundw
        case rel => exact ⟨k + 1, by omega, by go_num, HF, hb.trans (hb2.mono hb.size)⟩
        case measure => simp [intOf]; omega
    · clear hc
      have HF : Hid (FirstIs cs (-1)) := Or.inr ⟨rfl, fun j hj => hno.out j (by omega)⟩
      go_wp2
      go_ret
      exact ⟨⟨_, rfl, HF.out⟩, hb⟩

set_option maxRecDepth 100000 in
set_option maxHeartbeats 1000000 in
theorem first_any (n : Int) (v : Value) (cs : List Cl) (w : World) (hc : CellsAt w v cs) :
    Calls Tryz.prog 79 #[.int .i64 n, v] w fun e w' => e = .returned (clV (firstC n cs)) ∧ Below w.heap.size w w' := by
  have hb0 : Below w.heap.size w (w.alloc (.cells #[.int .i64 0, .bool false] 86)) := (Below.refl _ _).alloc (Nat.le_refl _) _
  have hix := indexC_any v cs _ (hc.later hb0)
  have HC : Hid (CellsAt w v cs) := hc
  have HB : Hid (Below w.heap.size w (w.alloc (.cells #[.int .i64 0, .bool false] 86))) := hb0
  have HK : Hid ((w.alloc (.cells #[.int .i64 0, .bool false] 86)).heap[w.heap.size]? = some (.cells #[.int .i64 0, .bool false] 86 (0, 0))) := new_pair w _ _ _
  obtain ⟨hl, a, c, rfl, hc⟩ := hc
  clear hc hb0
  go_enter Tryz.func79, Tryz.ntmps79
  go_wp2_with fail
  refine hix.mono ?_
  rintro e w1 ⟨⟨r, rfl, hF⟩, hb1⟩
  have hsz : w.heap.size < w1.heap.size := by have := hb1.size; simp at this; omega
  have hblk : w1.heap[w.heap.size]? = some (.cells #[.int .i64 0, .bool false] 86 (0, 0)) := (hb1.block _ (by simp)).trans HK.out
  obtain ⟨q0, q1, qf⟩ := pair_cells hblk
  have qf0 := qf 0
  have qf1 := qf 1
  have hbw : Below w.heap.size w w1 := HB.out.trans (hb1.mono (by simp))
  have HBW : Hid (Below w.heap.size w w1) := hbw
  have HK1 : Hid (w1.heap[w.heap.size]? = some (.cells #[.int .i64 0, .bool false] 86 (0, 0))) := hblk
  clear hix hb1 hblk qf HK HB
  rcases hF with ⟨k, rfl, hk, hf, hj⟩ | ⟨rfl, hj⟩
  · have HE : Hid (firstC n cs = (numC cs k, false)) := firstC_hit n cs k hk hf hj
    obtain ⟨_, _, _, hva, hcc⟩ := HC.out.later hbw
    cases hva
    rcases hcc with rfl | ⟨b, o, rfl, hbl, hcc⟩
    · simp at hk
    obtain ⟨hc1, hc2⟩ := hcc k hk
    rw [hf] at hc2
    clear hcc HC hf hj hbw
    generalize numC cs k = x at *
    go_wp2
    obtain ⟨r0, r1, _⟩ := pair_cells (setP_blockC HK1.out (.int .i64 x) (.bool false))
    refine cell_ret rfl r0 r1 rfl rfl ⟨?_, (HBW.out.setCell (p := ⟨w.heap.size, 0, none⟩) (Nat.le_refl _) _).setCell (p := ⟨w.heap.size, 1, none⟩) (Nat.le_refl _) _⟩
    rw [HE.out]; rfl
  · have HE : Hid (firstC n cs = (n, false)) := firstC_miss n cs hj
    clear hj HC hbw
    go_wp2
    obtain ⟨r0, r1, _⟩ := pair_cells (setP_blockC HK1.out (.int .i64 n) (.bool false))
    refine cell_ret rfl r0 r1 rfl rfl ⟨?_, (HBW.out.setCell (p := ⟨w.heap.size, 0, none⟩) (Nat.le_refl _) _).setCell (p := ⟨w.heap.size, 1, none⟩) (Nat.le_refl _) _⟩
    rw [HE.out]; rfl
end Go.Proofs.YtandhiiaflhenaaGreatDoor
