/- The contracts of checkOps and of Do. The contract of Do. Cells in a row of their own; the contract of along. What an order is; the contract of All. -/
import Derived.Test.YtandhiiaflhenaaGreatDoorCle
import Derived.Test.YtandhiiaflhenaaGreatDoorJna
import Derived.Maps.AppendAt

namespace Go.Proofs.YtandhiiaflhenaaGreatDoor
open Go.RowKit Go.Deep

theorem firstBad_at {α : Type} (f : α → Int) (d : α) : ∀ (l : List α) (k : Nat), k < l.length → (∀ j, j < k → f (l.getD j d) = 0) → f (l.getD k d) ≠ 0 → firstBad f l = f (l.getD k d) := by
  intro l
  induction l with
  | nil => intro k hk; simp at hk
  | cons a r ih =>
    intro k hk hj hf
    rw [firstBad]
    cases k with
    | zero => exact if_neg hf
    | succ k =>
      have h0 : f a = 0 := hj 0 (by omega)
      rw [if_pos h0]
      exact ih k (by simpa using hk) (fun j h => hj (j + 1) (by omega)) hf
theorem firstBad_none {α : Type} (f : α → Int) (d : α) (l : List α) (h : ∀ j, j < l.length → f (l.getD j d) = 0) : firstBad f l = 0 := by
  refine firstBad_zero.2 fun x hx => ?_
  obtain ⟨j, hj, rfl⟩ := List.getElem_of_mem hx
  have := h j hj
  rw [List.getD_eq_getElem?_getD, List.getElem?_eq_getElem hj] at this
  exact this
/-- What is wrong with the ops of so many tasks. -/
def opsErr (n : Nat) (os : List Opn) : Int := if os.length = n then firstBad opErr os else 3

set_option maxRecDepth 100000 in
set_option maxHeartbeats 1000000 in
theorem checkOps_any (pv ov : Value) (ts : List (Int × List Int)) (os : List Opn) (w : World) (hp : PlanAt w pv ts) (ho : OpsAt w ov os) :
    Calls Tryz.prog 25 #[pv, ov] w fun e w' => e = .returned (errV (opsErr ts.length os)) ∧ Below w.heap.size w w' := by
  obtain ⟨hpl, pa, pc, rfl, _⟩ := hp
  obtain ⟨hl, a, c, rfl, ho⟩ := ho
  generalize ts.length = m at *
  by_cases hn : os.length = m
  · subst hn
    have HN : Hid (opsErr os.length os = firstBad opErr os) := by show _ = _; unfold opsErr; rw [if_pos rfl]
    go_enter Tryz.func25, Tryz.ntmps25
    go_wp2
    go_loopw [16] (fun s16 wr => ∃ k : Nat, k ≤ os.length ∧ s16 = .int .i64 k ∧ Below w.heap.size w wr ∧ Hid (∀ j, j < k → opErr (os.getD j (0, 0)) = 0)) (fun s16 _ => os.length - (intOf s16).toNat)
    case atStart => exact ⟨0, Nat.zero_le _, rfl, Below.refl _ _, fun j hj => by omega⟩
    case round =>
      obtain ⟨k, hk, rfl, hb, hno⟩ := hrel
      by_cases hkl : k < os.length
      · rcases ho with rfl | ⟨b, o, rfl, hbl, hc⟩
        · simp at hkl
        obtain ⟨hc1, hc2⟩ := hc k hkl
        have hc1' := (hb.cell (p := ⟨b, o + k * 2, none⟩) hbl).trans hc1
        have hc2' := (hb.cell (p := ⟨b, o + k * 2 + 1, none⟩) hbl).trans hc2
        clear hc hc1 hc2
        have hck := checkOp_any (whtO os k) (numO os k) (wr.alloc (.cells #[.int .i64 (whtO os k), .int .i64 (numO os k)] 121))
        have hbA : Below w.heap.size w (wr.alloc (.cells #[.int .i64 (whtO os k), .int .i64 (numO os k)] 121)) := hb.alloc hb.size _
        have HO : Hid (opErr (os.getD k (0, 0)) = opErr (whtO os k, numO os k)) := rfl
        have hbz : (wr.alloc (.cells #[.int .i64 (whtO os k), .int .i64 (numO os k)] 121)).heap.size = wr.heap.size + 1 := by simp
        generalize whtO os k = x at *
        generalize numO os k = y at *
        by_cases hq : opErr (x, y) = 0
        · have HF : Hid (∀ j, j < k + 1 → opErr (os.getD j (0, 0)) = 0) := fun j hj => by
            by_cases e : j = k
            · rw [e, HO.out]; exact hq
            · exact hno.out j (by omega)
          rw [hq, errV_zero] at hck
          clear hq hno HO
          go_wp2_with (go_at_call 44; refine hck.mono ?_; rintro e w2 ⟨rfl, hb2⟩)
          go_roundw
          case rel => exact ⟨k + 1, by omega, by go_num, hbA.trans (hb2.mono hbA.size), HF⟩
          case measure => simp [intOf]; omega
        · have HF : Hid (∀ u, u = errV (opErr (x, y)) → u = errV (opsErr os.length os)) := fun u hu => by
            rw [hu, HN.out, firstBad_at opErr (0, 0) os k hkl hno.out (by rw [HO.out]; exact hq), HO.out]
          rw [errV_some hq] at hck HF
          clear hq hno HO
          generalize opErr (x, y) = q at *
          go_wp2_with (go_at_call 44; refine hck.mono ?_; rintro e w2 ⟨rfl, hb2⟩)
          go_ret
          exact ⟨by rw [← HF.out _ rfl]; rfl, hbA.trans (hb2.mono hbA.size)⟩
      · clear ho
        have HF : Hid (opsErr os.length os = 0) := HN.out.trans (firstBad_none opErr (0, 0) os (fun j hj => hno.out j (by omega)))
        go_wp2
        go_ret
        exact ⟨by rw [HF.out]; rfl, hb⟩
  · have HN : Hid (opsErr m os = 3) := by show _ = _; unfold opsErr; rw [if_neg hn]
    have hni : ((os.length : Int) == (m : Int)) = false := by simp; omega
    clear ho hn
    go_enter Tryz.func25, Tryz.ntmps25
    go_wp2
    go_ret
    exact ⟨by rw [HN.out]; rfl, Below.refl _ _⟩
end Go.Proofs.YtandhiiaflhenaaGreatDoor

namespace Go.Proofs.YtandhiiaflhenaaGreatDoor
open Go.RowKit Go.Deep

/-- What is wrong with an op and its cells; what is told. -/
def doErr (o : Opn) (cs : List Cl) : Int := if opErr o = 0 then (if 30 < cs.length then 4 else firstBad cellErr cs) else opErr o
def doR (o : Opn) (cs : List Cl) : Cl := if doErr o cs = 0 then doC o cs else (0, false)
theorem doR_bad {o : Opn} {cs : List Cl} (h : doErr o cs ≠ 0) : doR o cs = (0, false) := if_neg h
theorem doR_ok {o : Opn} {cs : List Cl} (h : doErr o cs = 0) : doR o cs = doC o cs := if_pos h
theorem doErr_zero {o : Opn} {cs : List Cl} (h1 : opErr o = 0) (h2 : cs.length ≤ 30) (h3 : ∀ c, c ∈ cs → cellErr c = 0) : doErr o cs = 0 := by
  unfold doErr
  rw [if_pos h1, if_neg (by omega)]
  exact firstBad_zero.2 h3

end Go.Proofs.YtandhiiaflhenaaGreatDoor

namespace Go.Proofs.YtandhiiaflhenaaGreatDoor
open Go.RowKit Go.Deep

theorem Tryz.info86 : (Tryz.prog.info? 86).map (fun i => (i.zero, i.size, i.bytes)) = some (some (.agg #[.int .i64 0, .bool false]), 2, 16) := by kernel_rfl

/-- Cells, cell by cell. -/
def flatC (gs : List Cl) : List Value := gs.flatMap (fun g => [.int .i64 g.1, .bool g.2])
theorem flatC_length (gs : List Cl) : (flatC gs).length = gs.length * 2 := by
  induction gs with
  | nil => rfl
  | cons a r ih =>
    show (([Value.int .i64 a.1, Value.bool a.2] : List Value) ++ flatC r).length = _
    rw [List.length_append, ih]
    simp
    omega
theorem flatC_append (a b : List Cl) : flatC (a ++ b) = flatC a ++ flatC b := by simp [flatC]
theorem flatC_at (gs : List Cl) : ∀ k, k < gs.length → (flatC gs)[k * 2]? = some (.int .i64 (numC gs k)) ∧ (flatC gs)[k * 2 + 1]? = some (.bool (fltC gs k)) := by
  induction gs with
  | nil => intro k hk; simp at hk
  | cons a r ih =>
    intro k hk
    show (([Value.int .i64 a.1, Value.bool a.2] : List Value) ++ flatC r)[k * 2]? = _ ∧ (([Value.int .i64 a.1, Value.bool a.2] : List Value) ++ flatC r)[k * 2 + 1]? = _
    cases k with
    | zero => exact ⟨rfl, rfl⟩
    | succ k =>
      have h := ih k (by simpa using hk)
      rw [List.getElem?_append_right (by simp; omega), List.getElem?_append_right (by simp; omega)]
      have e1 : (k + 1) * 2 - ([Value.int .i64 a.1, Value.bool a.2] : List Value).length = k * 2 := by simp; omega
      have e2 : (k + 1) * 2 + 1 - ([Value.int .i64 a.1, Value.bool a.2] : List Value).length = k * 2 + 1 := by simp; omega
      rw [e1, e2]
      exact h
theorem flatC_one (gs : List Cl) : ∀ u ∈ flatC gs, u.oneCell' = true := by
  intro u hu
  obtain ⟨g, _, h⟩ := List.mem_flatMap.1 hu
  simp at h
  rcases h with rfl | rfl <;> rfl
theorem ownsRow_low {w : World} {base base' : Nat} {e : TypeId} {size : Nat} {v : Value} {n : Nat} {xs : List Value} (h : w.ownsRow base e size v n xs) (hb : base' ≤ base) : w.ownsRow base' e size v n xs :=
  ⟨h.1, h.2.imp id (fun ⟨g, cap, cur, hv, hg, r⟩ => ⟨g, cap, cur, hv, Nat.le_trans hb hg, r⟩)⟩
/-- Cells in a row of the call's own, in a block from b on. -/
def RowC (b : Nat) (w : World) (v : Value) (gs : List Cl) : Prop := w.ownsRow b 86 2 v gs.length (flatC gs)
theorem RowC.at {b : Nat} {w : World} {v : Value} {gs : List Cl} (h : RowC b w v gs) (hl : gs.length * 16 ≤ 140737488351232) : CellsAt w v gs := by
  refine ⟨hl, ?_⟩
  rcases h.2 with ⟨hv, h0⟩ | ⟨g, cap, cur, hv, _, hh, _⟩
  · exact ⟨none, 0, by rw [hv, h0], Or.inl (List.eq_nil_of_length_eq_zero h0)⟩
  · subst hv
    refine ⟨_, _, rfl, Or.inr ⟨g, 0, rfl, lt_of_block hh, fun k hk => ?_⟩⟩
    have e1 := World.ownsRow.cellAt h (k * 2) (by omega)
    have e2 := World.ownsRow.cellAt h (k * 2 + 1) (by omega)
    obtain ⟨h1, h2⟩ := flatC_at gs k hk
    rw [Nat.zero_add]
    exact ⟨e1.trans h1, e2.trans h2⟩
theorem RowC.later {b : Nat} {w w' : World} {v : Value} {gs : List Cl} (h : RowC b w v gs) (hb : Below w.heap.size w w') : RowC b w' v gs :=
  h.kept (row := none) ⟨hb.os, hb.tape, hb.output, hb.size, fun k hk _ => hb.block k hk⟩ (by cases v.ownBlock <;> simp)
theorem RowC.shape {b : Nat} {w : World} {v : Value} {gs : List Cl} (h : RowC b w v gs) (hn : 0 < gs.length) : ∃ g cap, v = .slice (some ⟨g, 0, none⟩) gs.length cap ∧ b ≤ g ∧ g < w.heap.size := by
  rcases h.2 with ⟨_, h0⟩ | ⟨g, cap, cur, hv, hg, hh, _⟩
  · omega
  · exact ⟨g, cap, hv, hg, lt_of_block hh⟩
theorem add_lit (b off j : Nat) : (⟨b, off, none⟩ : Addr).add j = ⟨b, off + j, none⟩ := by
  unfold Addr.add
  split
  · rename_i h; subst h; rfl
  · rfl
/-- What an append of cells reads. -/
theorem cells_src {w : World} {b o : Nat} {gs : List Cl} (hc : ∀ k, k < gs.length → w.cell? ⟨b, o + k * 2, none⟩ = some (.int .i64 (numC gs k)) ∧ w.cell? ⟨b, o + k * 2 + 1, none⟩ = some (.bool (fltC gs k))) :
    ∀ j u, (flatC gs)[j]? = some u → w.cell? ((⟨b, o, none⟩ : Addr).add j) = some u := by
  intro j u hj
  have hjl : j < gs.length * 2 := by rw [← flatC_length]; exact (List.getElem?_eq_some_iff.1 hj).1
  rw [add_lit]
  have h1 := flatC_at gs (j / 2) (by omega)
  have h2 := hc (j / 2) (by omega)
  rcases Nat.mod_two_eq_zero_or_one j with e | e
  · have ej : j / 2 * 2 = j := by omega
    rw [ej] at h1 h2
    rw [h2.1, ← hj, h1.1]
  · have ej : j / 2 * 2 + 1 = j := by omega
    rw [Nat.add_assoc, ej] at h2
    rw [ej] at h1
    rw [h2.2, ← hj, h1.2]


theorem RowC.nil (b : Nat) (w : World) : RowC b w (.slice none 0 0) [] := World.ownsRow_nil _ _ _ _
theorem RowC.any {b : Nat} {w : World} {v : Value} {gs : List Cl} (h : RowC b w v gs) : ∃ a c, v = .slice a gs.length c := by
  rcases h.2 with ⟨hv, h0⟩ | ⟨g, cap, cur, hv, _⟩
  · exact ⟨none, 0, by rw [hv, h0]⟩
  · exact ⟨_, _, hv⟩
/-- What lies in a row of cells, place by place. -/
def cellRow (F : Nat → Cl) : Nat → Value := fun j => if j % 2 = 0 then .int .i64 (F (j / 2)).1 else .bool (F (j / 2)).2
theorem cellRow_num (F : Nat → Cl) (k : Nat) : cellRow F (k * 2) = .int .i64 (F k).1 := by
  unfold cellRow
  rw [if_pos (by omega), show k * 2 / 2 = k by omega]
theorem cellRow_flt (F : Nat → Cl) (k : Nat) : cellRow F (k * 2 + 1) = .bool (F k).2 := by
  unfold cellRow
  rw [if_neg (by omega), show (k * 2 + 1) / 2 = k by omega]
theorem row_put {w : World} {N m : Nat} {F : Nat → Cl} (h : w.rowIs N 86 m (cellRow F)) (k : Nat) (x : Int) (f : Bool) :
    ((w.setCell ⟨N, k * 2, none⟩ (.int .i64 x)).setCell ⟨N, k * 2 + 1, none⟩ (.bool f)).rowIs N 86 m (cellRow (putC F k (x, f))) := by
  refine ((h.set (k * 2) (.int .i64 x)).set (k * 2 + 1) (.bool f)).congr (fun j _ => ?_)
  unfold cellRow putC
  by_cases e1 : j = k * 2 + 1
  · rw [if_pos e1, if_neg (by omega), if_pos (by omega)]
  · rw [if_neg e1]
    by_cases e2 : j = k * 2
    · rw [if_pos e2, if_pos (by omega), if_pos (by omega)]
    · rw [if_neg e2, if_neg (show ¬ j / 2 = k by omega)]
theorem row_made (w : World) (n : Nat) : (w.alloc (.cells (madeCells #[.int .i64 0, .bool false] (n * 2)) 86)).rowIs w.heap.size 86 (n * 2) (cellRow (fun _ => (0, false))) :=
  ⟨_, blk_alloc_new _ _, size_madeCells _ _, fun i hi => by
    unfold cellRow
    rcases Nat.mod_two_eq_zero_or_one i with e | e <;> simp [madeCells, hi, e]⟩
def outL (n : Nat) (F : Nat → Cl) : List Cl := (List.range n).map F
theorem outL_length (n : Nat) (F : Nat → Cl) : (outL n F).length = n := by simp [outL]
theorem outL_getD (n : Nat) (F : Nat → Cl) (k : Nat) (hk : k < n) : (outL n F).getD k (0, false) = F k := by simp [outL, hk]
theorem cells_of_row {w : World} {N n : Nat} {F : Nat → Cl} (h : w.rowIs N 86 (n * 2) (cellRow F)) (hn : n * 16 ≤ 140737488351232) : CellsAt w (.slice (some ⟨N, 0, none⟩) n n) (outL n F) := by
  refine ⟨by rw [outL_length]; exact hn, _, n, by rw [outL_length], Or.inr ⟨N, 0, rfl, h.lt, fun k hk => ?_⟩⟩
  rw [outL_length] at hk
  have h1 := h.cell (i := k * 2) (by omega)
  have h2 := h.cell (i := k * 2 + 1) (by omega)
  rw [cellRow_num] at h1
  rw [cellRow_flt] at h2
  unfold numC fltC
  rw [outL_getD n F k hk, Nat.zero_add]
  exact ⟨h1, h2⟩
theorem alongC_right {ts : List (Int × List Int)} {op : Nat → Opn} : ∀ {ord : List Nat}, (∀ x, x ∈ ord → opErr (op x) = 0) → ∀ k, cellErr (alongC ts op ord k) = 0 := by
  intro ord
  generalize hn : ord.length = n
  induction n generalizing ord with
  | zero =>
    intro _ k
    rw [List.eq_nil_of_length_eq_zero hn]
    rfl
  | succ n ih =>
    intro ho k
    obtain ⟨l, a, rfl⟩ : ∃ l a, ord = l ++ [a] := ⟨ord.dropLast, ord.getLast (by intro e; rw [e] at hn; simp at hn), (List.dropLast_concat_getLast _).symm⟩
    have hl := ih (ord := l) (by simpa using hn) (fun x hx => ho x (List.mem_append.2 (Or.inl hx)))
    rw [alongC_snoc]
    unfold putC
    split
    · refine doC_right (ho a (by simp)) (fun c hc => ?_)
      obtain ⟨y, _, rfl⟩ := List.mem_map.1 hc
      exact hl _
    · exact hl k
theorem cell_two_at (w : World) (a b : Value) (t : TypeId) : ∀ j u, [a, b][j]? = some u → (w.alloc (.cells #[a, b] t)).cell? ((⟨w.heap.size, 0, none⟩ : Addr).add j) = some u := cell_two_new w a b t

set_option maxRecDepth 100000 in
set_option maxHeartbeats 4000000 in
theorem along_any (pv ov rv : Value) (ts : List (Int × List Int)) (os : List Opn) (ord : List Nat) (w : World) (hp : PlanAt w pv ts) (ho : OpsAt w ov os) (hi : IntsAt w rv (intsOf ord))
    (h30 : ts.length ≤ 30) (hr : InRange ts) (hm : os.length = ts.length) (hx : ∀ x, x ∈ ord → x < ts.length) (hop : ∀ k, k < ts.length → opErr (os.getD k (0, 0)) = 0) (h8 : ∀ k, k < ts.length → (needsOf ts k).length ≤ 1000) :
    Calls Tryz.prog 26 #[pv, ov, rv] w fun e w' => e = .returned (.slice (some ⟨w.heap.size, 0, none⟩) ts.length ts.length) ∧ w'.rowIs w.heap.size 86 (ts.length * 2) (cellRow (alongC ts (fun k => os.getD k (0, 0)) ord)) ∧ Below w.heap.size w w' := by
  obtain ⟨i36, hi36, hz0, hz1, hz2⟩ := info_parts Tryz.info86
  have hmk : ∀ wx : World, (Instr.makeSlice 32 (.int .i64 (ts.length : Int)) (.int .i64 (ts.length : Int))).run Tryz.prog wx = .ok (.slice (some ⟨wx.heap.size, 0, none⟩) ts.length ts.length) (wx.alloc (.cells (madeCells #[.int .i64 0, .bool false] (ts.length * 2)) 86)) := by
    intro wx
    have hr := run_make (P := Tryz.prog) wx 32 86 i36 _ Tryz.underlying32 hi36 hz0 .i64 .i64 ts.length ts.length (by omega) (by omega) (by rw [hz2]; omega) (by omega)
    simp only [hz1, Int.toNat_natCast] at hr
    exact hr
  have HP : Hid (PlanAt w pv ts) := hp
  have HO : Hid (OpsAt w ov os) := ho
  have HI : Hid (IntsAt w rv (intsOf ord)) := hi
  have HR : Hid (InRange ts) := hr
  have HX : Hid (∀ x, x ∈ ord → x < ts.length) := hx
  have HOP : Hid (∀ k, k < ts.length → opErr (os.getD k (0, 0)) = 0) := hop
  have H8 : Hid (∀ k, k < ts.length → (needsOf ts k).length ≤ 1000) := h8
  have HM : Hid (os.length = ts.length) := hm
  obtain ⟨_, pa, pc, rfl, _⟩ := hp
  obtain ⟨_, oa, oc, rfl, _⟩ := ho
  obtain ⟨_, ra, rc, rfl, _⟩ := hi
  have HL : Hid ((intsOf ord).length = ord.length) := intsOf_length ord
  obtain ⟨zl, hzl⟩ : ∃ zl, zl = (intsOf ord).length := ⟨_, rfl⟩
  obtain ⟨ol, hol⟩ : ∃ ol, ol = os.length := ⟨_, rfl⟩
  rw [← hzl, ← hol]
  have HZ : Hid (zl = ord.length) := hzl.trans (intsOf_length ord)
  have hzb : zl ≤ 20000000000000 := by omega
  have HQ : Hid (ol = ts.length) := hol.trans hm
  clear hr hx hop h8 hm hzl hol
  go_enter Tryz.func26, Tryz.ntmps26
  go_wp2
  clear hmk
  go_loopw [18] (fun s18 wr => ∃ k : Nat, k ≤ zl ∧ s18 = .int .i64 k ∧ Hid (wr.rowIs w.heap.size 86 (ts.length * 2) (cellRow (alongC ts (fun k => os.getD k (0, 0)) (ord.take k)))) ∧ Below w.heap.size w wr) (fun s18 _ => zl - (intOf s18).toNat)
  case atStart => exact ⟨0, Nat.zero_le _, rfl, row_made w ts.length, (Below.refl _ _).alloc (Nat.le_refl _) _⟩
  case round =>
    obtain ⟨k, hk, rfl, hrow, hb⟩ := hrel
    by_cases hkl : k < zl
    · have hko : k < ord.length := by rw [← HZ.out]; exact hkl
      obtain ⟨i, hie⟩ : ∃ i, i = ord.getD k 0 := ⟨_, rfl⟩
      have him : i ∈ ord := by rw [hie]; exact getD_memC 0 hko
      have hit := HX.out i him
      obtain ⟨rb, ro, rfl, hri⟩ : ∃ rb ro, ra = some ⟨rb, ro, none⟩ ∧ w.cell? ⟨rb, ro + k, none⟩ = some (.int .i64 (i : Int)) ∧ rb < w.heap.size := by
        obtain ⟨_, a', c', hva, hz⟩ := HI.out
        cases hva
        rcases hz with h0 | ⟨rb, ro, h1, h2, h3⟩
        · rw [List.eq_nil_iff_length_eq_zero, intsOf_length] at h0; omega
        · refine ⟨rb, ro, h1, ?_, h2⟩
          have := h3 k (by rw [intsOf_length]; exact hko)
          rw [intsOf_getD, ← hie] at this
          exact this
      have hri1 := (hb.cell (p := ⟨rb, ro + k, none⟩) hri.2).trans hri.1
      have HTK : Hid (ord.take (k + 1) = ord.take k ++ [i]) := by
        show _ = _
        rw [List.take_succ_eq_append_getElem hko, hie, List.getD_eq_getElem?_getD, List.getElem?_eq_getElem hko]
        rfl
      clear hri hie him
      obtain ⟨F, hF⟩ : ∃ F, F = alongC ts (fun k => os.getD k (0, 0)) (ord.take k) := ⟨_, rfl⟩
      rw [← hF] at hrow
      have HF : Hid (F = alongC ts (fun k => os.getD k (0, 0)) (ord.take k)) := hF
      have HFR : Hid (∀ j, cellErr (F j) = 0) := fun j => by
        rw [hF]
        exact alongC_right (fun x hx => HOP.out x (HX.out x (List.mem_of_mem_take hx))) j
      clear hF
      -- the task's needs
      obtain ⟨_, a', c', hva, hpc⟩ := HP.out
      cases hva
      rcases hpc with h0 | ⟨pb, po, rfl, hpb, hpc⟩
      · rw [h0] at hit; simp at hit
      obtain ⟨_, nv, hn2, hin⟩ := hpc i hit
      have hn2' := (hb.cell (p := ⟨pb, po + i * 2 + 1, none⟩) hpb).trans hn2
      have HIN : Hid (IntsAt w nv (needsOf ts i)) := hin
      obtain ⟨nl8, na, nc, rfl, _⟩ := hin
      have hnr := HR.out i hit
      have h8i := H8.out i hit
      obtain ⟨ns, hns⟩ : ∃ ns, ns = needsOf ts i := ⟨_, rfl⟩
      rw [← hns] at HIN hnr h8i hn2'
      have HNS : Hid (ns = needsOf ts i) := hns
      have HNR : Hid (∀ y, y ∈ ns → 0 ≤ y ∧ y < ts.length) := hnr
      clear hpc hn2 hns hnr nl8
      obtain ⟨w0, hw0⟩ : ∃ w0, w0 = wr := ⟨_, rfl⟩
      have HB0 : Hid (Below w.heap.size w w0) := by rw [hw0]; exact hb
      have HR0 : Hid (w0.rowIs w.heap.size 86 (ts.length * 2) (cellRow F)) := by rw [hw0]; exact hrow
      have h0lt : w.heap.size < w0.heap.size := HR0.out.lt
      go_wp2
      rw [← hw0]
      clear hw0 hrow hb hri1 hn2'
      go_loopw [10, 28] (fun s10 s28 wr => ∃ j : Nat, j ≤ ns.length ∧ s28 = .int .i64 j ∧ Hid (RowC w0.heap.size wr s10 ((ns.take j).map (fun y => F y.toNat))) ∧ Below w0.heap.size w0 wr) (fun _ s28 _ => ns.length - (intOf s28).toNat)
      case atStart => exact ⟨0, Nat.zero_le _, rfl, RowC.nil _ _, Below.refl _ _⟩
      case round =>
        obtain ⟨j, hj, rfl, hR, hb⟩ := hrel
        have hrow := HR0.out.of_block (hb.block _ h0lt)
        by_cases hjl : j < ns.length
        · obtain ⟨nb, no, rfl, hnc, hnb⟩ : ∃ nb no, na = some ⟨nb, no, none⟩ ∧ w.cell? ⟨nb, no + j, none⟩ = some (.int .i64 (ns.getD j 0)) ∧ nb < w.heap.size := by
            obtain ⟨_, a', c', hva, hz⟩ := HIN.out
            cases hva
            rcases hz with h0 | ⟨rb, ro, h1, h2, h3⟩
            · rw [h0] at hjl; simp at hjl
            · exact ⟨rb, ro, h1, h3 j hjl, h2⟩
          have hbw := HB0.out.trans (hb.mono HB0.out.size)
          have hnc' := (hbw.cell (p := ⟨nb, no + j, none⟩) hnb).trans hnc
          have hym := getD_memC 0 hjl
          obtain ⟨y1, y2⟩ := HNR.out _ hym
          have HT : Hid ((ns.take (j + 1)).map (fun y => F y.toNat) = (ns.take j).map (fun y => F y.toNat) ++ [F (ns.getD j 0).toNat]) := by
            show _ = _
            rw [List.take_succ_eq_append_getElem hjl, List.map_append, List.getD_eq_getElem?_getD, List.getElem?_eq_getElem hjl]
            rfl
          clear hnc hym
          generalize ns.getD j 0 = y at *
          obtain ⟨m, rfl⟩ := Int.eq_ofNat_of_zero_le y1
          have hmt : m < ts.length := by omega
          rw [Int.toNat_natCast] at HT
          have hv1 := hrow.cell (i := m * 2) (by omega)
          have hv2 := hrow.cell (i := m * 2 + 1) (by omega)
          rw [cellRow_num] at hv1
          rw [cellRow_flt] at hv2
          obtain ⟨la, lc, rfl⟩ := hR.out.any
          have hl1 : ((ns.take j).map (fun y => F y.toNat)).length ≤ 1000 := by simp; omega
          obtain ⟨cs, hcs⟩ : ∃ cs, cs = (ns.take j).map (fun y => F y.toNat) := ⟨_, rfl⟩
          rw [← hcs] at hR hl1 HT
          have HCS : Hid (cs = (ns.take j).map (fun y => F y.toNat)) := hcs
          have hR2 := hR.out.later (((Below.refl _ _).alloc (Nat.le_refl _) (.cells #[.int .i64 (F m).1, .bool (F m).2] 86)) : Below wr.heap.size wr (wr.alloc (.cells #[.int .i64 (F m).1, .bool (F m).2] 86)))
          rw [← hcs]
          have hsrc := cell_two_at wr (.int .i64 (F m).1) (.bool (F m).2) 86
          have hbA : Below w0.heap.size w0 (wr.alloc (.cells #[.int .i64 (F m).1, .bool (F m).2] 86)) := hb.alloc hb.size _
          have hwsz := hb.size
          unfold RowC at hR2
          have HFM : Hid (flatC cs ++ [.int .i64 (F m).1, .bool (F m).2] = flatC (cs ++ [F m])) := by show _ = _; rw [flatC_append]; rfl
          clear hcs hR hrow hbw
          generalize (F m).1 = x at *
          generalize (F m).2 = f at *
          go_wp2_with (at_builtin; refine wpList_append_own _ rfl (.tmp 32) (.tmp 37) 32 rfl w0.heap.size 86 i36 (.agg #[.int .i64 0, .bool false]) 2 16 Tryz.underlying32 hi36 hz0 hz1 hz2 rfl (by decide) _ cs.length (flatC cs) rfl hR2 ⟨wr.heap.size, 0, none⟩ 1 1 [.int .i64 x, .bool f] rfl rfl hsrc ?d2 ?d3 ?d4 ?d5 ?_)
          case d2 => intro u hu; simp at hu; rcases hu with rfl | rfl <;> rfl
          case d3 => unfold maxLen; omega
          case d4 => omega
          case d5 => simp; omega
          intro v' w1 hown' hgrow _
          have hB1 : Below w0.heap.size w0 w1 := hbA.grown hgrow (by simp; omega) (fun k e => (hR2.lt k e).1)
          have HN1 : Hid (RowC w0.heap.size w1 v' ((ns.take (j + 1)).map (fun y => F y.toNat))) := by
            show RowC _ _ _ _
            rw [HT.out]
            unfold RowC
            rw [List.length_append, ← HFM.out]
            exact hown'
          clear hown' hgrow hR2 hbA
          go_wp2
          go_roundw
          case rel => exact ⟨j + 1, by omega, by go_num, HN1, hB1⟩
          case measure => simp [intOf]; omega
        · have hje : j = ns.length := by omega
          have hall : ns.take j = ns := List.take_of_length_le (by omega)
          rw [hall] at hR
          have hbw := HB0.out.trans (hb.mono HB0.out.size)
          have hcl : ((ns.map (fun y => F y.toNat)).length) * 16 ≤ 140737488351232 := by rw [List.length_map]; omega
          have hca := hR.out.at hcl
          have hrt : ∀ c, c ∈ ns.map (fun y => F y.toNat) → cellErr c = 0 := fun c hc => by
            obtain ⟨y, _, rfl⟩ := List.mem_map.1 hc
            exact HFR.out _
          have hopi := HOP.out i hit
          obtain ⟨la, lc, rfl⟩ := hR.out.any
          have hdo := do_any (os.getD i (0, 0)) _ _ wr hca hopi hrt
          obtain ⟨ob, oo, rfl, ho1, ho2⟩ : ∃ ob oo, oa = some ⟨ob, oo, none⟩ ∧ wr.cell? ⟨ob, oo + i * 2, none⟩ = some (.int .i64 (whtO os i)) ∧ wr.cell? ⟨ob, oo + i * 2 + 1, none⟩ = some (.int .i64 (numO os i)) := by
            obtain ⟨_, a', c', hva, hz⟩ := HO.out
            cases hva
            have hio : i < os.length := by rw [HM.out]; exact hit
            rcases hz with h0 | ⟨rb, ro, h1, h2, h3⟩
            · rw [h0] at hio; simp at hio
            · exact ⟨rb, ro, h1, (hbw.cell (p := ⟨rb, ro + i * 2, none⟩) h2).trans (h3 i hio).1, (hbw.cell (p := ⟨rb, ro + i * 2 + 1, none⟩) h2).trans (h3 i hio).2⟩
          have hiol : i < ol := by rw [HQ.out]; exact hit
          obtain ⟨⟨x, f⟩, hxf⟩ : ∃ c, doC (os.getD i (0, 0)) (ns.map (fun y => F y.toNat)) = c := ⟨_, rfl⟩
          rw [hxf] at hdo
          have HNX : Hid (alongC ts (fun k => os.getD k (0, 0)) (ord.take (k + 1)) = putC F i (x, f)) := by
            show _ = _
            rw [HTK.out, alongC_snoc, ← HF.out, ← HNS.out, hxf]
          unfold clV opV at hdo
          dsimp only at hdo
          replace hdo : Calls Tryz.prog 45 #[.agg #[.int .i64 (whtO os i), .int .i64 (numO os i)], .slice la (ns.map (fun y => F y.toNat)).length lc] wr fun e w' => e = .returned (.agg #[.int .i64 x, .bool f]) ∧ Below wr.heap.size wr w' := hdo
          have HRW : Hid (wr.rowIs w.heap.size 86 (ts.length * 2) (cellRow F)) := hrow
          have hlw := hrow.lt
          have HLW : Hid (w.heap.size < wr.heap.size) := hlw
          have HBW : Hid (Below w.heap.size w wr) := hbw
          clear hxf hall hje hcl hca hrt hopi hR hbw hb hrow hlw
          generalize whtO os i = ow at *
          generalize numO os i = on at *
          generalize (ns.map (fun y => F y.toNat)).length = nl at *
          go_wp2_with (go_at_call 45; refine hdo.mono ?_; rintro e w2 ⟨rfl, hb2⟩; have hr2 := HRW.out.of_block (hb2.block _ HLW.out); have q0 := hr2.cell (i := i * 2) (by omega); have q1 := hr2.cell (i := i * 2 + 1) (by omega); have f0 := hr2.frozen (i * 2); have f1 := hr2.frozen (i * 2 + 1); rw [cellRow_num] at q0; rw [cellRow_flt] at q1; have HR2 : Hid (w2.rowIs w.heap.size 86 (ts.length * 2) (cellRow F)) := hr2; have HB2 : Hid (Below w.heap.size w w2) := HBW.out.trans (hb2.mono HBW.out.size); clear hr2 hb2)
          go_roundw
          case rel => exact ⟨k + 1, by omega, by go_num, by show World.rowIs _ _ _ _ _; rw [HNX.out]; exact row_put HR2.out i x f, (HB2.out.setCell (p := ⟨w.heap.size, i * 2, none⟩) (Nat.le_refl _) _).setCell (p := ⟨w.heap.size, i * 2 + 1, none⟩) (Nat.le_refl _) _⟩
          case measure => simp [intOf]; omega
    · have hke : k = ord.length := by have := HZ.out; omega
      have HE : Hid (wr.rowIs w.heap.size 86 (ts.length * 2) (cellRow (alongC ts (fun k => os.getD k (0, 0)) ord))) := by
        have := hrow.out
        rw [List.take_of_length_le (by omega)] at this
        exact this
      clear hrow hke
      go_wp2
      go_ret
      exact ⟨rfl, HE.out, hb⟩
end Go.Proofs.YtandhiiaflhenaaGreatDoor

namespace Go.Proofs.YtandhiiaflhenaaGreatDoor
open Go.RowKit Go.Deep

theorem needs_len {ts : List (Int × List Int)} (h : ∀ j, j < ts.length → errOf ts j = 0) {k : Nat} (hk : k < ts.length) : (needsOf ts k).length ≤ ts.length := by
  have hr := inRange_of h k hk
  have hu : rising (needsOf ts k) = true := by
    have he := h k hk
    unfold errOf taskErr at he
    split at he
    · simp at he
    · split at he
      · simp at he
      · split at he
        · assumption
        · simp at he
  have hs := (rising_iff _).1 hu
  have hge : ∀ j, j < (needsOf ts k).length → (j : Int) ≤ (needsOf ts k).getD j 0 := by
    intro j
    induction j with
    | zero => intro hj; exact (hr _ (getD_memC 0 hj)).1
    | succ j ih =>
      intro hj
      have h1 := ih (by omega)
      have h2 := hs j hj
      omega
  rcases Nat.eq_zero_or_pos (needsOf ts k).length with h0 | h0
  · omega
  · have h1 := hge ((needsOf ts k).length - 1) (by omega)
    have h2 := (hr _ (getD_memC 0 (show (needsOf ts k).length - 1 < (needsOf ts k).length by omega))).2
    omega
/-- In an order each stands once, behind those that it needs. -/
theorem OrdIs.at {ts : List (Int × List Int)} {ord : List Nat} (h : OrdIs ts ord) {m : Nat} (hm : m < ord.length) : ord.getD m 0 < ts.length ∧ ¬ ord.getD m 0 ∈ ord.take m ∧ ∀ y, Need ts (ord.getD m 0) y → y ∈ ord.take m := by
  rcases h.1 m hm with ⟨k, hk, _, hf, he⟩ | ⟨_, he⟩
  · have hke : ord.getD m 0 = k := by omega
    rw [hke]
    unfold freeB at hf
    rw [Bool.and_eq_true] at hf
    obtain ⟨h1, h2⟩ := hf
    refine ⟨hk, fun hc => ?_, fun y hy => ?_⟩
    · have : has (ord.take m) k = true := by unfold has; exact List.contains_iff_mem.2 hc
      rw [this] at h1
      simp at h1
    · apply Classical.byContradiction
      intro hc
      have hc2 : has (ord.take m) y = false := by
        cases e : has (ord.take m) y with
        | false => rfl
        | true => unfold has at e; exact absurd (List.contains_iff_mem.1 e) hc
      have : (needsOf ts k).any (fun y => !has (ord.take m) y.toNat) = true := List.any_eq_true.2 ⟨(y : Int), hy, by simp [hc2]⟩
      rw [this] at h2
      simp at h2
  · omega
theorem OrdIs.nodup {ts : List (Int × List Int)} {ord : List Nat} (h : OrdIs ts ord) : ord.Nodup := by
  refine List.pairwise_iff_getElem.2 fun i j hi hj hij e => ?_
  have h1 := (h.at hj).2.1
  rw [List.getD_eq_getElem?_getD, List.getElem?_eq_getElem hj] at h1
  refine h1 ?_
  show ord[j] ∈ ord.take j
  rw [← e]
  exact List.mem_take_iff_getElem.2 ⟨i, by omega, rfl⟩
theorem OrdIs.behind {ts : List (Int × List Int)} {ord : List Nat} (h : OrdIs ts ord) : Behind ts ord := fun _ hm => (h.at hm).2.2
theorem OrdIs.below {ts : List (Int × List Int)} {ord : List Nat} (h : OrdIs ts ord) : ∀ x, x ∈ ord → x < ts.length := fun x hx => by
  obtain ⟨j, hj, rfl⟩ := List.getElem_of_mem hx
  have := (h.at hj).1
  rw [List.getD_eq_getElem?_getD, List.getElem?_eq_getElem hj] at this
  exact this
theorem OrdIs.mem {ts : List (Int × List Int)} {ord : List Nat} (h : OrdIs ts ord) (hr : InRange ts) (hno : ∀ j, j < ts.length → ¬ Reach ts j j) : ∀ x, x < ts.length → x ∈ ord := fun x hx => by
  have := h.all hr hno x hx
  unfold has at this
  exact List.contains_iff_mem.1 this
/-- The ops by number. -/
def opOf (os : List Opn) : Nat → Opn := fun k => os.getD k (0, 0)
/-- What is wrong with a plan, and its ops. -/
def allErr (q : Int) (n : Nat) (os : List Opn) : Int := if q = 0 then opsErr n os else q
theorem opsErr_zero {n : Nat} {os : List Opn} (h : opsErr n os = 0) : os.length = n ∧ ∀ k, k < n → opErr (os.getD k (0, 0)) = 0 := by
  unfold opsErr at h
  split at h
  · rename_i hn
    exact ⟨hn, fun k hk => firstBad_zero.1 h _ (getD_memC (0, 0) (by omega))⟩
  · omega
/-- What All hands back. -/
def AllOut (ts : List (Int × List Int)) (os : List Opn) (e : Ending) (w' : World) : Prop :=
  ∃ p q, CheckIs ts p q ∧ ((allErr q ts.length os ≠ 0 ∧ e = .returned (.tuple #[.slice none 0 0, errV (allErr q ts.length os)])) ∨
    (q = 0 ∧ opsErr ts.length os = 0 ∧ ∃ ord g, OrdIs ts ord ∧ e = .returned (.tuple #[.slice (some ⟨g, 0, none⟩) ts.length ts.length, .nilIface]) ∧ w'.rowIs g 86 (ts.length * 2) (cellRow (alongC ts (fun k => os.getD k (0, 0)) ord))))

set_option maxRecDepth 100000 in
set_option maxHeartbeats 2000000 in
theorem cAll_any (pv ov : Value) (ts : List (Int × List Int)) (os : List Opn) (w : World) (hp : PlanAt w pv ts) (ho : OpsAt w ov os) :
    Calls Tryz.prog 6 #[pv, ov] w fun e w' => AllOut ts os e w' ∧ Below w.heap.size w w' := by
  have hor := order_any pv ts w hp
  have HP : Hid (PlanAt w pv ts) := hp
  have HO : Hid (OpsAt w ov os) := ho
  obtain ⟨_, pa, pc, rfl, _⟩ := hp
  obtain ⟨_, oa, oc, rfl, _⟩ := ho
  go_enter Tryz.func6, Tryz.ntmps6
  go_wp2_with fail
  refine hor.mono ?_
  clear hor
  rintro e w1 ⟨⟨p, q, hck, hcase⟩, hb⟩
  have HCK : Hid (CheckIs ts p q) := hck
  rcases hcase with ⟨hq, rfl⟩ | ⟨hq, ord, rv, rfl, hord, hints⟩
  · have HE : Hid (∀ u w', u = errV q → AllOut ts os (.returned (.tuple #[.slice none 0 0, u])) w') := fun u w' hu => by
      have e : allErr q ts.length os = q := by unfold allErr; rw [if_neg hq]
      exact ⟨p, q, HCK.out, Or.inl ⟨by rw [e]; exact hq, by rw [hu, e]⟩⟩
    rw [errV_some hq] at HE ⊢
    clear hck hq
    go_wp2
    go_ret2
    exact ⟨HE.out _ _ rfl, hb⟩
  · subst hq
    obtain ⟨-, h30, herr, hno⟩ := hck.ok rfl
    have hco := checkOps_any _ _ ts os w1 (HP.out.later hb) (HO.out.later hb)
    by_cases hq : opsErr ts.length os = 0
    · obtain ⟨hm, hop⟩ := opsErr_zero hq
      rw [hq, errV_zero] at hco
      have HAL : Hid (∀ w2, Below w1.heap.size w1 w2 → Calls Tryz.prog 26 #[.slice pa ts.length pc, .slice oa os.length oc, rv] w2 fun e w' => e = .returned (.slice (some ⟨w2.heap.size, 0, none⟩) ts.length ts.length) ∧ w'.rowIs w2.heap.size 86 (ts.length * 2) (cellRow (alongC ts (fun k => os.getD k (0, 0)) ord)) ∧ Below w2.heap.size w2 w') := fun w2 hb2 =>
        along_any _ _ _ ts os ord w2 ((HP.out.later hb).later hb2) ((HO.out.later hb).later hb2) (hints.later hb2) h30 (inRange_of herr) hm hord.below hop (fun k hk => Nat.le_trans (needs_len herr hk) (by omega))
      have HZ : Hid (∀ g w', w'.rowIs g 86 (ts.length * 2) (cellRow (alongC ts (fun k => os.getD k (0, 0)) ord)) → AllOut ts os (.returned (.tuple #[.slice (some ⟨g, 0, none⟩) ts.length ts.length, .nilIface])) w') := fun g w' h => ⟨p, 0, HCK.out, Or.inr ⟨rfl, hq, ord, g, hord, rfl, h⟩⟩
      clear hq hm hop hints hord hck herr hno
      go_wp2_with (first | (go_at_call 25; refine hco.mono ?_; clear hco; rintro e w2 ⟨rfl, hb2⟩; have hal := HAL.out w2 hb2) | (go_at_call 26; refine hal.mono ?_; clear hal; rintro e w3 ⟨rfl, hrow3, hb3⟩; have HR3 := HZ.out _ w3 hrow3; clear hrow3))
      go_ret2
      exact ⟨HR3, hb.trans ((hb2.trans (hb3.mono hb2.size)).mono hb.size)⟩
    · have HE : Hid (∀ u w', u = errV (opsErr ts.length os) → AllOut ts os (.returned (.tuple #[.slice none 0 0, u])) w') := fun u w' hu =>
        ⟨p, 0, HCK.out, Or.inl ⟨hq, by rw [hu]; rfl⟩⟩
      rw [errV_some hq] at HE hco
      clear hck hq hints hord herr hno
      generalize opsErr ts.length os = q at *
      go_wp2_with (go_at_call 25; refine hco.mono ?_; clear hco; rintro e w2 ⟨rfl, hb2⟩)
      go_ret2
      exact ⟨HE.out _ _ rfl, hb.trans (hb2.mono hb.size)⟩
end Go.Proofs.YtandhiiaflhenaaGreatDoor
