/- The contract of New. -/
import Derived.Test.YtbknbakbfblbiaaDoorT
import Derived.BigRegion
import Derived.Deep.CutRange
import Derived.Deep.CutBlock
import Derived.Deep.DeepCutAuto
namespace Go.Proofs.YtbknbakbfblbiaaDoor
open Go.RowKit Go.Deep Go.Maps

theorem Tryd.info24 : (Tryd.prog.info? 24).map (fun i => (i.zero, i.size, i.bytes)) = some (some (.slice none 0 0), 1, 24) := by kernel_rfl

/-- While a join is made: of the first a tasks what they need is counted, of the first i tasks, and m needs of the i-th, it is written whom they need. -/
structure NewM (J M A D C a i m : Nat) (ts : List (Int × List Int)) (w wr : World) : Prop where
  row : wr.rowIs J 69 3 (joinRow M A D ts.length)
  miss : wr.rowIs M 3 ts.length (fun k => natV (if k < a then (needsOf ts k).length else 0))
  aft : ∃ av, AftAt C A ts.length (aftIn ts i m) av wr ∧ ∀ k k', k < ts.length → k' < ts.length → k ≠ k' → ∀ b, (av k).ownBlock = some b → (av k').ownBlock ≠ some b
  done : DoneAt wr D ts.length (fun _ => false)
  lt : J < C ∧ M < C ∧ A < C ∧ D < C
  ne : J ≠ M ∧ J ≠ A ∧ J ≠ D ∧ M ≠ A ∧ M ≠ D ∧ A ≠ D
  low : w.heap.size ≤ J ∧ w.heap.size ≤ M ∧ w.heap.size ≤ A ∧ w.heap.size ≤ D
  size : C ≤ wr.heap.size
  below : Below w.heap.size w wr

theorem DoneAt.empty {w : World} {D n : Nat} (h : w.heap[D]? = some (.map #[] 0)) : DoneAt w D n (fun _ => false) := by
  obtain ⟨es, clock, hb, F, hs, hD⟩ := World.ownsMap_made w Tryd.prog 3 (unitElem (H := Unit))
  rw [heap_alloc_new] at hb
  simp only [Option.some.injEq, Obj.map.injEq] at hb
  obtain ⟨rfl, rfl⟩ := hb
  exact ⟨0, .map [], ⟨#[], 0, h, F, hs, rfl⟩, rfl, by rw [unseen_none]; omega, fun x _ => rfl⟩

theorem NewM.start {J M A D : Nat} {ts : List (Int × List Int)} {w wx : World} (hJ : wx.heap[J]? = some (.cells #[.slice (some ⟨M, 0, none⟩) ts.length ts.length, .slice (some ⟨A, 0, none⟩) ts.length ts.length, .map (some D)] 69 (0, 0)))
    (hM : wx.heap[M]? = some (.cells (madeCells #[.int .i64 0] ts.length) 3 (0, 0))) (hA : wx.heap[A]? = some (.cells (madeCells #[.slice none 0 0] ts.length) 24 (0, 0))) (hD : wx.heap[D]? = some (.map #[] 0))
    (low : w.heap.size ≤ J ∧ w.heap.size ≤ M ∧ w.heap.size ≤ A ∧ w.heap.size ≤ D) (hb : Below w.heap.size w wx) : NewM J M A D wx.heap.size 0 0 0 ts w wx := by
  have lt : ∀ {k o}, wx.heap[k]? = some o → k < wx.heap.size := fun h => (Array.getElem?_eq_some_iff.1 h).1
  refine ⟨⟨_, hJ, rfl, fun i hi => ?_⟩, ⟨_, hM, size_madeCells _ _, fun i hi => by simp [madeCells, hi, Nat.mod_one, natV]⟩, ⟨fun _ => .slice none 0 0, ⟨⟨_, hA, size_madeCells _ _, fun i hi => by simp [madeCells, hi, Nat.mod_one]⟩, fun k _ => ?_⟩, fun k k' _ _ _ b hb => by simp [Value.ownBlock] at hb⟩,
    DoneAt.empty hD, ⟨lt hJ, lt hM, lt hA, lt hD⟩, ⟨?_, ?_, ?_, ?_, ?_, ?_⟩, low, Nat.le_refl _, hb⟩
  · rcases (by omega : i = 0 ∨ i = 1 ∨ i = 2) with rfl | rfl | rfl <;> rfl
  · have : aftIn ts 0 0 k = [] := by simp [aftIn_zero, aftTo]
    rw [this]
    exact RowI.nil _ _
  · intro e; subst e; rw [hJ] at hM; simp at hM
  · intro e; subst e; rw [hJ] at hA; simp at hA
  · intro e; subst e; rw [hJ] at hD; simp at hD
  · intro e; subst e; rw [hM] at hA; simp at hA
  · intro e; subst e; rw [hM] at hD; simp at hD
  · intro e; subst e; rw [hA] at hD; simp at hD

section
variable {J M A D C a i m : Nat} {ts : List (Int × List Int)} {w wr w' : World}
theorem NewM.later (h : NewM J M A D C a i m ts w wr) (hb : Below wr.heap.size wr w') : NewM J M A D C a i m ts w w' := by
  obtain ⟨av, ha, hap⟩ := h.aft
  exact ⟨h.row.of_block (hb.block _ h.row.lt), h.miss.of_block (hb.block _ h.miss.lt), ⟨av, ha.of_blocks (hb.block _ ha.row.lt) (fun k _ hk => hb.block k hk), hap⟩, h.done.of_block (hb.block _ h.done.lt), h.lt, h.ne, h.low, Nat.le_trans h.size hb.size, h.below.trans (hb.mono h.below.size)⟩
theorem NewM.c0 (h : NewM J M A D C a i m ts w wr) : wr.cell? ⟨J, 0, none⟩ = some (.slice (some ⟨M, 0, none⟩) ts.length ts.length) := by
  have := h.row.cell (i := 0) (by omega)
  simpa [joinRow] using this
theorem NewM.c1 (h : NewM J M A D C a i m ts w wr) : wr.cell? ⟨J, 1, none⟩ = some (.slice (some ⟨A, 0, none⟩) ts.length ts.length) := by
  have := h.row.cell (i := 1) (by omega)
  simpa [joinRow] using this
/-- What the next task needs is counted. -/
theorem NewM.count (h : NewM J M A D C i i 0 ts w wr) : NewM J M A D C (i + 1) i 0 ts w (wr.setCell ⟨M, i, none⟩ (.int .i64 (needsOf ts i).length)) := by
  obtain ⟨av, ha, hap⟩ := h.aft
  obtain ⟨n1, n2, n3, n4, n5, n6⟩ := h.ne
  obtain ⟨l1, l2, l3, l4⟩ := h.lt
  have keep : ∀ k, k ≠ M → (wr.setCell ⟨M, i, none⟩ (.int .i64 (needsOf ts i).length)).heap[k]? = wr.heap[k]? := fun k hk => Below.heap_setCell _ _ _ _ (by show k ≠ M; exact hk)
  refine ⟨h.row.of_block (keep J n1), (h.miss.set i _).congr (fun k _ => ?_), ⟨av, ha.of_blocks (keep A (by omega)) (fun k hk _ => keep k (by omega)), hap⟩, h.done.of_block (keep D (by omega)), h.lt, h.ne, h.low, by simpa using h.size, h.below.setCell h.low.2.1 _⟩
  by_cases e : k = i
  · subst e; simp [natV]
  · have : (k < i + 1) ↔ k < i := by omega
    simp [e, this]
/-- The i-th is written down as one that needs the y-th. -/
theorem NewM.put {y q : Nat} {v v2 : Value} {w2 : World} {ob : Obj} {av : Nat → Value} (hg : Good ts) (hi : i < ts.length) (hm : m < (needsOf ts i).length) (hy : (needsOf ts i).getD m 0 = (y : Int)) (hyl : y < ts.length)
    (h : NewM J M A D C a i m ts w wr) (ha : AftAt C A ts.length (aftIn ts i m) av wr) (hap : ∀ k k', k < ts.length → k' < ts.length → k ≠ k' → ∀ b, (av k).ownBlock = some b → (av k').ownBlock ≠ some b) (hv : av y = v)
    (hgr : ((wr.drewN q).alloc ob).grownBy w2 v.ownBlock) (hat : v2.ownBlock = v.ownBlock ∨ v2.ownBlock = some ((wr.drewN q).alloc ob).heap.size) (hR : RowI C w2 v2 (intsOf (aftIn ts i m y) ++ [(i : Int)])) :
    NewM J M A D C a i (m + 1) ts w (w2.setCell ⟨A, y, none⟩ v2) := by
  subst hv
  obtain ⟨n1, n2, n3, n4, n5, n6⟩ := h.ne
  obtain ⟨l1, l2, l3, l4⟩ := h.lt
  have hCs := h.size
  have hb1 : Below wr.heap.size wr ((wr.drewN q).alloc ob) := ⟨rfl, rfl, rfl, by simp, fun k hk => Below.heap_alloc (wr.drewN q) ob k hk⟩
  have hs1 := hb1.size
  have hown := ha.own y hyl
  have keep2 : ∀ k, k < wr.heap.size → (av y).ownBlock ≠ some k → w2.heap[k]? = wr.heap[k]? := fun k hk hne => (hgr.block k (by omega) (fun e => hne e.symm)).trans (hb1.block k hk)
  have keepC : ∀ k, k < C → w2.heap[k]? = wr.heap[k]? := fun k hk => keep2 k (by omega) (fun e => by have := (hown.low e).1; omega)
  have keep : ∀ k, k < C → k ≠ A → (w2.setCell ⟨A, y, none⟩ v2).heap[k]? = wr.heap[k]? := fun k hk hne => (Below.heap_setCell _ _ _ _ (by show k ≠ A; exact hne)).trans (keepC k hk)
  have hA2 : w2.rowIs A 24 ts.length av := ha.row.of_block (keepC A l3)
  refine ⟨h.row.of_block (keep J l1 n2), h.miss.of_block (keep M l2 n4), ⟨fun k => if k = y then v2 else av k, ⟨hA2.set y v2, fun k hk => ?_⟩, fun k k' hk hk' hne b hb => ?_⟩, h.done.of_block (keep D l4 (by omega)), h.lt, h.ne, h.low, ?_, ?_⟩
  · by_cases e : k = y
    · subst e
      simp only [if_true]
      rw [aftIn_hit hg hi hm hy, intsOf_append]
      exact hR.of_blocks (fun b hb => Below.heap_setCell _ _ _ _ (by show b ≠ A; have := (hR.low hb).1; omega))
    · simp only [if_neg e]
      rw [aftIn_miss hm hy e]
      have hk2 := ha.own k hk
      refine hk2.of_blocks (fun b hb => ?_)
      have hlow := hk2.low hb
      exact (Below.heap_setCell _ _ _ _ (by show b ≠ A; omega)).trans (keep2 b hlow.2 (hap k y hk hyl e b hb))
  · change (if k = y then v2 else av k).ownBlock = some b at hb
    show (if k' = y then v2 else av k').ownBlock ≠ some b
    by_cases e : k = y
    · subst e
      rw [if_pos rfl] at hb
      rw [if_neg (fun e => hne e.symm)]
      rcases hat with h1 | h1
      · exact hap k k' hk hk' hne b (h1.symm.trans hb)
      · intro h2
        have := ((ha.own k' hk').low h2).2
        rw [h1] at hb
        simp only [Option.some.injEq] at hb
        omega
    · rw [if_neg e] at hb
      by_cases e' : k' = y
      · subst e'
        rw [if_pos rfl]
        intro h2
        rcases hat with h1 | h1
        · exact hap k k' hk hk' hne b hb (h1.symm.trans h2)
        · have := ((ha.own k hk).low hb).2
          rw [h1] at h2
          simp only [Option.some.injEq] at h2
          omega
      · rw [if_neg e']
        exact hap k k' hk hk' hne b hb
  · have := hgr.size
    simp
    omega
  · have hb2 : Below w.heap.size w w2 := (h.below.trans (hb1.mono h.below.size)).grown hgr (by have := h.below.size; omega) (fun k e => by have := (hown.low e).1; have := h.low; omega)
    exact hb2.setCell h.low.2.2.1 _
theorem NewM.next (h : NewM J M A D C a i (needsOf ts i).length ts w wr) : NewM J M A D C a (i + 1) 0 ts w wr := by
  obtain ⟨av, ha, hap⟩ := h.aft
  refine ⟨h.row, h.miss, ⟨av, ⟨ha.row, fun k hk => ?_⟩, hap⟩, h.done, h.lt, h.ne, h.low, h.size, h.below⟩
  have := ha.own k hk
  rw [aftIn_all] at this
  rw [aftIn_zero]
  exact this
theorem NewM.jnT (h30 : ts.length ≤ 30) (h : NewM J M A D C ts.length ts.length 0 ts w wr) : JnT J M A D C ts (fun _ => false) wr := by
  obtain ⟨av, ha, hap⟩ := h.aft
  refine ⟨h.row, h.miss.congr (fun k hk => by rw [missN_none, if_pos hk]), ⟨av, ha.row, fun k hk => ?_⟩, h.done, h.lt, h.ne, h30⟩
  have := ha.own k hk
  rw [aftIn_zero] at this
  exact this
end

theorem four (w : World) (a b c d : Obj) : ((((w.alloc a).alloc b).alloc c).alloc d).heap[w.heap.size]? = some a ∧ ((((w.alloc a).alloc b).alloc c).alloc d).heap[w.heap.size + 1]? = some b ∧ ((((w.alloc a).alloc b).alloc c).alloc d).heap[w.heap.size + 1 + 1]? = some c ∧ ((((w.alloc a).alloc b).alloc c).alloc d).heap[w.heap.size + 1 + 1 + 1]? = some d := by
  have n1 : (w.alloc a).heap.size = w.heap.size + 1 := by simp
  have n2 : ((w.alloc a).alloc b).heap.size = w.heap.size + 1 + 1 := by simp
  have n3 : (((w.alloc a).alloc b).alloc c).heap.size = w.heap.size + 1 + 1 + 1 := by simp
  refine ⟨?_, ?_, ?_, ?_⟩
  · rw [blk_alloc_lt _ _ _ (by omega), blk_alloc_lt _ _ _ (by omega), blk_alloc_lt _ _ _ (by omega), blk_alloc_new]
  · rw [blk_alloc_lt _ _ _ (by omega), blk_alloc_lt _ _ _ (by omega), ← n1, blk_alloc_new]
  · rw [blk_alloc_lt _ _ _ (by omega), ← n2, blk_alloc_new]
  · rw [← n3, blk_alloc_new]
theorem below_four {w0 w : World} (h : Below w0.heap.size w0 w) (a b c d : Obj) : Below w0.heap.size w0 ((((w.alloc a).alloc b).alloc c).alloc d).drew := by
  have := h.size
  have hb := (((h.alloc (by omega) a).alloc (by simp; omega) b).alloc (by simp; omega) c).alloc (by simp; omega) d
  exact ⟨hb.os, hb.tape, hb.output, hb.size, hb.block⟩

theorem make44 (w : World) : Sem.run Tryd.prog (Instr.makeMap 67 none) w = .ok (.map (some w.heap.size)) (w.alloc (.map #[] 0)) := by kernel_rfl

theorem new_bad (v : Value) (ts : List (Int × List Int)) (w : World) (hp : PlanAt w v ts) {p q : Int} (hc : CheckIs ts p q) (hq : q ≠ 0) :
    Calls Tryd.prog 22 #[v] w fun e w' => e = .returned (.tuple #[.pointer none, errV q]) ∧ Below w.heap.size w w' := by
  have hck := check_any v ts w hp
  obtain ⟨hl, a, c, rfl, hp⟩ := hp
  have hev := errV_some hq
  have HV : Hid (errV q = .iface 56 (.int .i64 q)) := hev
  clear hp
  go_enter Tryd.func22, Tryd.ntmps22
  go_wp2_with fail
  refine hck.mono ?_
  rintro e w1 ⟨⟨p', q', rfl, hc'⟩, hb1⟩
  obtain ⟨rfl, rfl⟩ := hc.det hc'
  rw [hev]
  clear hck hc hc' hev
  go_wp2
  go_ret2
  exact ⟨by rw [HV.out]; rfl, hb1⟩

/-- What New answers to a plan that is right. -/
def NewOut (ts : List (Int × List Int)) (w : World) (e : Ending) (w' : World) : Prop :=
  ∃ J M A D C, e = .returned (.tuple #[.pointer (some ⟨J, 0, none⟩), .nilIface]) ∧ JnT J M A D C ts (fun _ => false) w' ∧ (w.heap.size ≤ J ∧ w.heap.size ≤ M ∧ w.heap.size ≤ A ∧ w.heap.size ≤ D) ∧ Below w.heap.size w w'

set_option maxRecDepth 100000 in
set_option maxHeartbeats 4000000 in
theorem new_good (v : Value) (ts : List (Int × List Int)) (w : World) (hp : PlanAt w v ts) (hc : CheckIs ts 0 0) :
    Calls Tryd.prog 22 #[v] w fun e w' => NewOut ts w e w' := by
  have hck := check_any v ts w hp
  have HP : Hid (PlanAt w v ts) := hp
  have HG : Hid (Good ts) := hc.good
  have h30 := HG.out.le
  obtain ⟨hl, pa, pc, rfl, hp⟩ := hp
  have hmk := fun wx => run_make_row' (P := Tryd.prog) 24 3 (.int .i64 0) 8 Tryd.underlying24 Tryd.info3 rfl .i64 .i64 ts.length (by omega) (by omega) wx
  have hmk2 := fun wx => run_make_row' (P := Tryd.prog) 66 24 (.slice none 0 0) 24 Tryd.underlying66 Tryd.info24 rfl .i64 .i64 ts.length (by omega) (by omega) wx
  have hmk3 := make44
  clear hp
  go_enter Tryd.func22, Tryd.ntmps22
  go_wp2_with fail
  refine hck.mono ?_
  rintro e w1 ⟨⟨p', q', rfl, hc'⟩, hb1⟩
  obtain ⟨rfl, rfl⟩ := hc.det hc'
  rw [errV_zero]
  clear hck hc hc'
  go_upto_region 4 with fail
  go_cut [6] (fun s6 wx => ∃ J M A D C, s6 = .pointer (some ⟨J, 0, none⟩) ∧ Hid (NewM J M A D C 0 0 0 ts w wx))
  case first =>
    go_region
    all_goals
      go_wp2_with fail
      go_meet
      have hsz := hb1.size
      refine ⟨_, _, _, _, _, rfl, NewM.start (four w1 _ _ _ _).2.2.2 ?_ ?_ ?_ ⟨by omega, by omega, by omega, by omega⟩ (below_four hb1 _ _ _ _)⟩
      all_goals first | exact (four w1 _ _ _ _).1 | exact (four w1 _ _ _ _).2.1 | exact (four w1 _ _ _ _).2.2.1
  case rest =>
    obtain ⟨J, M, A, D, C, rfl, hN⟩ := hcut
    clear hmk hmk2 hmk3 hb1
    go_wp2
    go_loopw [30] (fun s30 wr => ∃ k : Nat, k ≤ ts.length ∧ s30 = .int .i64 k ∧ Hid (NewM J M A D C k k 0 ts w wr)) (fun s30 _ => ts.length - (intOf s30).toNat)
    case atStart => exact ⟨0, Nat.zero_le _, rfl, hN⟩
    case round =>
      clear hN
      obtain ⟨k, hk, rfl, hN⟩ := hrel
      by_cases hkl : k < ts.length
      · obtain ⟨_, pa', pc', hve, hpc⟩ := HP.out
        simp only [Value.slice.injEq] at hve
        obtain ⟨rfl, _, rfl⟩ := hve
        rcases hpc with hnil | ⟨b, o, rfl, hbl, hc⟩
        · rw [hnil] at hkl; simp at hkl
        obtain ⟨hc1, nv, hc2, hin⟩ := hc k hkl
        have hc1' := (hN.out.below.cell (p := ⟨b, o + k * 2, none⟩) hbl).trans hc1
        have hc2' := (hN.out.below.cell (p := ⟨b, o + k * 2 + 1, none⟩) hbl).trans hc2
        clear hc hc1 hc2
        have HIN : Hid (IntsAt w nv (needsOf ts k)) := hin
        obtain ⟨_, na, nc, rfl, _⟩ := hin
        have hnl := HG.out.len hkl
        have hNA := hN.out.later ((Below.refl _ _).alloc (Nat.le_refl _) (.cells #[.int .i64 (ts.getD k (0, [])).1, .slice na (needsOf ts k).length nc] 26))
        have hj0 := hNA.c0
        have hmc := hNA.miss.cell hkl
        have hmf := hNA.miss.frozen k
        have hMl := hN.out.miss.lt
        have hMne : ¬ wr.heap.size = M := by omega
        have hN2 : Hid (NewM J M A D C (k + 1) k 0 ts w ((wr.setCell ⟨M, k, none⟩ (.int .i64 (needsOf ts k).length)).alloc (.cells #[.int .i64 (ts.getD k (0, [])).1, .slice na (needsOf ts k).length nc] 26)).drew) :=
          (hN.out.count.later ((Below.refl _ _).alloc (Nat.le_refl _) _)).later ⟨rfl, rfl, rfl, Nat.le_refl _, fun _ _ => rfl⟩
        clear hNA hN
        generalize (ts.getD k (0, [])).1 = wk at *
        go_wp2
        go_region
        go_wp2
        clear hj0 hmc hmf hMl hMne hc1' hc2'
        go_loopw [47] (fun s47 wr2 => ∃ m : Nat, m ≤ (needsOf ts k).length ∧ s47 = .int .i64 m ∧ Hid (NewM J M A D C (k + 1) k m ts w wr2)) (fun s47 _ => (needsOf ts k).length - (intOf s47).toNat)
        case atStart => exact ⟨0, Nat.zero_le _, rfl, hN2⟩
        case round =>
          clear hN2
          obtain ⟨m, hm, rfl, hN⟩ := hrel
          by_cases hml : m < (needsOf ts k).length
          · obtain ⟨_, na', nc', hve2, hz⟩ := HIN.out
            simp only [Value.slice.injEq] at hve2
            obtain ⟨rfl, _, rfl⟩ := hve2
            rcases hz with hz | ⟨nb, no, rfl, hnb, hnc⟩
            · rw [hz] at hml; simp at hml
            have hyc := (hN.out.below.cell (p := ⟨nb, no + m, none⟩) hnb).trans (hnc m hml)
            obtain ⟨hylt, _, hy0⟩ := need_at HG.out.rng hkl hml
            obtain ⟨y, hy⟩ := Int.eq_ofNat_of_zero_le hy0
            rw [hy] at hyc hylt
            rw [Int.toNat_natCast] at hylt
            have HY : Hid ((needsOf ts k).getD m 0 = (y : Int)) := hy
            clear hnc hy hy0
            obtain ⟨av, ha, hap⟩ := hN.out.aft
            have HA : Hid (AftAt C A ts.length (aftIn ts k m) av wr) := ha
            have HAP : Hid (∀ k k', k < ts.length → k' < ts.length → k ≠ k' → ∀ b, (av k).ownBlock = some b → (av k').ownBlock ≠ some b) := hap
            have hcA := ha.row.cell hylt
            have hfA := ha.row.frozen y
            have hAl := ha.row.lt
            obtain ⟨la, lc, hav⟩ := (ha.own y hylt).shape
            have HV : Hid (av y = .slice la (intsOf (aftIn ts k m y)).length lc) := hav
            rw [hav] at hcA
            have hrow := ha.own y hylt
            rw [hav] at hrow
            have hcA2 : (wr.alloc (.cells #[.int .i64 k] 3)).cell? ⟨A, y, none⟩ = some (.slice la (intsOf (aftIn ts k m y)).length lc) := (World.cell?_of_block (a := ⟨A, y, none⟩) (Below.heap_alloc _ _ _ hAl)).trans hcA
            have HR : Hid (RowI C (wr.alloc (.cells #[.int .i64 k] 3)) (.slice la (intsOf (aftIn ts k m y)).length lc) (intsOf (aftIn ts k m y))) := hrow.alloc _
            have HO : Hid (Rds (fun _ => True) (wr.alloc (.cells #[.int .i64 k] 3)) (.slice (some ⟨wr.heap.size, 0, none⟩) 1 1) [(k : Int)]) := one_rds wr k
            have hj1 := hN.out.c1
            have hJl := hN.out.row.lt
            have hj1A : (wr.alloc (.cells #[.int .i64 k] 3)).cell? ⟨J, 1, none⟩ = some (.slice (some ⟨A, 0, none⟩) ts.length ts.length) := (World.cell?_of_block (a := ⟨J, 1, none⟩) (Below.heap_alloc _ _ _ hJl)).trans hj1
            have hlen : (intsOf (aftIn ts k m y)).length ≤ 31 := by rw [intsOf_length]; have := aftIn_len ts k m y; omega
            have hCs := hN.out.size
            have hlt := hN.out.lt
            have hlow : ∀ j, (Value.slice la (intsOf (aftIn ts k m y)).length lc).ownBlock = some j → C ≤ j := fun j e => (hrow.low e).1
            clear ha hap hav hrow
            generalize hl : intsOf (aftIn ts k m y) = l at *
            have HL : Hid (intsOf (aftIn ts k m y) = l) := hl
            have hZS : (l ++ [(k : Int)]).length = l.length + 1 := by simp
            clear hl
            go_wp2
            go_region_law (refine step_append_rows rfl (.tmp 62) (.tmp 64) rfl C (fun _ => True) (.slice la l.length lc) (.slice (some ⟨wr.heap.size, 0, none⟩) 1 1) l [(k : Int)] (by simp [Act.eval]) (by simp [Act.eval]) HR.out HO.out (by simp; omega) (by simp; omega) ?_; intro v2 w2 hown2 hgr2 hat2; have HR2 : Hid (RowI C w2 v2 (l ++ [(k : Int)])) := hown2; obtain ⟨a2, k2, rfl⟩ := hown2.shape; rw [hZS] at HR2 hat2 ⊢; have hbk : w2.heap[A]? = wr.heap[A]? := (hgr2.block A (by simp; omega) (fun e => by have := hlow A e.symm; omega)).trans (Below.heap_alloc _ _ _ hAl); have hz2 := (World.frozen?_of_block (a := ⟨A, y, none⟩) hbk).trans hfA; have hcm := (World.cell?_of_block (a := ⟨A, y, none⟩) hbk).trans hcA; have hj1w : w2.cell? ⟨J, 1, none⟩ = some (.slice (some ⟨A, 0, none⟩) ts.length ts.length) := (World.cell?_of_block (a := ⟨J, 1, none⟩) (hgr2.block J (by simp; omega) (fun e => by have := hlow J e.symm; omega))).trans hj1A; clear hown2)
            all_goals
              have hN3 : Hid (NewM J M A D C (k + 1) k (m + 1) ts w (w2.setCell ⟨A, y, none⟩ (.slice a2 (l.length + 1) k2))) :=
                NewM.put (q := 1) HG.out hkl hml HY.out hylt hN.out HA.out HAP.out HV.out hgr2 hat2 (by rw [HL.out]; exact HR2.out)
              clear hgr2 hat2 HR2 hbk hz2 hcm hj1w
              go_wp2
              go_roundw
              case rel => exact ⟨m + 1, by omega, by go_num, hN3⟩
              case measure => simp [intOf]; omega
          · have hke : m = (needsOf ts k).length := by omega
            have hml' : ¬ (m : Int) < ((needsOf ts k).length : Int) := by omega
            have hN3 : Hid (NewM J M A D C (k + 1) (k + 1) 0 ts w wr) := NewM.next (by rw [← hke]; exact hN.out)
            clear hke hN
            go_wp2
            go_roundw
            case rel => exact ⟨k + 1, by omega, by go_num, hN3⟩
            case measure => simp [intOf]; omega
      · have hke : k = ts.length := by omega
        have hkl' : ¬ (k : Int) < (ts.length : Int) := by omega
        have hN3 : Hid (NewM J M A D C ts.length ts.length 0 ts w wr) := by have := hN.out; rw [hke] at this; exact this
        clear hke hN
        go_wp2
        go_ret2
        exact ⟨J, M, A, D, C, rfl, hN3.out.jnT h30, hN3.out.low, hN3.out.below⟩
end Go.Proofs.YtbknbakbfblbiaaDoor
