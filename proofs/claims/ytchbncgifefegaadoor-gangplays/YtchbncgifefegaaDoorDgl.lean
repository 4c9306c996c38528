/- The document's NewGang: the walk. -/
import Derived.Test.YtchbncgifefegaaDoorDgjk
import Derived.Test.YtchbncgifefegaaDoorDgh
namespace Go.Proofs.YtchbncgifefegaaDoor
open Go.RowKit Go.Deep
open Spl.Dsp (Gq gArr)

/-- The document's gang, under these labels. -/
def DgO (own : Nat → Nat) (M room hands : Nat) (ts : List (Int × List Int)) (p : Value) (g : Gs) (Bd : Bs) (w0 w : World) : Prop :=
  ∃ gq vf vh HB hc DB dc Hk vk, gq.p = p ∧ Dg M room hands ts g own gq vf vh HB hc DB dc Hk vk Bd w0 w
theorem Tryd.infoDHand : (Tryd.prog.info? 74).map (fun i => (i.zero, i.size, i.bytes)) = some (some (.pointer none), 1, 8) := by kernel_rfl
/-- What was made is a gang, of which nothing is in the spill. -/
theorem NG.dg {M room hands : Nat} {ts : List (Int × List Int)} {p : Value} {own : Nat → Nat} {gq : Gq} {DB N0 : Nat} {Hk : Nat → Nat} {w0 wN w : World} (h : NG M room hands hands hands ts p own gq DB Hk N0 wN w) (h1 : 1 ≤ hands) (hp : PlanAt w0 p ts) (hB : Below w0.heap.size w0 wN) (hN : N0 = wN.heap.size) :
    ∃ HB hc, Dg M room hands ts { gnew ts with sp := [] } own gq (.slice none 0 0) (.slice none 0 0) HB hc DB ts.length Hk (fun _ => .slice none 0 0) ⟨fun k => k < N0, wN⟩ w0 w := by
  have hs0 := hB.size
  have hn0 := h.n0
  obtain ⟨HB, hc, hhs⟩ : ∃ HB hc, gq.hs = .slice (some ⟨HB, 0, none⟩) hands hc := by
    rcases h.hrow.2 with ⟨_, h0⟩ | ⟨g, cap, cur, hv, _⟩
    · omega
    · exact ⟨g, cap, hv⟩
  have hob : gq.hs.ownBlock = some HB := by rw [hhs]; rfl
  have hfar : Below w0.heap.size w0 w := hB.trans (h.far.mono (by omega))
  refine ⟨HB, hc, {
    blk := h.blk, lM := h.lM, fr := by simp only [List.take_nil]; exact RowI.nil _ _, hp := by simp only [List.drop_nil]; exact RowI.nil _ _
    lf := fun k e => by simp [Value.ownBlock] at e
    lh := fun k e => by simp [Value.ownBlock] at e
    apart := fun k e => by simp [Value.ownBlock] at e
    le60 := by simp
    tk := h.tk, ltk := h.ltk, wk := h.wk, lwk := h.lwk
    row := by rw [h.rw0]; exact RowI.nil _ _
    lrw := fun k e => by rw [h.rw0] at e; simp [Value.ownBlock] at e
    zle := by simp [gnew]
    hs := hhs, hblt := h.hlt hob, lHB := h.lh HB hob
    hcell := fun k hk => ?_
    hand := h.hand
    lH := fun k hk => ⟨h.lH k hk, fun j e => by simp [Value.ownBlock] at e⟩
    hMk := h.hMk
    dn := h.dn, drow := h.drow, lDB := h.lDB
    plan := by rw [h.hp]; exact hp
    base := by omega
    far := fun k hk => ⟨by have hk' : k < N0 := hk; show k < wN.heap.size; omega, h.low k hk, h.far.block k hk⟩
    w1le := by show wN.heap.size ≤ _; omega
    io := ⟨h.far.os, h.far.tape, h.far.output⟩
    below := hfar
    lowL := fun k hk => h.low k (by omega) }⟩
  have hr := h.hrow
  rw [hhs] at hr
  have := World.ownsRow.cells hr (g := HB) rfl k (.pointer (some ⟨Hk k, 0, none⟩)) (by simp [hk])
  rwa [Addr.add_lit, Nat.zero_add] at this
/-- What NewGang tells. -/
def DocOut (room hands : Nat) (ts : List (Int × List Int)) (p : Value) (w0 w : World) (e : Ending) (w' : World) : Prop :=
  ∃ M own, e = .returned (.pointer (some ⟨M, 0, none⟩)) ∧ DgO own M room hands ts p (gnew ts) ⟨fun k => k < w.heap.size, w⟩ w0 w'
set_option maxRecDepth 100000 in
set_option maxHeartbeats 8000000 in
theorem newGang_any (v : Value) (ts : List (Int × List Int)) (hands room : Nat) (w0 w : World) (hp : PlanAt w0 v ts) (hB : Below w0.heap.size w0 w) (hr : InRange ts) (h30 : ts.length ≤ 30) (h1 : 1 ≤ hands) (h6 : hands ≤ 6) (r16 : room ≤ 16) :
    Calls Tryd.prog 7 #[v, .int .i64 hands, .int .i64 room] w (DocOut room hands ts v w0 w) := by
  have HP : Hid (PlanAt w0 v ts ∧ Below w0.heap.size w0 w ∧ InRange ts) := ⟨hp, hB, hr⟩
  obtain ⟨pa, pc, rfl⟩ : ∃ a c, v = .slice a ts.length c := by obtain ⟨hl, a, c, hv, -⟩ := hp; exact ⟨a, c, hv⟩
  clear hp hB hr
  have hmk := fun wx => run_make_row' (P := Tryd.prog) 41 4 (.bool false) 1 Tryd.underlying41 Tryd.info4 rfl .i64 .i64 ts.length (by omega) (by omega) wx
  obtain ⟨iP, hiP, hz0, hz1, hz2⟩ := info_parts Tryd.infoDHand
  go_enter Tryd.func7, Tryd.ntmps7
  go_upto_region 2 with fail
  obtain ⟨W, hW⟩ : ∃ W, W = (w.alloc (.cells (madeCells #[.bool false] ts.length) 4)).alloc (.cells (gArr ⟨.slice pa ts.length pc, .slice none 0 0, .slice none 0 0, .slice none 0 0, .slice none 0 0, .slice (some ⟨w.heap.size, 0, none⟩) ts.length ts.length⟩ room (.slice none 0 0) (.slice none 0 0)) 43) := ⟨_, rfl⟩
  have hWg : W = (w.alloc (.cells (madeCells #[.bool false] ts.length) 4)).alloc (.cells #[.slice pa ts.length pc, .slice none 0 0, .slice none 0 0, .slice none 0 0, .int .i64 room, .slice none 0 0, .slice none 0 0, .slice none 0 0, .slice (some ⟨w.heap.size, 0, none⟩) ts.length ts.length] 43) := hW
  rw [← hWg]
  have HN : Hid (NG (w.heap.size + 1) room 0 0 0 ts (.slice pa ts.length pc) (fun k => if k < w.heap.size then 9 else if k = w.heap.size then 5 else 0) ⟨.slice pa ts.length pc, .slice none 0 0, .slice none 0 0, .slice none 0 0, .slice none 0 0, .slice (some ⟨w.heap.size, 0, none⟩) ts.length ts.length⟩ w.heap.size (fun _ => 0) w.heap.size w W) := by
    have hW1 : W.heap[w.heap.size + 1]? = some (.cells (gArr ⟨.slice pa ts.length pc, .slice none 0 0, .slice none 0 0, .slice none 0 0, .slice none 0 0, .slice (some ⟨w.heap.size, 0, none⟩) ts.length ts.length⟩ room (.slice none 0 0) (.slice none 0 0)) 43) := by rw [hW]; have := heap_alloc_new (w.alloc (.cells (madeCells #[.bool false] ts.length) 4)) (.cells (gArr ⟨.slice pa ts.length pc, .slice none 0 0, .slice none 0 0, .slice none 0 0, .slice none 0 0, .slice (some ⟨w.heap.size, 0, none⟩) ts.length ts.length⟩ room (.slice none 0 0) (.slice none 0 0)) 43); simp only [nblk_alloc] at this; exact this
    have hW0 : W.heap[w.heap.size]? = some (.cells (madeCells #[.bool false] ts.length) 4) := by rw [hW]; exact (Below.heap_alloc _ _ _ (by simp)).trans (heap_alloc_new w _)
    have hWs : W.heap.size = w.heap.size + 2 := by rw [hW]; simp
    exact {
      blk := hW1
      lM := by rw [if_neg (by omega), if_neg (by omega)]
      hrow := World.ownsRow_nil _ _ _ _
      lh := fun k e => by simp [Value.ownBlock] at e
      tk := RowI.nil _ _
      ltk := fun k e => by simp [Value.ownBlock] at e
      wk := RowI.nil _ _
      lwk := fun k e => by simp [Value.ownBlock] at e
      rw0 := rfl
      hand := fun j hj => by omega
      lH := fun j hj => by omega
      hMk := fun j hj => by omega
      dn := rfl
      drow := ⟨_, hW0, size_madeCells _ _, fun i hi => by simp [madeCells, hi, Nat.mod_one]⟩
      lDB := by rw [if_neg (by omega), if_pos rfl]
      hp := rfl
      far := by rw [hW]; exact ((Below.refl _ _).alloc (Nat.le_refl _) _).alloc (by simp) _
      low := fun k hk => if_pos hk
      n0 := ⟨by omega, by omega⟩ }
  clear hW hWg hmk
  go_wp2
  go_loopw [8] (fun s8 wr => ∃ (k : Nat), s8 = .int .i64 k ∧ k ≤ hands ∧ Hid (∃ own gq Hk, NG (w.heap.size + 1) room k k k ts (.slice pa ts.length pc) own gq w.heap.size Hk w.heap.size w wr)) (fun s8 _ => hands - (intOf s8).toNat)
  case atStart => exact ⟨0, rfl, Nat.zero_le _, _, _, _, HN.out⟩
  case round =>
    clear HN
    obtain ⟨k, rfl, hk, hN⟩ := hrel
    obtain ⟨own, gq, Hk, hN⟩ := hN.out
    by_cases hkl : k < hands
    · have hkl' : (k : Int) < (hands : Int) := by omega
      obtain ⟨ha, hc, hhs⟩ : ∃ ha hc, gq.hs = .slice ha k hc := by
        rcases hN.hrow.2 with ⟨hv, h0⟩ | ⟨g, cap, cur, hv, _⟩
        · exact ⟨none, 0, by rw [hv, h0]⟩
        · exact ⟨_, _, hv⟩
      have c1 := hN.c.2.1
      rw [hhs] at c1
      have HN : Hid (NG (w.heap.size + 1) room k k k ts (.slice pa ts.length pc) own gq w.heap.size Hk w.heap.size w wr ∧ gq.hs = .slice ha k hc) := ⟨hN, hhs⟩
      have hor : ((wr.alloc (handC room)).alloc (.cells #[.pointer (some ⟨wr.heap.size, 0, none⟩)] 74)).ownsRow (w.heap.size + 1 + 1) 74 1 (.slice ha k hc) k ((List.range k).map (fun j => .pointer (some ⟨Hk j, 0, none⟩))) := by
        have := hN.hrow
        rw [hhs] at this
        exact hrow_of_blocks this (fun b e => by have := hN.hlt (by rw [hhs]; exact e); exact (Below.heap_alloc _ _ _ (by simp; omega)).trans (Below.heap_alloc _ _ _ this))
      have hMw := hN.ltM
      have hMb : Hid (wr.heap[w.heap.size + 1]? = some (.cells (gArr gq room (.slice none 0 0) (.slice none 0 0)) 43 (0, 0))) := hN.blk
      have hnews : ∀ j u, [Value.pointer (some ⟨wr.heap.size, 0, none⟩)][j]? = some u → ((wr.alloc (handC room)).alloc (.cells #[.pointer (some ⟨wr.heap.size, 0, none⟩)] 74)).cell? ((⟨wr.heap.size + 1, 0, none⟩ : Addr).add j) = some u := by
        have := cell_one_new (wr.alloc (handC room)) (.pointer (some ⟨wr.heap.size, 0, none⟩)) 74
        rw [nblk_alloc] at this
        exact this
      have h1c : ∀ u ∈ [Value.pointer (some ⟨wr.heap.size, 0, none⟩)], u.oneCell' = true := by intro u hu; simp at hu; subst hu; rfl
      clear hN hhs
      unfold handC at hor hnews
      go_upto_region 6 with (first | (at_builtin; go_loud (refine wpList_append_own_at _ rfl (.tmp 26) (.tmp 30) 38 rfl (w.heap.size + 1 + 1) 74 iP (.pointer none) 1 8 Tryd.underlying38 hiP hz0 hz1 hz2 rfl (by decide) _ k ((List.range k).map (fun j => .pointer (some ⟨Hk j, 0, none⟩))) rfl hor ⟨wr.heap.size + 1, 0, none⟩ 1 1 [.pointer (some ⟨wr.heap.size, 0, none⟩)] rfl rfl hnews h1c (by unfold maxLen; omega) (by omega) (by simp; omega) ?_; intro v2 w2 hown hgr _ hat; obtain ⟨g2, cc2, rfl⟩ : ∃ g2 c2, v2 = .slice (some ⟨g2, 0, none⟩) (k + 1) c2 := (by { rcases hown.2 with ⟨_, h0⟩ | ⟨g, cap, cur, hv, _⟩; { omega }; { exact ⟨g, cap, hv⟩ } }); obtain ⟨hM2, own1, Hk1, hN1⟩ := HN.out.1.hand1 r16 (by rw [HN.out.2]; exact hgr) (by rw [HN.out.2]; exact hat) hown; have cM1 : w2.cell? ⟨w.heap.size + 1, 1, none⟩ = some (.slice ha k hc) := (World.cell?_of_block (a := ⟨w.heap.size + 1, 1, none⟩) hM2).trans c1; have fM1 : w2.frozen? ⟨w.heap.size + 1, 1, none⟩ = false := (World.frozen?_of_block (a := ⟨w.heap.size + 1, 1, none⟩) hM2).trans (HN.out.1.fz 1); have HN1 : Hid (NG (w.heap.size + 1) room (k + 1) k k ts (.slice pa ts.length pc) own1 { gq with hs := .slice (some ⟨g2, 0, none⟩) (k + 1) cc2 } w.heap.size Hk1 w.heap.size w (w2.setCell ⟨w.heap.size + 1, 1, none⟩ (.slice (some ⟨g2, 0, none⟩) (k + 1) cc2))) := hN1; clear hN1 hM2 hown hgr hat)))
      obtain ⟨w3, hw3⟩ : ∃ w3, w3 = w2.setCell ⟨w.heap.size + 1, 1, none⟩ (.slice (some ⟨g2, 0, none⟩) (k + 1) cc2) := ⟨_, rfl⟩
      rw [← hw3] at HN1 ⊢
      obtain ⟨gq1, hgq1⟩ : ∃ gq1, gq1 = { gq with hs := .slice (some ⟨g2, 0, none⟩) (k + 1) cc2 } := ⟨_, rfl⟩
      rw [← hgq1] at HN1
      clear hw3 hgq1 cM1 fM1 c1 hor hnews h1c HN hMb hMw
      obtain ⟨ta, tc, htk⟩ := HN1.out.tk.shape
      obtain ⟨lt, hlt⟩ : ∃ lt, lt = upto k (fun _ => (-1 : Int)) := ⟨_, rfl⟩
      have HLT : Hid (lt = upto k (fun _ => (-1 : Int)) ∧ lt.length = k) := ⟨hlt, by rw [hlt, upto_length]⟩
      rw [← hlt] at htk
      have c2 := HN1.out.c.2.2.1
      rw [htk] at c2
      have hta : RowI (w.heap.size + 1 + 1) (w3.alloc (.cells #[.int .i64 (-1)] 3)) (.slice ta lt.length tc) lt := by
        have := HN1.out.tk
        rw [htk, ← hlt] at this
        exact this.alloc _
      have hM3 := HN1.out.ltM
      have HTK : Hid (gq1.tk = .slice ta lt.length tc) := htk
      have HO : Hid (Rds (fun _ => True) (w3.alloc (.cells #[.int .i64 (-1)] 3)) (.slice (some ⟨w3.heap.size, 0, none⟩) 1 1) [-1]) := one_rds w3 (-1)
      have hll : lt.length ≤ 6 := by have := HLT.out.2; omega
      clear htk hlt
      go_upto_region 7 with (first | (at_builtin; go_loud (refine wpList_append_rows rfl (.tmp 38) (.tmp 39) rfl (w.heap.size + 1 + 1) (fun _ => True) (.slice ta lt.length tc) (.slice (some ⟨w3.heap.size, 0, none⟩) 1 1) lt [-1] rfl rfl hta HO.out (by simp; omega) (by simp; omega) ?_; intro v4 w4 hown hgr hat; obtain ⟨a4, c4, rfl⟩ := hown.shape; obtain ⟨hM4, own4, hN4⟩ := HN1.out.task1 (v := .slice a4 (lt ++ [-1]).length c4) (by rw [HTK.out]; exact hgr) (by rw [HTK.out]; exact hat) (by rw [← HLT.out.1]; exact hown); have cM2 : w4.cell? ⟨w.heap.size + 1, 2, none⟩ = some (.slice ta lt.length tc) := (World.cell?_of_block (a := ⟨w.heap.size + 1, 2, none⟩) hM4).trans c2; have fM2 : w4.frozen? ⟨w.heap.size + 1, 2, none⟩ = false := (World.frozen?_of_block (a := ⟨w.heap.size + 1, 2, none⟩) hM4).trans (HN1.out.fz 2); have e9 : (lt ++ [(-1 : Int)]).length = lt.length + 1 := (by simp); rw [e9] at hN4 ⊢; have HN4 : Hid (∃ gq4, NG (w.heap.size + 1) room (k + 1) (k + 1) k ts (.slice pa ts.length pc) own4 gq4 w.heap.size Hk1 w.heap.size w (w4.setCell ⟨w.heap.size + 1, 2, none⟩ (.slice a4 (lt.length + 1) c4))) := ⟨_, hN4⟩; clear hN4 hM4 hown hgr hat e9)))
      obtain ⟨w5, hw5⟩ : ∃ w5, w5 = w4.setCell ⟨w.heap.size + 1, 2, none⟩ (.slice a4 (lt.length + 1) c4) := ⟨_, rfl⟩
      rw [← hw5] at HN4 ⊢
      obtain ⟨gq4, hN4⟩ := HN4.out
      clear hw5 cM2 fM2 c2 hta HN1 hM3 HTK HO HN4
      have HN4 : Hid (NG (w.heap.size + 1) room (k + 1) (k + 1) k ts (.slice pa ts.length pc) own4 gq4 w.heap.size Hk1 w.heap.size w w5) := hN4
      obtain ⟨wa, wc, hwk⟩ := hN4.wk.shape
      obtain ⟨lw, hlw⟩ : ∃ lw, lw = upto k (fun _ => (0 : Int)) := ⟨_, rfl⟩
      have HLW : Hid (lw = upto k (fun _ => (0 : Int)) ∧ lw.length = k) := ⟨hlw, by rw [hlw, upto_length]⟩
      rw [← hlw] at hwk
      have c3 := hN4.c.2.2.2.1
      rw [hwk] at c3
      have hwa : RowI (w.heap.size + 1 + 1) (w5.alloc (.cells #[.int .i64 0] 3)) (.slice wa lw.length wc) lw := by
        have := hN4.wk
        rw [hwk, ← hlw] at this
        exact this.alloc _
      have hM5 := hN4.ltM
      have HWK : Hid (gq4.wk = .slice wa lw.length wc) := hwk
      have HO5 : Hid (Rds (fun _ => True) (w5.alloc (.cells #[.int .i64 0] 3)) (.slice (some ⟨w5.heap.size, 0, none⟩) 1 1) [0]) := one_rds w5 0
      have hlw6 : lw.length ≤ 6 := by have := HLW.out.2; omega
      clear hwk hlw hN4
      go_wp2_with (first | (at_builtin; go_loud (refine wpList_append_rows rfl (.tmp 47) (.tmp 48) rfl (w.heap.size + 1 + 1) (fun _ => True) (.slice wa lw.length wc) (.slice (some ⟨w5.heap.size, 0, none⟩) 1 1) lw [0] rfl rfl hwa HO5.out (by simp; omega) (by simp; omega) ?_; intro v6 w6 hown hgr hat; obtain ⟨a6, c6, rfl⟩ := hown.shape; obtain ⟨hM6, own6, hN6⟩ := HN4.out.work1 (v := .slice a6 (lw ++ [0]).length c6) (by rw [HWK.out]; exact hgr) (by rw [HWK.out]; exact hat) (by rw [← HLW.out.1]; exact hown); have cM3 : w6.cell? ⟨w.heap.size + 1, 3, none⟩ = some (.slice wa lw.length wc) := (World.cell?_of_block (a := ⟨w.heap.size + 1, 3, none⟩) hM6).trans c3; have fM3 : w6.frozen? ⟨w.heap.size + 1, 3, none⟩ = false := (World.frozen?_of_block (a := ⟨w.heap.size + 1, 3, none⟩) hM6).trans (HN4.out.fz 3); have e9 : (lw ++ [(0 : Int)]).length = lw.length + 1 := (by simp); rw [e9] at hN6 ⊢; have HN6 : Hid (∃ own gq Hk, NG (w.heap.size + 1) room (k + 1) (k + 1) (k + 1) ts (.slice pa ts.length pc) own gq w.heap.size Hk w.heap.size w (w6.setCell ⟨w.heap.size + 1, 3, none⟩ (.slice a6 (lw.length + 1) c6))) := ⟨_, _, _, hN6⟩; clear hN6 hM6 hown hgr hat e9)))
      exact ⟨⟨k + 1, by go_num, by omega, HN6⟩, by simp [intOf]; omega⟩
    · have hkl' : ¬ (k : Int) < (hands : Int) := by omega
      obtain rfl : k = hands := by omega
      obtain ⟨HB, hc, hD⟩ := hN.dg h1 HP.out.1 HP.out.2.1 rfl
      have hdn := hN.dn
      have c8 := hN.c.2.2.2.2
      rw [hdn] at c8
      have hpl := hD.planNow
      rw [hN.hp] at hpl
      have hbo := hD.bools
      rw [hdn] at hbo
      have hrdy := fun q => readyR_any (.slice pa ts.length pc) (.slice (some ⟨w.heap.size, 0, none⟩) ts.length ts.length) ts (fun _ => false) (wr.drewN q) (hpl.later ⟨rfl, rfl, rfl, Nat.le_refl _, fun _ _ => rfl⟩) HP.out.2.2 h30 (hbo.later ⟨rfl, rfl, rfl, Nat.le_refl _, fun _ _ => rfl⟩)
      have HD : Hid (Dg (w.heap.size + 1) room k ts { gnew ts with sp := [] } own gq (.slice none 0 0) (.slice none 0 0) HB hc w.heap.size ts.length Hk (fun _ => .slice none 0 0) ⟨fun k => k < w.heap.size, w⟩ w0 wr ∧ gq.p = .slice pa ts.length pc) := ⟨hD, hN.hp⟩
      clear hD hN hpl hbo hdn
      go_upto_region 8 with fail
      go_region_with (first | (go_at_call 27; refine (hrdy 1).mono ?_; clear hrdy; rintro e w4 ⟨⟨ov4, rfl, hr4⟩, hb4⟩; have hb5 : Below wr.heap.size wr w4 := ⟨hb4.os, hb4.tape, hb4.output, hb4.size, hb4.block⟩; have hD4 := HD.out.1.later8 (Kc.of_below hb5); have hput := hD4.sput2 r16 (A := fun b => ov4.ownBlock = some b) hr4.rds (fun b e => by { have h8 : wr.heap.size ≤ b := (hr4.low e).1; rw [relabel_ge h8]; omega }) (by { have := readyTo_len ts (fun _ => false) ts.length; simp [intsOf_length]; omega }); clear hD4 hb4 hr4 hb5) | (go_at_call 26; refine hput.mono ?_; clear hput; rintro e w9 ⟨rfl, ⟨vf', vh', hD9⟩, -⟩; have HD9 : Hid (DgO (relabel (relabel own wr.heap.size 8) w4.heap.size 6) (w.heap.size + 1) room k ts (.slice pa ts.length pc) (gnew ts) ⟨fun k => k < w.heap.size, w⟩ w0 w9) := ⟨_, _, _, _, _, _, _, _, _, HD.out.2, hD9⟩; clear hD9))
      all_goals
        go_wp2
        go_ret
        exact ⟨_, _, rfl, HD9.out⟩
end Go.Proofs.YtchbncgifefegaaDoor
