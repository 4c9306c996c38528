/- What is left, in a row of its own: the contract of works; who is ready: the contracts of ready and its closure. -/
import Derived.Test.YtandhiiaflhenaaGreatDoorDepa
import Derived.Test.YtandhiiaflhenaaGreatDoorJna
namespace Go.Proofs.YtandhiiaflhenaaGreatDoor
open Go.RowKit Go.Deep

set_option maxRecDepth 100000 in
set_option maxHeartbeats 2000000 in
theorem works_any (v : Value) (ts : List (Int × List Int)) (w : World) (hp : PlanAt w v ts) (h30 : ts.length ≤ 30) :
    Calls Tryz.prog 74 #[v] w fun e w' => e = .returned (.slice (some ⟨w.heap.size, 0, none⟩) ts.length ts.length) ∧ w'.rowIs w.heap.size 3 ts.length (intRow (wkOf ts)) ∧ Below w.heap.size w w' := by
  obtain ⟨hl, a, c, rfl, hpc⟩ := hp
  have hmk := fun wx => run_make_row' (P := Tryz.prog) 37 3 (.int .i64 0) 8 Tryz.underlying37 Tryz.info3 rfl .i64 .i64 ts.length (by omega) (by omega) wx
  go_enter Tryz.func74, Tryz.ntmps74
  go_wp2
  clear hmk
  go_loopw [11] (fun s11 wr => ∃ m : Nat, m ≤ ts.length ∧ s11 = .int .i64 m ∧ Hid (wr.rowIs w.heap.size 3 ts.length (intRow (fun k => if k < m then wkOf ts k else 0))) ∧ Below w.heap.size w wr) (fun s11 _ => ts.length - (intOf s11).toNat)
  case atStart => exact ⟨0, Nat.zero_le _, rfl, (World.rowIs_made w (.int .i64 0) ts.length 3).congr (fun k _ => rfl), (Below.refl _ _).alloc (Nat.le_refl _) _⟩
  case round =>
    obtain ⟨m, hm, rfl, hrow, hB⟩ := hrel
    by_cases hml : m < ts.length
    · rcases hpc with rfl | ⟨b, o, rfl, hbl, hc⟩
      · simp at hml
      obtain ⟨hc1, nv, hc2, hin⟩ := hc m hml
      obtain ⟨a2, c2, rfl⟩ : ∃ a2 c2, nv = .slice a2 (needsOf ts m).length c2 := by
        obtain ⟨_, a2, c2, h, _⟩ := hin
        exact ⟨a2, c2, h⟩
      have hc1' := (hB.cell (p := ⟨b, o + m * 2, none⟩) hbl).trans hc1
      have hc2' := (hB.cell (p := ⟨b, o + m * 2 + 1, none⟩) hbl).trans hc2
      have HE : Hid (wkOf ts m = (ts.getD m (0, [])).1) := rfl
      clear hc hc1 hc2 hin
      generalize (ts.getD m (0, [])).1 = wk at *
      generalize (needsOf ts m).length = nl at *
      have hra := hrow.out.alloc (.cells #[.int .i64 wk, .slice a2 nl c2] 54)
      have hr0 := hrow.out
      have hfr := hra.frozen m
      have hce := hra.cell hml
      have HN : Hid (((wr.setCell ⟨w.heap.size, m, none⟩ (.int .i64 wk)).alloc (.cells #[.int .i64 wk, .slice a2 nl c2] 54)).rowIs w.heap.size 3 ts.length (intRow (fun k => if k < m + 1 then wkOf ts k else 0))) := by
        refine ((row_upd hr0).alloc _).congr (fun k hk => ?_)
        unfold intRow upd
        dsimp only
        by_cases e : k = m
        · subst e; rw [if_pos rfl, if_pos (by omega), HE.out]
        · rw [if_neg e]
          by_cases e2 : k < m
          · rw [if_pos e2, if_pos (by omega)]
          · rw [if_neg e2, if_neg (by omega)]
      have hB2 : Below w.heap.size w ((wr.setCell ⟨w.heap.size, m, none⟩ (.int .i64 wk)).alloc (.cells #[.int .i64 wk, .slice a2 nl c2] 54)) := (hB.setCell (p := ⟨w.heap.size, m, none⟩) (Nat.le_refl _) _).alloc (by simp; exact hB.size) _
      unfold intRow at hce
      have hlt := hrow.out.lt
      clear hra hrow hr0
      go_wp2
      go_roundw
      case rel => exact ⟨m + 1, by omega, by go_num, HN, hB2⟩
      case measure => simp [intOf]; omega
    · have hke : m = ts.length := by omega
      clear hpc
      have HR : Hid (wr.rowIs w.heap.size 3 ts.length (intRow (wkOf ts))) := hrow.out.congr (fun k hk => by unfold intRow; dsimp only; rw [if_pos (by omega)])
      clear hrow
      subst hke
      go_wp2
      go_ret
      exact ⟨rfl, HR.out, hB⟩

theorem enters20 : ∀ args w, (callFunc 105 args).run Tryz.prog w = .ok (.enter 105 args) w := enters_of Tryz.func105 (by kernel_rfl) rfl
theorem und_any (L : Nat → Int) (n N : Nat) (a : Addr) (y : Int) (w : World) (hc : w.cell? a = some (.slice (some ⟨N, 0, none⟩) n n)) (hrow : w.rowIs N 3 n (intRow L)) (_ : n ≤ 30) (h0 : 0 ≤ y) (h1 : y < n) :
    Calls Tryz.prog 105 (#[.int .i64 y] ++ #[.pointer (some a)]) w fun e w' => e = .returned (.bool (undB L y)) ∧ w' = w := by
  obtain ⟨k, rfl⟩ := Int.eq_ofNat_of_zero_le h0
  show Calls Tryz.prog 105 #[.int .i64 k, .pointer (some a)] w _
  have hk : k < n := by omega
  have hcell := hrow.cell hk
  have hlt := hrow.lt
  unfold intRow at hcell
  unfold undB
  rw [Int.toNat_natCast]
  generalize L k = x at *
  clear hrow
  by_cases hx : 0 < x
  all_goals
    go_enter Tryz.func105, Tryz.ntmps105
    go_wp2
    go_ret
    exact ⟨ret_bool (by simp [hx]), rfl⟩

theorem one_rds (w : World) (x : Int) : Rds (fun _ => True) (w.alloc (.cells #[.int .i64 x] 3)) (.slice (some ⟨w.heap.size, 0, none⟩) 1 1) [x] :=
  ⟨_, _, rfl, Nat.le_refl _, fun k hk => ⟨w.heap.size, 0, rfl, trivial, by simp, by
    have hk0 : k = 0 := by simp at hk; omega
    subst hk0
    unfold World.cell?
    dsimp only
    rw [blk_alloc_new]
    rfl⟩⟩
theorem RowI.later {b : Nat} {w w' : World} {v : Value} {zs : List Int} (h : RowI b w v zs) (hb : Below w.heap.size w w') : RowI b w' v zs := h.of_blocks (fun _ e => hb.block _ (h.low e).2)

set_option maxRecDepth 100000 in
set_option maxHeartbeats 2000000 in
theorem ready_any (v : Value) (ts : List (Int × List Int)) (L : Nat → Int) (N : Nat) (w : World) (hp : PlanAt w v ts) (hrow : w.rowIs N 3 ts.length (intRow L)) (hr : InRange ts) (h30 : ts.length ≤ 30) :
    Calls Tryz.prog 75 #[v, .slice (some ⟨N, 0, none⟩) ts.length ts.length] w fun e w' => (∃ rv, e = .returned rv ∧ RowI w.heap.size w' rv (intsOf (rdyTo ts L ts.length))) ∧ Below w.heap.size w w' := by
  have HP : Hid (PlanAt w v ts) := hp
  obtain ⟨hl, a, c, rfl, hpc⟩ := hp
  have hbw : Below w.heap.size w (w.alloc (.cells #[.slice (some ⟨N, 0, none⟩) ts.length ts.length] 37)) := (Below.refl _ _).alloc (Nat.le_refl _) _
  have hbox : (w.alloc (.cells #[.slice (some ⟨N, 0, none⟩) ts.length ts.length] 37)).cell? ⟨w.heap.size, 0, none⟩ = some (.slice (some ⟨N, 0, none⟩) ts.length ts.length) := by
    unfold World.cell?
    dsimp only
    rw [blk_alloc_new]
    rfl
  have hrw := hrow.alloc (.cells #[.slice (some ⟨N, 0, none⟩) ts.length ts.length] 37)
  have hsz : (w.alloc (.cells #[.slice (some ⟨N, 0, none⟩) ts.length ts.length] 37)).heap.size = w.heap.size + 1 := by simp
  have hN := hrow.lt
  clear hpc hrow
  go_enter Tryz.func75, Tryz.ntmps75
  go_wp2
  obtain ⟨W, hW⟩ : ∃ W, W = w.alloc (.cells #[.slice (some ⟨N, 0, none⟩) ts.length ts.length] 37) := ⟨_, rfl⟩
  obtain ⟨B, hB⟩ : ∃ B, B = w.heap.size := ⟨_, rfl⟩
  rw [← hW] at hbw hbox hrw hsz ⊢
  have HB : Hid (B = w.heap.size) := hB
  rw [← hB] at hbox ⊢
  have hBW : B < W.heap.size := by omega
  have HRW : Hid (W.rowIs N 3 ts.length (intRow L)) := hrw
  have HBX : Hid (W.cell? ⟨B, 0, none⟩ = some (.slice (some ⟨N, 0, none⟩) ts.length ts.length)) := hbox
  have HBW : Hid (Below w.heap.size w W) := hbw
  have HS : Hid (W.heap.size = w.heap.size + 1) := hsz
  clear hW hB hbw hrw hbox hsz
  go_loopw [6, 12] (fun s6 s12 wr => ∃ k : Nat, k ≤ ts.length ∧ s12 = .int .i64 k ∧ Hid (RowI W.heap.size wr s6 (intsOf (rdyTo ts L k))) ∧ Below W.heap.size W wr) (fun _ s12 _ => ts.length - (intOf s12).toNat)
  case atStart => exact ⟨0, Nat.zero_le _, rfl, RowI.nil _ _, Below.refl _ _⟩
  case round =>
    obtain ⟨k, hk, rfl, hR, hb⟩ := hrel
    obtain ⟨la, lc, rfl⟩ := hR.out.shape
    have hrow : wr.rowIs N 3 ts.length (intRow L) := HRW.out.of_block (hb.block _ (by have := HS.out; omega))
    have hbox : wr.cell? ⟨B, 0, none⟩ = some (.slice (some ⟨N, 0, none⟩) ts.length ts.length) := (hb.cell (p := ⟨B, 0, none⟩) hBW).trans HBX.out
    by_cases hkl : k < ts.length
    · have hpw := (HP.out.later HBW.out).later hb
      obtain ⟨_, a', c', hva, hpc⟩ := hpw
      obtain ⟨rfl, -, rfl⟩ : a = a' ∧ True ∧ c = c' := by simp at hva; exact ⟨hva.1, trivial, hva.2⟩
      clear hva
      rcases hpc with h | ⟨b, o, rfl, hbl, hc⟩
      · subst h; simp at hkl
      obtain ⟨hc1, nv, hc2, hin⟩ := hc k hkl
      obtain ⟨a2, c2, rfl⟩ : ∃ a2 c2, nv = .slice a2 (needsOf ts k).length c2 := by
        obtain ⟨_, a2, c2, h, _⟩ := hin
        exact ⟨a2, c2, h⟩
      clear hc
      have HT : Hid (rdyTo ts L (k + 1) = rdyTo ts L k ++ if rdyB ts L k then [k] else []) := rdyTo_succ ts L k
      have hba : Below wr.heap.size wr (wr.alloc (.cells #[.int .i64 (ts.getD k (0, [])).1, .slice a2 (needsOf ts k).length c2] 54)) := (Below.refl _ _).alloc (Nat.le_refl _) _
      have hin2 := hin.later hba
      have hrow2 := hrow.alloc (.cells #[.int .i64 (ts.getD k (0, [])).1, .slice a2 (needsOf ts k).length c2] 54)
      have hbox2 := (hba.cell (p := ⟨B, 0, none⟩) (by show B < _; have := hb.size; omega)).trans hbox
      have hund := fun y (h0 : 0 ≤ y) (h1 : y < (ts.length : Int)) => und_any L ts.length N ⟨B, 0, none⟩ y _ hbox2 hrow2 h30 h0 h1
      have hcf := containsFunc_any _ (needsOf ts k) 105 #[.pointer (some ⟨B, 0, none⟩)] (undB L) _ hin2 ⟨enters20, fun x hx => hund x (hr k hkl x hx).1 (hr k hkl x hx).2⟩
      have hu := hund (k : Int) (by omega) (by omega)
      have HB2 : Hid (Below wr.heap.size wr (wr.alloc (.cells #[.int .i64 (ts.getD k (0, [])).1, .slice a2 (needsOf ts k).length c2] 54))) := hba
      have hua : undB L (k : Int) = decide (0 < L k) := by unfold undB; rw [Int.toNat_natCast]
      rw [hua] at hu
      have hu : Calls Tryz.prog 105 #[.int .i64 k, .pointer (some ⟨B, 0, none⟩)] _ _ := hu
      have hsb := hb.size
      have hrb : rdyB ts L k = (decide (0 < L k) && !(needsOf ts k).any (undB L)) := rfl
      have hlen : (intsOf (rdyTo ts L k)).length ≤ 30 := by rw [intsOf_length]; have := rdyTo_len ts L k; omega
      have HR : Hid (∀ wx, Below wr.heap.size wr wx → RowI W.heap.size wx (.slice la (intsOf (rdyTo ts L k)).length lc) (intsOf (rdyTo ts L k))) := fun wx hx => hR.out.later hx
      have HRN : Hid (rdyB ts L k = false → intsOf (rdyTo ts L (k + 1)) = intsOf (rdyTo ts L k)) := fun e => by rw [HT.out, e]; simp
      have HRY : Hid (rdyB ts L k = true → intsOf (rdyTo ts L (k + 1)) = intsOf (rdyTo ts L k) ++ [(k : Int)]) := fun e => by rw [HT.out, e]; simp [intsOf]
      rw [hrb] at HRN HRY
      clear hR HT hund hrow hrow2 hbox hbox2 hin hin2 hba hrb hua
      generalize (ts.getD k (0, [])).1 = wk at *
      generalize (needsOf ts k).any (undB L) = ab at *
      generalize (needsOf ts k).length = nl at *
      generalize hxs : intsOf (rdyTo ts L k) = l at *
      clear hxs
      cases hd : decide (0 < L k)
      · rw [hd] at HRN hu
        have e := HRN.out (by simp)
        have HE : Hid (intsOf (rdyTo ts L (k + 1)) = l) := e
        clear e HRN HRY hd hcf
        go_wp2_with (first | (go_at_call 105; refine hu.mono ?_; clear hu; rintro e w' ⟨rfl, rfl⟩))
        go_roundw
        case rel => exact ⟨k + 1, by omega, by go_num, by show RowI _ _ _ _; rw [HE.out]; exact HR.out _ HB2.out, hb.trans (HB2.out.mono hsb)⟩
        case measure => simp [intOf]; omega
      · rw [hd] at HRN HRY hu
        cases ab
        · have e := HRY.out (by simp)
          have HE : Hid (intsOf (rdyTo ts L (k + 1)) = l ++ [(k : Int)]) := e
          clear e HRN HRY hd
          have hoa := (HR.out _ HB2.out).alloc (.cells #[.int .i64 k] 3)
          have hba2 : Below W.heap.size W ((wr.alloc (.cells #[.int .i64 wk, .slice a2 nl c2] 54)).alloc (.cells #[.int .i64 k] 3)) := (hb.trans (HB2.out.mono hsb)).alloc (by simp; omega) _
          have HO : Hid (Rds (fun _ => True) ((wr.alloc (.cells #[.int .i64 wk, .slice a2 nl c2] 54)).alloc (.cells #[.int .i64 k] 3)) (.slice (some ⟨wr.heap.size + 1, 0, none⟩) 1 1) [(k : Int)]) := by
            have := one_rds (wr.alloc (.cells #[.int .i64 wk, .slice a2 nl c2] 54)) k
            rw [nblk_alloc] at this
            exact this
          go_wp2_with (first | (go_at_call 105; refine hu.mono ?_; clear hu; rintro e w' ⟨rfl, rfl⟩) | (go_at_call 56; refine hcf.mono ?_; clear hcf; rintro e w' ⟨rfl, rfl⟩) | (at_builtin; refine wpList_append_rows rfl (.tmp 27) (.tmp 29) rfl W.heap.size (fun _ => True) (.slice la l.length lc) (.slice (some ⟨wr.heap.size + 1, 0, none⟩) 1 1) l [(k : Int)] rfl rfl hoa HO.out (by simp; omega) (by simp; omega) ?_; intro v2 w2 hown2 hgr2 hat2))
          have hb2 : Below W.heap.size W w2 := hba2.grown hgr2 (by simp; omega) (fun j e => (hoa.low e).1)
          have HN : Hid (RowI W.heap.size w2 v2 (intsOf (rdyTo ts L (k + 1)))) := by show RowI _ _ _ _; rw [HE.out]; exact hown2
          clear hown2 hgr2 hat2 hoa HO HR hba2
          go_wp2
          go_roundw
          case rel => exact ⟨k + 1, by omega, by go_num, HN, hb2⟩
          case measure => simp [intOf]; omega
        · have e := HRN.out (by simp)
          have HE : Hid (intsOf (rdyTo ts L (k + 1)) = l) := e
          clear e HRN HRY hd
          go_wp2_with (first | (go_at_call 105; refine hu.mono ?_; clear hu; rintro e w' ⟨rfl, rfl⟩) | (go_at_call 56; refine hcf.mono ?_; clear hcf; rintro e w' ⟨rfl, rfl⟩))
          go_roundw
          case rel => exact ⟨k + 1, by omega, by go_num, by show RowI _ _ _ _; rw [HE.out]; exact HR.out _ HB2.out, hb.trans (HB2.out.mono hsb)⟩
          case measure => simp [intOf]; omega
    · have hke : k = ts.length := by omega
      have HE : Hid (RowI w.heap.size wr (.slice la (intsOf (rdyTo ts L k)).length lc) (intsOf (rdyTo ts L ts.length))) := by
        have := hR.out.mono (b' := w.heap.size) (by have := HS.out; omega)
        rw [hke] at this ⊢; exact this
      have hbe : Below w.heap.size w wr := HBW.out.trans (hb.mono (by have := HS.out; omega))
      clear hR hke
      go_wp2
      go_ret
      exact ⟨⟨_, rfl, HE.out⟩, hbe⟩
end Go.Proofs.YtandhiiaflhenaaGreatDoor
