/- The contract of list.Run. -/
import Derived.Test.YtkcpimbhfmhjgaaNd
namespace Go.Proofs.Ytkcpimbhfmhjgaa
open Go.RowKit Go.Deep Classical

theorem CheckIs.works {ts : List (Int × List Int)} (hc : CheckIs ts 0 0) : Works ts ∧ InRange ts ∧ ∀ j, j < ts.length → ¬ Reach ts j j := by
  obtain ⟨_, h30, herr, hno⟩ := hc.ok rfl
  exact ⟨⟨h30, fun x hx => wkOf_right (herr x hx)⟩, inRange_of herr, hno⟩

/-- An order of whole numbers as one of numbers that count. -/
def natsOf (zs : List Int) : List Nat := zs.map Int.toNat
theorem EachZ.nats {n : Nat} {zs : List Int} (h : EachZ n zs) : EachO n (natsOf zs) ∧ intsOf (natsOf zs) = zs := by
  obtain ⟨h1, h2, h3⟩ := h
  have e : intsOf (natsOf zs) = zs := by
    unfold intsOf natsOf
    rw [List.map_map]
    have : ∀ x, x ∈ zs → (Int.ofNat ∘ Int.toNat) x = id x := fun x hx => by
      have := (h3 x hx).1
      show Int.ofNat x.toNat = x
      exact Int.toNat_of_nonneg this
    rw [List.map_congr_left this, List.map_id]
  refine ⟨⟨by unfold natsOf; rw [List.length_map]; exact h1, ?_, fun x hx => ?_⟩, e⟩
  · unfold natsOf
    rw [List.Nodup, List.pairwise_map]
    refine List.Pairwise.imp_of_mem (fun {a b} ha hb hab => ?_) h2
    have := (h3 a ha).1
    have := (h3 b hb).1
    omega
  · obtain ⟨y, hy, rfl⟩ := List.mem_map.1 hx
    have := h3 y hy
    omega

theorem cell_four_new (w : World) (q : Nat) (hq : q = w.heap.size) (a b c d : Value) (t : TypeId) : ∀ j u, [a, b, c, d][j]? = some u → (w.alloc (.cells #[a, b, c, d] t)).cell? ((⟨q, 0, none⟩ : Addr).add j) = some u := by
  intro j u hu
  subst hq
  rw [Addr.add_lit, Nat.zero_add]
  unfold World.cell?
  dsimp only
  rw [blk_alloc_new]
  show (#[a, b, c, d])[j]? = some u
  simpa using hu

theorem plan_at {w : World} {a : Option Addr} {n c : Nat} {ts : List (Int × List Int)} (h : PlanAt w (.slice a n c) ts) {x : Nat} (hx : x < ts.length) : ∃ b o, a = some ⟨b, o, none⟩ := by
  obtain ⟨_, a', c', hv, h⟩ := h
  simp only [Value.slice.injEq] at hv
  rcases h with h | ⟨b, o, ha, _⟩
  · subst h; simp at hx
  · exact ⟨b, o, hv.1.trans ha⟩
theorem plan_work {w : World} {b o n c : Nat} {ts : List (Int × List Int)} (h : PlanAt w (.slice (some ⟨b, o, none⟩) n c) ts) {x : Nat} (hx : x < ts.length) {y : Nat} (hy : Hid ((ts.getD x (0, [])).1 = (y : Int))) : w.cell? ⟨b, o + x * 2, none⟩ = some (.int .i64 y) := by
  obtain ⟨_, a', c', hv, h⟩ := h
  simp only [Value.slice.injEq] at hv
  rcases h with h | ⟨b', o', ha, _, h⟩
  · subst h; simp at hx
  · have e := hv.1.trans ha
    simp only [Option.some.injEq, Addr.mk.injEq, and_true] at e
    rw [e.1, e.2, (h x hx).1, hy.out]
theorem plan_low {w : World} {b o n c : Nat} {ts : List (Int × List Int)} (h : PlanAt w (.slice (some ⟨b, o, none⟩) n c) ts) {x : Nat} (hx : x < ts.length) : b < w.heap.size := by
  obtain ⟨_, a', c', hv, h⟩ := h
  simp only [Value.slice.injEq] at hv
  rcases h with h | ⟨b', o', ha, h, _⟩
  · subst h; simp at hx
  · have e := hv.1.trans ha
    simp only [Option.some.injEq, Addr.mk.injEq, and_true] at e
    rw [e.1]; exact h

theorem size_two (w : World) (a b : Addr) (u v : Value) : w.heap.size = ((w.setCell a u).setCell b v).heap.size := by simp [World.setCell]
theorem LMem.took {N n h k x t y : Nat} {w wr w' : World} {sv sv' : Value} {out : List Sty} (m : LMem N n h w wr (upd (freeOf out) k ((t : Int) + (y : Int))) (upd (doneOf out) x ((t : Int) + (y : Int))) sv out)
    (ho : w'.ownsRow N 63 4 sv' (out.length + 1) (flat4 out ++ [.int .i64 (k : Int), .int .i64 (x : Int), .int .i64 (t : Int), .int .i64 ((t : Int) + (y : Int))])) (hg : wr.grownBy w' sv.ownBlock) :
    LMem N n h w w' (freeOf (out ++ [(k, x, t, t + y)])) (doneOf (out ++ [(k, x, t, t + y)])) sv' (out ++ [(k, x, t, t + y)]) := by
  rw [freeOf_snoc, doneOf_snoc]
  exact m.app (s := (k, x, t, t + y)) ho hg

/-- What Run hands back. -/
def LRunOut (ts : List (Int × List Int)) (hands : Int) (zs : List Int) (n : Nat) (e : Ending) (w' : World) : Prop :=
  (∃ p q, CheckIs ts p q ∧ lErr q hands (decide (EachZ ts.length zs)) ≠ 0 ∧ e = .returned (.tuple #[.slice none 0 0, errV (lErr q hands (decide (EachZ ts.length zs)))])) ∨
  (CheckIs ts 0 0 ∧ 1 ≤ hands ∧ hands ≤ 6 ∧ EachZ ts.length zs ∧ ∃ sv, e = .returned (.tuple #[sv, .nilIface]) ∧ RowS n w' sv (listOut ts hands.toNat (natsOf zs)))

set_option maxRecDepth 100000 in
set_option maxHeartbeats 4000000 in
theorem lrun_any (v ov : Value) (ts : List (Int × List Int)) (zs : List Int) (hands : Int) (w : World) (hp : PlanAt w v ts) (ho : IntsAt w ov zs) (hwf : ∀ x, x ∈ zs → (Lit.int .i64 x).wf = true) :
    Calls Try.prog 8 #[v, .int .i64 hands, ov] w fun e w' => LRunOut ts hands zs w.heap.size e w' ∧ Below w.heap.size w w' := by
  obtain ⟨i39, hi39, hz0, hz1, hz2⟩ := info_parts Try.info63
  have HP : Hid (PlanAt w v ts) := hp
  have HO : Hid (IntsAt w ov zs) := ho
  have hck := lcheck_any v ov ts zs hands w hp ho hwf
  obtain ⟨hl, a, c, rfl, hp⟩ := hp
  obtain ⟨hol1, oa, oc, rfl, hol2⟩ := ho
  clear hp hol1 hol2
  go_enter Try.func8, Try.ntmps8
  go_wp2_with fail
  refine hck.mono ?_
  rintro e w1 ⟨⟨p, q, hc, rfl⟩, hb1⟩
  clear hck
  by_cases hq : lErr q hands (decide (EachZ ts.length zs)) = 0
  · obtain ⟨rfl, h1, h6, hez⟩ := lErr_zero hq
    have hez := of_decide_eq_true hez
    obtain ⟨rfl, -⟩ := hc.ok rfl
    rw [hq, errV_zero]
    obtain ⟨hd, rfl⟩ := Int.eq_ofNat_of_zero_le (show 0 ≤ hands by omega)
    obtain ⟨hw, hr, hno⟩ := hc.works
    have h30 := hw.1
    obtain ⟨hord, hints⟩ := hez.nats
    have HOUT : Hid (∀ sv w', RowS w.heap.size w' sv (outAt ts hd (natsOf zs) 601) → LRunOut ts (hd : Int) zs w.heap.size (.returned (.tuple #[sv, .nilIface])) w') := fun sv w' h => Or.inr ⟨hc, h1, h6, hez, sv, rfl, by rw [Int.toNat_natCast]; exact h⟩
    have HPW : Hid (∀ wx, Below w1.heap.size w1 wx → PlanAt wx (.slice a ts.length c) ts) := fun wx hx => (HP.out.later hb1).later hx
    have HOW : Hid (∀ wx, Below w1.heap.size w1 wx → IntsAt wx (.slice oa zs.length oc) (intsOf (natsOf zs))) := fun wx hx => by rw [hints]; exact (HO.out.later hb1).later hx
    have hzl : zs.length = ts.length := hez.1
    have hpos : 1 ≤ hd := by omega
    have hd6 : hd ≤ 6 := by omega
    clear hc hq hez hwf hints HP HO
    rw [hzl] at HOW ⊢
    clear hzl
    generalize natsOf zs = ord at *
    have HORD : Hid (EachO ts.length ord) := hord
    have HALL : Hid (∀ x, x < ts.length → x ∈ ord) := hord.all
    have HLT : Hid (∀ x, x ∈ ord → x < ts.length) := hord.2.2
    have HW : Hid (Works ts) := hw
    have HR : Hid (InRange ts) := hr
    have HNO : Hid (∀ j, j < ts.length → ¬ Reach ts j j) := hno
    clear hord hw hr hno
    have hmk0 : ∀ wx : World, (Instr.makeSlice 35 (.int .i64 0) (.int .i64 (ts.length : Int))).run Try.prog wx = .ok (.slice (some ⟨wx.heap.size, 0, none⟩) 0 ts.length) (wx.alloc (.cells (madeCells #[.int .i64 0, .int .i64 0, .int .i64 0, .int .i64 0] (ts.length * 4)) 63)) := fun wx => by
      have h := run_make (P := Try.prog) wx 35 63 i39 _ Try.underlying35 hi39 hz0 .i64 .i64 0 (ts.length : Int) (by omega) (by omega) (by rw [hz2]; omega) (by omega)
      rw [hz1, Int.toNat_natCast] at h
      exact h
    have hmk1 := fun wx => run_make_row' (P := Try.prog) 32 3 (.int .i64 0) 8 Try.underlying32 Try.info3 rfl .i64 .i64 hd (by omega) (by omega) wx
    have hmk2 := fun wx => run_make_row' (P := Try.prog) 32 3 (.int .i64 0) 8 Try.underlying32 Try.info3 rfl .i64 .i64 ts.length (by omega) (by omega) wx
    have HM : Hid (LMem w1.heap.size ts.length hd w1 (((w1.alloc (.cells (madeCells #[.int .i64 0, .int .i64 0, .int .i64 0, .int .i64 0] (ts.length * 4)) 63)).alloc (.cells (madeCells #[.int .i64 0] hd) 3)).alloc (.cells (madeCells #[.int .i64 0] ts.length) 3)) (freeOf (outAt ts hd ord 0)) (doneOf (outAt ts hd ord 0)) (.slice (some ⟨w1.heap.size, 0, none⟩) 0 ts.length) (outAt ts hd ord 0)) := LMem.start w1 ts.length hd _ (size_madeCells _ _) h30
    go_wp2
    clear hmk0 hmk1 hmk2
    go_loopw [9, 12] (fun s9 s12 wr => ∃ t : Nat, t ≤ 600 ∧ s12 = .int .i64 t ∧ Hid (LMem w1.heap.size ts.length hd w1 wr (freeOf (outAt ts hd ord t)) (doneOf (outAt ts hd ord t)) s9 (outAt ts hd ord t))) (fun _ s12 _ => 600 - (intOf s12).toNat)
    case atStart => exact ⟨0, by omega, rfl, HM⟩
    case round =>
      clear HM
      obtain ⟨t, ht6, rfl, hM⟩ := hrel
      obtain ⟨sa, sc, rfl⟩ := hM.out.stays.shape
      by_cases hlt : (outAt ts hd ord t).length < ts.length
      · have ht : t < 600 := outAt_late HW.out HR.out HNO.out hpos HORD.out hlt
        have HF : Hid (Filling ts hd ord t 0 (outAt ts hd ord t)) := Filling.start HLT.out HALL.out HR.out t
        have HN : Hid (∀ out sv wx, outAt ts hd ord (t + 1) = out → LMem w1.heap.size ts.length hd w1 wx (freeOf out) (doneOf out) sv out → LMem w1.heap.size ts.length hd w1 wx (freeOf (outAt ts hd ord (t + 1))) (doneOf (outAt ts hd ord (t + 1))) sv (outAt ts hd ord (t + 1))) := fun out sv wx e m => by rw [e]; exact m
        generalize hout0 : outAt ts hd ord t = out0 at *
        clear hout0
        obtain ⟨w2, HW2⟩ : ∃ w2, Hid (w2 = wr) := ⟨_, rfl⟩
        go_wp2
        go_loopw [9, 39] (fun s9 s39 wr => ∃ (k : Nat) (out : List Sty), k ≤ hd ∧ s39 = .int .i64 k ∧ Hid (Filling ts hd ord t k out) ∧ Hid (LMem w1.heap.size ts.length hd w1 wr (freeOf out) (doneOf out) s9 out)) (fun _ s39 _ => hd - (intOf s39).toNat)
        case atStart => exact ⟨0, out0, Nat.zero_le _, rfl, HF, hM⟩
        case round =>
          clear HF hM hlt
          obtain ⟨k, out, hk, rfl, hF, hM⟩ := hrel
          obtain ⟨sa, sc, rfl⟩ := hM.out.stays.shape
          by_cases hkh : k < hd
          · have hcf := hM.out.free.cell hkh
            unfold intRow at hcf
            have hsz := hM.out.size
            by_cases hbusy : (t : Int) < freeOf out k
            · have HS : Hid (Filling ts hd ord t (k + 1) out) := hF.out.skip hbusy
              generalize freeOf out k = fk at *
              generalize hol : out.length = ol at *
              clear hol
              go_wp2
              go_roundw
              case rel => exact ⟨k + 1, out, by omega, by go_num, HS, hM⟩
              case measure => simp [intOf]; omega
            · have hfirst := first_any _ _ ts ord (doneOf out) (w1.heap.size + 1 + 1) t wr (HPW.out _ hM.out.below) (HOW.out _ hM.out.below) hM.out.ends HR.out h30 HLT.out
              cases hx : taskAt ts out t ord with
              | none =>
                have HS : Hid (outAt ts hd ord (t + 1) = out) := hF.out.stop hx
                have hfd : firstD ts (doneOf out) t ord = -1 := by unfold firstD; rw [first_same HW.out hF.out.laid, hx]
                rw [hfd] at hfirst
                clear hfd hx
                generalize hfk : freeOf out k = fk at *
                clear hfk
                go_wp2_with (go_at_call 23; refine hfirst.mono ?_; clear hfirst; rintro e w3 ⟨rfl, hb3⟩)
                go_roundw
                case rel => exact ⟨t + 1, by omega, by go_num, HN.out _ _ _ HS.out (hM.out.later hb3)⟩
                case measure => simp [intOf]; omega
              | some x =>
                obtain ⟨hF2, hol, hxl⟩ := hF.out.take HW.out HLT.out hkh hbusy hx
                have HF2 : Hid (Filling ts hd ord t (k + 1) (out ++ [(k, x, t, t + wkN ts x)])) := hF2
                have hfd : firstD ts (doneOf out) t ord = x := by unfold firstD; rw [first_same HW.out hF.out.laid, hx]
                rw [hfd] at hfirst
                obtain ⟨hwk, hwk1⟩ := wkN_eq HW.out hxl
                have hwk2 : wkN ts x ≤ 20 := by have := (HW.out.2 x hxl).2; omega
                have HWK : Hid ((ts.getD x (0, [])).1 = ((wkN ts x : Nat) : Int)) := hwk.symm
                clear hfd hx hF2 hF hwk
                generalize wkN ts x = y at *
                generalize hfk : freeOf out k = fk at *
                clear hfk
                have HM1 := hM
                clear hM
                obtain ⟨b, o, rfl⟩ := plan_at (HPW.out _ HM1.out.below) hxl
                have h1c : ∀ u ∈ [Value.int .i64 (k : Int), .int .i64 (x : Int), .int .i64 (t : Int), .int .i64 ((t : Int) + (y : Int))], u.oneCell' = true := by intro u hu; simp at hu; rcases hu with rfl | rfl | rfl | rfl <;> rfl
                have hol2 : out.length < 30 := by omega
                go_wp2_with (first | (go_at_call 23; refine hfirst.mono ?_; clear hfirst; rintro e w3 ⟨rfl, hb3⟩; have hM3 := HM1.out.later hb3; have hpx := plan_work (HPW.out _ hM3.below) hxl HWK; have hplo := plan_low (HPW.out _ hM3.below) hxl; have hfr1 := hM3.free.frozen k; have hsz3 := hM3.size; have hcF3 := hM3.freeIs hkh; have hcE3 := hM3.endIs hxl; have hM4 := hM3.setF k ((t : Int) + (y : Int)); have hM5 := hM4.setE x ((t : Int) + (y : Int)); have hfr4 := hM4.ends.frozen x; have hM6 := hM5.later ((Below.refl _ _).alloc (Nat.le_refl _) (.cells #[.int .i64 (k : Int), .int .i64 (x : Int), .int .i64 (t : Int), .int .i64 ((t : Int) + (y : Int))] 63)); have HM6 : Hid (LMem _ _ _ _ _ _ _ _ _) := hM6; have hbs : w1.heap.size ≤ w3.heap.size + 1 := Nat.le_of_lt (Nat.lt_of_lt_of_le (Nat.lt_of_le_of_lt (Nat.le_add_right _ 2) hsz3) (Nat.le_succ _)); clear hM3 hM4 hM5 hM6) | (at_builtin; refine wpList_append_own _ rfl (.tmp 72) (.tmp 81) 35 rfl w1.heap.size 63 i39 (.agg #[.int .i64 0, .int .i64 0, .int .i64 0, .int .i64 0]) 4 32 Try.underlying35 hi39 hz0 hz1 hz2 rfl (by decide) _ out.length (flat4 out) rfl HM6.out.stays ⟨w3.heap.size, 0, none⟩ 1 1 [.int .i64 (k : Int), .int .i64 (x : Int), .int .i64 (t : Int), .int .i64 ((t : Int) + (y : Int))] rfl rfl (cell_four_new _ _ (size_two _ _ _ _ _) _ _ _ _ _) h1c (by unfold maxLen; omega) (by omega) (by simp [World.setCell]; omega) ?_; intro v2 w4 hown hgr _; have HM7 : Hid (LMem w1.heap.size ts.length hd w1 w4 (freeOf (out ++ [(k, x, t, t + y)])) (doneOf (out ++ [(k, x, t, t + y)])) v2 (out ++ [(k, x, t, t + y)])) := HM6.out.took hown hgr; clear hown hgr HM6))
                go_roundw
                case rel => exact ⟨k + 1, _, by omega, by go_num, HF2, HM7⟩
                case measure => simp [intOf]; omega
          · have HS : Hid (outAt ts hd ord (t + 1) = out) := hF.out.over (by omega)
            clear hF
            go_wp2
            go_roundw
            case rel => exact ⟨t + 1, by omega, by go_num, HN.out _ _ _ HS.out hM.out⟩
            case measure => simp [intOf]; omega
      · have HE : Hid (outAt ts hd ord 601 = outAt ts hd ord t) := by
          have hL := (outAt_laid (h := hd) HLT.out HALL.out HR.out t).1
          have := hL.len
          exact (list_at HW.out HR.out HNO.out hpos HORD.out (by omega)).symm
        have HF : Hid (LRunOut ts (hd : Int) zs w.heap.size (.returned (.tuple #[.slice sa (outAt ts hd ord t).length sc, .nilIface])) wr) := HOUT.out _ _ (by rw [HE.out]; exact hM.out.stays.mono hb1.size)
        have hbe : Below w.heap.size w wr := hb1.trans (hM.out.below.mono hb1.size)
        clear hM HE
        generalize hol : (outAt ts hd ord t).length = ol at *
        clear hol
        go_wp2
        go_ret2
        exact ⟨HF.out, hbe⟩
  · have hev := errV_some hq
    rw [hev]
    have HQ : Hid (lErr q hands (decide (EachZ ts.length zs)) ≠ 0) := hq
    have HF : Hid (∀ u, u = errV (lErr q hands (decide (EachZ ts.length zs))) → LRunOut ts hands zs w.heap.size (.returned (.tuple #[.slice none 0 0, u])) w1) := fun u hu => Or.inl ⟨p, q, hc, HQ.out, by rw [hu]⟩
    rw [hev] at HF
    clear hev hq HQ hc
    generalize lErr q hands (decide (EachZ ts.length zs)) = g at *
    go_wp2
    go_ret2
    exact ⟨HF.out _ rfl, hb1⟩
end Go.Proofs.Ytkcpimbhfmhjgaa
