/- The document's Told: may deeds have been. -/
import Derived.Test.YtiekhigjllbalaaGreatDoorTda
import Derived.Test.YtiekhigjllbalaaGreatDoorRa
namespace Go.Proofs.YtiekhigjllbalaaGreatDoor
open Go.RowKit Go.Deep

/-- What Told keeps: what each hand has, who sleeps, what was had, what is done. -/
structure TM (H hands n : Nat) (w0 w : World) (s : Tr) : Prop where
  has : w.rowIs H 3 hands (fun k => .int .i64 (s.has k))
  slp : w.rowIs (H + 1) 4 hands (fun k => .bool (s.slp k))
  had : w.rowIs (H + 2) 4 n (fun k => .bool (s.had k))
  dn : w.rowIs (H + 2 + 1) 4 n (fun k => .bool (s.dn k))
  below : Below H w0 w
variable {H hands n : Nat} {w0 w w' : World} {s : Tr}
theorem TM.later (h : TM H hands n w0 w s) (hb : Below w.heap.size w w') : TM H hands n w0 w' s :=
  ⟨h.has.of_block (hb.block _ h.has.lt), h.slp.of_block (hb.block _ h.slp.lt), h.had.of_block (hb.block _ h.had.lt), h.dn.of_block (hb.block _ h.dn.lt), h.below.trans (hb.mono (by have := h.has.lt; omega))⟩
theorem TM.setHas (h : TM H hands n w0 w s) (k : Nat) (z : Int) : TM H hands n w0 (w.setCell ⟨H, k, none⟩ (.int .i64 z)) { s with has := upd s.has k z } :=
  ⟨(h.has.set k _).congr (fun j _ => by unfold upd; dsimp only; split <;> rfl), h.slp.setOther (by show H + 1 ≠ H; omega) _, h.had.setOther (by show H + 2 ≠ H; omega) _, h.dn.setOther (by show H + 2 + 1 ≠ H; omega) _, h.below.setCell (p := ⟨H, k, none⟩) (Nat.le_refl _) _⟩
theorem TM.setSlp (h : TM H hands n w0 w s) (k : Nat) (z : Bool) : TM H hands n w0 (w.setCell ⟨H + 1, k, none⟩ (.bool z)) { s with slp := upd s.slp k z } :=
  ⟨h.has.setOther (by show H ≠ H + 1; omega) _, (h.slp.set k _).congr (fun j _ => by unfold upd; dsimp only; split <;> rfl), h.had.setOther (by show H + 2 ≠ H + 1; omega) _, h.dn.setOther (by show H + 2 + 1 ≠ H + 1; omega) _, h.below.setCell (p := ⟨H + 1, k, none⟩) (by show H ≤ H + 1; omega) _⟩
theorem TM.setHad (h : TM H hands n w0 w s) (k : Nat) : TM H hands n w0 (w.setCell ⟨H + 2, k, none⟩ (.bool true)) { s with had := mark s.had k } :=
  ⟨h.has.setOther (by show H ≠ H + 2; omega) _, h.slp.setOther (by show H + 1 ≠ H + 2; omega) _, (h.had.set k _).congr (fun j _ => by unfold mark; dsimp only; split <;> rfl), h.dn.setOther (by show H + 2 + 1 ≠ H + 2; omega) _, h.below.setCell (p := ⟨H + 2, k, none⟩) (by show H ≤ H + 2; omega) _⟩
theorem TM.setDn (h : TM H hands n w0 w s) (k : Nat) : TM H hands n w0 (w.setCell ⟨H + 2 + 1, k, none⟩ (.bool true)) { s with dn := mark s.dn k } :=
  ⟨h.has.setOther (by show H ≠ H + 2 + 1; omega) _, h.slp.setOther (by show H + 1 ≠ H + 2 + 1; omega) _, h.had.setOther (by show H + 2 ≠ H + 2 + 1; omega) _, (h.dn.set k _).congr (fun j _ => by unfold mark; dsimp only; split <;> rfl), h.below.setCell (p := ⟨H + 2 + 1, k, none⟩) (by show H ≤ H + 2 + 1; omega) _⟩
theorem trErr_in {ts : List (Int × List Int)} {hands : Nat} {s : Tr} {x1 : Int} {x2 x3 x4 : Nat} (hp : ¬ ((hands : Int) ≤ (x2 : Int) ∨ (hands : Int) ≤ (x4 : Int) ∨ (x1 < 5 ∧ (ts.length : Int) ≤ (x3 : Int)))) : trErr ts hands s (x1, (x2 : Int), (x3 : Int), (x4 : Int)) =
    if x1 < 4 then (if 0 ≤ s.has x2 ∨ s.had x3 = true then 7 else if s.slp x2 = true ∨ missing ts s.dn x3 = true then 6 else if x1 = 2 ∧ (x4 : Int) = (x2 : Int) then 3 else 0)
    else if x1 = 4 then (if s.has x2 = (x3 : Int) then 0 else 6) else if x1 = 5 then (if 0 ≤ s.has x2 ∨ s.slp x2 = true then 6 else 0) else if s.slp x2 = true then 0 else 6 := by
  unfold trErr
  rw [if_neg hp]
  rfl
theorem drewN_below (w : World) (q : Nat) : Below w.heap.size w (w.drewN q) := ⟨rfl, rfl, rfl, Nat.le_refl _, fun _ _ => rfl⟩
theorem Tryz.infoBool : (Tryz.prog.info? 4).map (fun i => (i.zero, i.size, i.bytes)) = some (some (.bool false), 1, 1) := by kernel_rfl
theorem Tryz.infoIntT : (Tryz.prog.info? 3).map (fun i => (i.zero, i.size, i.bytes)) = some (some (.int .i64 0), 1, 8) := by kernel_rfl
set_option maxRecDepth 100000 in
set_option maxHeartbeats 16000000 in
theorem told_any2 (pv dv : Value) (ts : List (Int × List Int)) (hands : Nat) (ds : List Deed) (w : World) (hp : PlanAt w pv ts) (hr : InRange ts) (h30 : ts.length ≤ 30) (h6 : hands ≤ 6) (hd : DeedsAt w dv ds) :
    Calls Tryz.prog 5 #[pv, .int .i64 (hands : Int), dv] w fun e w' => e = .returned (.int .i64 (toldErr ts hands ds)) ∧ Below w.heap.size w w' := by
  have hde := dDeeds_any dv ds w hd
  have HP : Hid (PlanAt w pv ts) := hp
  have HD : Hid (DeedsAt w dv ds) := hd
  have HR : Hid (InRange ts) := hr
  obtain ⟨_, pa, pc, rfl, _⟩ := hp
  obtain ⟨_, da, dc, rfl, _⟩ := hd
  by_cases he : deedsErr ds = 0
  case neg =>
    have HT : Hid (toldErr ts hands ds = deedsErr ds) := if_neg he
    have hne : (deedsErr ds != 0) = true := by simp [he]
    generalize deedsErr ds = q at *
    clear he
    go_enter Tryz.func5, Tryz.ntmps5
    go_wp2_with (first | (go_at_call 8; refine hde.mono ?_; clear hde; rintro e w1 ⟨rfl, hb1⟩))
    go_ret
    exact ⟨by rw [HT.out]; rfl, hb1⟩
  case pos =>
    have HT : Hid (toldErr ts hands ds = trErrs ts hands trNew ds) := if_pos he
    have HA : Hid (∀ k, k < ds.length → deedE (ds.getD k (0, 0, 0, 0)) = 0) := fun k hk => (deedsErr_zero he).2 _ (by rw [List.getD_eq_getElem?_getD, List.getElem?_eq_getElem hk]; exact List.getElem_mem hk)
    have hmi := fun wx => run_make_row' (P := Tryz.prog) 32 3 (.int .i64 0) 8 Tryz.underlying32 Tryz.infoIntT rfl .i64 .i64 hands (by omega) (by omega) wx
    have hmb := fun wx => run_make_row' (P := Tryz.prog) 49 4 (.bool false) 1 Tryz.underlying49 Tryz.infoBool rfl .i64 .i64 hands (by omega) (by omega) wx
    have hmn := fun wx => run_make_row' (P := Tryz.prog) 49 4 (.bool false) 1 Tryz.underlying49 Tryz.infoBool rfl .i64 .i64 ts.length (by omega) (by omega) wx
    rw [he] at hde
    clear he hr
    go_enter Tryz.func5, Tryz.ntmps5
    go_wp2_with (first | (go_at_call 8; refine hde.mono ?_; clear hde; rintro e w1 ⟨rfl, hb1⟩; have HB1 : Hid (Below w.heap.size w w1) := hb1; clear hb1))
    have H2a : Hid (((w1.alloc (.cells (madeCells #[.int .i64 0] hands) 3)).alloc (.cells (madeCells #[.bool false] hands) 4)).rowIs w1.heap.size 3 hands (fun k => .int .i64 (if k < 0 then -1 else 0))) := ((World.rowIs_made w1 (.int .i64 0) hands 3).alloc _).congr (fun j _ => by simp)
    have H2b : Hid (((w1.alloc (.cells (madeCells #[.int .i64 0] hands) 3)).alloc (.cells (madeCells #[.bool false] hands) 4)).rowIs (w1.heap.size + 1) 4 hands (fun k => .bool false)) := by
      have := World.rowIs_made (w1.alloc (.cells (madeCells #[.int .i64 0] hands) 3)) (.bool false) hands 4
      rwa [nblk_alloc] at this
    have H2c : Hid (Below w1.heap.size w1 ((w1.alloc (.cells (madeCells #[.int .i64 0] hands) 3)).alloc (.cells (madeCells #[.bool false] hands) 4)) ∧ ((w1.alloc (.cells (madeCells #[.int .i64 0] hands) 3)).alloc (.cells (madeCells #[.bool false] hands) 4)).heap.size = w1.heap.size + 2) := ⟨((Below.refl _ _).alloc (Nat.le_refl _) _).alloc (by simp) _, by simp⟩
    go_loopw [10] (fun s10 wr => ∃ k : Nat, k ≤ hands ∧ s10 = .int .i64 k ∧ Hid (wr.rowIs w1.heap.size 3 hands (fun j => .int .i64 (if j < k then -1 else 0))) ∧ Hid (wr.rowIs (w1.heap.size + 1) 4 hands (fun j => .bool false)) ∧ Hid (Below w1.heap.size w1 wr ∧ wr.heap.size = w1.heap.size + 2)) (fun s10 _ => hands - (intOf s10).toNat)
    case atStart => exact ⟨0, Nat.zero_le _, rfl, H2a, H2b, H2c⟩
    case round =>
      clear H2a H2b H2c
      obtain ⟨k, hk, rfl, hA, hB, hC⟩ := hrel
      by_cases hkh : k < hands
      · have hcA := hA.out.cell hkh
        have hfA := hA.out.frozen k
        rw [if_neg (Nat.lt_irrefl _)] at hcA
        have HA2 : Hid ((wr.setCell ⟨w1.heap.size, k, none⟩ (.int .i64 (-1))).rowIs w1.heap.size 3 hands (fun j => .int .i64 (if j < k + 1 then -1 else 0))) := (hA.out.set k _).congr (fun j _ => by
          by_cases e : j = k
          · subst e; rw [if_pos rfl, if_pos (by omega)]
          · rw [if_neg e]
            by_cases e2 : j < k
            · rw [if_pos e2, if_pos (by omega)]
            · rw [if_neg e2, if_neg (by omega)])
        have HB2 : Hid ((wr.setCell ⟨w1.heap.size, k, none⟩ (.int .i64 (-1))).rowIs (w1.heap.size + 1) 4 hands (fun j => .bool false)) := hB.out.setOther (by show w1.heap.size + 1 ≠ w1.heap.size; omega) _
        have HC2 : Hid (Below w1.heap.size w1 (wr.setCell ⟨w1.heap.size, k, none⟩ (.int .i64 (-1))) ∧ (wr.setCell ⟨w1.heap.size, k, none⟩ (.int .i64 (-1))).heap.size = w1.heap.size + 2) := ⟨hC.out.1.setCell (p := ⟨w1.heap.size, k, none⟩) (Nat.le_refl _) _, by have := hC.out.2; simpa using this⟩
        clear hA hB hC
        go_wp2
        go_roundw
        case rel => exact ⟨k + 1, by omega, by go_num, HA2, HB2, HC2⟩
        case measure => simp [intOf]; omega
      · have hke : k = hands := by omega
        subst hke
        have hsz := hC.out.2
        have HM0 : Hid (TM w1.heap.size k ts.length w1 ((wr.alloc (.cells (madeCells #[.bool false] ts.length) 4)).alloc (.cells (madeCells #[.bool false] ts.length) 4)) trNew) := by
          have e1 := World.rowIs_made wr (.bool false) ts.length 4
          have e2 := World.rowIs_made (wr.alloc (.cells (madeCells #[.bool false] ts.length) 4)) (.bool false) ts.length 4
          rw [nblk_alloc, hsz] at e2
          rw [hsz] at e1
          exact ⟨((hA.out.alloc _).alloc _).congr (fun j hj => by rw [if_pos hj]; rfl), (hB.out.alloc _).alloc _, e1.alloc _, e2, (hC.out.1.alloc hC.out.1.size _).alloc (by simp; have := hC.out.1.size; omega) _⟩
        clear hA hB hC
        go_wp2
        clear hmi hmb hmn hsz
        have hHw : w.heap.size ≤ w1.heap.size := HB1.out.size
        generalize w1.heap.size = H at *
        go_loopw [13] (fun s13 wr => ∃ k2 : Nat, k2 ≤ ds.length ∧ s13 = .int .i64 k2 ∧ Hid (TM H k ts.length w1 wr (trEnd trNew (ds.take k2))) ∧ Hid (trErrs ts k trNew (ds.take k2) = 0)) (fun s13 _ => ds.length - (intOf s13).toNat)
        case atStart => exact ⟨0, Nat.zero_le _, rfl, HM0, rfl⟩
        case round =>
          clear HM0
          obtain ⟨k2, hk2, rfl, hM, hE⟩ := hrel
          have hBw : Below w.heap.size w wr := HB1.out.trans (hM.out.below.mono hHw)
          by_cases hkl : k2 < ds.length
          · obtain ⟨b, o, rfl, hbl, c0, c1, c2, c3⟩ := (HD.out.later hBw).four hkl
            obtain ⟨⟨d1, d2⟩, ⟨d3, d4⟩, ⟨d5, d6⟩, d7⟩ := deed_parts (HA.out k2 hkl)
            have HBAD : Hid (∀ q, trErr ts k (trEnd trNew (ds.take k2)) (ds.getD k2 (0, 0, 0, 0)) = q → q ≠ 0 → toldErr ts k ds = q) := fun q h1 h2 => by rw [HT.out]; exact trErrs_hit hkl hE.out h1 h2
            have HGOOD : Hid (trErr ts k (trEnd trNew (ds.take k2)) (ds.getD k2 (0, 0, 0, 0)) = 0 → ∀ wx, TM H k ts.length w1 wx (trNext (trEnd trNew (ds.take k2)) (ds.getD k2 (0, 0, 0, 0))) → Hid (TM H k ts.length w1 wx (trEnd trNew (ds.take (k2 + 1)))) ∧ Hid (trErrs ts k trNew (ds.take (k2 + 1)) = 0)) := fun h1 wx hx => by
              obtain ⟨h2, h3⟩ := trErrs_more hkl hE.out h1
              exact ⟨by rw [h3]; exact hx, h2⟩
            obtain ⟨x2, e2⟩ : ∃ x2 : Nat, (ds.getD k2 (0, 0, 0, 0)).2.1 = x2 := ⟨_, (Int.toNat_of_nonneg d3).symm⟩
            obtain ⟨x3, e3⟩ : ∃ x3 : Nat, (ds.getD k2 (0, 0, 0, 0)).2.2.1 = x3 := ⟨_, (Int.toNat_of_nonneg d5).symm⟩
            obtain ⟨x4, e4⟩ : ∃ x4 : Nat, (ds.getD k2 (0, 0, 0, 0)).2.2.2 = x4 := ⟨_, (Int.toNat_of_nonneg d7).symm⟩
            obtain ⟨x1, e1⟩ : ∃ x1 : Int, (ds.getD k2 (0, 0, 0, 0)).1 = x1 := ⟨_, rfl⟩
            have HDD : Hid (ds.getD k2 (0, 0, 0, 0) = (x1, (x2 : Int), (x3 : Int), (x4 : Int))) := Prod.ext e1 (Prod.ext e2 (Prod.ext e3 e4))
            rw [HDD.out] at HBAD HGOOD
            rw [e1] at c0 d1 d2
            rw [e2] at c1 d4
            rw [e3] at c2 d6
            rw [e4] at c3
            clear e1 e2 e3 e4 d3 d5 d7 HDD
            have hMA : TM H k ts.length w1 (wr.alloc (.cells #[.int .i64 x1, .int .i64 (x2 : Int), .int .i64 (x3 : Int), .int .i64 (x4 : Int)] 34)) (trEnd trNew (ds.take k2)) := hM.out.later ((Below.refl _ _).alloc (Nat.le_refl _) _)
            have HBR : Hid (Below w.heap.size w (wr.alloc (.cells #[.int .i64 x1, .int .i64 (x2 : Int), .int .i64 (x3 : Int), .int .i64 (x4 : Int)] 34))) := hBw.alloc hBw.size _
            have HPR : Hid (PlanAt (wr.alloc (.cells #[.int .i64 x1, .int .i64 (x2 : Int), .int .i64 (x3 : Int), .int .i64 (x4 : Int)] 34)) (.slice pa ts.length pc) ts) := HP.out.later HBR.out
            generalize trEnd trNew (ds.take k2) = s at *
            have HLT : Hid (H + 2 + 1 < wr.heap.size) := hM.out.dn.lt
            clear hM hE hBw
            have HMA : Hid (TM H k ts.length w1 (wr.alloc (.cells #[.int .i64 x1, .int .i64 (x2 : Int), .int .i64 (x3 : Int), .int .i64 (x4 : Int)] 34)) s) := hMA
            by_cases p1 : (k : Int) ≤ (x2 : Int) ∨ (k : Int) ≤ (x4 : Int) ∨ (x1 < 5 ∧ (ts.length : Int) ≤ (x3 : Int))
            · have HR : Hid (toldErr ts k ds = 1) := HBAD.out 1 (if_pos p1) (by omega)
              clear HBAD HGOOD hMA HMA HPR
              by_cases q1 : k ≤ x2
              · have q1i : (k : Int) ≤ (x2 : Int) := by omega
                go_wp2; go_ret; exact ⟨by rw [HR.out]; rfl, HBR.out⟩
              by_cases q2 : k ≤ x4
              · have q1i : ¬ (k : Int) ≤ (x2 : Int) := by omega
                have q2i : (k : Int) ≤ (x4 : Int) := by omega
                go_wp2; go_ret; exact ⟨by rw [HR.out]; rfl, HBR.out⟩
              have q1i : ¬ (k : Int) ≤ (x2 : Int) := by omega
              have q2i : ¬ (k : Int) ≤ (x4 : Int) := by omega
              have q3 : x1 < 5 := by omega
              have q4 : ts.length ≤ x3 := by omega
              have q4i : (ts.length : Int) ≤ (x3 : Int) := by omega
              go_wp2; go_ret; exact ⟨by rw [HR.out]; rfl, HBR.out⟩
            · have HV : Hid (trErr ts k s (x1, (x2 : Int), (x3 : Int), (x4 : Int)) = _) := trErr_in p1
              have q1 : x2 < k := by omega
              have q1i : (x2 : Int) < (k : Int) := by omega
              have q2i : (x4 : Int) < (k : Int) := by omega
              have q3 : ¬ (x1 < 5 ∧ (ts.length : Int) ≤ (x3 : Int)) := by omega
              have kh := hMA.has.cell q1
              have ks := hMA.slp.cell q1
              have hHr : H + 2 + 1 < wr.heap.size := HLT.out
              rcases (by omega : x1 = 1 ∨ x1 = 2 ∨ x1 = 3 ∨ x1 = 4 ∨ x1 = 5 ∨ x1 = 6) with hx1 | hx1 | hx1 | hx1 | hx1 | hx1
              · subst hx1
                have hx3 : x3 < ts.length := by omega
                have hx3i : (x3 : Int) < (ts.length : Int) := by omega
                have kd := hMA.had.cell hx3
                rw [if_pos (show (1 : Int) < 4 by omega)] at HV
                by_cases z0 : 0 ≤ s.has x2
                · have HR7 : Hid (toldErr ts k ds = 7) := HBAD.out 7 (by rw [HV.out, if_pos (Or.inl z0)]) (by omega)
                  clear HBAD HGOOD hMA HMA HPR HV p1
                  generalize s.has x2 = z at *
                  generalize s.had x3 = zd at *
                  generalize s.slp x2 = zs at *
                  go_wp2; go_ret; exact ⟨by rw [HR7.out]; rfl, HBR.out⟩
                cases zd : s.had x3
                case true =>
                  have HR7 : Hid (toldErr ts k ds = 7) := HBAD.out 7 (by rw [HV.out, if_pos (Or.inr zd)]) (by omega)
                  rw [zd] at kd
                  clear HBAD HGOOD hMA HMA HPR HV p1 zd
                  generalize s.has x2 = z at *
                  generalize s.slp x2 = zs at *
                  go_wp2; go_ret; exact ⟨by rw [HR7.out]; rfl, HBR.out⟩
                case false =>
                  have hfr := freeR_any _ _ ts s.dn x3 _ HPR.out hx3 HR.out ⟨H + 2 + 1, 0, ts.length, rfl, hMA.dn.lt, fun j hj => by rw [Nat.zero_add]; exact hMA.dn.cell hj⟩
                  rw [if_neg (by rw [zd]; simp; omega)] at HV
                  obtain ⟨n0, n1, n2, n3⟩ := new_deed wr 1 (x2 : Int) (x3 : Int) (x4 : Int)
                  have HNN : Hid (∀ wf, Below (wr.alloc (.cells #[.int .i64 1, .int .i64 (x2 : Int), .int .i64 (x3 : Int), .int .i64 (x4 : Int)] 34)).heap.size (wr.alloc (.cells #[.int .i64 1, .int .i64 (x2 : Int), .int .i64 (x3 : Int), .int .i64 (x4 : Int)] 34)) wf → (wf.cell? ⟨wr.heap.size, 0, none⟩ = some (.int .i64 1) ∧ wf.cell? ⟨wr.heap.size, 1, none⟩ = some (.int .i64 (x2 : Int)) ∧ wf.cell? ⟨wr.heap.size, 2, none⟩ = some (.int .i64 (x3 : Int)) ∧ wf.cell? ⟨wr.heap.size, 3, none⟩ = some (.int .i64 (x4 : Int)))) := fun wf hbf => ⟨(hbf.cell (p := ⟨wr.heap.size, 0, none⟩) (by simp)).trans n0, (hbf.cell (p := ⟨wr.heap.size, 1, none⟩) (by simp)).trans n1, (hbf.cell (p := ⟨wr.heap.size, 2, none⟩) (by simp)).trans n2, (hbf.cell (p := ⟨wr.heap.size, 3, none⟩) (by simp)).trans n3⟩
                  rw [zd] at kd
                  generalize hzm : missing ts s.dn x3 = zm at hfr HV
                  clear n0 n1 n2 n3 hMA HPR p1 hzm
                  go_wp2_with fail
                  refine hfr.mono ?_
                  clear hfr
                  rintro e wf ⟨rfl, hbf⟩
                  have HMF : Hid (TM H k ts.length w1 wf s) := HMA.out.later hbf
                  have HBF : Hid (Below w.heap.size w wf) := HBR.out.trans (hbf.mono HBR.out.size)
                  obtain ⟨m0, m1, m2, m3⟩ := HNN.out wf hbf
                  have ks2 := HMF.out.slp.cell q1
                  have kh2 := HMF.out.has.cell q1
                  have fh2 := HMF.out.has.frozen x2
                  clear hbf HMA HNN HBR kh ks kd
                  cases zs : s.slp x2
                  case true =>
                    have HR6 : Hid (toldErr ts k ds = 6) := HBAD.out 6 (by rw [HV.out, if_pos (Or.inl zs)]) (by omega)
                    rw [zs] at ks2
                    clear HBAD HGOOD HMF HV zs zd z0
                    go_wp2; go_ret; exact ⟨by rw [HR6.out]; rfl, HBF.out⟩
                  case false =>
                    rw [zs] at ks2
                    cases zm
                    case true =>
                      have HR6 : Hid (toldErr ts k ds = 6) := HBAD.out 6 (by rw [HV.out, if_pos (Or.inr rfl)]) (by omega)
                      clear HBAD HGOOD HMF HV zs zd z0
                      go_wp2; go_ret; exact ⟨by rw [HR6.out]; rfl, HBF.out⟩
                    case false =>
                      rw [if_neg (by rw [zs]; simp)] at HV
                      have HG := HGOOD.out (by rw [HV.out, if_neg (by rintro ⟨h, _⟩; omega)]) ((wf.setCell ⟨H, x2, none⟩ (.int .i64 (x3 : Int))).setCell ⟨H + 2, x3, none⟩ (.bool true)) ((HMF.out.setHas x2 (x3 : Int)).setHad x3)
                      have m2b : (wf.setCell ⟨H, x2, none⟩ (.int .i64 (x3 : Int))).cell? ⟨wr.heap.size, 2, none⟩ = some (.int .i64 (x3 : Int)) := (World.cell?_setCell_other _ _ _ _ (by simp)).trans m2
                      have fd3 := (HMF.out.setHas x2 (x3 : Int)).had.frozen x3
                      have kd3 := (HMF.out.setHas x2 (x3 : Int)).had.cell hx3
                      obtain ⟨HG1, HG2⟩ := HG
                      clear HBAD HGOOD HMF HV zs
                      generalize s.has x2 = z at *
                      dsimp only at kd3
                      rw [zd] at kd3
                      clear zd
                      go_wp2
                      go_roundw
                      case rel => exact ⟨k2 + 1, by omega, by go_num, HG1, HG2⟩
                      case measure => simp [intOf]; omega
              · subst hx1
                have hx3 : x3 < ts.length := by omega
                have hx3i : (x3 : Int) < (ts.length : Int) := by omega
                have kd := hMA.had.cell hx3
                rw [if_pos (show (2 : Int) < 4 by omega)] at HV
                by_cases z0 : 0 ≤ s.has x2
                · have HR7 : Hid (toldErr ts k ds = 7) := HBAD.out 7 (by rw [HV.out, if_pos (Or.inl z0)]) (by omega)
                  clear HBAD HGOOD hMA HMA HPR HV p1
                  generalize s.has x2 = z at *
                  generalize s.had x3 = zd at *
                  generalize s.slp x2 = zs at *
                  go_wp2; go_ret; exact ⟨by rw [HR7.out]; rfl, HBR.out⟩
                cases zd : s.had x3
                case true =>
                  have HR7 : Hid (toldErr ts k ds = 7) := HBAD.out 7 (by rw [HV.out, if_pos (Or.inr zd)]) (by omega)
                  rw [zd] at kd
                  clear HBAD HGOOD hMA HMA HPR HV p1 zd
                  generalize s.has x2 = z at *
                  generalize s.slp x2 = zs at *
                  go_wp2; go_ret; exact ⟨by rw [HR7.out]; rfl, HBR.out⟩
                case false =>
                  have hfr := freeR_any _ _ ts s.dn x3 _ HPR.out hx3 HR.out ⟨H + 2 + 1, 0, ts.length, rfl, hMA.dn.lt, fun j hj => by rw [Nat.zero_add]; exact hMA.dn.cell hj⟩
                  rw [if_neg (by rw [zd]; simp; omega)] at HV
                  obtain ⟨n0, n1, n2, n3⟩ := new_deed wr 2 (x2 : Int) (x3 : Int) (x4 : Int)
                  have HNN : Hid (∀ wf, Below (wr.alloc (.cells #[.int .i64 2, .int .i64 (x2 : Int), .int .i64 (x3 : Int), .int .i64 (x4 : Int)] 34)).heap.size (wr.alloc (.cells #[.int .i64 2, .int .i64 (x2 : Int), .int .i64 (x3 : Int), .int .i64 (x4 : Int)] 34)) wf → (wf.cell? ⟨wr.heap.size, 0, none⟩ = some (.int .i64 2) ∧ wf.cell? ⟨wr.heap.size, 1, none⟩ = some (.int .i64 (x2 : Int)) ∧ wf.cell? ⟨wr.heap.size, 2, none⟩ = some (.int .i64 (x3 : Int)) ∧ wf.cell? ⟨wr.heap.size, 3, none⟩ = some (.int .i64 (x4 : Int)))) := fun wf hbf => ⟨(hbf.cell (p := ⟨wr.heap.size, 0, none⟩) (by simp)).trans n0, (hbf.cell (p := ⟨wr.heap.size, 1, none⟩) (by simp)).trans n1, (hbf.cell (p := ⟨wr.heap.size, 2, none⟩) (by simp)).trans n2, (hbf.cell (p := ⟨wr.heap.size, 3, none⟩) (by simp)).trans n3⟩
                  rw [zd] at kd
                  generalize hzm : missing ts s.dn x3 = zm at hfr HV
                  clear n0 n1 n2 n3 hMA HPR p1 hzm
                  go_wp2_with fail
                  refine hfr.mono ?_
                  clear hfr
                  rintro e wf ⟨rfl, hbf⟩
                  have HMF : Hid (TM H k ts.length w1 wf s) := HMA.out.later hbf
                  have HBF : Hid (Below w.heap.size w wf) := HBR.out.trans (hbf.mono HBR.out.size)
                  obtain ⟨m0, m1, m2, m3⟩ := HNN.out wf hbf
                  have ks2 := HMF.out.slp.cell q1
                  have kh2 := HMF.out.has.cell q1
                  have fh2 := HMF.out.has.frozen x2
                  clear hbf HMA HNN HBR kh ks kd
                  cases zs : s.slp x2
                  case true =>
                    have HR6 : Hid (toldErr ts k ds = 6) := HBAD.out 6 (by rw [HV.out, if_pos (Or.inl zs)]) (by omega)
                    rw [zs] at ks2
                    clear HBAD HGOOD HMF HV zs zd z0
                    go_wp2; go_ret; exact ⟨by rw [HR6.out]; rfl, HBF.out⟩
                  case false =>
                    rw [zs] at ks2
                    cases zm
                    case true =>
                      have HR6 : Hid (toldErr ts k ds = 6) := HBAD.out 6 (by rw [HV.out, if_pos (Or.inr rfl)]) (by omega)
                      clear HBAD HGOOD HMF HV zs zd z0
                      go_wp2; go_ret; exact ⟨by rw [HR6.out]; rfl, HBF.out⟩
                    case false =>
                      rw [if_neg (by rw [zs]; simp)] at HV
                      by_cases z4 : x4 = x2
                      · have HR3 : Hid (toldErr ts k ds = 3) := HBAD.out 3 (by rw [HV.out, if_pos (by simp [z4])]) (by omega)
                        subst z4
                        clear HBAD HGOOD HMF HV zs zd z0
                        go_wp2; go_ret; exact ⟨by rw [HR3.out]; rfl, HBF.out⟩
                      have z4b : ((x4 : Int) == (x2 : Int)) = false := beq_eq_false_iff_ne.2 (by omega)
                      have HG := HGOOD.out (by rw [HV.out, if_neg (by rintro ⟨_, h⟩; omega)]) ((wf.setCell ⟨H, x2, none⟩ (.int .i64 (x3 : Int))).setCell ⟨H + 2, x3, none⟩ (.bool true)) ((HMF.out.setHas x2 (x3 : Int)).setHad x3)
                      have m2b : (wf.setCell ⟨H, x2, none⟩ (.int .i64 (x3 : Int))).cell? ⟨wr.heap.size, 2, none⟩ = some (.int .i64 (x3 : Int)) := (World.cell?_setCell_other _ _ _ _ (by simp)).trans m2
                      have fd3 := (HMF.out.setHas x2 (x3 : Int)).had.frozen x3
                      have kd3 := (HMF.out.setHas x2 (x3 : Int)).had.cell hx3
                      obtain ⟨HG1, HG2⟩ := HG
                      clear HBAD HGOOD HMF HV zs
                      generalize s.has x2 = z at *
                      dsimp only at kd3
                      rw [zd] at kd3
                      clear zd
                      go_wp2
                      go_roundw
                      case rel => exact ⟨k2 + 1, by omega, by go_num, HG1, HG2⟩
                      case measure => simp [intOf]; omega
              · subst hx1
                have hx3 : x3 < ts.length := by omega
                have hx3i : (x3 : Int) < (ts.length : Int) := by omega
                have kd := hMA.had.cell hx3
                rw [if_pos (show (3 : Int) < 4 by omega)] at HV
                by_cases z0 : 0 ≤ s.has x2
                · have HR7 : Hid (toldErr ts k ds = 7) := HBAD.out 7 (by rw [HV.out, if_pos (Or.inl z0)]) (by omega)
                  clear HBAD HGOOD hMA HMA HPR HV p1
                  generalize s.has x2 = z at *
                  generalize s.had x3 = zd at *
                  generalize s.slp x2 = zs at *
                  go_wp2; go_ret; exact ⟨by rw [HR7.out]; rfl, HBR.out⟩
                cases zd : s.had x3
                case true =>
                  have HR7 : Hid (toldErr ts k ds = 7) := HBAD.out 7 (by rw [HV.out, if_pos (Or.inr zd)]) (by omega)
                  rw [zd] at kd
                  clear HBAD HGOOD hMA HMA HPR HV p1 zd
                  generalize s.has x2 = z at *
                  generalize s.slp x2 = zs at *
                  go_wp2; go_ret; exact ⟨by rw [HR7.out]; rfl, HBR.out⟩
                case false =>
                  have hfr := freeR_any _ _ ts s.dn x3 _ HPR.out hx3 HR.out ⟨H + 2 + 1, 0, ts.length, rfl, hMA.dn.lt, fun j hj => by rw [Nat.zero_add]; exact hMA.dn.cell hj⟩
                  rw [if_neg (by rw [zd]; simp; omega)] at HV
                  obtain ⟨n0, n1, n2, n3⟩ := new_deed wr 3 (x2 : Int) (x3 : Int) (x4 : Int)
                  have HNN : Hid (∀ wf, Below (wr.alloc (.cells #[.int .i64 3, .int .i64 (x2 : Int), .int .i64 (x3 : Int), .int .i64 (x4 : Int)] 34)).heap.size (wr.alloc (.cells #[.int .i64 3, .int .i64 (x2 : Int), .int .i64 (x3 : Int), .int .i64 (x4 : Int)] 34)) wf → (wf.cell? ⟨wr.heap.size, 0, none⟩ = some (.int .i64 3) ∧ wf.cell? ⟨wr.heap.size, 1, none⟩ = some (.int .i64 (x2 : Int)) ∧ wf.cell? ⟨wr.heap.size, 2, none⟩ = some (.int .i64 (x3 : Int)) ∧ wf.cell? ⟨wr.heap.size, 3, none⟩ = some (.int .i64 (x4 : Int)))) := fun wf hbf => ⟨(hbf.cell (p := ⟨wr.heap.size, 0, none⟩) (by simp)).trans n0, (hbf.cell (p := ⟨wr.heap.size, 1, none⟩) (by simp)).trans n1, (hbf.cell (p := ⟨wr.heap.size, 2, none⟩) (by simp)).trans n2, (hbf.cell (p := ⟨wr.heap.size, 3, none⟩) (by simp)).trans n3⟩
                  rw [zd] at kd
                  generalize hzm : missing ts s.dn x3 = zm at hfr HV
                  clear n0 n1 n2 n3 hMA HPR p1 hzm
                  go_wp2_with fail
                  refine hfr.mono ?_
                  clear hfr
                  rintro e wf ⟨rfl, hbf⟩
                  have HMF : Hid (TM H k ts.length w1 wf s) := HMA.out.later hbf
                  have HBF : Hid (Below w.heap.size w wf) := HBR.out.trans (hbf.mono HBR.out.size)
                  obtain ⟨m0, m1, m2, m3⟩ := HNN.out wf hbf
                  have ks2 := HMF.out.slp.cell q1
                  have kh2 := HMF.out.has.cell q1
                  have fh2 := HMF.out.has.frozen x2
                  clear hbf HMA HNN HBR kh ks kd
                  cases zs : s.slp x2
                  case true =>
                    have HR6 : Hid (toldErr ts k ds = 6) := HBAD.out 6 (by rw [HV.out, if_pos (Or.inl zs)]) (by omega)
                    rw [zs] at ks2
                    clear HBAD HGOOD HMF HV zs zd z0
                    go_wp2; go_ret; exact ⟨by rw [HR6.out]; rfl, HBF.out⟩
                  case false =>
                    rw [zs] at ks2
                    cases zm
                    case true =>
                      have HR6 : Hid (toldErr ts k ds = 6) := HBAD.out 6 (by rw [HV.out, if_pos (Or.inr rfl)]) (by omega)
                      clear HBAD HGOOD HMF HV zs zd z0
                      go_wp2; go_ret; exact ⟨by rw [HR6.out]; rfl, HBF.out⟩
                    case false =>
                      rw [if_neg (by rw [zs]; simp)] at HV
                      have HG := HGOOD.out (by rw [HV.out, if_neg (by rintro ⟨h, _⟩; omega)]) ((wf.setCell ⟨H, x2, none⟩ (.int .i64 (x3 : Int))).setCell ⟨H + 2, x3, none⟩ (.bool true)) ((HMF.out.setHas x2 (x3 : Int)).setHad x3)
                      have m2b : (wf.setCell ⟨H, x2, none⟩ (.int .i64 (x3 : Int))).cell? ⟨wr.heap.size, 2, none⟩ = some (.int .i64 (x3 : Int)) := (World.cell?_setCell_other _ _ _ _ (by simp)).trans m2
                      have fd3 := (HMF.out.setHas x2 (x3 : Int)).had.frozen x3
                      have kd3 := (HMF.out.setHas x2 (x3 : Int)).had.cell hx3
                      obtain ⟨HG1, HG2⟩ := HG
                      clear HBAD HGOOD HMF HV zs
                      generalize s.has x2 = z at *
                      dsimp only at kd3
                      rw [zd] at kd3
                      clear zd
                      go_wp2
                      go_roundw
                      case rel => exact ⟨k2 + 1, by omega, by go_num, HG1, HG2⟩
                      case measure => simp [intOf]; omega
              · subst hx1
                have hx3 : x3 < ts.length := by omega
                have hx3i : (x3 : Int) < (ts.length : Int) := by omega
                rw [if_neg (by omega), if_pos rfl] at HV
                by_cases z0 : s.has x2 = (x3 : Int)
                · have HG := fun q => HGOOD.out (by rw [HV.out, if_pos z0]) ((((wr.alloc (.cells #[.int .i64 4, .int .i64 (x2 : Int), .int .i64 (x3 : Int), .int .i64 (x4 : Int)] 34)).drewN q).setCell ⟨H, x2, none⟩ (.int .i64 (-1))).setCell ⟨H + 2 + 1, x3, none⟩ (.bool true)) (((hMA.later (drewN_below _ q)).setHas x2 (-1)).setDn x3)
                  have HGG : Hid (∀ q, Hid (TM H k ts.length w1 ((((wr.alloc (.cells #[.int .i64 4, .int .i64 (x2 : Int), .int .i64 (x3 : Int), .int .i64 (x4 : Int)] 34)).drewN q).setCell ⟨H, x2, none⟩ (.int .i64 (-1))).setCell ⟨H + 2 + 1, x3, none⟩ (.bool true)) (trEnd trNew (ds.take (k2 + 1)))) ∧ Hid (trErrs ts k trNew (ds.take (k2 + 1)) = 0)) := HG
                  obtain ⟨n0, n1, n2, n3⟩ := new_deed wr 4 (x2 : Int) (x3 : Int) (x4 : Int)
                  have HM2 : Hid (∀ q, (((wr.alloc (.cells #[.int .i64 4, .int .i64 (x2 : Int), .int .i64 (x3 : Int), .int .i64 (x4 : Int)] 34)).drewN q).setCell ⟨H, x2, none⟩ (.int .i64 (-1))).cell? ⟨wr.heap.size, 2, none⟩ = some (.int .i64 (x3 : Int)) ∧ (((wr.alloc (.cells #[.int .i64 4, .int .i64 (x2 : Int), .int .i64 (x3 : Int), .int .i64 (x4 : Int)] 34)).drewN q).setCell ⟨H, x2, none⟩ (.int .i64 (-1))).frozen? ⟨H + 2 + 1, x3, none⟩ = false ∧ ∃ b, (((wr.alloc (.cells #[.int .i64 4, .int .i64 (x2 : Int), .int .i64 (x3 : Int), .int .i64 (x4 : Int)] 34)).drewN q).setCell ⟨H, x2, none⟩ (.int .i64 (-1))).cell? ⟨H + 2 + 1, x3, none⟩ = some (.bool b)) := fun q => ⟨(World.cell?_setCell_other _ _ _ _ (by simp)).trans n2, ((hMA.later (drewN_below _ q)).setHas x2 (-1)).dn.frozen x3, _, ((hMA.later (drewN_below _ q)).setHas x2 (-1)).dn.cell hx3⟩
                  have fh := hMA.has.frozen x2
                  rw [z0] at kh
                  clear HG HBAD HGOOD hMA HMA HPR HV p1 z0 ks
                  go_wp2
                  go_quiet (fail)
                  obtain ⟨m2, fd3, bb3, kd3⟩ := HM2.out nq
                  obtain ⟨HG1, HG2⟩ := HGG.out nq
                  clear HM2 HGG
                  go_wp2
                  go_roundw
                  case rel => exact ⟨k2 + 1, by omega, by go_num, HG1, HG2⟩
                  case measure => simp [intOf]; omega
                · have HR6 : Hid (toldErr ts k ds = 6) := HBAD.out 6 (by rw [HV.out, if_neg z0]) (by omega)
                  have z0b : (s.has x2 != (x3 : Int)) = true := by simp [z0]
                  have HBQ : Hid (∀ q, Below w.heap.size w ((wr.alloc (.cells #[.int .i64 4, .int .i64 (x2 : Int), .int .i64 (x3 : Int), .int .i64 (x4 : Int)] 34)).drewN q)) := fun q => HBR.out.trans ((drewN_below _ q).mono HBR.out.size)
                  clear HBAD HGOOD hMA HMA HPR HV p1 z0 ks
                  generalize s.has x2 = z at *
                  go_wp2
                  go_quiet (fail)
                  go_wp2; go_ret; exact ⟨by rw [HR6.out]; rfl, HBQ.out _⟩
              · subst hx1
                rw [if_neg (by omega), if_neg (by omega), if_pos rfl] at HV
                by_cases z0 : 0 ≤ s.has x2
                · have HR6 : Hid (toldErr ts k ds = 6) := HBAD.out 6 (by rw [HV.out, if_pos (Or.inl z0)]) (by omega)
                  clear HBAD HGOOD hMA HMA HPR HV p1
                  generalize s.has x2 = z at *
                  generalize s.slp x2 = zs at *
                  go_wp2; go_ret; exact ⟨by rw [HR6.out]; rfl, HBR.out⟩
                cases zs : s.slp x2
                case true =>
                  have HR6 : Hid (toldErr ts k ds = 6) := HBAD.out 6 (by rw [HV.out, if_pos (Or.inr zs)]) (by omega)
                  rw [zs] at ks
                  clear HBAD HGOOD hMA HMA HPR HV p1 zs
                  generalize s.has x2 = z at *
                  go_wp2; go_ret; exact ⟨by rw [HR6.out]; rfl, HBR.out⟩
                case false =>
                  obtain ⟨HG1, HG2⟩ := HGOOD.out (by rw [HV.out, if_neg (by rw [zs]; simp; omega)]) ((wr.alloc (.cells #[.int .i64 5, .int .i64 (x2 : Int), .int .i64 (x3 : Int), .int .i64 (x4 : Int)] 34)).setCell ⟨H + 1, x2, none⟩ (.bool true)) (hMA.setSlp x2 true)
                  have fs := hMA.slp.frozen x2
                  rw [zs] at ks
                  clear HBAD HGOOD hMA HMA HPR HV p1 zs
                  generalize s.has x2 = z at *
                  go_wp2
                  go_roundw
                  case rel => exact ⟨k2 + 1, by omega, by go_num, HG1, HG2⟩
                  case measure => simp [intOf]; omega
              · subst hx1
                rw [if_neg (by omega), if_neg (by omega), if_neg (by omega)] at HV
                cases zs : s.slp x2
                case false =>
                  have HR6 : Hid (toldErr ts k ds = 6) := HBAD.out 6 (by rw [HV.out, if_neg (by rw [zs]; simp)]) (by omega)
                  rw [zs] at ks
                  clear HBAD HGOOD hMA HMA HPR HV p1 zs
                  go_wp2; go_ret; exact ⟨by rw [HR6.out]; rfl, HBR.out⟩
                case true =>
                  obtain ⟨HG1, HG2⟩ := HGOOD.out (by rw [HV.out, if_pos zs]) ((wr.alloc (.cells #[.int .i64 6, .int .i64 (x2 : Int), .int .i64 (x3 : Int), .int .i64 (x4 : Int)] 34)).setCell ⟨H + 1, x2, none⟩ (.bool false)) (hMA.setSlp x2 false)
                  have fs := hMA.slp.frozen x2
                  rw [zs] at ks
                  clear HBAD HGOOD hMA HMA HPR HV p1 zs
                  go_wp2
                  go_roundw
                  case rel => exact ⟨k2 + 1, by omega, by go_num, HG1, HG2⟩
                  case measure => simp [intOf]; omega
          · have hke : k2 = ds.length := by omega
            subst hke
            have HR0 : Hid (toldErr ts k ds = 0) := by have h := hE.out; rw [List.take_length] at h; rw [HT.out]; exact h
            have HBE : Hid (Below w.heap.size w wr) := hBw
            clear hM hE hBw
            go_wp2
            go_ret
            exact ⟨by rw [HR0.out]; rfl, HBE.out⟩
end Go.Proofs.YtiekhigjllbalaaGreatDoor
