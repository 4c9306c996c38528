/- The document's gang: what it holds. -/
import Derived.Test.YtchbncgifefegaaDoorDgb
namespace Go.Proofs.YtchbncgifefegaaDoor
open Go.RowKit Go.Deep
open Spl.Dsp (Gq gArr)

/-- Of the tasks those of a list are marked, in a row of bools that is new. -/
structure Mk (n I : Nat) (L : List Int) (w wr : World) : Prop where
  size : w.heap.size = I
  below : Below I w wr
  row : wr.rowIs I 4 n (fun k => .bool (decide (((k : Nat) : Int) ∈ L)))
theorem Mk.congr {n I : Nat} {L L' : List Int} {w wr : World} (h : Mk n I L w wr) (e : ∀ x, x ∈ L ↔ x ∈ L') : Mk n I L' w wr :=
  ⟨h.size, h.below, h.row.congr (fun k _ => by simp only [e])⟩
theorem Mk.set {n I k : Nat} {L : List Int} {w wr : World} (h : Mk n I L w wr) : Mk n I (L ++ [((k : Nat) : Int)]) w (wr.setCell ⟨I, k, none⟩ (.bool true)) := by
  refine ⟨h.size, h.below.setCell (p := ⟨I, k, none⟩) (Nat.le_refl _) _, (h.row.set k (.bool true)).congr (fun j _ => ?_)⟩
  by_cases e : j = k
  · subst e; simp
  · rw [if_neg e]
    have : ¬ ((j : Nat) : Int) = ((k : Nat) : Int) := by omega
    simp [this]
theorem Mk.low {n I : Nat} {L : List Int} {w wr : World} (h : Mk n I L w wr) : Below w.heap.size w wr := by rw [h.size]; exact h.below
theorem take_snoc {l : List Int} {k : Nat} (h : k < l.length) : l.take (k + 1) = l.take k ++ [l.getD k 0] := by
  rw [List.take_succ_eq_append_getElem h, List.getD_eq_getElem?_getD, List.getElem?_eq_getElem h]; rfl
theorem getD_memI {l : List Int} {k : Nat} (h : k < l.length) : l.getD k 0 ∈ l := by
  rw [List.getD_eq_getElem?_getD, List.getElem?_eq_getElem h]; exact List.getElem_mem h
theorem made_none (w : World) (n : Nat) : Mk n w.heap.size [] w (w.alloc (.cells (madeCells #[.bool false] n) 4)) :=
  ⟨rfl, (Below.refl _ _).alloc (Nat.le_refl _) _, (World.rowIs_made w (.bool false) n 4).congr (fun k _ => by simp)⟩
/-- Those of the first so many tasks that are held. -/
def heldTo (L : List Int) (n : Nat) : List Nat := (List.range n).filter (fun k : Nat => decide (((k : Nat) : Int) ∈ L))
theorem heldTo_succ (L : List Int) (n : Nat) : heldTo L (n + 1) = heldTo L n ++ if ((n : Nat) : Int) ∈ L then [n] else [] := by
  unfold heldTo
  rw [List.range_succ, List.filter_append]
  by_cases h : ((n : Nat) : Int) ∈ L <;> simp [h]
theorem heldTo_len (L : List Int) (n : Nat) : (heldTo L n).length ≤ n := by
  have := List.length_filter_le (fun k : Nat => decide (((k : Nat) : Int) ∈ L)) (List.range n)
  simpa [heldTo] using this

set_option maxRecDepth 100000 in
set_option maxHeartbeats 8000000 in
theorem dHeld_any (M room hands : Nat) (ts : List (Int × List Int)) (p : Value) (g : Gs) (Bd : Bs) (w0 w : World) (h : DgE M room hands ts p g Bd w0 w) (h30 : ts.length ≤ 30) (h6 : hands ≤ 6) (h16 : room ≤ 16) (hall : ∀ x, x ∈ heldL g hands → ∃ k : Nat, x = ((k : Nat) : Int) ∧ k < ts.length) :
    Calls Tryd.prog 14 #[.pointer (some ⟨M, 0, none⟩)] w fun e w' => (∃ v, e = .returned v ∧ RowI w.heap.size w' v (intsOf (heldTo (heldL g hands) ts.length))) ∧ Below w.heap.size w w' := by
  obtain ⟨own, gq, vf, vh, HB, hc, DB, dc, Hk, vk, rfl, hD⟩ := h
  have HALL : Hid (∀ x, x ∈ heldL g hands → ∃ k : Nat, x = ((k : Nat) : Int) ∧ k < ts.length) := hall
  have HD : Hid (Dg M room hands ts g own gq vf vh HB hc DB dc Hk vk Bd w0 w) := hD
  obtain ⟨hc0, hc1, hc2, -, -, -⟩ := hD.c
  have hc5 := hD.md.c1
  have hc6 := hD.md.c2
  obtain ⟨fa, fc, hvf⟩ := hD.fr.shape
  obtain ⟨ha, hhc, hvh⟩ := hD.hp.shape
  obtain ⟨pl, pa, pc, hpv, -⟩ := hD.plan
  have hmk := fun wx => run_make_row' (P := Tryd.prog) 41 4 (.bool false) 1 Tryd.underlying41 Tryd.info4 rfl .i64 .i64 ts.length (by omega) (by omega) wx
  rw [hpv] at hc0
  rw [hD.hs] at hc1
  subst hvf hvh
  have hfl : (g.sp.take room).length ≤ 60 := by have := hD.le60; simp; omega
  have hhl : (g.sp.drop room).length ≤ 60 := by have := hD.le60; simp; omega
  have HSP : Hid (g.sp.take room ++ g.sp.drop room = g.sp) := List.take_append_drop _ _
  have HFR : Hid (RowI (M + 1) w (.slice fa (g.sp.take room).length fc) (g.sp.take room)) := hD.fr
  have HHP : Hid (RowI (M + 1) w (.slice ha (g.sp.drop room).length hhc) (g.sp.drop room)) := hD.hp
  have hMw := hD.ltM
  generalize g.sp.take room = F at *
  generalize g.sp.drop room = G at *
  have HF : Hid (∀ x, x ∈ F → x ∈ heldL g hands) := fun x hx => held_sp (by rw [← HSP.out]; simp [hx])
  have HG : Hid (∀ x, x ∈ G → x ∈ heldL g hands) := fun x hx => held_sp (by rw [← HSP.out]; simp [hx])
  obtain ⟨I, hI⟩ : ∃ I, I = w.heap.size := ⟨_, rfl⟩
  have HI : Hid (I = w.heap.size) := hI
  have HM0 : Hid (Mk ts.length I [] w (w.alloc (.cells (madeCells #[.bool false] ts.length) 4))) := by rw [hI]; exact made_none w _
  have hI' : w.heap.size = I := hI.symm
  clear hall hD hpv pl hI
  go_enter Tryd.func14, Tryd.ntmps14
  go_wp2
  go_loopw [4] (fun s4 wr => ∃ k : Nat, s4 = .int .i64 k ∧ k ≤ F.length ∧ Hid (Mk ts.length I (F.take k) w wr)) (fun s4 _ => F.length - (intOf s4).toNat)
  case atStart => exact ⟨0, rfl, Nat.zero_le _, by rw [List.take_zero]; exact HM0⟩
  case round =>
    clear HM0 hmk
    obtain ⟨k, rfl, hk, hM⟩ := hrel
    have c5 := (hM.out.low.cell (p := ⟨M, 5, none⟩) hMw).trans hc5
    by_cases hkl : k < F.length
    · have hkl' : (k : Int) < (F.length : Int) := by omega
      obtain ⟨gb, gc, hv, hglo, hglt, -⟩ := HFR.out.full (by omega)
      simp only [Value.slice.injEq] at hv
      obtain ⟨rfl, -, rfl⟩ := hv
      have hcx := (hM.out.low.cell (p := ⟨gb, k, none⟩) hglt).trans (HFR.out.cell hkl)
      obtain ⟨j, hj, hjn⟩ := HALL.out _ (HF.out _ (getD_memI hkl))
      rw [hj] at hcx
      have hM2 : Hid (Mk ts.length I (F.take (k + 1)) w (wr.setCell ⟨I, j, none⟩ (.bool true))) := by rw [take_snoc hkl, hj]; exact hM.out.set
      have hci := hM.out.row.cell hjn
      have hfz := hM.out.row.frozen j
      generalize decide (((j : Nat) : Int) ∈ F.take k) = bb at hci
      have hjn' : (j : Int) < (ts.length : Int) := by omega
      clear hM hj
      go_wp2
      go_roundw
      case rel => exact ⟨k + 1, by go_num, by omega, hM2⟩
      case measure => simp [intOf]; omega
    · have hkl' : ¬ (k : Int) < (F.length : Int) := by omega
      have HM1 : Hid (Mk ts.length I (F ++ G.take 0) w wr) := by show Mk _ _ _ _ _; have := hM.out; rw [List.take_of_length_le (by omega)] at this; simpa using this
      clear hM
      go_wp2
      go_loopw [5] (fun s5 wr => ∃ k : Nat, s5 = .int .i64 k ∧ k ≤ G.length ∧ Hid (Mk ts.length I (F ++ G.take k) w wr)) (fun s5 _ => G.length - (intOf s5).toNat)
      case atStart => exact ⟨0, rfl, Nat.zero_le _, HM1⟩
      case round =>
        clear HM1 c5
        obtain ⟨k, rfl, hk, hM⟩ := hrel
        have c6 := (hM.out.low.cell (p := ⟨M, 6, none⟩) hMw).trans hc6
        by_cases hkl : k < G.length
        · have hkl' : (k : Int) < (G.length : Int) := by omega
          obtain ⟨gb, gc, hv, hglo, hglt, -⟩ := HHP.out.full (by omega)
          simp only [Value.slice.injEq] at hv
          obtain ⟨rfl, -, rfl⟩ := hv
          have hcx := (hM.out.low.cell (p := ⟨gb, k, none⟩) hglt).trans (HHP.out.cell hkl)
          obtain ⟨j, hj, hjn⟩ := HALL.out _ (HG.out _ (getD_memI hkl))
          rw [hj] at hcx
          have hM2 : Hid (Mk ts.length I (F ++ G.take (k + 1)) w (wr.setCell ⟨I, j, none⟩ (.bool true))) := by rw [take_snoc hkl, hj, ← List.append_assoc]; exact hM.out.set
          have hci := hM.out.row.cell hjn
          have hfz := hM.out.row.frozen j
          generalize decide (((j : Nat) : Int) ∈ F ++ G.take k) = bb at hci
          have hjn' : (j : Int) < (ts.length : Int) := by omega
          clear hM hj
          go_wp2
          go_roundw
          case rel => exact ⟨k + 1, by go_num, by omega, hM2⟩
          case measure => simp [intOf]; omega
        · have hkl' : ¬ (k : Int) < (G.length : Int) := by omega
          have HM2 : Hid (Mk ts.length I (ofAll g 0 ++ g.sp) w wr) := by have := hM.out; rw [List.take_of_length_le (by omega), HSP.out] at this; exact this
          clear hM
          go_wp2
          go_loopw [6] (fun s6 wr => ∃ k : Nat, s6 = .int .i64 k ∧ k ≤ hands ∧ Hid (Mk ts.length I (ofAll g k ++ g.sp) w wr)) (fun s6 _ => hands - (intOf s6).toNat)
          case atStart => exact ⟨0, rfl, Nat.zero_le _, HM2⟩
          case round =>
            clear HM2 c6 hc5 hc6
            obtain ⟨k, rfl, hk, hM⟩ := hrel
            have c1 := (hM.out.low.cell (p := ⟨M, 1, none⟩) hMw).trans hc1
            by_cases hkl : k < hands
            · have hkl' : (k : Int) < (hands : Int) := by omega
              obtain ⟨tb, tc, htv, -, htlt, -⟩ := HD.out.tk.full (by rw [upto_length]; omega)
              rw [upto_length] at htv
              have htk := HD.out.tk
              rw [htv] at htk
              have hct := htk.cell (k := k) (by rw [upto_length]; exact hkl)
              rw [upto_getD _ hkl] at hct
              have hc2' := hc2
              rw [htv] at hc2'
              have hmh := HD.out.hand k hkl
              have hHlt := hmh.lt
              have hnr := hmh.near
              obtain ⟨ra, rc, hvk⟩ := hmh.row.shape
              have hh1 := hmh.c1
              have hh2 := hmh.c2
              rw [hvk] at hh2
              have HRG : Hid (RowI (Hk k + 1) w (.slice ra (g.ring k).length rc) (g.ring k)) := by rw [← hvk]; exact hmh.row
              have hr16 : (g.ring k).length ≤ 16 := by have := hmh.le; omega
              have hcp := HD.out.hcell k hkl
              have hHB := HD.out.hblt
              have HT : Hid (0 ≤ g.task k → g.task k ∈ heldL g hands) := held_task hkl
              have HN : Hid (g.near k ≠ -1 → g.near k ∈ heldL g hands) := held_near hkl
              have HRI : Hid (∀ x, x ∈ g.ring k → x ∈ heldL g hands) := fun x hx => held_ring hkl hx
              have HEND : Hid (∀ x, x ∈ ofAll g k ++ g.sp ++ oneT (g.task k) ++ oneT (g.near k) ++ g.ring k ↔ x ∈ ofAll g (k + 1) ++ g.sp) := by
                intro x
                rw [ofAll, ofH]
                rcases hnr with e | e
                · rw [e, allH_none, oneT_none]; simp only [List.mem_append, List.append_nil]; grind
                · rw [allH_some (by omega), oneT_some e]; simp only [List.mem_append, List.mem_singleton]; grind
              have HC : Hid (∀ wx, Below w.heap.size w wx → wx.cell? ⟨M, 1, none⟩ = some (.slice (some ⟨HB, 0, none⟩) hands hc) ∧ wx.cell? ⟨M, 2, none⟩ = some (.slice (some ⟨tb, 0, none⟩) hands tc) ∧ wx.cell? ⟨tb, k, none⟩ = some (.int .i64 (g.task k)) ∧ wx.cell? ⟨HB, k, none⟩ = some (.pointer (some ⟨Hk k, 0, none⟩)) ∧ wx.cell? ⟨Hk k, 1, none⟩ = some (.int .i64 (g.near k)) ∧ wx.cell? ⟨Hk k, 2, none⟩ = some (.slice ra (g.ring k).length rc)) := fun wx hb =>
                ⟨(hb.cell (p := ⟨M, 1, none⟩) hMw).trans hc1, (hb.cell (p := ⟨M, 2, none⟩) hMw).trans hc2', (hb.cell (p := ⟨tb, k, none⟩) htlt).trans hct, (hb.cell (p := ⟨HB, k, none⟩) hHB).trans hcp, (hb.cell (p := ⟨Hk k, 1, none⟩) hHlt).trans hh1, (hb.cell (p := ⟨Hk k, 2, none⟩) hHlt).trans hh2⟩
              generalize g.task k = t at *
              generalize g.near k = nr at *
              generalize g.ring k = rg at *
              clear hmh htk htv hvk hct hc2' hcp hh1 hh2 c1
              obtain ⟨d1, d2, d3, d4, d5, d6⟩ := HC.out wr hM.out.low
              go_upto_if 72 with fail
              go_cut [] from 56 to 134 (fun wx => Hid (Mk ts.length I (ofAll g k ++ g.sp ++ oneT t) w wx))
              case first => as_aux_lemma =>
                by_cases ht : 0 ≤ t
                · obtain ⟨j, rfl, hjn⟩ := HALL.out _ (HT.out ht)
                  have hM2 : Hid (Mk ts.length I (ofAll g k ++ g.sp ++ oneT ((j : Nat) : Int)) w (wr.setCell ⟨I, j, none⟩ (.bool true))) := by rw [oneT_some ht]; exact hM.out.set
                  have hci := hM.out.row.cell hjn
                  have hfz := hM.out.row.frozen j
                  generalize decide (((j : Nat) : Int) ∈ ofAll g k ++ g.sp) = bb at hci
                  have hjn' : (j : Int) < (ts.length : Int) := by omega
                  clear hM
                  go_wp2
                  go_meet
                  exact hM2
                · have e : oneT t = [] := by simp [oneT, ht]
                  have hM2 : Hid (Mk ts.length I (ofAll g k ++ g.sp ++ oneT t) w wr) := by rw [e, List.append_nil]; exact hM
                  clear e
                  go_wp2
                  go_meet
                  exact hM2
              case rest => as_aux_lemma =>
                clear hM d1 d2 d3 d4 d5 d6
                obtain ⟨wb, rfl⟩ : ∃ wb, wb = wc := ⟨_, rfl⟩
                obtain ⟨d1, d2, d3, d4, d5, d6⟩ := HC.out wb hcut.out.low
                go_upto_if 92 with fail
                have hMb := hcut
                clear hcut
                go_cut [] from 56 to 134 (fun wx => Hid (Mk ts.length I (ofAll g k ++ g.sp ++ oneT t ++ oneT nr) w wx))
                case first => as_aux_lemma =>
                  by_cases ht : 0 ≤ nr
                  · obtain ⟨j, rfl, hjn⟩ := HALL.out _ (HN.out (by omega))
                    have hM2 : Hid (Mk ts.length I (ofAll g k ++ g.sp ++ oneT t ++ oneT ((j : Nat) : Int)) w (wb.setCell ⟨I, j, none⟩ (.bool true))) := by rw [oneT_some ht]; exact hMb.out.set
                    have hci := hMb.out.row.cell hjn
                    have hfz := hMb.out.row.frozen j
                    generalize decide (((j : Nat) : Int) ∈ ofAll g k ++ g.sp ++ oneT t) = bb at hci
                    have hjn' : (j : Int) < (ts.length : Int) := by omega
                    clear hMb
                    go_wp2
                    go_meet
                    exact hM2
                  · have e : oneT nr = [] := by simp [oneT, ht]
                    have hM2 : Hid (Mk ts.length I (ofAll g k ++ g.sp ++ oneT t ++ oneT nr) w wb) := by rw [e, List.append_nil]; exact hMb
                    clear e
                    go_wp2
                    go_meet
                    exact hM2
                case rest => as_aux_lemma =>
                  clear hMb d1 d2 d3 d4 d5 d6
                  have HM3 : Hid (Mk ts.length I (ofAll g k ++ g.sp ++ oneT t ++ oneT nr ++ rg.take 0) w wc) := by rw [List.take_zero, List.append_nil]; exact hcut
                  clear hcut
                  go_wp2
                  go_loopw [7] (fun s7 wr => ∃ i : Nat, s7 = .int .i64 i ∧ i ≤ rg.length ∧ Hid (Mk ts.length I (ofAll g k ++ g.sp ++ oneT t ++ oneT nr ++ rg.take i) w wr)) (fun s7 _ => rg.length - (intOf s7).toNat)
                  case atStart => exact ⟨0, rfl, Nat.zero_le _, HM3⟩
                  case round =>
                    clear HM3
                    obtain ⟨i, rfl, hi, hM⟩ := hrel
                    obtain ⟨d1, d2, d3, d4, d5, d6⟩ := HC.out wr hM.out.low
                    by_cases hil : i < rg.length
                    · have hil' : (i : Int) < (rg.length : Int) := by omega
                      obtain ⟨gb, gc, hv, -, hglt, -⟩ := HRG.out.full (by omega)
                      simp only [Value.slice.injEq] at hv
                      obtain ⟨rfl, -, rfl⟩ := hv
                      have hcx := (hM.out.low.cell (p := ⟨gb, i, none⟩) hglt).trans (HRG.out.cell hil)
                      obtain ⟨j, hj, hjn⟩ := HALL.out _ (HRI.out _ (getD_memI hil))
                      rw [hj] at hcx
                      have hM2 : Hid (Mk ts.length I (ofAll g k ++ g.sp ++ oneT t ++ oneT nr ++ rg.take (i + 1)) w (wr.setCell ⟨I, j, none⟩ (.bool true))) := by rw [take_snoc hil, hj, ← List.append_assoc]; exact hM.out.set
                      have hci := hM.out.row.cell hjn
                      have hfz := hM.out.row.frozen j
                      generalize decide (((j : Nat) : Int) ∈ ofAll g k ++ g.sp ++ oneT t ++ oneT nr ++ rg.take i) = bb at hci
                      have hjn' : (j : Int) < (ts.length : Int) := by omega
                      clear hM hj
                      go_wp2
                      go_roundw
                      case rel => exact ⟨i + 1, by go_num, by omega, hM2⟩
                      case measure => simp [intOf]; omega
                    · have hil' : ¬ (i : Int) < (rg.length : Int) := by omega
                      have hM4 : Hid (Mk ts.length I (ofAll g (k + 1) ++ g.sp) w wr) := by have := hM.out; rw [List.take_of_length_le (by omega)] at this; exact this.congr HEND.out
                      clear hM
                      go_wp2
                      go_roundw
                      case rel => exact ⟨k + 1, by go_num, by omega, hM4⟩
                      case measure => simp [intOf]; omega
            · have hkl' : ¬ (k : Int) < (hands : Int) := by omega
              obtain rfl : k = hands := by omega
              obtain ⟨L, hL⟩ : ∃ L, L = heldL g k := ⟨_, rfl⟩
              have HLL : Hid (L = heldL g k) := hL
              have hM' : Hid (Mk ts.length I L w wr) := by rw [hL]; exact hM
              clear hM hL
              have hM := hM'
              clear hM'
              go_wp2
              go_loopw [8, 9] (fun s8 s9 wr => ∃ i : Nat, s9 = .int .i64 i ∧ i ≤ ts.length ∧ Hid (Mk ts.length I L w wr) ∧ Hid (RowI (I + 1) wr s8 (intsOf (heldTo L i)))) (fun _ s9 _ => ts.length - (intOf s9).toNat)
              case atStart => exact ⟨0, rfl, Nat.zero_le _, hM, RowI.nil _ _⟩
              case round =>
                clear hM c1
                obtain ⟨i, rfl, hi, hM, hR⟩ := hrel
                obtain ⟨oa, oc, hov⟩ := hR.out.shape
                subst hov
                have hol : (intsOf (heldTo L i)).length ≤ 30 := by rw [intsOf_length]; have := heldTo_len L i; omega
                by_cases hil : i < ts.length
                · have hil' : (i : Int) < (ts.length : Int) := by omega
                  have hci := hM.out.row.cell hil
                  have hs := heldTo_succ L i
                  have hIl := hM.out.row.lt
                  by_cases hmem : ((i : Nat) : Int) ∈ L
                  · have hdt : decide (((i : Nat) : Int) ∈ L) = true := by simp [hmem]
                    rw [hdt] at hci
                    have HS : Hid (intsOf (heldTo L (i + 1)) = intsOf (heldTo L i) ++ [(i : Int)]) := by show _ = _; rw [hs, if_pos hmem]; simp [intsOf]
                    have HO : Hid (Rds (fun _ => True) (wr.alloc (.cells #[.int .i64 i] 3)) (.slice (some ⟨wr.heap.size, 0, none⟩) 1 1) [(i : Int)]) := one_rds wr i
                    clear hs hmem hdt
                    generalize intsOf (heldTo L i) = l at *
                    go_wp2_with (first | (at_builtin; refine wpList_append_rows rfl (.tmp 145) (.tmp 147) rfl (I + 1) (fun _ => True) (.slice oa l.length oc) (.slice (some ⟨wr.heap.size, 0, none⟩) 1 1) l [(i : Int)] rfl rfl (hR.out.alloc _) HO.out (by simp; omega) (by simp; omega) ?_; intro v2 w2 hown hgr hat))
                    have hI2 : w2.heap[I]? = wr.heap[I]? := (hgr.block I (by simp; omega) (fun e => by have := (hR.out.low e.symm).1; omega)).trans (Below.heap_alloc _ _ _ hIl)
                    have hM2 : Hid (Mk ts.length I L w w2) := ⟨hM.out.size, (hM.out.below.alloc (by omega) _).grown hgr (by simp; omega) (fun j e => by have := (hR.out.low e).1; omega), hM.out.row.of_block hI2⟩
                    have hR2 : Hid (RowI (I + 1) w2 v2 (intsOf (heldTo L (i + 1)))) := by rw [HS.out]; exact hown
                    clear hown hgr hat hM hR HO
                    go_wp2
                    go_roundw
                    case rel => exact ⟨i + 1, by go_num, by omega, hM2, hR2⟩
                    case measure => simp [intOf]; omega
                  · have hdt : decide (((i : Nat) : Int) ∈ L) = false := by simp [hmem]
                    rw [hdt] at hci
                    have hR2 : Hid (RowI (I + 1) wr (.slice oa (intsOf (heldTo L i)).length oc) (intsOf (heldTo L (i + 1)))) := by rw [hs, if_neg hmem, List.append_nil]; exact hR
                    clear hs hmem hdt hR
                    go_wp2
                    go_roundw
                    case rel => exact ⟨i + 1, by go_num, by omega, hM, hR2⟩
                    case measure => simp [intOf]; omega
                · have hil' : ¬ (i : Int) < (ts.length : Int) := by omega
                  obtain rfl : i = ts.length := by omega
                  go_wp2
                  go_ret
                  exact ⟨⟨_, rfl, by rw [← HLL.out]; exact hR.out.mono (Nat.le_succ _)⟩, hM.out.below⟩
end Go.Proofs.YtchbncgifefegaaDoor
