/- The document's own Read. -/
import Derived.Test.YtfmmfapfgpckfaaGreatDoorRh
namespace Go.Proofs.YtfmmfapfgpckfaaGreatDoor
open Go.RowKit Go.Deep

theorem cutG_any (l : List UInt8) (c : UInt8) (w : World) (hs : l.length ≤ 1048576) :
    Calls Tryz.prog 30 #[.string ⟨l.toArray⟩, .int .u8 (c.toNat : Int)] w fun e w' => (∃ g cap, e = .returned (.slice (some ⟨g, 0, none⟩) (splitC c l).length cap) ∧ w.heap.size ≤ g ∧ g < w'.heap.size ∧ ∀ k, k < (splitC c l).length → w'.cell? ⟨g, k, none⟩ = some (.string ⟨((splitC c l).getD k []).toArray⟩)) ∧ Below w.heap.size w w' := by
  refine (cutR_any l c w hs).mono ?_
  rintro e w' ⟨⟨ov, rfl, ho⟩, hb⟩
  refine ⟨?_, hb⟩
  obtain ⟨g, cap, rfl, hlt, hc⟩ := strs_of_owns ho (splitC_ne c l)
  exact ⟨g, cap, rfl, (ho.lt g rfl).1, hlt, hc⟩

theorem grown_two {W2 wq w6 : World} {tb : Nat} {row : Option Nat} (h : W2.grownBy wq (some tb)) (hb : wq.grownBy w6 row) (hr : ∀ j, row = some j → W2.heap.size ≤ j) : W2.grownBy w6 (some tb) :=
  ⟨hb.os.trans h.os, hb.tape.trans h.tape, hb.output.trans h.output, Nat.le_trans h.size hb.size, fun k hk hne =>
    (hb.block k (Nat.lt_of_lt_of_le hk h.size) (fun e => by have := hr k e.symm; omega)).trans (h.block k hk hne)⟩
theorem grown_set {W2 wq : World} {tb j : Nat} (h : W2.grownBy wq (some tb)) (v : Value) : W2.grownBy (wq.setCell ⟨tb, j, none⟩ v) (some tb) :=
  ⟨h.os, h.tape, h.output, by simpa [World.setCell] using h.size, fun k hk hne => (blk_setCell_other _ _ _ _ (fun e => hne (by rw [e]))).trans (h.block k hk hne)⟩
theorem grown_below {w w' : World} (h : Below w.heap.size w w') (row : Option Nat) : w.grownBy w' row := ⟨h.os, h.tape, h.output, h.size, fun k hk _ => h.block k hk⟩
theorem pair_set {W : World} {k : Nat} {x y b : Value} {t : TypeId} (h : W.heap[k]? = some (.cells #[x, y] t (0, 0))) : (W.setCell ⟨k, 1, none⟩ b).heap[k]? = some (.cells #[x, b] t (0, 0)) := by
  simp [World.setCell, Array.getElem?_modify, h]
theorem pair_cells {W : World} {k : Nat} {x y : Value} {t : TypeId} (h : W.heap[k]? = some (.cells #[x, y] t (0, 0))) : W.cell? ⟨k, 0, none⟩ = some x ∧ W.cell? ⟨k, 1, none⟩ = some y ∧ W.frozen? ⟨k, 1, none⟩ = false := by
  simp [World.cell?, World.frozen?, h]

set_option maxRecDepth 100000 in
set_option maxHeartbeats 16000000 in
theorem readR_some (b : UInt8) (r : List UInt8) (w : World) (hs : (b :: r).length ≤ 1048576) :
    Calls Tryz.prog 14 #[.string ⟨(b :: r).toArray⟩] w fun e w' => ((tasksOf (b :: r) = none ∧ e = .returned (.tuple #[.slice none 0 0, .int .i64 2])) ∨ (∃ ts p q, tasksOf (b :: r) = some ts ∧ CheckIs ts p q ∧ ((q ≠ 0 ∧ e = .returned (.tuple #[.slice none 0 0, .int .i64 q])) ∨ (q = 0 ∧ ∃ v, e = .returned (.tuple #[v, .int .i64 0]) ∧ PlanAt w' v ts)))) ∧ Below w.heap.size w w' := by
  obtain ⟨i30, hi30, hz0, hz1, hz2⟩ := info_parts Tryz.info48
  obtain ⟨i3, hi3, hy0, hy1, hy2⟩ := info_parts Tryz.info3
  have hcut := cutG_any (b :: r) 32 w hs
  have HT : Hid (tasksOf (b :: r) = allOf taskOf (splitC 32 (b :: r))) := by unfold tasksOf; rw [if_neg (by simp)]; rfl
  have HSH : Hid (∀ p, p ∈ splitC 32 (b :: r) → p.length ≤ 1048576) := fun p hp => Nat.le_trans (split_short 32 _ p hp) hs
  have hwl := splitC_len 32 (b :: r)
  go_enter Tryz.func14, Tryz.ntmps14
  go_wp2_with fail
  refine hcut.mono ?_
  rintro e w1 ⟨⟨g, gc, rfl, _, hg, hcs⟩, hb1⟩
  have HCS : Hid (∀ k, k < (splitC 32 (b :: r)).length → w1.cell? ⟨g, k, none⟩ = some (.string ⟨((splitC 32 (b :: r)).getD k []).toArray⟩)) := hcs
  clear hcut hcs
  generalize splitC 32 (b :: r) = words at *
  have hwl2 : words.length ≤ 1048577 := by omega
  clear hwl hs
  go_wp2
  go_loopw [4, 6] (fun s4 s6 wr => ∃ i : Nat, ∃ ts, i ≤ words.length ∧ s6 = .int .i64 i ∧ Hid (OwnTasks w1.heap.size wr s4 ts) ∧ Hid (allOf taskOf (words.take i) = some ts) ∧ Hid (Few ts) ∧ Below w1.heap.size w1 wr) (fun _ s6 _ => words.length - (intOf s6).toNat)
  case atStart => exact ⟨0, [], Nat.zero_le _, rfl, OwnTasks.nil _ _, rfl, fun t ht => by simp at ht, Below.refl _ _⟩
  case round =>
    obtain ⟨i, ts, hi, rfl, hown, hall, hfew, hb⟩ := hrel
    have hBr : Below w.heap.size w wr := hb1.trans (hb.mono hb1.size)
    have htl : ts.length ≤ words.length := by have := allOf_len _ _ _ hall.out; rw [this]; simp; omega
    by_cases hil : i < words.length
    · have hcell := (hb.cell (p := ⟨g, i, none⟩) hg).trans (HCS.out i hil)
      have hxm : words.getD i [] ∈ words := by rw [List.getD_eq_getElem?_getD, List.getElem?_eq_getElem hil]; exact List.getElem_mem hil
      have hxl := HSH.out _ hxm
      have hxe : words.getD i [] = words[i] := by rw [List.getD_eq_getElem?_getD, List.getElem?_eq_getElem hil]; rfl
      have HBAD : Hid (taskOf (words.getD i []) = none → tasksOf (b :: r) = none) := fun h => by rw [HT.out]; exact allOf_mem taskOf _ _ hxm h
      have HGOOD : Hid (∀ t, taskOf (words.getD i []) = some t → allOf taskOf (words.take (i + 1)) = some (ts ++ [t])) := fun t h => by
        rw [List.take_succ_eq_append_getElem hil, ← hxe]; exact allOf_snoc _ _ _ _ _ hall.out h
      have HFEW : Hid (∀ t, taskOf (words.getD i []) = some t → Few (ts ++ [t])) := fun t h => by
        intro t' ht
        rcases List.mem_append.1 ht with h' | h'
        · exact hfew.out t' h'
        · have := taskOf_len _ _ h
          rw [List.mem_singleton.1 h']; omega
      clear hxm hxe hall hfew
      generalize words.getD i [] = x at *
      have hc60 := cutG_any x 60 wr hxl
      have HSX : Hid (∀ p, p ∈ splitC 60 x → p.length ≤ 1048576) := fun p hp => Nat.le_trans (split_short 60 _ p hp) hxl
      go_wp2_with fail
      refine hc60.mono ?_
      rintro e w2 ⟨⟨g2, gc2, rfl, hg2a, hg2, hcs2⟩, hb2⟩
      clear hc60 hcell
      have hB2 : Below w.heap.size w w2 := hBr.trans (hb2.mono hBr.size)
      have hB12 : Below w1.heap.size w1 w2 := hb.trans (hb2.mono hb.size)
      have HOW2 : Hid (OwnTasks w1.heap.size w2 _ ts) := hown.out.later hb2
      clear hown hb2 hBr hb
      have HSP : Hid (splitC 60 x = splitC 60 x) := rfl
      obtain ⟨P, hP⟩ : ∃ P, P = splitC 60 x := ⟨_, rfl⟩
      rw [← hP] at hcs2 HSX ⊢
      have HP : Hid (splitC 60 x = P) := hP.symm
      clear hP HSP
      cases P with
      | nil => exact absurd HP.out (splitC_ne 60 x)
      | cons p0 ps =>
        have hc0 : w2.cell? ⟨g2, 0, none⟩ = some (.string ⟨p0.toArray⟩) := hcs2 0 (by simp)
        have hn0 := numberR_any p0 w2 (HSX.out p0 (by simp))
        go_wp2_with fail
        refine hn0.mono ?_
        rintro e w3 ⟨rfl, hb3⟩
        clear hn0
        have hB3 : Below w.heap.size w w3 := hB2.trans (hb3.mono hB2.size)
        have hB13 : Below w1.heap.size w1 w3 := hB12.trans (hb3.mono hB12.size)
        have HOW3 : Hid (OwnTasks w1.heap.size w3 _ ts) := HOW2.out.later hb3
        cases hnum : numOf p0 with
        | none =>
          have HNO : Hid (tasksOf (b :: r) = none) := HBAD.out (task_bad x p0 ps HP.out hnum)
          clear HBAD hnum
          go_wp2
          go_ret2
          exact ⟨Or.inl ⟨HNO.out, rfl⟩, hB3⟩
        | some n =>
          cases ps with
          | nil =>
            have htk := task_one x p0 n HP.out hnum
            have HA : Hid (allOf taskOf (words.take (i + 1)) = some (ts ++ [((n : Int), [])])) := HGOOD.out _ htk
            have HF : Hid (Few (ts ++ [((n : Int), [])])) := HFEW.out _ htk
            clear htk hnum HBAD HGOOD HFEW
            have hBX : Below w1.heap.size w1 (w3.alloc (.cells #[.int .i64 (n : Nat), .slice none 0 0] 48)) := hB13.alloc hB13.size _
            have hownX := HOW3.out.later (w' := w3.alloc (.cells #[.int .i64 (n : Nat), .slice none 0 0] 48)) ((Below.refl _ _).alloc (Nat.le_refl _) _)
            have hrowX : NeedsRow (w3.alloc (.cells #[.int .i64 (n : Nat), .slice none 0 0] 48)) (.slice none 0 0) [] := NeedsRow.nil _
            have hbA : Below (w3.alloc (.cells #[.int .i64 (n : Nat), .slice none 0 0] 48)).heap.size (w3.alloc (.cells #[.int .i64 (n : Nat), .slice none 0 0] 48)) ((w3.alloc (.cells #[.int .i64 (n : Nat), .slice none 0 0] 48)).alloc (.cells #[.int .i64 (n : Nat), .slice none 0 0] 48)) := (Below.refl _ _).alloc (Nat.le_refl _) _
            obtain ⟨xs, ho, hx⟩ := hownX.later hbA
            have HR : Hid (NeedsRow ((w3.alloc (.cells #[.int .i64 (n : Nat), .slice none 0 0] 48)).alloc (.cells #[.int .i64 (n : Nat), .slice none 0 0] 48)) (.slice none 0 0) []) := hrowX.later hbA
            have HX : Hid (∀ j, j < ts.length → xs[j * 2]? = some (.int .i64 (ts.getD j (0, [])).1) ∧ ∃ nv, xs[j * 2 + 1]? = some nv ∧ NeedsRow ((w3.alloc (.cells #[.int .i64 (n : Nat), .slice none 0 0] 48)).alloc (.cells #[.int .i64 (n : Nat), .slice none 0 0] 48)) nv (needsOf ts j)) := hx
            clear hx hownX hrowX
            go_wp2_with (at_builtin; (refine wpList_append_own _ rfl (.tmp 74) (.tmp 76) 23 rfl w1.heap.size 48 i30 (.agg #[.int .i64 0, .slice none 0 0]) 2 32 Tryz.underlying23 hi30 hz0 hz1 hz2 rfl (by decide) _ ts.length xs rfl ho ⟨w3.heap.size + 1, 0, none⟩ 1 1 [.int .i64 (n : Nat), .slice none 0 0] rfl rfl ?c1 ?c2 ?c3 ?c4 ?c5 ?_))
            case c1 =>
              have h2 := cell_two_new ((w3.alloc (.cells #[.int .i64 (n : Nat), .slice none 0 0] 48))) (.int .i64 (n : Nat)) (.slice none 0 0) 48
              rw [nblk_alloc] at h2
              exact h2
            case c2 => intro u hu; simp at hu; rcases hu with rfl | rfl <;> rfl
            case c3 => unfold maxLen; omega
            case c4 => omega
            case c5 => have := hBX.size; simp at this ⊢; omega
            intro v' w9 hown' hgrow _
            have hB9 : Below w1.heap.size w1 w9 := (hBX.trans (hbA.mono hBX.size)).grown hgrow (by have := hBX.size; simp at this ⊢; omega) (fun j e => (ho.lt j e).1)
            have HO : Hid (OwnTasks w1.heap.size w9 v' (ts ++ [((n : Int), [])])) := OwnTasks.append ho HX.out HR.out hown' hgrow
            clear hown' hgrow ho hbA HX HR
            go_wp2
            go_roundw
            case rel => exact ⟨i + 1, _, by omega, by go_num, HO, HA, HF, hB9⟩
            case measure => simp [intOf]; omega
          | cons p1 ps =>
            cases ps with
            | nil =>
              have hc1 : w2.cell? ⟨g2, 1, none⟩ = some (.string ⟨p1.toArray⟩) := hcs2 1 (by simp)
              have HTW : Hid (taskOf x = (numsOf p1).map (fun ns => ((n : Int), ns))) := task_two x p0 p1 n HP.out hnum
              have hbA : Below w3.heap.size w3 (w3.alloc (.cells #[.int .i64 (n : Nat), .slice none 0 0] 48)) := (Below.refl _ _).alloc (Nat.le_refl _) _
              have hc1' := ((hb3.trans (hbA.mono hb3.size)).cell (p := ⟨g2, 1, none⟩) hg2).trans hc1
              have hc44 := cutG_any p1 44 (w3.alloc (.cells #[.int .i64 (n : Nat), .slice none 0 0] 48)) (HSX.out p1 (by simp))
              have HSY : Hid (∀ p, p ∈ splitC 44 p1 → p.length ≤ 1048576) := fun p hp => Nat.le_trans (split_short 44 _ p hp) (HSX.out p1 (by simp))
              have hYl := splitC_len 44 p1
              have hp1l := HSX.out p1 (by simp)
              clear hcs2 hc0 hnum hc1
              go_wp2_with fail
              refine hc44.mono ?_
              rintro e w4 ⟨⟨g4, gc4, rfl, hg4a, hg4, hcs4⟩, hb4⟩
              have htb4 : w3.heap.size < w4.heap.size := by have := hb4.size; simp at this; omega
              have HT4 : Hid (w4.heap[w3.heap.size]? = some (.cells #[.int .i64 (n : Nat), .slice none 0 0] 48 (0, 0))) := (hb4.block _ (by simp)).trans (heap_alloc_new w3 _)
              have hb34 : Below w3.heap.size w3 w4 := hbA.trans (hb4.mono (by simp))
              have hB14 : Below w1.heap.size w1 w4 := hB13.trans (hb34.mono hB13.size)
              have HNS : Hid (numsOf p1 = (allOf numOf (splitC 44 p1)).map (List.map Int.ofNat)) := rfl
              have HCS4 : Hid (∀ k, k < (splitC 44 p1).length → w4.cell? ⟨g4, k, none⟩ = some (.string ⟨((splitC 44 p1).getD k []).toArray⟩)) := hcs4
              have hg4b : w3.heap.size < g4 := by simp at hg4a; omega
              have htw1 := hB13.size
              clear hc44 hcs4 hc1' hb4 hbA HOW2 hg4a hb3
              generalize splitC 44 p1 = Y at *
              have hYl2 : Y.length ≤ 1048577 := by omega
              clear hYl hp1l
              go_wp2
              go_loopw [12] (fun s12 wr => ∃ k : Nat, ∃ ns nv, k ≤ Y.length ∧ s12 = .int .i64 k ∧ Hid (allOf numOf (Y.take k) = some ns) ∧ Hid (NumsIn w4.heap.size wr nv ns) ∧ Hid (wr.heap[w3.heap.size]? = some (.cells #[.int .i64 (n : Nat), nv] 48 (0, 0))) ∧ Hid (w4.grownBy wr (some w3.heap.size))) (fun s12 _ => Y.length - (intOf s12).toNat)
              case atStart => exact ⟨0, [], .slice none 0 0, Nat.zero_le _, rfl, rfl, World.ownsRow_nil _ _ _ _, HT4, grown_below (Below.refl _ _) _⟩
              case round =>
                obtain ⟨k, ns, nv, hk, rfl, hal, hns, hT, hgr⟩ := hrel
                have hB1r : Below w1.heap.size w1 wr := hB14.grown hgr.out hB14.size (fun j e => by have := Option.some.inj e; omega)
                have hBr : Below w.heap.size w wr := hb1.trans (hB1r.mono hb1.size)
                have hnl : ns.length ≤ Y.length := by have := allOf_len _ _ _ hal.out; rw [this]; simp; omega
                have hsz : w4.heap.size ≤ wr.heap.size := hgr.out.size
                by_cases hkl : k < Y.length
                · have hcy := hgr.out.cell (HCS4.out k hkl) (fun e => by have := Option.some.inj e; simp at this; omega)
                  have hym : Y.getD k [] ∈ Y := by rw [List.getD_eq_getElem?_getD, List.getElem?_eq_getElem hkl]; exact List.getElem_mem hkl
                  have hye : Y.getD k [] = Y[k] := by rw [List.getD_eq_getElem?_getD, List.getElem?_eq_getElem hkl]; rfl
                  have HBN : Hid (numOf (Y.getD k []) = none → tasksOf (b :: r) = none) := fun h => HBAD.out (by rw [HTW.out, HNS.out, allOf_mem numOf _ _ hym h]; rfl)
                  have HGN : Hid (∀ m, numOf (Y.getD k []) = some m → allOf numOf (Y.take (k + 1)) = some (ns ++ [m])) := fun m h => by
                    rw [List.take_succ_eq_append_getElem hkl, ← hye]; exact allOf_snoc _ _ _ _ _ hal.out h
                  have hyl := HSY.out _ hym
                  clear hym hye hal
                  generalize Y.getD k [] = y at *
                  have hn2 := numberR_any y wr hyl
                  go_wp2_with fail
                  refine hn2.mono ?_
                  rintro e w5 ⟨rfl, hb5⟩
                  clear hn2 hcy
                  cases hm : numOf y with
                  | none =>
                    have HNO : Hid (tasksOf (b :: r) = none) := HBN.out hm
                    clear HBN hm
                    go_wp2
                    go_ret2
                    exact ⟨Or.inl ⟨HNO.out, rfl⟩, hBr.trans (hb5.mono hBr.size)⟩
                  | some m =>
                    have HG := HGN.out m hm
                    have HGH : Hid (allOf numOf (Y.take (k + 1)) = some (ns ++ [m])) := HG
                    have hT5 : w5.heap[w3.heap.size]? = some (.cells #[.int .i64 (n : Nat), nv] 48 (0, 0)) := (hb5.block _ (by omega)).trans hT.out
                    obtain ⟨_, hc5, _⟩ := pair_cells hT5
                    have hns5 : NumsIn w4.heap.size w5 nv ns := NumsIn.later' hns.out hb5
                    have hgr5 : w4.grownBy w5 (some w3.heap.size) := grown_two hgr.out (grown_below hb5 none) (fun j e => by cases e)
                    have hsz5 := hgr5.size
                    have hown2 := World.ownsRow.alloc hns5 (.cells #[.int .i64 (m : Nat)] 3)
                    have HG6 : Hid (w4.grownBy (w5.alloc (.cells #[.int .i64 (m : Nat)] 3)) (some w3.heap.size)) := grown_two hgr5 (World.grownBy_alloc w5 _ none) (fun j e => by cases e)
                    have HT5 : Hid (w5.heap[w3.heap.size]? = some (.cells #[.int .i64 (n : Nat), nv] 48 (0, 0))) := hT5
                    clear hT5 hgr5 hns5 hm HG HBN HGN hns hT hgr
                    go_wp2_with (at_builtin; (refine wpList_append_own _ rfl (.tmp 69) (.tmp 71) 31 rfl w4.heap.size 3 i3 (.int .i64 0) 1 8 Tryz.underlying31 hi3 hy0 hy1 hy2 rfl (by decide) _ ns.length (ns.map natV) rfl hown2 ⟨w5.heap.size, 0, none⟩ 1 1 [.int .i64 (m : Nat)] rfl rfl ?c1 ?c2 ?c3 ?c4 ?c5 ?_))
                    case c1 => exact cell_one_new w5 _ 3
                    case c2 => intro u hu; simp at hu; subst hu; rfl
                    case c3 => unfold maxLen; omega
                    case c4 => omega
                    case c5 => simp; omega
                    intro v' w6 hown' hgrow _
                    obtain ⟨va, vc, rfl⟩ := owned_shape hown'
                    have hT6 : w6.heap[w3.heap.size]? = some (.cells #[.int .i64 (n : Nat), nv] 48 (0, 0)) := (hgrow.block _ (by simp; omega) (fun e => by have := (hown2.lt _ e.symm).1; omega)).trans (((World.grownBy_alloc w5 _ none).block _ (by omega) (by simp)).trans HT5.out)
                    obtain ⟨_, hc6, hf6⟩ := pair_cells hT6
                    have HG7 : Hid (w4.grownBy (w6.setCell ⟨w3.heap.size, 1, none⟩ (.slice va (ns.length + 1) vc)) (some w3.heap.size)) := grown_set (grown_two HG6.out hgrow (fun j e => (hown2.lt j e).1)) _
                    have HT7 : Hid ((w6.setCell ⟨w3.heap.size, 1, none⟩ (.slice va (ns.length + 1) vc)).heap[w3.heap.size]? = some (.cells #[.int .i64 (n : Nat), .slice va (ns.length + 1) vc] 48 (0, 0))) := pair_set hT6
                    have HN7 : Hid (NumsIn w4.heap.size (w6.setCell ⟨w3.heap.size, 1, none⟩ (.slice va (ns.length + 1) vc)) (.slice va (ns.length + 1) vc) (ns ++ [m])) := ownsRow_setCell_below (a := ⟨w3.heap.size, 1, none⟩) (by simpa [NumsIn, natV] using hown') htb4 _
                    clear hown' hgrow hown2 hT6 hc5 HG6 HT5
                    go_wp2
                    go_roundw
                    case rel => exact ⟨k + 1, _, _, by omega, by go_num, HGH, HN7, HT7, HG7⟩
                    case measure => simp [intOf]; omega
                · have hke : k = Y.length := by omega
                  subst hke
                  rw [List.take_length] at hal
                  have htk : taskOf x = some ((n : Int), ns.map Int.ofNat) := by rw [HTW.out, HNS.out, hal.out]; rfl
                  have hrowX : NeedsRow wr nv (ns.map Int.ofNat) := NeedsRow.of hns.out
                  have hBX : Below w1.heap.size w1 wr := hB1r
                  have hownX := HOW3.out.later (hb34.grown hgr.out hb34.size (fun j e => by have := Option.some.inj e; omega))
                  generalize ns.map Int.ofNat = zs at *
                  have HA : Hid (allOf taskOf (words.take (i + 1)) = some (ts ++ [((n : Int), zs)])) := HGOOD.out _ htk
                  have HF : Hid (Few (ts ++ [((n : Int), zs)])) := HFEW.out _ htk
                  obtain ⟨na, nc, rfl⟩ := hrowX.shape
                  obtain ⟨hcx0, hcx1, _⟩ := pair_cells hT.out
                  clear htk HBAD HGOOD HFEW hal hns hT hgr HTW
                  have hbA : Below wr.heap.size wr (wr.alloc (.cells #[.int .i64 (n : Nat), .slice na zs.length nc] 48)) := (Below.refl _ _).alloc (Nat.le_refl _) _
                  obtain ⟨xs, ho, hx⟩ := hownX.later hbA
                  have HR : Hid (NeedsRow (wr.alloc (.cells #[.int .i64 (n : Nat), .slice na zs.length nc] 48)) (.slice na zs.length nc) zs) := hrowX.later hbA
                  have HX : Hid (∀ j, j < ts.length → xs[j * 2]? = some (.int .i64 (ts.getD j (0, [])).1) ∧ ∃ nv, xs[j * 2 + 1]? = some nv ∧ NeedsRow (wr.alloc (.cells #[.int .i64 (n : Nat), .slice na zs.length nc] 48)) nv (needsOf ts j)) := hx
                  clear hx hownX hrowX
                  go_wp2_with (at_builtin; (refine wpList_append_own _ rfl (.tmp 74) (.tmp 76) 23 rfl w1.heap.size 48 i30 (.agg #[.int .i64 0, .slice none 0 0]) 2 32 Tryz.underlying23 hi30 hz0 hz1 hz2 rfl (by decide) _ ts.length xs rfl ho ⟨wr.heap.size, 0, none⟩ 1 1 [.int .i64 (n : Nat), .slice na zs.length nc] rfl rfl ?c1 ?c2 ?c3 ?c4 ?c5 ?_))
                  case c1 =>
                    have h2 := cell_two_new (wr) (.int .i64 (n : Nat)) (.slice na zs.length nc) 48
                    skip
                    exact h2
                  case c2 => intro u hu; simp at hu; rcases hu with rfl | rfl <;> rfl
                  case c3 => unfold maxLen; omega
                  case c4 => omega
                  case c5 => have := hBX.size; simp at this ⊢; omega
                  intro v' w9 hown' hgrow _
                  have hB9 : Below w1.heap.size w1 w9 := (hBX.trans (hbA.mono hBX.size)).grown hgrow (by have := hBX.size; simp at this ⊢; omega) (fun j e => (ho.lt j e).1)
                  have HO : Hid (OwnTasks w1.heap.size w9 v' (ts ++ [((n : Int), zs)])) := OwnTasks.append ho HX.out HR.out hown' hgrow
                  clear hown' hgrow ho hbA HX HR
                  go_wp2
                  go_roundw
                  case rel => exact ⟨i + 1, _, by omega, by go_num, HO, HA, HF, hB9⟩
                  case measure => simp [intOf]; omega
            | cons p2 ps =>
              have HNO : Hid (tasksOf (b :: r) = none) := HBAD.out (task_many x p0 p1 p2 ps HP.out)
              clear HBAD hnum
              have hlen3 : ¬ ((p0 :: p1 :: p2 :: ps).length : Int) ≤ 2 := by simp; omega
              go_wp2
              go_ret2
              exact ⟨Or.inl ⟨HNO.out, rfl⟩, hB3⟩
    · have hie : i = words.length := by omega
      subst hie
      rw [List.take_length] at hall
      have HTS : Hid (tasksOf (b :: r) = some ts) := HT.out.trans hall.out
      have hpa : PlanAt wr _ ts := hown.out.planAt (by omega) (fun j _ => by have := hfew.out.needs j; omega)
      have hri := rightR_any _ ts wr hpa
      have HPA : Hid (PlanAt wr _ ts) := hpa
      clear hpa hown
      go_wp2_with fail
      refine hri.mono ?_
      rintro e w2 ⟨⟨p, q, rfl, hc⟩, hb2⟩
      clear hri
      have HC : Hid (CheckIs ts p q) := hc
      clear hc
      have hB2 : Below w.heap.size w w2 := hBr.trans (hb2.mono hBr.size)
      by_cases hq : q = 0
      · subst hq
        go_wp2
        go_ret2
        exact ⟨Or.inr ⟨ts, p, 0, HTS.out, HC.out, Or.inr ⟨rfl, _, rfl, HPA.out.later hb2⟩⟩, hB2⟩
      · have HQ : Hid (q ≠ 0) := hq
        go_wp2
        go_ret2
        exact ⟨Or.inr ⟨ts, p, q, HTS.out, HC.out, Or.inl ⟨HQ.out, rfl⟩⟩, hB2⟩
end Go.Proofs.YtfmmfapfgpckfaaGreatDoor
