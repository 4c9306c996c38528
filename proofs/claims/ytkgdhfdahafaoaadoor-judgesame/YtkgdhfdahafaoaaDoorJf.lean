/- The document's Stays. -/
import Derived.Test.YtkgdhfdahafaoaaDoorJv
import Derived.Test.YtkgdhfdahafaoaaDoorVm
import Derived.Deep.LoopGhost
namespace Go.Proofs.YtkgdhfdahafaoaaDoor
open Go.RowKit Go.Deep

theorem stay_at {w : World} {l : List StyZ} {n c : Nat} {a : Option Addr} (h : StaysAt w (.slice a n c) l) {k : Nat} (hk : k < l.length) : ∃ b o, a = some ⟨b, o, none⟩ ∧ b < w.heap.size := by
  obtain ⟨_, a', c', hv, h⟩ := h
  simp only [Value.slice.injEq] at hv
  rcases h with h | ⟨b, o, ha, hb, _⟩
  · subst h; simp at hk
  · exact ⟨b, o, hv.1.trans ha, hb⟩
theorem stay_cells {w : World} {l : List StyZ} {n c b o : Nat} (h : StaysAt w (.slice (some ⟨b, o, none⟩) n c) l) {k : Nat} (hk : k < l.length) :
    w.cell? ⟨b, o + k * 4, none⟩ = some (.int .i64 (l.getD k (0, 0, 0, 0)).1) ∧ w.cell? ⟨b, o + k * 4 + 1, none⟩ = some (.int .i64 (l.getD k (0, 0, 0, 0)).2.1) ∧ w.cell? ⟨b, o + k * 4 + 2, none⟩ = some (.int .i64 (l.getD k (0, 0, 0, 0)).2.2.1) ∧ w.cell? ⟨b, o + k * 4 + 3, none⟩ = some (.int .i64 (l.getD k (0, 0, 0, 0)).2.2.2) := by
  obtain ⟨_, a', c', hv, h⟩ := h
  simp only [Value.slice.injEq] at hv
  rcases h with h | ⟨b', o', ha, hb, hc⟩
  · subst h; simp at hk
  · have e := hv.1.trans ha
    simp only [Option.some.injEq, Addr.mk.injEq, and_true] at e
    rw [e.1, e.2]
    exact hc k hk
theorem first_bad {ts : List (Int × List Int)} {h : Nat} {l : List StyZ} {k : Nat} (h0 : firstErr (stayErr ts h) [] (l.take k) = 0) (hk : k < l.length) {e : Int} (he : stayErr ts h (l.take k) (l.getD k (0, 0, 0, 0)) = e) (hne : e ≠ 0) : staysErr ts h l = e := by
  have h1 := firstErr_at hk h0 (by rw [(take_at (d := (0, 0, 0, 0)) hk).2, he]; exact hne)
  rw [(take_at (d := (0, 0, 0, 0)) hk).2, he] at h1
  unfold staysErr
  rw [if_neg (by rw [h1]; exact hne), h1]
theorem first_good {ts : List (Int × List Int)} {h : Nat} {l : List StyZ} {k : Nat} (h0 : firstErr (stayErr ts h) [] (l.take k) = 0) (hk : k < l.length) (he : stayErr ts h (l.take k) (l.getD k (0, 0, 0, 0)) = 0) : firstErr (stayErr ts h) [] (l.take (k + 1)) = 0 := firstErr_next hk h0 (by rw [(take_at (d := (0, 0, 0, 0)) hk).2]; exact he)
theorem out_some {n h : Nat} {s : StyZ} (hs : s.1 < 0 ∨ (h : Int) ≤ s.1 ∨ s.2.1 < 0 ∨ (n : Int) ≤ s.2.1 ∨ s.2.2.1 < 0 ∨ s.2.2.2 < s.2.2.1 ∨ 10000 < s.2.2.2) : outS n h s = true := by
  cases e : outS n h s with
  | true => rfl
  | false => have := outS_false.1 e; omega
theorem stayErr_out1 {ts : List (Int × List Int)} {h : Nat} {L : List StyZ} {s : StyZ} (hs : s.1 < 0 ∨ (h : Int) ≤ s.1 ∨ s.2.1 < 0 ∨ (ts.length : Int) ≤ s.2.1 ∨ s.2.2.1 < 0 ∨ s.2.2.2 < s.2.2.1 ∨ 10000 < s.2.2.2) : stayErr ts h L s = 1 := by
  unfold stayErr
  rw [out_some hs, if_pos rfl]
theorem mem_takeJ {l : List StyZ} {k j : Nat} (hk : k ≤ l.length) (hj : j < k) : l.getD j (0, 0, 0, 0) ∈ l.take k := by
  rw [List.mem_take_iff_getElem]
  refine ⟨j, by omega, ?_⟩
  rw [List.getD_eq_getElem?_getD, List.getElem?_eq_getElem (by omega)]; rfl
theorem getD_in {l : List StyZ} {j : Nat} (hj : j < l.length) : l.getD j (0, 0, 0, 0) ∈ l := by
  rw [List.getD_eq_getElem?_getD, List.getElem?_eq_getElem hj]; exact List.getElem_mem hj
theorem in_getD {l : List StyZ} {a : StyZ} (h : a ∈ l) : ∃ j, j < l.length ∧ l.getD j (0, 0, 0, 0) = a := by
  obtain ⟨j, hj, rfl⟩ := List.getElem_of_mem h
  exact ⟨j, hj, by rw [List.getD_eq_getElem?_getD, List.getElem?_eq_getElem hj]; rfl⟩
theorem plan_needsJ {w : World} {b o n c : Nat} {ts : List (Int × List Int)} (h : PlanAt w (.slice (some ⟨b, o, none⟩) n c) ts) {x : Nat} (hx : x < ts.length) : ∃ a2 c2, w.cell? ⟨b, o + x * 2 + 1, none⟩ = some (.slice a2 (needsOf ts x).length c2) ∧ IntsAt w (.slice a2 (needsOf ts x).length c2) (needsOf ts x) := by
  obtain ⟨_, a', c', hv, h⟩ := h
  simp only [Value.slice.injEq] at hv
  rcases h with h | ⟨b', o', ha, _, h⟩
  · subst h; simp at hx
  · have e := hv.1.trans ha
    simp only [Option.some.injEq, Addr.mk.injEq, and_true] at e
    obtain ⟨_, nv, h1, h2⟩ := h x hx
    obtain ⟨_, a2, c2, h3, _⟩ := id h2
    subst h3
    rw [e.1, e.2]
    exact ⟨a2, c2, h1, h2⟩
/-- One pair: does the one begin ahead of the other's end, which it needs. -/
def pairS (ts : List (Int × List Int)) (s a : StyZ) : Bool := decide (a.2.1 ∈ needsOf ts s.2.1.toNat) && decide (s.2.2.1 < a.2.2.2)
theorem early_pair {ts : List (Int × List Int)} {l : List StyZ} : earlyS ts l = l.any (fun s => l.any (fun a => pairS ts s a)) := rfl

set_option maxRecDepth 100000 in
set_option maxHeartbeats 8000000 in
theorem refStays_any (v lv : Value) (ts : List (Int × List Int)) (l : List StyZ) (hn : Nat) (w : World) (hp : PlanAt w v ts) (hl : StaysAt w lv l) (hw : Works ts) (hr : InRange ts) :
    Calls Tryd.prog 12 #[v, .int .i64 (hn : Int), lv] w fun e w' => e = .returned (.int .i64 (staysErr ts hn l)) ∧ Below w.heap.size w w' := by
  have HP : Hid (∀ wx, Below w.heap.size w wx → PlanAt wx v ts) := fun wx hx => hp.later hx
  have HL : Hid (∀ wx, Below w.heap.size w wx → StaysAt wx lv l) := fun wx hx => hl.later hx
  obtain ⟨hl0, a, c, rfl, hp⟩ := hp
  obtain ⟨hl1, la, lc, rfl, hl⟩ := hl
  have HW : Hid (Works ts) := hw
  have HR : Hid (InRange ts) := hr
  have h30 := hw.1
  clear hp hl hw hr
  go_enter Tryd.func12, Tryd.ntmps12
  go_wp2
  go_loopw [7] (fun s7 wr => ∃ k : Nat, k ≤ l.length ∧ s7 = .int .i64 k ∧ Hid (firstErr (stayErr ts hn) [] (l.take k) = 0) ∧ Below w.heap.size w wr) (fun s7 _ => l.length - (intOf s7).toNat)
  case atStart => exact ⟨0, Nat.zero_le _, rfl, rfl, Below.refl _ _⟩
  case round =>
    obtain ⟨k, hk, rfl, hno, hb⟩ := hrel
    by_cases hkl : k < l.length
    · obtain ⟨lb, lo, rfl, hlbl⟩ := stay_at (HL.out _ hb) hkl
      obtain ⟨hb0, hb1, hb2, hb3⟩ := stay_cells (HL.out _ hb) hkl
      have HBAD : Hid (∀ e, stayErr ts hn (l.take k) (l.getD k (0, 0, 0, 0)) = e → e ≠ 0 → staysErr ts hn l = e) := fun e he hne => first_bad hno.out hkl he hne
      have HGOOD : Hid (stayErr ts hn (l.take k) (l.getD k (0, 0, 0, 0)) = 0 → firstErr (stayErr ts hn) [] (l.take (k + 1)) = 0) := fun he => first_good hno.out hkl he
      have hbs := hb.size
      have HBA : Hid (∀ o1, Below w.heap.size w (wr.alloc o1)) := fun o1 => hb.alloc hbs o1
      have HB : Hid (Below w.heap.size w wr) := hb
      clear hno hb
      generalize hgs : l.getD k (0, 0, 0, 0) = s at *
      have HGS : Hid (l.getD k (0, 0, 0, 0) = s) := hgs
      clear hgs
      obtain ⟨hh, tk, fr, to⟩ := s
      dsimp only at hb0 hb1 hb2 hb3
      by_cases g0 : hh < 0
      · have HE1 := HBAD.out 1 (stayErr_out1 ((fun h => Or.inl h) g0)) (by omega)
        have HE : Hid (staysErr ts hn l = 1) := HE1
        clear HE1 HBAD HGOOD
        go_wp2
        go_ret
        exact ⟨ret_int HE.out.symm, HBA.out _⟩
      by_cases g1 : (hn : Int) ≤ hh
      · have HE1 := HBAD.out 1 (stayErr_out1 ((fun h => Or.inr (Or.inl h)) g1)) (by omega)
        have HE : Hid (staysErr ts hn l = 1) := HE1
        clear HE1 HBAD HGOOD
        go_wp2
        go_ret
        exact ⟨ret_int HE.out.symm, HBA.out _⟩
      by_cases g2 : tk < 0
      · have HE1 := HBAD.out 1 (stayErr_out1 ((fun h => Or.inr (Or.inr (Or.inl h))) g2)) (by omega)
        have HE : Hid (staysErr ts hn l = 1) := HE1
        clear HE1 HBAD HGOOD
        go_wp2
        go_ret
        exact ⟨ret_int HE.out.symm, HBA.out _⟩
      by_cases g3 : (ts.length : Int) ≤ tk
      · have HE1 := HBAD.out 1 (stayErr_out1 ((fun h => Or.inr (Or.inr (Or.inr (Or.inl h)))) g3)) (by omega)
        have HE : Hid (staysErr ts hn l = 1) := HE1
        clear HE1 HBAD HGOOD
        go_wp2
        go_ret
        exact ⟨ret_int HE.out.symm, HBA.out _⟩
      by_cases g4 : fr < 0
      · have HE1 := HBAD.out 1 (stayErr_out1 ((fun h => Or.inr (Or.inr (Or.inr (Or.inr (Or.inl h))))) g4)) (by omega)
        have HE : Hid (staysErr ts hn l = 1) := HE1
        clear HE1 HBAD HGOOD
        go_wp2
        go_ret
        exact ⟨ret_int HE.out.symm, HBA.out _⟩
      by_cases g5 : to < fr
      · have HE1 := HBAD.out 1 (stayErr_out1 ((fun h => Or.inr (Or.inr (Or.inr (Or.inr (Or.inr (Or.inl h)))))) g5)) (by omega)
        have HE : Hid (staysErr ts hn l = 1) := HE1
        clear HE1 HBAD HGOOD
        go_wp2
        go_ret
        exact ⟨ret_int HE.out.symm, HBA.out _⟩
      by_cases g6 : 10000 < to
      · have HE1 := HBAD.out 1 (stayErr_out1 ((fun h => Or.inr (Or.inr (Or.inr (Or.inr (Or.inr (Or.inr (h))))))) g6)) (by omega)
        have HE : Hid (staysErr ts hn l = 1) := HE1
        clear HE1 HBAD HGOOD
        go_wp2
        go_ret
        exact ⟨ret_int HE.out.symm, HBA.out _⟩
      obtain ⟨x, rfl⟩ := Int.eq_ofNat_of_zero_le (show 0 ≤ tk by omega)
      obtain ⟨f, rfl⟩ := Int.eq_ofNat_of_zero_le (show 0 ≤ fr by omega)
      obtain ⟨t, rfl⟩ := Int.eq_ofNat_of_zero_le (show 0 ≤ to by omega)
      have hxl : x < ts.length := by omega
      have ht10 : t ≤ 10000 := by omega
      have hft : f ≤ t := by omega
      have HO : Hid (outS ts.length hn (hh, (x : Int), (f : Int), (t : Int)) = false) := outS_false.2 ⟨by dsimp only; omega, by dsimp only; omega, by dsimp only; omega, by dsimp only; omega, by dsimp only; omega, by dsimp only; omega, by dsimp only; omega⟩
      obtain ⟨b, o, rfl⟩ := plan_atJ (HP.out _ HB.out) hxl
      have hpx : wr.cell? ⟨b, o + x * 2, none⟩ = some (.int .i64 (wkOf ts x)) := plan_workJ (HP.out _ HB.out) hxl (y := wkOf ts x) rfl
      have hpbl : b < wr.heap.size := by
        obtain ⟨_, a', c', hv, h⟩ := HP.out _ HB.out
        simp only [Value.slice.injEq] at hv
        rcases h with h | ⟨b', o', ha, h, _⟩
        · subst h; simp at hxl
        · have e := hv.1.trans ha
          simp only [Option.some.injEq, Addr.mk.injEq, and_true] at e
          rw [e.1]; exact h
      by_cases hsh : (t : Int) - (f : Int) = wkOf ts x
      · have hez : (((t : Int) - (f : Int)) != wkOf ts x) = false := by simp [hsh]
        have HBY : Hid (stayErr ts hn (l.take k) (hh, (x : Int), (f : Int), (t : Int)) = if (l.take k).any (fun a => hitS a (hh, (x : Int), (f : Int), (t : Int))) = true then 7 else 0) := stayErr_hit HO.out (by dsimp only; rw [Int.toNat_natCast]; exact hsh)
        clear hsh
        generalize wkOf ts x = y at *
        go_wp2
        go_quiet (fail)
        go_wp2
        obtain ⟨W, hW⟩ : ∃ W, W = (wr.alloc (.cells #[.int .i64 hh, .int .i64 (x : Int), .int .i64 (f : Int), .int .i64 (t : Int)] 45)).drewN nq := ⟨_, rfl⟩
        have HBWW : Hid (Below w.heap.size w W) := by rw [hW]; exact below_drewJ (HBA.out _) nq
        have hXW : W.heap[wr.heap.size]? = some (.cells #[.int .i64 hh, .int .i64 (x : Int), .int .i64 (f : Int), .int .i64 (t : Int)] 45 (0, 0)) := by rw [hW]; exact blk_alloc_new _ _
        have HX : Hid (W.heap[wr.heap.size]? = some (.cells #[.int .i64 hh, .int .i64 (x : Int), .int .i64 (f : Int), .int .i64 (t : Int)] 45 (0, 0))) := hXW
        obtain ⟨X, hX⟩ : ∃ X, X = wr.heap.size := ⟨_, rfl⟩
        rw [← hW, ← hX]
        rw [← hX] at HX
        clear hW hX hXW hb0 hb1 hb2 hb3 hpx
        go_loopw [9] (fun s9 wr => ∃ j : Nat, j ≤ k ∧ s9 = .int .i64 j ∧ Hid (∀ i, i < j → hitS (l.getD i (0, 0, 0, 0)) (hh, (x : Int), (f : Int), (t : Int)) = false) ∧ Below W.heap.size W wr) (fun s9 _ => k - (intOf s9).toNat)
        case atStart => exact ⟨0, Nat.zero_le _, rfl, fun i hi => by omega, Below.refl _ _⟩
        case round =>
          obtain ⟨j, hj, rfl, hno, hb⟩ := hrel
          have hXr : wr.heap[X]? = some (.cells #[.int .i64 hh, .int .i64 (x : Int), .int .i64 (f : Int), .int .i64 (t : Int)] 45 (0, 0)) := (hb.block _ (Array.getElem?_eq_some_iff.1 HX.out).1).trans HX.out
          obtain ⟨hx0, hx1, hx2, hx3⟩ := four_cells hXr
          have hXl := (Array.getElem?_eq_some_iff.1 hXr).1
          have HBR : Hid (Below w.heap.size w wr) := HBWW.out.trans (hb.mono HBWW.out.size)
          by_cases hjk : j < k
          · obtain ⟨hc0, hc1, hc2, hc3⟩ := stay_cells (HL.out _ HBR.out) (k := j) (by omega)
            have HYES : Hid (hitS (l.getD j (0, 0, 0, 0)) (hh, (x : Int), (f : Int), (t : Int)) = true → staysErr ts hn l = 7) := fun h => by
              refine HBAD.out 7 ?_ (by omega)
              rw [HBY.out, if_pos (List.any_eq_true.2 ⟨_, mem_takeJ hk hjk, h⟩)]
            have HNO : Hid (hitS (l.getD j (0, 0, 0, 0)) (hh, (x : Int), (f : Int), (t : Int)) = false → ∀ i, i < j + 1 → hitS (l.getD i (0, 0, 0, 0)) (hh, (x : Int), (f : Int), (t : Int)) = false) := fun h i hi => by
              by_cases e : i = j
              · subst e; exact h
              · exact hno.out i (by omega)
            clear hno hXr
            generalize l.getD j (0, 0, 0, 0) = q at *
            obtain ⟨q0, q1, q2, q3⟩ := q
            dsimp only at hc0 hc1 hc2 hc3
            have HH : Hid (hitS (q0, q1, q2, q3) (hh, (x : Int), (f : Int), (t : Int)) = (decide (q1 = (x : Int)) || (decide (q0 = hh) && decide (q2 < (t : Int)) && decide ((f : Int) < q3)))) := rfl
            rw [HH.out] at HYES HNO
            by_cases e1 : q1 = (x : Int)
            · have HE : Hid (staysErr ts hn l = 7) := HYES.out (by simp [e1])
              have f1 : (q1 == (x : Int)) = true := by simp [e1]
              clear HYES HNO HH e1
              go_wp2
              go_quiet (fail)
              go_wp2
              go_ret
              exact ⟨ret_int HE.out.symm, below_drewJ HBR.out _⟩
            · have f1 : (q1 == (x : Int)) = false := by simp [e1]
              by_cases e2 : q0 = hh
              · have f2 : (q0 == hh) = true := by simp [e2]
                by_cases e3 : q2 < (t : Int)
                · by_cases e4 : (f : Int) < q3
                  · have HE : Hid (staysErr ts hn l = 7) := HYES.out (by simp [e1, e2, e3, e4])
                    clear HYES HNO HH e1 e2
                    go_wp2
                    go_quiet (fail)
                    go_wp2
                    go_ret
                    exact ⟨ret_int HE.out.symm, below_drewJ HBR.out _⟩
                  · have HE := HNO.out (by simp [e1, e2, e3, e4])
                    have HE2 : Hid (∀ i, i < j + 1 → hitS (l.getD i (0, 0, 0, 0)) (hh, (x : Int), (f : Int), (t : Int)) = false) := HE
                    clear HYES HNO HH e1 e2 HE
                    go_wp2
                    go_quiet (fail)
                    go_wp2
                    go_roundw
                    case rel => exact ⟨j + 1, by omega, by go_num, HE2, below_drewJ hb _⟩
                    case measure => simp [intOf]; omega
                · have HE := HNO.out (by simp [e1, e2, e3])
                  have f3 : decide (q2 < (t : Int)) = false := by simp [e3]
                  have HE2 : Hid (∀ i, i < j + 1 → hitS (l.getD i (0, 0, 0, 0)) (hh, (x : Int), (f : Int), (t : Int)) = false) := HE
                  clear HYES HNO HH e1 e2 HE
                  go_wp2
                  go_quiet (fail)
                  go_wp2
                  go_roundw
                  case rel => exact ⟨j + 1, by omega, by go_num, HE2, below_drewJ hb _⟩
                  case measure => simp [intOf]; omega
              · have f2 : (q0 == hh) = false := by simp [e2]
                have HE := HNO.out (by simp [e1, e2])
                have HE2 : Hid (∀ i, i < j + 1 → hitS (l.getD i (0, 0, 0, 0)) (hh, (x : Int), (f : Int), (t : Int)) = false) := HE
                clear HYES HNO HH e1 e2 HE
                go_wp2
                go_quiet (fail)
                go_wp2
                go_roundw
                case rel => exact ⟨j + 1, by omega, by go_num, HE2, below_drewJ hb _⟩
                case measure => simp [intOf]; omega
          · have HF : Hid (firstErr (stayErr ts hn) [] (l.take (k + 1)) = 0) := by
              refine HGOOD.out ?_
              rw [HBY.out, if_neg]
              intro h
              obtain ⟨q, hq, h2⟩ := List.any_eq_true.1 h
              rw [List.mem_take_iff_getElem] at hq
              obtain ⟨i, hi, rfl⟩ := hq
              have := hno.out i (by omega)
              rw [List.getD_eq_getElem?_getD, List.getElem?_eq_getElem (by omega)] at this
              rw [show l[i] = (some l[i]).getD (0, 0, 0, 0) by rfl, this] at h2
              cases h2
            clear hno hXr
            go_wp2
            go_roundw
            case rel => exact ⟨k + 1, by omega, by go_num, HF, HBR.out⟩
            case measure => simp [intOf]; omega
      · have HE1 := HBAD.out 3 (stayErr_shape HO.out (by dsimp only; rw [Int.toNat_natCast]; exact hsh)) (by omega)
        have HE : Hid (staysErr ts hn l = 3) := HE1
        clear HE1 HBAD HGOOD
        have hne : (((t : Int) - (f : Int)) != wkOf ts x) = true := by simp [hsh]
        clear hsh
        generalize wkOf ts x = y at *
        go_wp2
        go_quiet (fail)
        go_wp2
        go_ret
        exact ⟨ret_int HE.out.symm, below_drewJ (HBA.out _) _⟩
    · have hkk : l.take k = l := List.take_of_length_le (by omega)
      rw [hkk] at hno
      have HF0 : Hid (firstErr (stayErr ts hn) [] l = 0) := hno
      obtain ⟨hfin, hlen⟩ := first_in hno.out
      have HFIN : Hid (∀ a, a ∈ l → outS ts.length hn a = false ∧ a.2.2.2 - a.2.2.1 = wkOf ts a.2.1.toNat) := hfin
      have HB : Hid (Below w.heap.size w wr) := hb
      clear hno hkk hfin
      by_cases hlt : l.length < ts.length
      · have HE : Hid (staysErr ts hn l = 5) := by
          show _ = _
          unfold staysErr
          rw [if_pos HF0.out, if_pos hlt]
        go_wp2
        go_ret
        exact ⟨ret_int HE.out.symm, HB.out⟩
      · have HST : Hid (∀ r, earlyS ts l = r → staysErr ts hn l = if r = true then 6 else 0) := fun r hr => by
          unfold staysErr
          rw [if_pos HF0.out, if_neg hlt, hr]
        obtain ⟨W, HWW⟩ : ∃ W, W = wr := ⟨_, rfl⟩
        rw [← HWW] at HB ⊢
        clear HWW hb
        go_wp2
        go_loopw [10] (fun s10 wr => ∃ k : Nat, k ≤ l.length ∧ s10 = .int .i64 k ∧ Hid (∀ i, i < k → l.any (fun a => pairS ts (l.getD i (0, 0, 0, 0)) a) = false) ∧ Below W.heap.size W wr) (fun s10 _ => l.length - (intOf s10).toNat)
        case atStart => exact ⟨0, Nat.zero_le _, rfl, fun i hi => by omega, Below.refl _ _⟩
        case round =>
          obtain ⟨k, hk, rfl, hno, hb⟩ := hrel
          by_cases hkl : k < l.length
          · obtain ⟨W2, HW2⟩ : ∃ W2, W2 = wr := ⟨_, rfl⟩
            have HB2 : Hid (Below W.heap.size W W2) := by rw [HW2]; exact hb
            rw [← HW2]
            clear HW2 hb
            go_wp2
            go_loopw [11] (fun s11 wr => ∃ j : Nat, j ≤ l.length ∧ s11 = .int .i64 j ∧ Hid (∀ i, i < j → pairS ts (l.getD k (0, 0, 0, 0)) (l.getD i (0, 0, 0, 0)) = false) ∧ Below W2.heap.size W2 wr) (fun s11 _ => l.length - (intOf s11).toNat)
            case atStart => exact ⟨0, Nat.zero_le _, rfl, fun i hi => by omega, Below.refl _ _⟩
            case round =>
              obtain ⟨j, hj, rfl, hnj, hb⟩ := hrel
              have HBR : Hid (Below w.heap.size w wr) := HB.out.trans ((HB2.out.trans (hb.mono HB2.out.size)).mono HB.out.size)
              by_cases hjl : j < l.length
              · obtain ⟨lb, lo, rfl, hlbl⟩ := stay_at (HL.out _ HBR.out) hkl
                obtain ⟨hb0, hb1, hb2, hb3⟩ := stay_cells (HL.out _ HBR.out) hkl
                obtain ⟨hc0, hc1, hc2, hc3⟩ := stay_cells (HL.out _ HBR.out) hjl
                have HYES : Hid (pairS ts (l.getD k (0, 0, 0, 0)) (l.getD j (0, 0, 0, 0)) = true → staysErr ts hn l = 6) := fun h => by
                  rw [HST.out true (List.any_eq_true.2 ⟨_, getD_in hkl, List.any_eq_true.2 ⟨_, getD_in hjl, h⟩⟩)]; rfl
                have HNO : Hid (pairS ts (l.getD k (0, 0, 0, 0)) (l.getD j (0, 0, 0, 0)) = false → ∀ i, i < j + 1 → pairS ts (l.getD k (0, 0, 0, 0)) (l.getD i (0, 0, 0, 0)) = false) := fun h i hi => by
                  by_cases e : i = j
                  · subst e; exact h
                  · exact hnj.out i (by omega)
                have hos := outS_false.1 (HFIN.out _ (getD_in hkl)).1
                clear hnj
                generalize hsk : l.getD k (0, 0, 0, 0) = s at *
                have HSK : Hid (l.getD k (0, 0, 0, 0) = s) := hsk
                clear hsk
                generalize l.getD j (0, 0, 0, 0) = q at *
                obtain ⟨s0, s1, s2, s3⟩ := s
                obtain ⟨q0, q1, q2, q3⟩ := q
                dsimp only at hb0 hb1 hb2 hb3 hc0 hc1 hc2 hc3 hos
                obtain ⟨x, rfl⟩ := Int.eq_ofNat_of_zero_le hos.2.2.1
                have hxl : x < ts.length := by omega
                obtain ⟨b, o, rfl⟩ := plan_atJ (HP.out _ HBR.out) hxl
                obtain ⟨a2, c2, hnc, hin⟩ := plan_needsJ (HP.out _ HBR.out) hxl
                have hcall := fun q => in_any _ (needsOf ts x) q1 (wr.drewN q) (hin.later (below_drewJ (Below.refl _ _) q))
                have HPS : Hid (pairS ts (s0, (x : Int), s2, s3) (q0, q1, q2, q3) = (memB (needsOf ts x) q1 && decide (s2 < q3))) := by
                  show _ = _
                  unfold pairS memB
                  dsimp only
                  rw [Int.toNat_natCast]
                rw [HPS.out] at HYES HNO
                clear HPS hin hos
                generalize memB (needsOf ts x) q1 = mb at *
                generalize (needsOf ts x).length = nl at *
                cases mb
                · have HE := HNO.out (by simp)
                  have HE2 : Hid (∀ i, i < j + 1 → pairS ts (s0, (x : Int), s2, s3) (l.getD i (0, 0, 0, 0)) = false) := HE
                  clear HYES HNO HE
                  go_wp2
                  go_quiet ((go_at_call 18; refine Calls.quiet_of_same (hcall _)))
                  go_wp2
                  go_quiet (fail)
                  go_wp2
                  go_roundw
                  case rel => exact ⟨j + 1, by omega, by go_num, HE2, below_drewJ hb _⟩
                  case measure => simp [intOf]; omega
                · by_cases e4 : s2 < q3
                  · have HE : Hid (staysErr ts hn l = 6) := HYES.out (by simp [e4])
                    clear HYES HNO
                    go_wp2
                    go_quiet ((go_at_call 18; refine Calls.quiet_of_same (hcall _)))
                    go_wp2
                    go_quiet (fail)
                    go_wp2
                    go_ret
                    exact ⟨ret_int HE.out.symm, below_drewJ (below_drewJ HBR.out _) _⟩
                  · have HE := HNO.out (by simp [e4])
                    have HE2 : Hid (∀ i, i < j + 1 → pairS ts (s0, (x : Int), s2, s3) (l.getD i (0, 0, 0, 0)) = false) := HE
                    clear HYES HNO HE
                    go_wp2
                    go_quiet ((go_at_call 18; refine Calls.quiet_of_same (hcall _)))
                    go_wp2
                    go_quiet (fail)
                    go_wp2
                    go_roundw
                    case rel => exact ⟨j + 1, by omega, by go_num, HE2, below_drewJ hb _⟩
                    case measure => simp [intOf]; omega
              · have HF : Hid (∀ i, i < k + 1 → l.any (fun a => pairS ts (l.getD i (0, 0, 0, 0)) a) = false) := fun i hi => by
                  by_cases e : i = k
                  · subst e
                    rw [List.any_eq_false]
                    intro q hq
                    obtain ⟨i', hi', rfl⟩ := in_getD hq
                    have := hnj.out i' (by omega)
                    rw [this]
                    decide
                  · exact hno.out i (by omega)
                clear hnj hno
                have HBE : Hid (Below W.heap.size W wr) := HB2.out.trans (hb.mono HB2.out.size)
                clear hb
                go_wp2
                go_roundw
                case rel => exact ⟨k + 1, by omega, by go_num, HF, HBE.out⟩
                case measure => simp [intOf]; omega
          · have HE : Hid (staysErr ts hn l = 0) := by
              show _ = _
              rw [HST.out false ?_]
              · rfl
              · rw [early_pair, List.any_eq_false]
                intro s hs
                obtain ⟨i, hi, rfl⟩ := in_getD hs
                have := hno.out i (by omega)
                simp only [this]
                decide
            have hbe : Below w.heap.size w wr := HB.out.trans (hb.mono HB.out.size)
            clear hno hb
            go_wp2
            go_ret
            exact ⟨ret_int HE.out.symm, hbe⟩
end Go.Proofs.YtkgdhfdahafaoaaDoor
