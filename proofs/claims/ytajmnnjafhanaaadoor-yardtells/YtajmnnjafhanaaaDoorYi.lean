/- The contracts of shares and of Shares. -/
import Derived.Test.YtajmnnjafhanaaaDoorYh
namespace Go.Proofs.YtajmnnjafhanaaaDoor
open Go.RowKit Go.Deep

def numRow (A : Nat → Int) : Nat → Value := fun k => .int .i64 (A k)
/-- So many bits each has at first, up to the k-th. -/
def flrY (N n : Nat) (wt : Nat → Nat) (i : Nat) : Nat := N * wt i / sumY wt n
theorem sumY_mono (f : Nat → Nat) {k n : Nat} (h : k ≤ n) : sumY f k ≤ sumY f n := by
  induction n with
  | zero => rw [show k = 0 by omega]; exact Nat.le_refl _
  | succ n ih =>
    by_cases e : k = n + 1
    · rw [e]; exact Nat.le_refl _
    · exact Nat.le_trans (ih (by omega)) (Nat.le_add_right _ _)
theorem shareY_eq (N n : Nat) (wt : Nat → Nat) (i : Nat) : shareY N n wt i = flrY N n wt i + if i < overY N n wt then 1 else 0 := rfl
theorem overY_eq (N n : Nat) (wt : Nat → Nat) : overY N n wt = N - sumY (flrY N n wt) n := rfl
theorem flrY_le (N n : Nat) (wt : Nat → Nat) {i : Nat} (hi : i < n) : flrY N n wt i ≤ N := by
  unfold flrY
  have h : wt i ≤ sumY wt n := by
    have := sumY_mono wt (show i + 1 ≤ n by omega)
    have e : sumY wt (i + 1) = sumY wt i + wt i := rfl
    omega
  exact Nat.div_le_of_le_mul (by rw [Nat.mul_comm (sumY wt n)]; exact Nat.mul_le_mul_left _ h)
set_option maxRecDepth 100000 in
set_option maxHeartbeats 4000000 in
theorem shares_any (v : Value) (gs : List Jb) (N : Nat) (w : World) (hg : JobsAt w v gs) (he : jobErr gs = 0) (h1 : 1 ≤ gs.length) (hN : N ≤ 1000) :
    Calls Tryd.prog 18 #[v, .int .i64 (N : Int)] w fun e w' => ∃ M, e = .returned (.slice (some ⟨M, 0, none⟩) gs.length gs.length) ∧ w.heap.size ≤ M ∧ w'.rowIs M 3 gs.length (numRow (fun k => (shareY N gs.length (wtN gs) k : Int))) ∧ Below w.heap.size w w' := by
  have h6 := (jobErr_right he).1
  have HE : Hid (jobErr gs = 0) := he
  obtain ⟨_, a, c, rfl, hg⟩ := hg
  obtain ⟨b, o, rfl, hbl, hc⟩ : ∃ b o, a = some ⟨b, o, none⟩ ∧ b < w.heap.size ∧ ∀ k, k < gs.length → w.cell? ⟨b, o + k * 2, none⟩ = some (.int .i64 (wgtJ gs k)) ∧ w.cell? ⟨b, o + k * 2 + 1, none⟩ = some (.int .i64 (wtsJ gs k)) := by
    rcases hg with h0 | h0
    · rw [h0] at h1; simp at h1
    · exact h0
  have HC : Hid (∀ k, k < gs.length → w.cell? ⟨b, o + k * 2, none⟩ = some (.int .i64 (wtN gs k : Int)) ∧ w.cell? ⟨b, o + k * 2 + 1, none⟩ = some (.int .i64 (wtsJ gs k))) := fun k hk => by
    rw [← (wtN_eq he hk).1]
    exact hc k hk
  have HW : Hid (∀ k, k < gs.length → 1 ≤ wtN gs k ∧ wtN gs k ≤ 20) := fun k hk => (wtN_eq he hk).2
  have HSL : Hid (∀ k, k ≤ gs.length → sumY (wtN gs) k ≤ 120) := fun k hk => by
    have := sumY_le (f := wtN gs) (c := 20) (n := k) (fun i hi => (wtN_eq he (by omega)).2.2)
    omega
  have HSP : Hid (0 < sumY (wtN gs) gs.length) := sumY_pos (fun i hi => (wtN_eq he hi).2.1) h1
  clear hg hc he
  have hmk := fun wx => run_make_row' (P := Tryd.prog) 28 3 (.int .i64 0) 8 Tryd.underlying28 Tryd.info3 rfl .i64 .i64 gs.length (by omega) (by omega) wx
  generalize hwt : wtN gs = wt at *
  generalize wtsJ gs = ws at *
  generalize hnl : gs.length = n at *
  clear hwt hnl
  go_enter Tryd.func18, Tryd.ntmps18
  go_wp2
  go_loopw [5, 15] (fun s5 s15 wr => ∃ k : Nat, k ≤ n ∧ s5 = .int .i64 (sumY wt k : Nat) ∧ s15 = .int .i64 k ∧ Hid (Below w.heap.size w wr)) (fun _ s15 _ => n - (intOf s15).toNat)
  case atStart => exact ⟨0, Nat.zero_le _, rfl, rfl, Below.refl _ _⟩
  case round =>
    obtain ⟨k, hk, rfl, rfl, hb⟩ := hrel
    by_cases hkn : k < n
    · have hc1 := (hb.out.cell (p := ⟨b, o + k * 2, none⟩) hbl).trans (HC.out k hkn).1
      have hc2 := (hb.out.cell (p := ⟨b, o + k * 2 + 1, none⟩) hbl).trans (HC.out k hkn).2
      have hs1 := HSL.out k hk
      have hw1 := (HW.out k hkn).2
      have HSS : Hid (sumY wt (k + 1) = sumY wt k + wt k) := rfl
      generalize sumY wt k = sk at *
      generalize wt k = x at *
      generalize ws k = y at *
      have HB2 : Hid (Below w.heap.size w (wr.alloc (.cells #[.int .i64 (x : Int), .int .i64 y] 36))) := hb.out.alloc hb.out.size _
      go_wp2
      go_roundw
      case rel => exact ⟨k + 1, by omega, by rw [HSS.out]; go_num, by go_num, HB2⟩
      case measure => simp [intOf]; omega
    · have hke : k = n := by omega
      subst hke
      clear hkn hk
      have hs1 := HSL.out k (Nat.le_refl _)
      have hsp := HSP.out
      have hM : w.heap.size ≤ wr.heap.size := hb.out.size
      have HR : Hid ((wr.alloc (.cells (madeCells #[.int .i64 0] k) 3)).rowIs wr.heap.size 3 k (numRow (fun j => ((if j < 0 then flrY N k wt j else 0 : Nat) : Int)))) := (World.rowIs_made wr (.int .i64 0) k 3).congr (fun j _ => by simp [numRow])
      have HB2 : Hid (Below w.heap.size w (wr.alloc (.cells (madeCells #[.int .i64 0] k) 3))) := hb.out.alloc hb.out.size _
      have HFL : Hid (∀ j, j < k → flrY N k wt j = N * wt j / sumY wt k ∧ flrY N k wt j ≤ 1000) := fun j hj => ⟨rfl, Nat.le_trans (flrY_le N k wt hj) hN⟩
      have HFS : Hid (∀ j, j ≤ k → sumY (flrY N k wt) j ≤ N) := fun j hj => Nat.le_trans (sumY_mono _ hj) (floors_le hsp)
      have HOV : Hid (overY N k wt < k) := overY_lt hsp h1
      clear hb
      generalize hS : sumY wt k = S at *
      clear hS
      obtain ⟨w1, rfl⟩ : ∃ w1, w1 = wr := ⟨_, rfl⟩
      go_wp2
      clear hmk
      go_loopw [9, 30] (fun s9 s30 wi => ∃ j : Nat, j ≤ k ∧ s9 = .int .i64 ((N - sumY (flrY N k wt) j : Nat) : Int) ∧ s30 = .int .i64 j ∧ Hid (wi.rowIs w1.heap.size 3 k (numRow (fun i => ((if i < j then flrY N k wt i else 0 : Nat) : Int)))) ∧ Hid (Below w.heap.size w wi)) (fun _ s30 _ => k - (intOf s30).toNat)
      case atStart => exact ⟨0, Nat.zero_le _, rfl, rfl, HR, HB2⟩
      case round =>
        clear HR HB2
        obtain ⟨j, hj, rfl, rfl, hR, hb⟩ := hrel
        by_cases hjk : j < k
        · have hc1 := (hb.out.cell (p := ⟨b, o + j * 2, none⟩) hbl).trans (HC.out j hjk).1
          have hc2 := (hb.out.cell (p := ⟨b, o + j * 2 + 1, none⟩) hbl).trans (HC.out j hjk).2
          have hw1 := (HW.out j hjk).2
          obtain ⟨hq1, hq2⟩ := HFL.out j hjk
          have hf1 := HFS.out (j + 1) hjk
          have hf0 := HFS.out j hj
          have e1 : sumY (flrY N k wt) (j + 1) = sumY (flrY N k wt) j + flrY N k wt j := rfl
          rw [e1] at hf1
          have HE1 : Hid (sumY (flrY N k wt) (j + 1) = sumY (flrY N k wt) j + flrY N k wt j) := e1
          have HRN : Hid (∀ wx : World, wx.rowIs w1.heap.size 3 k (numRow (fun i => ((if i < j then flrY N k wt i else 0 : Nat) : Int))) → (wx.setCell ⟨w1.heap.size, j, none⟩ (.int .i64 (flrY N k wt j : Int))).rowIs w1.heap.size 3 k (numRow (fun i => ((if i < j + 1 then flrY N k wt i else 0 : Nat) : Int)))) := fun wx hx => by
            refine (hx.set j _).congr (fun i _ => ?_)
            unfold numRow
            dsimp only
            by_cases e : i = j
            · subst e; rw [if_pos rfl, if_pos (by omega)]
            · rw [if_neg e]
              by_cases e2 : i < j
              · rw [if_pos e2, if_pos (by omega)]
              · rw [if_neg e2, if_neg (by omega)]
          have hx := HRN.out _ (hR.out.alloc (.cells #[.int .i64 (wt j : Int), .int .i64 (ws j)] 36))
          have hRA := hR.out.alloc (.cells #[.int .i64 (wt j : Int), .int .i64 (ws j)] 36)
          have hcA := hRA.cell hjk
          have hfA := hRA.frozen j
          unfold numRow at hcA
          dsimp only at hcA
          rw [if_neg (Nat.lt_irrefl _)] at hcA
          have HX : Hid (((wr.alloc (.cells #[.int .i64 (wt j : Int), .int .i64 (ws j)] 36)).setCell ⟨w1.heap.size, j, none⟩ (.int .i64 (flrY N k wt j : Int))).rowIs w1.heap.size 3 k (numRow (fun i => ((if i < j + 1 then flrY N k wt i else 0 : Nat) : Int)))) := hx
          have HB3 : Hid (Below w.heap.size w ((wr.alloc (.cells #[.int .i64 (wt j : Int), .int .i64 (ws j)] 36)).setCell ⟨w1.heap.size, j, none⟩ (.int .i64 (flrY N k wt j : Int)))) := (hb.out.alloc hb.out.size _).setCell (p := ⟨w1.heap.size, j, none⟩) hM _
          clear hx HRN hRA hR hb e1
          generalize sumY (flrY N k wt) j = sj at *
          generalize flrY N k wt j = q at *
          generalize wt j = x at *
          generalize ws j = y at *
          obtain ⟨p, hp⟩ : ∃ p, p = N * x := ⟨_, rfl⟩
          have hp2 : p ≤ 20000 := by rw [hp]; exact Nat.le_trans (Nat.mul_le_mul hN hw1) (by omega)
          have hp3 : (N : Int) * (x : Int) = (p : Int) := by rw [hp]; exact (Int.natCast_mul N x).symm
          have hdv : Int.tdiv (p : Int) (S : Int) = (q : Int) := by rw [hq1, ← hp]; rfl
          have HP : Hid (p = N * x) := hp
          clear hq1 hp
          go_wp2
          go_roundw
          case rel => exact ⟨j + 1, by omega, by rw [HE1.out]; go_num, by go_num, HX, HB3⟩
          case measure => simp [intOf]; omega
        · have hje : j = k := by omega
          subst hje
          have HO : Hid (N - sumY (flrY N j wt) j = overY N j wt) := rfl
          rw [HO.out]
          have HR2 : Hid (wr.rowIs w1.heap.size 3 j (numRow (fun i => ((flrY N j wt i + if i < 0 then 1 else 0 : Nat) : Int)))) := hR.out.congr (fun i hi => by unfold numRow; dsimp only; rw [if_pos hi, if_neg (by omega), Nat.add_zero])
          have hov := HOV.out
          have HSH : Hid (∀ i, shareY N j wt i = flrY N j wt i + if i < overY N j wt then 1 else 0) := fun i => rfl
          clear hR HO hjk hj
          generalize overY N j wt = ov at *
          go_wp2
          go_loopw [52] (fun s52 wi => ∃ m : Nat, m ≤ ov ∧ s52 = .int .i64 m ∧ Hid (wi.rowIs w1.heap.size 3 j (numRow (fun i => ((flrY N j wt i + if i < m then 1 else 0 : Nat) : Int)))) ∧ Hid (Below w.heap.size w wi)) (fun s52 _ => ov - (intOf s52).toNat)
          case atStart => exact ⟨0, Nat.zero_le _, rfl, HR2, hb⟩
          case round =>
            clear HR2 hb
            obtain ⟨m, hm, rfl, hR, hb⟩ := hrel
            by_cases hmo : m < ov
            · have hmj : m < j := by omega
              have hcA := hR.out.cell hmj
              have hfA := hR.out.frozen m
              unfold numRow at hcA
              dsimp only at hcA
              rw [if_neg (Nat.lt_irrefl _), Nat.add_zero] at hcA
              have hq := (HFL.out m hmj).2
              have HX : Hid ((wr.setCell ⟨w1.heap.size, m, none⟩ (.int .i64 ((flrY N j wt m : Int) + 1))).rowIs w1.heap.size 3 j (numRow (fun i => ((flrY N j wt i + if i < m + 1 then 1 else 0 : Nat) : Int)))) := (hR.out.set m _).congr (fun i _ => by
                unfold numRow
                dsimp only
                by_cases e : i = m
                · subst e; rw [if_pos rfl, if_pos (by omega)]; congr 1
                · rw [if_neg e]
                  by_cases e2 : i < m
                  · rw [if_pos e2, if_pos (by omega)]
                  · rw [if_neg e2, if_neg (by omega)])
              have HB3 : Hid (Below w.heap.size w (wr.setCell ⟨w1.heap.size, m, none⟩ (.int .i64 ((flrY N j wt m : Int) + 1)))) := hb.out.setCell (p := ⟨w1.heap.size, m, none⟩) hM _
              clear hR hb
              generalize flrY N j wt m = q at *
              go_wp2
              go_roundw
              case rel => exact ⟨m + 1, by omega, by go_num, HX, HB3⟩
              case measure => simp [intOf]; omega
            · have hme : m = ov := by omega
              subst hme
              go_wp2
              go_ret
              exact ⟨_, rfl, hM, hR.out.congr (fun i _ => by unfold numRow; dsimp only; rw [HSH.out]), hb.out⟩
set_option maxRecDepth 100000 in
theorem sharesF_ok (v : Value) (gs : List Jb) (N : Nat) (w : World) (hg : JobsAt w v gs) (he : jobErr gs = 0) (h1 : 1 ≤ gs.length) (hN : N ≤ 1000) :
    Calls Tryd.prog 11 #[v, .int .i64 (N : Int)] w fun e w' => ∃ M, e = .returned (.tuple #[.slice (some ⟨M, 0, none⟩) gs.length gs.length, .nilIface]) ∧ w.heap.size ≤ M ∧ w'.rowIs M 3 gs.length (numRow (fun k => (shareY N gs.length (wtN gs) k : Int))) ∧ Below w.heap.size w w' := by
  have hck := check_any v gs w hg
  rw [he, errV_zero] at hck
  have him : ∀ wx, Calls Tryd.prog 15 #[.int .i64 (N : Int)] wx fun e w' => e = .returned (.bool true) ∧ w' = wx := fun wx => by
    have h := isMany_any (N : Int) wx
    rw [show manyB (N : Int) = true by unfold manyB; simp; omega] at h
    exact h
  have hsh : Hid (∀ wx, Below w.heap.size w wx → Calls Tryd.prog 18 #[v, .int .i64 (N : Int)] wx fun e w' => ∃ M, e = .returned (.slice (some ⟨M, 0, none⟩) gs.length gs.length) ∧ w.heap.size ≤ M ∧ w'.rowIs M 3 gs.length (numRow (fun k => (shareY N gs.length (wtN gs) k : Int))) ∧ Below w.heap.size w w') := fun wx hb => (shares_any v gs N wx (hg.later hb) he h1 hN).mono (by
      rintro e w' ⟨M, rfl, hM, hr, hb2⟩
      have := hb.size
      exact ⟨M, rfl, by omega, hr, hb.trans (hb2.mono hb.size)⟩)
  obtain ⟨hl, a, c, rfl, _⟩ := hg
  have h0 : ((gs.length : Int) == 0) = false := beq_eq_false_iff_ne.2 (by omega)
  clear he
  generalize gs.length = n at *
  generalize wtN gs = wt at *
  go_enter Tryd.func11, Tryd.ntmps11
  go_wp2_with (first | (go_at_call 6; refine hck.mono ?_; clear hck; rintro e w1 ⟨rfl, hb1⟩; have hsw := hsh.out w1 hb1; clear hb1 hsh) | (go_at_call 15; refine (him _).mono ?_; clear him; rintro e w1 ⟨rfl, rfl⟩) | (go_at_call 18; refine hsw.mono ?_; clear hsw; rintro e w3 ⟨M, rfl, hM, hr, hb3⟩; have HR : Hid (w3.rowIs M 3 n (numRow (fun k => (shareY N n wt k : Int)))) := hr; clear hr))
  go_ret2
  exact ⟨M, rfl, hM, HR.out, hb3⟩
set_option maxRecDepth 100000 in
theorem sharesF_bad (v : Value) (gs : List Jb) (n : Int) (w : World) (hg : JobsAt w v gs) (he : jobErr gs ≠ 0) :
    Calls Tryd.prog 11 #[v, .int .i64 n] w fun e w' => e = .returned (.tuple #[.slice none 0 0, errV (jobErr gs)]) ∧ Below w.heap.size w w' := by
  have hck := check_any v gs w hg
  obtain ⟨_, a, c, rfl, _⟩ := hg
  have HV : Hid (errV (jobErr gs) = .iface 40 (.int .i64 (jobErr gs))) := if_neg he
  rw [HV.out] at hck ⊢
  generalize jobErr gs = q at *
  clear he
  go_enter Tryd.func11, Tryd.ntmps11
  go_wp2_with (first | (go_at_call 6; refine hck.mono ?_; clear hck; rintro e w1 ⟨rfl, hb1⟩))
  go_ret2
  exact ⟨rfl, hb1⟩
set_option maxRecDepth 100000 in
theorem sharesF_none (v : Value) (gs : List Jb) (n : Int) (w : World) (hg : JobsAt w v gs) (he : jobErr gs = 0) (h0 : gs.length = 0) :
    Calls Tryd.prog 11 #[v, .int .i64 n] w fun e w' => e = .returned (.tuple #[.slice none 0 0, errV 5]) ∧ Below w.heap.size w w' := by
  have hck := check_any v gs w hg
  obtain ⟨_, a, c, rfl, _⟩ := hg
  rw [he, errV_zero] at hck
  rw [h0] at hck ⊢
  clear he h0
  rw [show errV 5 = .iface 40 (.int .i64 5) from rfl]
  go_enter Tryd.func11, Tryd.ntmps11
  go_wp2_with (first | (go_at_call 6; refine hck.mono ?_; clear hck; rintro e w1 ⟨rfl, hb1⟩))
  go_ret2
  exact ⟨rfl, hb1⟩
set_option maxRecDepth 100000 in
theorem sharesF_most (v : Value) (gs : List Jb) (n : Int) (w : World) (hg : JobsAt w v gs) (he : jobErr gs = 0) (h1 : 1 ≤ gs.length) (hn : manyB n = false) :
    Calls Tryd.prog 11 #[v, .int .i64 n] w fun e w' => e = .returned (.tuple #[.slice none 0 0, errV 1]) ∧ Below w.heap.size w w' := by
  have hck := check_any v gs w hg
  obtain ⟨_, a, c, rfl, _⟩ := hg
  rw [he, errV_zero] at hck
  have him := fun wx => isMany_any n wx
  rw [hn] at him
  have h0 : ((gs.length : Int) == 0) = false := beq_eq_false_iff_ne.2 (by omega)
  clear he hn
  rw [show errV 1 = .iface 40 (.int .i64 1) from rfl]
  generalize gs.length = m at *
  go_enter Tryd.func11, Tryd.ntmps11
  go_wp2_with (first | (go_at_call 6; refine hck.mono ?_; clear hck; rintro e w1 ⟨rfl, hb1⟩) | (go_at_call 15; refine (him _).mono ?_; clear him; rintro e w1 ⟨rfl, rfl⟩))
  go_ret2
  exact ⟨rfl, hb1⟩
end Go.Proofs.YtajmnnjafhanaaaDoor
