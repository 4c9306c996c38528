/- The walk of YardFair. -/
import Derived.Test.YtajmnnjafhanaaaYj
import Derived.Deep.CutRange
import Derived.Deep.CutBlock
namespace Go.Proofs.Ytajmnnjafhanaaa
open Go.RowKit Go.Deep

/-- The law's own two jobs. -/
theorem serve_fact (w : World) : Calls Try.prog 5 #[.slice (some ⟨w.heap.size, 0, none⟩) 2 2, .int .i64 4] (w.alloc (.cells #[.int .i64 2, .int .i64 9, .int .i64 1, .int .i64 9] 29)) fun e w' => ∃ (g oc L : Nat), e = .returned (.tuple #[.slice (some ⟨g, 0, none⟩) 4 oc, .slice (some ⟨L, 0, none⟩) 2 2, .nilIface]) ∧ (w'.cell? ⟨g, 0, none⟩ = some (.int .i64 0) ∧ w'.cell? ⟨g, 2, none⟩ = some (.int .i64 1) ∧ w'.cell? ⟨g, 3, none⟩ = some (.int .i64 0) ∧ w'.cell? ⟨L, 1, none⟩ = some (.int .i64 6)) ∧ Below w.heap.size w w' := by
  refine (serve_ok _ _ 4 _ (two_jobs w 2 9 1 9) (two_right (by omega) (by omega) (by omega) (by omega)) (by omega)).mono ?_
  rintro e w' ⟨ov, L, rfl, hS⟩
  obtain ⟨oa, oc, rfl, hR⟩ := hS.reads
  have ho : (endY [((2 : Int), (9 : Int)), ((1 : Int), (9 : Int))] 4).out = [0, 0, 1, 0] := by decide
  have hl : (endY [((2 : Int), (9 : Int)), ((1 : Int), (9 : Int))] 4).left 0 = 6 := by decide
  rw [ho] at hR
  obtain ⟨g, rfl, _, h0⟩ := hR 0 (by simp)
  obtain ⟨g2, e2, _, h2⟩ := hR 2 (by simp)
  obtain ⟨g3, e3, _, h3⟩ := hR 3 (by simp)
  simp only [Option.some.injEq, Addr.mk.injEq, and_true] at e2 e3
  subst e2
  subst e3
  have h4 := hS.row.cell (i := 0 * 2 + 1) (by simp)
  rw [jobRow_wts, hl] at h4
  refine ⟨g, oc, L, by rw [ho]; rfl, ⟨h0, h2, h3, h4⟩, ((Below.refl _ _).alloc (Nat.le_refl _) _).trans (hS.below.mono (by simp))⟩

set_option maxRecDepth 100000 in
set_option maxHeartbeats 4000000 in
theorem fair_no (v : Value) (n : Int) (q : Int) (w : World) (gs : List Jb) (hg : JobsAt w v gs)
    (hs : ∀ wx, Below w.heap.size w wx → Calls Try.prog 5 #[v, .int .i64 n] wx fun e w' => e = .returned (.tuple #[.slice none 0 0, .slice none 0 0, .iface 37 (.int .i64 q)]) ∧ Below wx.heap.size wx w') :
    Calls Try.prog 3 #[v, .int .i64 n] w fun e w' => e = .returned (.bool true) ∧ Below w.heap.size w w' := by
  have hsf := serve_fact w
  have HS : Hid (∀ wx, Below w.heap.size w wx → Calls Try.prog 5 #[v, .int .i64 n] wx fun e w' => e = .returned (.tuple #[.slice none 0 0, .slice none 0 0, .iface 37 (.int .i64 q)]) ∧ Below wx.heap.size wx w') := hs
  obtain ⟨_, a, c, rfl, _⟩ := hg
  clear hs
  go_enter Try.func3, Try.ntmps3
  go_wp2_with fail
  refine hsf.mono ?_
  clear hsf
  rintro e w1 ⟨g, oc, L, rfl, ⟨c0, c2, c3, c4⟩, hb1⟩
  have hs2 := HS.out w1 hb1
  have HB : Hid (Below w.heap.size w w1) := hb1
  clear HS hb1
  go_wp2_with fail
  refine hs2.mono ?_
  clear hs2
  rintro e w2 ⟨rfl, hb2⟩
  go_wp2
  go_ret
  exact ⟨rfl, HB.out.trans (hb2.mono HB.out.size)⟩

/-- What is known of what was done. -/
structure FairY (n N : Nat) (wt ws : Nat → Nat) (zs : List Nat) (lf : Nat → Nat) : Prop where
  le : zs.length ≤ N
  own : ∀ k, k < zs.length → zs.getD k 0 < n
  cnt : ∀ i, zs.count i + lf i = ws i
  done : zs.length < N → ∀ i, i < n → lf i = 0
  fair : ∀ i k, i < n → k < n → 0 < lf i → 0 < lf k → zs.count i / wt i ≤ zs.count k / wt k + 1
theorem fairY_of {gs : List Jb} (he : jobErr gs = 0) (N : Nat) : FairY gs.length N (wtN gs) (wsN gs) (endY gs N).out (endY gs N).left := by
  have hok := OkY.rounds N gs.length (wtN gs) (wsN gs) N
  have hw : ∀ i, i < gs.length → 1 ≤ wtN gs i := fun i hi => (wtN_eq he hi).2.1
  exact ⟨hok.le, fun k hk => hok.own _ (getD_mem 0 hk), hok.cnt, fun h => doneY_rest (roundsY_ends hw) h, fun i k hi hk h1 h2 => fairY hw hi hk h1 h2⟩
def allB (lf : Nat → Nat) : Nat → Bool
  | 0 => true
  | k + 1 => allB lf k && decide (0 < lf k)
theorem allB_all {lf : Nat → Nat} : ∀ {n : Nat}, allB lf n = true → ∀ i, i < n → 0 < lf i := by
  intro n
  induction n with
  | zero => intro _ i hi; omega
  | succ n ih =>
    intro h i hi
    unfold allB at h
    rw [Bool.and_eq_true] at h
    by_cases e : i = n
    · subst e; simpa using h.2
    · exact ih h.1 i (by omega)
/-- What is read of a job: how many bits it had, its weight, and in how many rounds. -/
structure DivJ (w : World) (A b o j x ct d : Nat) : Prop where
  many : w.cell? ⟨A, j, none⟩ = some (.int .i64 (ct : Int))
  wgt : w.cell? ⟨b, o + j * 2, none⟩ = some (.int .i64 (x : Int))
  div : Int.tdiv (ct : Int) (x : Int) = (d : Int)
  pos : 1 ≤ x
  posb : ((x : Int) == 0) = false
  le : d ≤ 1000
  six : j < 6
  sixi : (j : Int) < 6
theorem divJ_of {w : World} {A b o j x ct : Nat} (h1 : w.cell? ⟨A, j, none⟩ = some (.int .i64 (ct : Int))) (h2 : w.cell? ⟨b, o + j * 2, none⟩ = some (.int .i64 (x : Int))) (hx : 1 ≤ x ∧ x ≤ 20) (hc : ct ≤ 1000) (hj : j < 6) : DivJ w A b o j x ct (ct / x) :=
  ⟨h1, h2, rfl, hx.1, beq_eq_false_iff_ne.2 (by omega), Nat.le_trans (Nat.div_le_self _ _) hc, hj, by omega⟩
theorem sumY_zero {f : Nat → Nat} {n : Nat} (h : ∀ i, i < n → f i = 0) : sumY f n = 0 := by
  have := sumY_le (f := f) (c := 0) (n := n) (fun i hi => by rw [h i hi]; exact Nat.le_refl _)
  omega
set_option maxRecDepth 100000 in
set_option maxHeartbeats 8000000 in
theorem fair_ok (v : Value) (gs : List Jb) (N : Nat) (w : World) (hg : JobsAt w v gs) (he : jobErr gs = 0) (hN : N ≤ 1000) :
    Calls Try.prog 3 #[v, .int .i64 (N : Int)] w fun e w' => e = .returned (.bool true) ∧ Below w.heap.size w w' := by
  have hsf := serve_fact w
  have h6 := (jobErr_right he).1
  have HS : Hid (∀ wx, Below w.heap.size w wx → Calls Try.prog 5 #[v, .int .i64 (N : Int)] wx fun e w' => ∃ ov L, e = .returned (.tuple #[ov, .slice (some ⟨L, 0, none⟩) gs.length gs.length, .nilIface]) ∧ SM wx.heap.size L gs.length (wgtJ gs) wx w' ov (endY gs N)) := fun wx hb => serve_ok v gs N wx (hg.later hb) he hN
  have HH : Hid (∀ wx, Below w.heap.size w wx → Calls Try.prog 6 #[v, .int .i64 (N : Int)] wx fun e w' => ((gs.length = 0 ∧ e = .returned (.tuple #[.slice none 0 0, .iface 37 (.int .i64 5)])) ∨ (1 ≤ gs.length ∧ ∃ M, e = .returned (.tuple #[.slice (some ⟨M, 0, none⟩) gs.length gs.length, .nilIface]) ∧ w'.rowIs M 3 gs.length (numRow (fun k => (shareY N gs.length (wtN gs) k : Int))))) ∧ Below wx.heap.size wx w') := fun wx hb => by
    by_cases h0 : gs.length = 0
    · exact (sharesF_none v gs N wx (hg.later hb) he h0).mono fun e w' h => ⟨Or.inl ⟨h0, h.1⟩, h.2⟩
    · refine (sharesF_ok v gs N wx (hg.later hb) he (by omega) hN).mono ?_
      rintro e w' ⟨M, rfl, _, hr, hb2⟩
      exact ⟨Or.inr ⟨by omega, M, rfl, hr⟩, hb2⟩
  have HF : Hid (FairY gs.length N (wtN gs) (wsN gs) (endY gs N).out (endY gs N).left) := fairY_of he N
  have HW : Hid (∀ k, k < gs.length → wgtJ gs k = (wtN gs k : Int) ∧ 1 ≤ wtN gs k ∧ wtN gs k ≤ 20) := fun k hk => wtN_eq he hk
  have HV : Hid (∀ k, k < gs.length → wtsJ gs k = (wsN gs k : Int) ∧ wsN gs k ≤ 10000) := fun k hk => wsN_eq he hk
  have HSS : Hid (1 ≤ gs.length → sumY (shareY N gs.length (wtN gs)) gs.length = N) := fun h1 => shares_sum (sumY_pos (fun i hi => (wtN_eq he hi).2.1) h1) h1
  have HG : Hid (JobsAt w v gs) := hg
  obtain ⟨_, a, c, rfl, _⟩ := hg
  have HC : Hid (∀ k, k < gs.length → ∃ b o, a = some ⟨b, o, none⟩ ∧ b < w.heap.size ∧ w.cell? ⟨b, o + k * 2, none⟩ = some (.int .i64 (wtN gs k : Int)) ∧ w.cell? ⟨b, o + k * 2 + 1, none⟩ = some (.int .i64 (wsN gs k : Int))) := fun k hk => by
    obtain ⟨_, a', c', hv, h⟩ := HG.out
    simp only [Value.slice.injEq, true_and] at hv
    obtain ⟨rfl, rfl⟩ := hv
    rcases h with h0 | ⟨b, o, h1, h2, h3⟩
    · rw [h0] at hk; simp at hk
    · have := h3 k hk
      rw [(HW.out k hk).1, (HV.out k hk).1] at this
      exact ⟨b, o, h1, h2, this⟩
  clear he HG
  go_enter Try.func3, Try.ntmps3
  go_wp2_with fail
  refine hsf.mono ?_
  clear hsf
  rintro e w1 ⟨g, oc, L0, rfl, ⟨c0, c2, c3, c4⟩, hb1⟩
  have hs2 := HS.out w1 hb1
  have HB1 : Hid (Below w.heap.size w w1) := hb1
  clear HS hb1
  go_wp2_with fail
  refine hs2.mono ?_
  clear hs2 c0 c2 c3 c4
  rintro e w2 ⟨ov, L, rfl, hS⟩
  obtain ⟨oa, oc2, rfl, hR⟩ := hS.reads
  have HX : Hid (∀ k, k < (endY gs N).out.length → ∃ g, oa = some ⟨g, 0, none⟩ ∧ g < w2.heap.size ∧ w2.cell? ⟨g, k, none⟩ = some (.int .i64 (((endY gs N).out.getD k 0 : Nat) : Int))) := hR
  have HB2 : Hid (Below w.heap.size w w2) := HB1.out.trans (hS.below.mono HB1.out.size)
  have HL : Hid (L < w2.heap.size ∧ ∀ k, k < gs.length → w2.cell? ⟨L, k * 2, none⟩ = some (.int .i64 (wtN gs k : Int)) ∧ w2.cell? ⟨L, k * 2 + 1, none⟩ = some (.int .i64 ((endY gs N).left k : Int))) := ⟨hS.row.lt, fun k hk => by
    have h1 := hS.row.cell (i := k * 2) (by omega)
    have h2 := hS.row.cell (i := k * 2 + 1) (by omega)
    rw [jobRow_wgt, (HW.out k hk).1] at h1
    rw [jobRow_wts] at h2
    exact ⟨h1, h2⟩⟩
  have hle := HF.out.le
  have HWS : Hid (∀ k, k < gs.length → wsN gs k ≤ 10000) := fun k hk => (HV.out k hk).2
  have HW1 : Hid (∀ k, k < gs.length → 1 ≤ wtN gs k ∧ wtN gs k ≤ 20) := fun k hk => (HW.out k hk).2
  clear hS hR HB1 HW HV
  generalize (endY gs N).left = lf at *
  generalize (endY gs N).out = zs at *
  generalize wtN gs = wt at *
  generalize wsN gs = ws at *
  generalize gs.length = n at *
  have HR0 : Hid ((w2.alloc (.cells #[.int .i64 0, .int .i64 0, .int .i64 0, .int .i64 0, .int .i64 0, .int .i64 0] 30)).rowIs w2.heap.size 30 6 (numRow (fun i => (((zs.take 0).count i : Nat) : Int)))) := World.rowIs_alloc w2 _ 30 _ (fun i hi => by
    match i, hi with
    | 0, _ => rfl
    | 1, _ => rfl
    | 2, _ => rfl
    | 3, _ => rfl
    | 4, _ => rfl
    | 5, _ => rfl)
  have HB3 : Hid (Below w2.heap.size w2 (w2.alloc (.cells #[.int .i64 0, .int .i64 0, .int .i64 0, .int .i64 0, .int .i64 0, .int .i64 0] 30))) := (Below.refl _ _).alloc (Nat.le_refl _) _
  go_wp2
  go_loopw [12] (fun s12 wr => ∃ k : Nat, k ≤ zs.length ∧ s12 = .int .i64 k ∧ Hid (wr.rowIs w2.heap.size 30 6 (numRow (fun i => (((zs.take k).count i : Nat) : Int)))) ∧ Hid (Below w2.heap.size w2 wr)) (fun s12 _ => zs.length - (intOf s12).toNat)
  case atStart => exact ⟨0, Nat.zero_le _, rfl, HR0, HB3⟩
  case round =>
    clear HR0 HB3
    obtain ⟨k, hk, rfl, hR, hB⟩ := hrel
    by_cases hkl : k < zs.length
    · obtain ⟨g2, rfl, hg2, hcx⟩ := HX.out k hkl
      have hcx' := (hB.out.cell (p := ⟨g2, k, none⟩) hg2).trans hcx
      have hyn := HF.out.own k hkl
      have HCS : Hid (∀ x, (zs.take (k + 1)).count x = (zs.take k).count x + if zs.getD k 0 = x then 1 else 0) := fun x => count_take_succ zs x k hkl
      have hc1 := hR.out.cell (i := zs.getD k 0) (by omega)
      have hf1 := hR.out.frozen (zs.getD k 0)
      unfold numRow at hc1
      dsimp only at hc1
      have hcl : (zs.take k).count (zs.getD k 0) ≤ 1000 := by
        have h1 := List.count_le_length (a := zs.getD k 0) (l := zs.take k)
        have h2 := List.length_take_le k zs
        omega
      have HR2 : Hid ((wr.setCell ⟨w2.heap.size, zs.getD k 0, none⟩ (.int .i64 (((zs.take k).count (zs.getD k 0) : Int) + 1))).rowIs w2.heap.size 30 6 (numRow (fun i => (((zs.take (k + 1)).count i : Nat) : Int)))) := (hR.out.set (zs.getD k 0) _).congr (fun i _ => by
        unfold numRow
        dsimp only
        rw [HCS.out i]
        by_cases e : i = zs.getD k 0
        · rw [if_pos e, if_pos e.symm, e]; rfl
        · rw [if_neg e, if_neg (fun h => e h.symm)]; rfl)
      have HB4 : Hid (Below w2.heap.size w2 (wr.setCell ⟨w2.heap.size, zs.getD k 0, none⟩ (.int .i64 (((zs.take k).count (zs.getD k 0) : Int) + 1)))) := hB.out.setCell (p := ⟨w2.heap.size, zs.getD k 0, none⟩) (Nat.le_refl _) _
      clear hR hB hcx HCS
      generalize (zs.take k).count (zs.getD k 0) = ct at *
      generalize zs.getD k 0 = y at *
      have hyl : ¬ (y : Int) ≥ (n : Int) := by omega
      have hy6 : (y : Int) < 6 := by omega
      have hy60 : y < 6 := by omega
      go_wp2
      go_roundw
      case rel => exact ⟨k + 1, by omega, by go_num, HR2⟩
      case measure => simp [intOf]; omega
    · have hke : k = zs.length := by omega
      subst hke
      have HM : Hid (∀ i, i < 6 → wr.cell? ⟨w2.heap.size, i, none⟩ = some (.int .i64 (zs.count i : Int))) := fun i hi => by
        have h := hR.out.cell hi
        unfold numRow at h
        dsimp only at h
        rw [List.take_length] at h
        exact h
      have HLL : Hid (∀ k, k < n → wr.cell? ⟨L, k * 2, none⟩ = some (.int .i64 (wt k : Int)) ∧ wr.cell? ⟨L, k * 2 + 1, none⟩ = some (.int .i64 (lf k : Int))) := fun k hk => ⟨(hB.out.cell (p := ⟨L, k * 2, none⟩) HL.out.1).trans (HL.out.2 k hk).1, (hB.out.cell (p := ⟨L, k * 2 + 1, none⟩) HL.out.1).trans (HL.out.2 k hk).2⟩
      have HBW : Hid (Below w.heap.size w wr) := HB2.out.trans (hB.out.mono HB2.out.size)
      have HCC : Hid (∀ k, k < n → ∃ b o, a = some ⟨b, o, none⟩ ∧ wr.cell? ⟨b, o + k * 2, none⟩ = some (.int .i64 (wt k : Int)) ∧ wr.cell? ⟨b, o + k * 2 + 1, none⟩ = some (.int .i64 (ws k : Int))) := fun k hk => by
        obtain ⟨b, o, h1, h2, h3, h4⟩ := HC.out k hk
        exact ⟨b, o, h1, (HBW.out.cell (p := ⟨b, o + k * 2, none⟩) h2).trans h3, (HBW.out.cell (p := ⟨b, o + k * 2 + 1, none⟩) h2).trans h4⟩
      obtain ⟨w3, rfl⟩ : ∃ w3, w3 = wr := ⟨_, rfl⟩
      obtain ⟨A, hA⟩ : ∃ A, A = w2.heap.size := ⟨_, rfl⟩
      rw [← hA] at HM ⊢
      clear hR hB HL HX HB2 hA hkl hk HC
      obtain ⟨zl, hzl⟩ : ∃ zl, zl = zs.length := ⟨_, rfl⟩
      rw [← hzl] at hle ⊢
      have HZL : Hid (zl = zs.length) := hzl
      clear hzl
      go_wp2
      go_loopw [13, 14, 15] (fun s13 s14 s15 wr => ∃ k q : Nat, k ≤ n ∧ s13 = .int .i64 (sumY lf k : Nat) ∧ s14 = .bool (allB lf k) ∧ s15 = .int .i64 k ∧ wr = w3.drewN q) (fun _ _ s15 _ => n - (intOf s15).toNat)
      case atStart => exact ⟨0, 0, Nat.zero_le _, rfl, rfl, rfl, rfl⟩
      case round =>
        obtain ⟨k, q, hk, rfl, rfl, rfl, rfl⟩ := hrel
        by_cases hkn : k < n
        · obtain ⟨b, o, rfl, hd1, hd2⟩ := HCC.out k hkn
          obtain ⟨he1, he2⟩ := HLL.out k hkn
          have hm1 := HM.out k (by omega)
          have hcn := HF.out.cnt k
          have hk6 : k < 6 := by omega
          have hk6i : (k : Int) < 6 := by omega
          have hsl : sumY lf k ≤ 60000 := by
            have h := sumY_le (f := lf) (c := 10000) (n := k) (fun i hi => by have h1 := HWS.out i (by omega); have h2 := HF.out.cnt i; omega)
            omega
          have HS1 : Hid (sumY lf (k + 1) = sumY lf k + lf k) := rfl
          have HA1 : Hid (allB lf (k + 1) = (allB lf k && decide (0 < lf k))) := rfl
          have hwk := HWS.out k hkn
          generalize zs.count k = ct at *
          generalize sumY lf k = sk at *
          generalize allB lf k = ab at *
          generalize lf k = f at *
          generalize wt k = x at *
          generalize ws k = y at *
          have hg1 : decide ((y : Int) < (ct : Int)) = false := by simp; omega
          have hg1' : decide (y < ct) = false := by simp; omega
          have hg2 : (y : Int) - (ct : Int) = (f : Int) := by omega
          go_wp2
          go_quiet (fail)
          cases ab
          · go_wp2
            go_roundw
            case rel => exact ⟨k + 1, _, by omega, by rw [HS1.out]; go_num, by rw [HA1.out]; rfl, by go_num, rfl⟩
            case measure => simp [intOf]; omega
          · go_wp2
            go_roundw
            case rel => exact ⟨k + 1, _, by omega, by rw [HS1.out]; go_num, by rw [HA1.out]; simp, by go_num, rfl⟩
            case measure => simp [intOf]; omega
        · have hke : k = n := by omega
          subst hke
          have HDN : Hid (zl < N → sumY lf k = 0) := fun h => sumY_zero (HF.out.done (by rw [← HZL.out]; exact h))
          have HALL : Hid (allB lf k = true → ∀ i, i < k → 0 < lf i) := fun h => allB_all h
          have hsl : sumY lf k ≤ 60000 := by
            have h := sumY_le (f := lf) (c := 10000) (n := k) (fun i hi => by have h1 := HWS.out i hi; have h2 := HF.out.cnt i; omega)
            omega
          generalize sumY lf k = sn at *
          generalize allB lf k = ab at *
          clear hkn hk
          obtain ⟨n, rfl⟩ : ∃ n, n = k := ⟨_, rfl⟩
          go_upto_region 25 with fail
          go_cut [189] from 23 to 259 (fun s189 wx => s189 = .bool false ∧ w3.drewN q = wx)
          case first => as_aux_lemma =>
            by_cases hz : zl < N
            · have hs0 : sn = 0 := HDN.out hz
              subst hs0
              go_wp2
              go_meet
              exact ⟨rfl, rfl⟩
            · go_wp2
              go_meet
              exact ⟨rfl, rfl⟩
          case rest => as_aux_lemma =>
            obtain ⟨rfl, rfl⟩ := hcut
            clear HDN
            go_wp2
            go_loopw [16] (fun s16 wr => ∃ k q : Nat, k ≤ n ∧ s16 = .int .i64 k ∧ wr = w3.drewN q) (fun s16 _ => n - (intOf s16).toNat)
            case atStart => exact ⟨0, q, Nat.zero_le _, rfl, rfl⟩
            case round =>
              obtain ⟨k, q2, hk, rfl, rfl⟩ := hrel
              go_upto_region 28 with fail
              go_cut [196] from 190 to 226 (fun s196 wx => ∃ bb : Bool, s196 = .bool bb ∧ Hid (bb = true ↔ (k < n ∧ ab = true)) ∧ w3.drewN q2 = wx)
              case first =>
                by_cases hkn : k < n
                · have HKN : Hid (k < n) := hkn
                  cases ab
                  · go_wp2
                    go_meet
                    exact ⟨false, rfl, iff_of_false (by simp) (fun h => by cases h.2), rfl⟩
                  · go_wp2
                    go_meet
                    exact ⟨true, rfl, iff_of_true rfl ⟨HKN.out, trivial⟩, rfl⟩
                · have HKN : Hid (¬ k < n) := hkn
                  go_wp2
                  go_meet
                  exact ⟨false, rfl, iff_of_false (by simp) (fun h => HKN.out h.1), rfl⟩
              case rest =>
                obtain ⟨bb, rfl, hbb, rfl⟩ := hcut
                cases bb
                · have hb5 : Below w.heap.size w (w3.drewN q2) := HBW.out.trans ((drawn_below w3 q2).mono HBW.out.size)
                  have hsh := HH.out _ hb5
                  have HB5 : Hid (Below w.heap.size w (w3.drewN q2)) := hb5
                  have HSQ : Hid (1 ≤ n → (∀ k, k ≤ n → sumY (shareY N n wt) k ≤ 1000) ∧ sumY (shareY N n wt) n = N) := fun h => ⟨fun k hk => Nat.le_trans (sumY_mono _ hk) (by rw [HSS.out h]; exact hN), HSS.out h⟩
                  clear HF HM HCC HLL HW1 HWS HSS HH HALL hbb HZL hb5
                  go_wp2_with fail
                  refine hsh.mono ?_
                  clear hsh
                  rintro e w5 ⟨h5, hb6⟩
                  have HB6 : Hid (Below w.heap.size w w5) := HB5.out.trans (hb6.mono HB5.out.size)
                  clear hb6 HB5 HBW
                  rcases h5 with ⟨h0, rfl⟩ | ⟨h1, M, rfl, hr⟩
                  · subst h0
                    go_wp2
                    go_ret
                    exact ⟨rfl, HB6.out⟩
                  · have HR : Hid (∀ k, k < n → w5.cell? ⟨M, k, none⟩ = some (.int .i64 (shareY N n wt k : Int))) := fun k hk => hr.cell hk
                    obtain ⟨hq1, hq2⟩ := HSQ.out h1
                    have HQ1 : Hid (∀ k, k ≤ n → sumY (shareY N n wt) k ≤ 1000) := hq1
                    have HQ2 : Hid (sumY (shareY N n wt) n = N) := hq2
                    clear hr hq1 hq2 HSQ
                    go_wp2
                    go_loopw [21, 22] (fun s21 s22 wr => ∃ k : Nat, k ≤ n ∧ s21 = .int .i64 ((sumY (shareY N n wt) k : Nat) : Int) ∧ s22 = .int .i64 k ∧ w5 = wr) (fun _ s22 _ => n - (intOf s22).toNat)
                    case atStart => exact ⟨0, Nat.zero_le _, rfl, rfl, rfl⟩
                    case round =>
                      obtain ⟨k, hk, rfl, rfl, rfl⟩ := hrel
                      by_cases hkn : k < n
                      · have hc1 := HR.out k hkn
                        have hs1 := HQ1.out k hk
                        have hs2 := HQ1.out (k + 1) hkn
                        have HSU : Hid (sumY (shareY N n wt) (k + 1) = sumY (shareY N n wt) k + shareY N n wt k) := rfl
                        rw [HSU.out] at hs2
                        clear HR HQ1 HQ2
                        generalize sumY (shareY N n wt) k = sk at *
                        generalize shareY N n wt k = y at *
                        go_wp2
                        go_roundw
                        case rel => exact ⟨k + 1, by omega, by rw [HSU.out]; go_num, by go_num, trivial⟩
                        case measure => simp [intOf]; omega
                      · have hke : k = n := by omega
                        subst hke
                        rw [HQ2.out]
                        go_wp2
                        go_ret
                        exact ⟨rfl, HB6.out⟩
                · obtain ⟨hkn, hab⟩ := hbb.out.1 rfl
                  obtain ⟨b, o, rfl, -, -⟩ := HCC.out k hkn
                  have HJ : Hid (∀ j, j < n → ∃ x2 ct2 d2 : Nat, DivJ w3 A b o j x2 ct2 d2 ∧ d2 = zs.count j / wt j) := fun j hj => by
                    obtain ⟨b2, o2, hab2, he1, -⟩ := HCC.out j hj
                    simp only [Option.some.injEq, Addr.mk.injEq, and_true] at hab2
                    obtain ⟨h1, h2⟩ := hab2
                    rw [← h1, ← h2] at he1
                    refine ⟨wt j, zs.count j, zs.count j / wt j, ?_, rfl⟩
                    exact divJ_of (HM.out j (Nat.lt_of_lt_of_le hj h6)) he1 (HW1.out j hj) (Nat.le_trans (List.count_le_length) (by rw [← HZL.out]; exact Nat.le_trans hle hN)) (Nat.lt_of_lt_of_le hj h6)
                  obtain ⟨x1, ct1, d1, hD1, hd1⟩ := HJ.out k hkn
                  have HJ2 : Hid (∀ j, j < n → ∃ x2 ct2 d2 : Nat, DivJ w3 A b o j x2 ct2 d2 ∧ d1 ≤ d2 + 1) := fun j hj => by
                    obtain ⟨x2, ct2, d2, hD2, hd2⟩ := HJ.out j hj
                    refine ⟨x2, ct2, d2, hD2, ?_⟩
                    rw [hd1, hd2]
                    exact HF.out.fair k j hkn hj (HALL.out hab k hkn) (HALL.out hab j hj)
                  obtain ⟨hm1, hc1, hdv1, hx1, hx1z, hq1, hk6, hk6i⟩ := hD1
                  clear HJ hd1 HF HM HCC HLL HW1 HWS HSS HH HALL hab hbb HZL
                  go_wp2
                  go_loopw [17] (fun s17 wr => ∃ j q : Nat, j ≤ n ∧ s17 = .int .i64 j ∧ wr = w3.drewN q) (fun s17 _ => n - (intOf s17).toNat)
                  case atStart => exact ⟨0, q2, Nat.zero_le _, rfl, rfl⟩
                  case round =>
                    obtain ⟨j, q3, hj, rfl, rfl⟩ := hrel
                    by_cases hjn : j < n
                    · obtain ⟨x2, ct2, d2, ⟨hm2, hc2, hdv2, hx2, hx2z, hq2, hj6, hj6i⟩, hfa⟩ := HJ2.out j hjn
                      clear HJ2
                      go_wp2
                      go_quiet (fail)
                      go_wp2
                      go_quiet (fail)
                      go_wp2
                      go_roundw
                      case rel => exact ⟨j + 1, _, by omega, by go_num, rfl⟩
                      case measure => simp [intOf]; omega
                    · go_wp2
                      go_roundw
                      case rel => exact ⟨k + 1, _, by omega, by go_num, rfl⟩
                      case measure => simp [intOf]; omega
theorem fair_any (v : Value) (gs : List Jb) (n : Int) (w : World) (hg : JobsAt w v gs) :
    Calls Try.prog 3 #[v, .int .i64 n] w fun e w' => e = .returned (.bool true) ∧ Below w.heap.size w w' := by
  by_cases he : jobErr gs = 0
  · by_cases hn : manyB n = true
    · unfold manyB at hn
      simp only [Bool.and_eq_true, decide_eq_true_eq] at hn
      obtain ⟨N, rfl⟩ : ∃ N : Nat, n = N := ⟨n.toNat, by omega⟩
      exact fair_ok v gs N w hg he (by omega)
    · refine fair_no v n 1 w gs hg (fun wx hb => ?_)
      exact serve_most v gs n wx (hg.later hb) he (by simpa using hn)
  · refine fair_no v n (jobErr gs) w gs hg (fun wx hb => ?_)
    have h := serve_bad v gs n wx (hg.later hb) he
    rw [show errV (jobErr gs) = .iface 37 (.int .i64 (jobErr gs)) from if_neg he] at h
    exact h
end Go.Proofs.Ytajmnnjafhanaaa
