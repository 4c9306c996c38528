/- The contracts of serveRound and of Serve. -/
import Derived.Test.YtajmnnjafhanaaaDoorYg
import Derived.OwnWalk
namespace Go.Proofs.YtajmnnjafhanaaaDoor
open Go.RowKit Go.Deep

theorem roundY_len {most : Nat} {wt : Nat → Nat} {s : Ys} (h : s.out.length ≤ most) (k : Nat) : (roundY most wt s k).out.length ≤ most := by
  induction k with
  | zero => exact h
  | succ k ih =>
    show (turnY most (wt k) (roundY most wt s k) k).out.length ≤ most
    rw [turnY_len]
    have := (takeY_le most (wt k) (roundY most wt s k) k).2.2
    omega
set_option maxRecDepth 100000 in
set_option maxHeartbeats 4000000 in
theorem serveRound_any (B L n most : Nat) (W : Nat → Int) (wt : Nat → Nat) (w0 w : World) (ov : Value) (s : Ys) (hS : SM B L n W w0 w ov s) (hn : n ≤ 6) (hw : ∀ k, k < n → W k = (wt k : Int) ∧ wt k ≤ 20) (hm : most ≤ 1000) (hle : s.out.length ≤ most) (hlt : ∀ k, s.left k ≤ 10000) :
    Calls Tryd.prog 17 #[.slice (some ⟨L, 0, none⟩) n n, ov, .int .i64 (most : Int)] w fun e w' => ∃ v, e = .returned v ∧ SM B L n W w0 w' v (roundY most wt s n) := by
  have HS : Hid (SM B L n W w0 w ov s) := hS
  have HW : Hid (∀ k, k < n → W k = (wt k : Int) ∧ wt k ≤ 20) := hw
  have HLE : Hid (s.out.length ≤ most) := hle
  have HLT : Hid (∀ k, s.left k ≤ 10000) := hlt
  obtain ⟨oa, oc, rfl⟩ := hS.out.shape
  have hzl : (intsOf s.out).length ≤ 1000 := by rw [intsOf_length]; omega
  clear hS hw hle hlt
  go_enter Tryd.func17, Tryd.ntmps17
  go_wp2
  go_loopw [1, 12] (fun s1 s12 wr => ∃ k : Nat, k ≤ n ∧ s12 = .int .i64 k ∧ Hid (SM B L n W w0 wr s1 (roundY most wt s k))) (fun _ s12 _ => n - (intOf s12).toNat)
  case atStart => exact ⟨0, Nat.zero_le _, rfl, HS⟩
  case round =>
    clear HS hzl
    obtain ⟨k, hk, rfl, hS⟩ := hrel
    obtain ⟨ra, rc, rfl⟩ := hS.out.out.shape
    have hl1 : (intsOf (roundY most wt s k).out).length ≤ most := by rw [intsOf_length]; exact roundY_len HLE.out k
    by_cases hkn : k < n
    · have HT : Hid (roundY most wt s (k + 1) = turnY most (wt k) (roundY most wt s k) k) := rfl
      have hl2 : (roundY most wt s k).left k ≤ 10000 := Nat.le_trans ((roundY_mono most wt s k).1 k) (HLT.out k)
      have HZ : Hid ((intsOf (roundY most wt s k).out).length = (roundY most wt s k).out.length) := intsOf_length _
      generalize roundY most wt s k = t at *
      have hc1 := hS.out.row.cell (i := k * 2) (by omega)
      have hc2 := hS.out.row.cell (i := k * 2 + 1) (by omega)
      rw [jobRow_wgt, (HW.out k hkn).1] at hc1
      rw [jobRow_wts] at hc2
      have ha := (HW.out k hkn).2
      obtain ⟨tk, htk⟩ : ∃ tk, tk = takeY most (wt k) t k := ⟨_, rfl⟩
      obtain ⟨ht1, ht2, ht3⟩ := takeY_le most (wt k) t k
      rw [← htk] at ht1 ht2 ht3
      have HTK : Hid (tk = takeY most (wt k) t k) := htk
      obtain ⟨zl, hzl⟩ : ∃ zl, zl = (intsOf t.out).length := ⟨_, rfl⟩
      rw [← hzl] at hl1 HZ hS ⊢
      have hmn : ∀ wx, (Builtin.min_ #[3, 3, 3] 3 #[.int .i64 (wt k : Int), .int .i64 (t.left k : Int), .int .i64 ((most : Int) - (zl : Int))]).run Tryd.prog wx = .ok (.int .i64 (tk : Int)) wx := fun wx => run_min_three _ _ _ _ _ _ (by rw [htk]; unfold takeY; rw [← HZ.out]; omega) wx
      rw [← HZ.out] at ht3
      have hlL := hS.out.row.lt
      have hfz := hS.out.row.frozen (k * 2 + 1)
      generalize wt k = a at *
      generalize hb : t.left k = b at *
      have HB : Hid (t.left k = b) := hb
      have hcA : (wr.alloc (.cells #[.int .i64 (a : Int), .int .i64 (b : Int)] 36)).cell? ⟨L, k * 2 + 1, none⟩ = some (.int .i64 (b : Int)) := (World.cell?_of_block (a := ⟨L, k * 2 + 1, none⟩) (Below.heap_alloc _ _ _ hlL)).trans hc2
      have hfA : (wr.alloc (.cells #[.int .i64 (a : Int), .int .i64 (b : Int)] 36)).frozen? ⟨L, k * 2 + 1, none⟩ = false := (World.frozen?_of_block (a := ⟨L, k * 2 + 1, none⟩) (Below.heap_alloc _ _ _ hlL)).trans hfz
      have HS2 : Hid (SM B L n W w0 ((wr.alloc (.cells #[.int .i64 (a : Int), .int .i64 (b : Int)] 36)).setCell ⟨L, k * 2 + 1, none⟩ (.int .i64 ((b : Int) - (tk : Int)))) (.slice ra zl rc) ⟨t.out ++ List.replicate 0 k, fun j => if j = k then b - tk else t.left j⟩) := by
        have h := (hS.out.later ((Below.refl _ _).alloc (Nat.le_refl _) (.cells #[.int .i64 (a : Int), .int .i64 (b : Int)] 36))).put k (b - tk)
        rw [show ((b - tk : Nat) : Int) = (b : Int) - (tk : Int) by omega] at h
        show SM _ _ _ _ _ _ _ _
        rw [List.replicate_zero, List.append_nil]
        exact h
      clear hb htk hzl hlL hfz
      go_wp2
      clear hcA hfA hmn hc1 hc2 hS
      go_loopw [1, 36] (fun s1 s36 wi => ∃ m : Nat, m ≤ tk ∧ s36 = .int .i64 m ∧ Hid (SM B L n W w0 wi s1 ⟨t.out ++ List.replicate m k, fun j => if j = k then b - tk else t.left j⟩)) (fun _ s36 _ => tk - (intOf s36).toNat)
      case atStart => exact ⟨0, Nat.zero_le _, rfl, HS2⟩
      case round =>
        clear HS2
        obtain ⟨m, hmt, rfl, hI⟩ := hrel
        obtain ⟨ia, ic, rfl⟩ := hI.out.out.shape
        by_cases hmk : m < tk
        · obtain ⟨ul, hul⟩ : ∃ ul, ul = (intsOf (t.out ++ List.replicate m k)).length := ⟨_, rfl⟩
          have hu2 : ul = zl + m := by rw [hul, intsOf_length, List.length_append, List.length_replicate, HZ.out]
          dsimp only at hI ⊢
          rw [← hul] at hI ⊢
          have HU : Hid (ul = (intsOf (t.out ++ List.replicate m k)).length) := hul
          have hub : ul ≤ 999 := by omega
          have hBs : B ≤ wr.heap.size := by have := hI.out.row.lt; have := hI.out.ge; omega
          have hIA := hI.out.later ((Below.refl _ _).alloc (Nat.le_refl _) (.cells #[.int .i64 (k : Int)] 3))
          have hoa := hIA.out
          dsimp only at hoa
          have HO : Hid (Rds (fun _ => True) (wr.alloc (.cells #[.int .i64 (k : Int)] 3)) (.slice (some ⟨wr.heap.size, 0, none⟩) 1 1) [(k : Int)]) := one_rds wr k
          have HIA : Hid (SM B L n W w0 (wr.alloc (.cells #[.int .i64 (k : Int)] 3)) (.slice ia ul ic) ⟨t.out ++ List.replicate m k, fun j => if j = k then b - tk else t.left j⟩) := hIA
          have HOA : Hid (RowI B (wr.alloc (.cells #[.int .i64 (k : Int)] 3)) (.slice ia ul ic) (intsOf (t.out ++ List.replicate m k))) := hoa
          clear hI hIA hoa hul hu2
          go_wp2_with (first | (at_builtin; go_loud (refine wpList_append_rows rfl (.tmp 38) (.tmp 40) rfl B (fun _ => True) (.slice ia ul ic) (.slice (some ⟨wr.heap.size, 0, none⟩) 1 1) (intsOf (t.out ++ List.replicate m k)) [(k : Int)] rfl rfl HOA.out HO.out (by rw [← HU.out]; simp; omega) (by simp; omega) ?_; intro v2 w2 hown hgr hat)))
          have HN : Hid (SM B L n W w0 w2 v2 ⟨t.out ++ List.replicate (m + 1) k, fun j => if j = k then b - tk else t.left j⟩) := by
            have h := HIA.out.more hown hgr
            show SM _ _ _ _ _ _ _ _
            rw [List.replicate_succ', ← List.append_assoc]
            exact h
          clear hown hgr hat HIA HOA HO
          go_wp2
          go_roundw
          case rel => exact ⟨m + 1, by omega, by go_num, HN⟩
          case measure => simp [intOf]; omega
        · have hme : m = tk := by omega
          subst hme
          have HN : Hid (SM B L n W w0 wr (.slice ia (intsOf (t.out ++ List.replicate m k)).length ic) (roundY most wt s (k + 1))) := by
            have h := hI.out
            show SM _ _ _ _ _ _ _ _
            rw [HT.out]
            unfold turnY
            rw [← HTK.out, HB.out]
            exact h
          clear hI
          dsimp only
          generalize (intsOf (t.out ++ List.replicate m k)).length = ul at *
          go_wp2
          go_roundw
          case rel => exact ⟨k + 1, by omega, by go_num, HN⟩
          case measure => simp [intOf]; omega
    · have hke : k = n := by omega
      subst hke
      generalize (intsOf (roundY most wt s k).out).length = ul at *
      go_wp2
      go_ret
      exact ⟨_, rfl, hS.out⟩

def wtN (gs : List Jb) (k : Nat) : Nat := (wgtJ gs k).toNat
def wsN (gs : List Jb) (k : Nat) : Nat := (wtsJ gs k).toNat
theorem wtN_eq {gs : List Jb} (h : jobErr gs = 0) {k : Nat} (hk : k < gs.length) : wgtJ gs k = (wtN gs k : Int) ∧ 1 ≤ wtN gs k ∧ wtN gs k ≤ 20 := by
  have := ((jobErr_right h).2 k hk).1
  unfold wtN
  omega
theorem wsN_eq {gs : List Jb} (h : jobErr gs = 0) {k : Nat} (hk : k < gs.length) : wtsJ gs k = (wsN gs k : Int) ∧ wsN gs k ≤ 10000 := by
  have := ((jobErr_right h).2 k hk).2
  unfold wsN
  omega
theorem wsN_le {gs : List Jb} (h : jobErr gs = 0) (k : Nat) : wsN gs k ≤ 10000 := by
  by_cases hk : k < gs.length
  · exact (wsN_eq h hk).2
  · unfold wsN wtsJ
    rw [List.getD_eq_getElem?_getD, List.getElem?_eq_none (by omega)]
    simp
/-- What jobs come to when so many bits may be done. -/
def endY (gs : List Jb) (most : Nat) : Ys := roundsY most gs.length (wtN gs) (wsN gs) most
theorem any_waits (n : Nat) (W : Nat → Int) (f : Nat → Nat) : anyJ waitJ (jobsL n W (fun k => (f k : Int))) = true ↔ ∃ k, k < n ∧ 0 < f k := by
  constructor
  · intro h
    obtain ⟨k, hk, hp⟩ := anyJ_some h
    rw [jobsL_length] at hk
    unfold waitJ at hp
    rw [(jobsL_at W (fun k => (f k : Int)) hk).2] at hp
    exact ⟨k, hk, by simpa using hp⟩
  · rintro ⟨k, hk, hp⟩
    refine anyJ_hit (k := k) (by rw [jobsL_length]; exact hk) ?_
    unfold waitJ
    rw [(jobsL_at W (fun k => (f k : Int)) hk).2]
    simpa using hp
theorem roundsY_left (most n : Nat) (wt w : Nat → Nat) (r k : Nat) : (roundsY most n wt w r).left k ≤ w k := by
  have := (OkY.rounds most n wt w r).cnt k
  omega
set_option maxRecDepth 100000 in
set_option maxHeartbeats 4000000 in
theorem serve_ok (v : Value) (gs : List Jb) (most : Nat) (w : World) (hg : JobsAt w v gs) (he : jobErr gs = 0) (hm : most ≤ 1000) :
    Calls Tryd.prog 8 #[v, .int .i64 (most : Int)] w fun e w' => ∃ ov L, e = .returned (.tuple #[ov, .slice (some ⟨L, 0, none⟩) gs.length gs.length, .nilIface]) ∧ SM w.heap.size L gs.length (wgtJ gs) w w' ov (endY gs most) := by
  have h6 := (jobErr_right he).1
  have hck := check_any v gs w hg
  rw [he, errV_zero] at hck
  have him : ∀ wx, Calls Tryd.prog 15 #[.int .i64 (most : Int)] wx fun e w' => e = .returned (.bool true) ∧ w' = wx := fun wx => by
    have h := isMany_any (most : Int) wx
    rw [show manyB (most : Int) = true by unfold manyB; simp; omega] at h
    exact h
  have hmk := run_make_jobs gs.length h6
  have HG : Hid (JobsAt w v gs) := hg
  have HE : Hid (jobErr gs = 0) := he
  obtain ⟨_, a, c, rfl, _⟩ := hg
  clear he
  go_enter Tryd.func8, Tryd.ntmps8
  go_wp2_with (first | (go_at_call 6; refine hck.mono ?_; clear hck; rintro e w1 ⟨rfl, hb1⟩; have HB1 : Hid (Below w.heap.size w w1) := hb1; clear hb1) | (go_at_call 15; refine (him _).mono ?_; clear him; rintro e w1 ⟨rfl, rfl⟩) | (go_loud (refine wpList_copy_jobs rfl (.tmp 22) (.tmp 23) rfl w1.heap.size gs a c (jobRow (fun _ => 0) (fun _ => 0)) rfl rfl (made_jobs w1 gs.length) ((HG.out.later HB1.out).later ((Below.refl _ _).alloc (Nat.le_refl _) _)) ?_; intro w2 HR2 hb2; have HB2 : Hid (Below w1.heap.size (w1.alloc (.cells (madeCells #[.int .i64 0, .int .i64 0] (gs.length * 2)) 36)) w2) := hb2; clear hb2)))
  have HS : Hid (SM w.heap.size w1.heap.size gs.length (wgtJ gs) w w2 (.slice none 0 0) (roundsY most gs.length (wtN gs) (wsN gs) 0)) := by
    have hsz := HB1.out.size
    refine ⟨HR2.out.congr (fun j hj => ?_), RowI.nil _ _, HB1.out.trans (((Below.refl _ _).alloc (Nat.le_refl _) _).trans (HB2.out) |>.mono hsz), hsz⟩
    unfold jobRow
    split
    · rfl
    · rw [(wsN_eq HE.out (show j / 2 < gs.length by omega)).1]
      rfl
  clear hmk HR2 HB2 HG HB1
  generalize w1.heap.size = L at *
  go_loopg [9] (most + 1) (fun gg s9 wr => ∃ r, r + gg = most + 1 ∧ Hid (SM w.heap.size L gs.length (wgtJ gs) w wr s9 (roundsY most gs.length (wtN gs) (wsN gs) r)) ∧ Hid (r ≤ (roundsY most gs.length (wtN gs) (wsN gs) r).out.length))
  case atStart => exact ⟨0, by omega, HS, Nat.zero_le _⟩
  case round =>
    clear HS
    obtain ⟨r, hr, hS, hR⟩ := hrel
    obtain ⟨oa, oc, rfl⟩ := hS.out.out.shape
    have hok := OkY.rounds most gs.length (wtN gs) (wsN gs) r
    have HW1 : Hid (∀ i, i < gs.length → 1 ≤ wtN gs i) := fun i hi => (wtN_eq HE.out hi).2.1
    have hL1 := hok.le
    have hlen : (intsOf (roundsY most gs.length (wtN gs) (wsN gs) r).out).length = (roundsY most gs.length (wtN gs) (wsN gs) r).out.length := intsOf_length _
    have HEND : Hid (DoneY most gs.length (roundsY most gs.length (wtN gs) (wsN gs) r) → roundsY most gs.length (wtN gs) (wsN gs) r = endY gs most) := fun h => roundsY_same h (roundsY_ends HW1.out)
    have HST : Hid (¬ DoneY most gs.length (roundsY most gs.length (wtN gs) (wsN gs) r) → r + 1 ≤ (roundsY most gs.length (wtN gs) (wsN gs) (r + 1)).out.length) := fun h => by
      have := roundY_more HW1.out hok.le h
      have := hR.out
      show r + 1 ≤ (roundY most (wtN gs) (roundsY most gs.length (wtN gs) (wsN gs) r) gs.length).out.length
      omega
    have hsr := fun wx hx => serveRound_any w.heap.size L gs.length most (wgtJ gs) (wtN gs) w wx (.slice oa (intsOf (roundsY most gs.length (wtN gs) (wsN gs) r).out).length oc) (roundsY most gs.length (wtN gs) (wsN gs) r) hx h6 (fun k hk => ⟨(wtN_eq HE.out hk).1, (wtN_eq HE.out hk).2.2⟩) hm hok.le (fun k => Nat.le_trans (roundsY_left _ _ _ _ _ _) (wsN_le HE.out k))
    have hct := containsJ_any _ _ waits_any _ _ wr (row_jobs hS.out.row (by omega))
    have HA := any_waits gs.length (wgtJ gs) (roundsY most gs.length (wtN gs) (wsN gs) r).left
    by_cases hd : (roundsY most gs.length (wtN gs) (wsN gs) r).out.length < most
    · have HD1 : Hid ((∃ k, k < gs.length ∧ 0 < (roundsY most gs.length (wtN gs) (wsN gs) r).left k) ↔ ¬ DoneY most gs.length (roundsY most gs.length (wtN gs) (wsN gs) r)) := by
        constructor
        · rintro ⟨k, hk, hp⟩ hD
          have := doneY_rest hD hd k hk
          omega
        · intro hD
          apply Classical.byContradiction
          intro hc
          exact hD (Or.inr (fun i hi => by
            apply Classical.byContradiction
            intro h0
            exact hc ⟨i, hi, by omega⟩))
      have hzl : (intsOf (roundsY most gs.length (wtN gs) (wsN gs) r).out).length < most := by omega
      cases hq : anyJ waitJ (jobsL gs.length (wgtJ gs) (fun k => ((roundsY most gs.length (wtN gs) (wsN gs) r).left k : Int)))
      · have HF : Hid (roundsY most gs.length (wtN gs) (wsN gs) r = endY gs most) := HEND.out (by
          apply Classical.byContradiction
          intro h
          have := HA.2 (HD1.out.2 h)
          rw [hq] at this
          cases this)
        rw [hq] at hct
        have HS2 : Hid (SM w.heap.size L gs.length (wgtJ gs) w wr (.slice oa (intsOf (roundsY most gs.length (wtN gs) (wsN gs) r).out).length oc) (endY gs most)) := by rw [← HF.out]; exact hS.out
        clear hsr HA HD1 HST HEND hok hS hR hq hd hL1 hlen HF
        generalize (intsOf (roundsY most gs.length (wtN gs) (wsN gs) r).out).length = zl at *
        go_wp2_with (go_at_call 13; refine hct.mono ?_; clear hct; rintro e w3 ⟨rfl, hb3⟩)
        go_ret3
        exact ⟨_, _, rfl, HS2.out.later hb3⟩
      · have HF : Hid (r + 1 ≤ (roundsY most gs.length (wtN gs) (wsN gs) (r + 1)).out.length) := HST.out (HD1.out.1 (HA.1 hq))
        have hrl : r < most := by have := hR.out; omega
        rw [hq] at hct
        have HS2 : Hid (∀ wx, Below wr.heap.size wr wx → SM w.heap.size L gs.length (wgtJ gs) w wx (.slice oa (intsOf (roundsY most gs.length (wtN gs) (wsN gs) r).out).length oc) (roundsY most gs.length (wtN gs) (wsN gs) r)) := fun wx hb => hS.out.later hb
        have HSR : Hid (∀ wx, SM w.heap.size L gs.length (wgtJ gs) w wx (.slice oa (intsOf (roundsY most gs.length (wtN gs) (wsN gs) r).out).length oc) (roundsY most gs.length (wtN gs) (wsN gs) r) → Calls Tryd.prog 17 #[.slice (some ⟨L, 0, none⟩) gs.length gs.length, .slice oa (intsOf (roundsY most gs.length (wtN gs) (wsN gs) r).out).length oc, .int .i64 (most : Int)] wx fun e w' => ∃ v, e = .returned v ∧ SM w.heap.size L gs.length (wgtJ gs) w w' v (roundsY most gs.length (wtN gs) (wsN gs) (r + 1))) := fun wx hx => hsr wx hx
        clear hsr HA HD1 HST HEND hok hS hR hq hd hL1 hlen
        generalize (intsOf (roundsY most gs.length (wtN gs) (wsN gs) r).out).length = zl at *
        go_wp2_with (first | (go_at_call 13; refine hct.mono ?_; clear hct; rintro e w3 ⟨rfl, hb3⟩; have hsr := HSR.out w3 (HS2.out w3 hb3); clear HS2 hb3 HSR) | (go_at_call 17; refine hsr.mono ?_; clear hsr; rintro e w4 ⟨v4, rfl, hS4⟩; have HS4 : Hid (SM w.heap.size L gs.length (wgtJ gs) w w4 v4 (roundsY most gs.length (wtN gs) (wsN gs) (r + 1))) := hS4; clear hS4))
        go_roundg (gk - 1)
        case measure => omega
        case rel => exact ⟨r + 1, by omega, HS4, HF⟩
    · have HF : Hid (roundsY most gs.length (wtN gs) (wsN gs) r = endY gs most) := HEND.out (Or.inl (by omega))
      have hzl : ¬ (intsOf (roundsY most gs.length (wtN gs) (wsN gs) r).out).length < most := by omega
      have HS2 : Hid (SM w.heap.size L gs.length (wgtJ gs) w wr (.slice oa (intsOf (roundsY most gs.length (wtN gs) (wsN gs) r).out).length oc) (endY gs most)) := by rw [← HF.out]; exact hS.out
      clear hsr HA HST HEND hok hS hR hd hL1 hlen HF hct
      generalize (intsOf (roundsY most gs.length (wtN gs) (wsN gs) r).out).length = zl at *
      go_wp2
      go_ret3
      exact ⟨_, _, rfl, HS2.out⟩
set_option maxRecDepth 100000 in
theorem serve_bad (v : Value) (gs : List Jb) (n : Int) (w : World) (hg : JobsAt w v gs) (he : jobErr gs ≠ 0) :
    Calls Tryd.prog 8 #[v, .int .i64 n] w fun e w' => e = .returned (.tuple #[.slice none 0 0, .slice none 0 0, errV (jobErr gs)]) ∧ Below w.heap.size w w' := by
  have hck := check_any v gs w hg
  obtain ⟨_, a, c, rfl, _⟩ := hg
  have HV : Hid (errV (jobErr gs) = .iface 40 (.int .i64 (jobErr gs))) := if_neg he
  rw [HV.out] at hck ⊢
  generalize jobErr gs = q at *
  clear he
  go_enter Tryd.func8, Tryd.ntmps8
  go_wp2_with (first | (go_at_call 6; refine hck.mono ?_; clear hck; rintro e w1 ⟨rfl, hb1⟩))
  go_ret3
  exact ⟨rfl, hb1⟩
set_option maxRecDepth 100000 in
theorem serve_most (v : Value) (gs : List Jb) (n : Int) (w : World) (hg : JobsAt w v gs) (he : jobErr gs = 0) (hn : manyB n = false) :
    Calls Tryd.prog 8 #[v, .int .i64 n] w fun e w' => e = .returned (.tuple #[.slice none 0 0, .slice none 0 0, errV 1]) ∧ Below w.heap.size w w' := by
  have hck := check_any v gs w hg
  obtain ⟨_, a, c, rfl, _⟩ := hg
  rw [he, errV_zero] at hck
  have him := fun wx => isMany_any n wx
  rw [hn] at him
  clear he hn
  rw [show errV 1 = .iface 40 (.int .i64 1) from rfl]
  go_enter Tryd.func8, Tryd.ntmps8
  go_wp2_with (first | (go_at_call 6; refine hck.mono ?_; clear hck; rintro e w1 ⟨rfl, hb1⟩) | (go_at_call 15; refine (him _).mono ?_; clear him; rintro e w1 ⟨rfl, rfl⟩))
  go_ret3
  exact ⟨rfl, hb1⟩
end Go.Proofs.YtajmnnjafhanaaaDoor
