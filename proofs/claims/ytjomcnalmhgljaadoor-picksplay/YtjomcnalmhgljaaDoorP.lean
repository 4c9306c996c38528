/- The walk of PicksPlay. -/
import Derived.Test.YtjomcnalmhgljaaDoorE
import Derived.Deep.CutRange
import Derived.Deep.CutBlock
namespace Go.Proofs.YtjomcnalmhgljaaDoor
open Go.RowKit Go.Deep

theorem RowI.set {b g n c : Nat} {w : World} {L : List Int} (h : RowI b w (.slice (some ⟨g, 0, none⟩) n c) L) (hn : n = L.length) (k : Nat) (x : Int) : RowI b (w.setCell ⟨g, k, none⟩ (.int .i64 x)) (.slice (some ⟨g, 0, none⟩) n c) (L.set k x) := by
  subst hn
  have := (World.ownsRow.stored h k (.int .i64 x)).1
  unfold RowI
  rw [List.length_set, List.map_set]
  exact this
theorem RowI.fz {b g n c : Nat} {w : World} {L : List Int} (h : RowI b w (.slice (some ⟨g, 0, none⟩) n c) L) (hn : n = L.length) (k : Nat) : w.frozen? ⟨g, k, none⟩ = false := by
  subst hn
  exact World.ownsRow.frozenAt h k
theorem RowI.ints {b : Nat} {w : World} {v : Value} {L : List Int} (h : RowI b w v L) (hl : L.length ≤ 60) : IntsAt w v L := by
  obtain ⟨a, c, rfl, _⟩ := h.cap
  refine ⟨by omega, a, c, rfl, ?_⟩
  by_cases h0 : L = []
  · exact Or.inl h0
  · obtain ⟨g, c', hv, _, hg, _⟩ := h.full (List.length_pos_iff.2 h0)
    simp only [Value.slice.injEq] at hv
    obtain ⟨rfl, _, rfl⟩ := hv
    exact Or.inr ⟨g, 0, rfl, hg, fun k hk => by rw [Nat.zero_add]; exact h.cell hk⟩
theorem AllI.ints {N n : Nat} {L : List Int} {w : World} (h : AllI N L w) (hl : L.length = n) (h60 : n ≤ 60) : IntsAt w (.slice (some ⟨N, 0, none⟩) n n) L := by
  subst hl
  exact (h.row h60).ints h60
theorem Mem.later {C P : Nat} {ls : List Int} {u n0 : Nat} {w wx wy : World} (h : Mem C P ls u n0 w wx) (hb : Below wx.heap.size wx wy) : Mem C P ls u n0 w wy :=
  ⟨h.base, h.lo, h.lc, h.picks.later hb, h.keep.trans (hb.mono (by rw [h.base]; exact h.keep.size))⟩
theorem Mem.of {C P B : Nat} {ls : List Int} {u n0 : Nat} {w wx wy : World} (h : Mem C P ls u n0 w wx) (hb : Below B wx wy) (hB : P < B) : Mem C P ls u n0 w wy :=
  ⟨h.base, h.lo, h.lc, h.picks.below hb hB, h.keep.trans (hb.mono (by have := h.lo; omega))⟩

theorem upTo_snoc (n : Nat) : upTo (n + 1) = upTo n ++ [(n : Int)] := by simp [upTo, List.range_succ]
/-- The numbers of the list that came stand where they stood. -/
theorem cell_at {w wx : World} {a : Option Addr} {c : Nat} {zs : List Int} (h : IntsAt w (.slice a zs.length c) zs) (hb : Below w.heap.size w wx) {k : Nat} (hk : k < zs.length) : ∃ b o, a = some ⟨b, o, none⟩ ∧ wx.cell? ⟨b, o + k, none⟩ = some (.int .i64 (zs.getD k 0)) := by
  obtain ⟨_, a2, c2, hv, h⟩ := h
  simp only [Value.slice.injEq] at hv
  obtain ⟨rfl, _, rfl⟩ := hv
  rcases h with rfl | ⟨b, o, rfl, hlt, hc⟩
  · simp at hk
  · exact ⟨b, o, rfl, (hb.cell (p := ⟨b, o + k, none⟩) hlt).trans (hc k hk)⟩

set_option maxRecDepth 100000 in
set_option maxHeartbeats 8000000 in
theorem play_law (v a : Value) (zs ys : List Int) (n : Int) (w : World) (hT : Typed w) (hz : IntsAt w v zs) (hcap : ∀ a n c, v = .slice a n c → n ≤ c) (hy : IntsAt w a ys) :
    Calls Tryd.prog 4 #[v, a, .int .i64 n] w fun e w' => e = .returned (.bool true) ∧ Below w.heap.size w w' := by
  have HT : Hid (Typed w) := hT
  have hlen := hz.1
  have hlen2 := hy.1
  obtain ⟨la, lc, rfl⟩ : ∃ a c, v = .slice a zs.length c := by obtain ⟨_, a, c, h, _⟩ := hz; exact ⟨a, c, h⟩
  obtain ⟨ya, yc, rfl⟩ : ∃ b c, a = .slice b ys.length c := by obtain ⟨_, a, c, h, _⟩ := hy; exact ⟨a, c, h⟩
  have HZ : Hid (IntsAt w (.slice la zs.length lc) zs) := hz
  have HY : Hid (IntsAt w (.slice ya ys.length yc) ys) := hy
  have HC : Hid (∀ a n c, Value.slice la zs.length lc = .slice a n c → n ≤ c) := hcap
  clear hz hcap hy hT
  by_cases hfull : 400 < zs.length
  · have hf' : (400 : Int) < (zs.length : Int) := by omega
    have hnew := New_full _ _ w HZ.out hfull
    have herr := error_any 4 4 w HT.out
    rw [errQ_some (by decide)] at herr
    unfold errV at hnew
    have hz0 : (0 : Int) < (zs.length : Int) := by omega
    clear hfull
    go_enter Tryd.func4, Tryd.ntmps4
    go_wp2
    refine wp_loop_rounds 1 ?_
    rw [rounds_succ]
    go_wp2_with (first | (go_at_call 5; refine hnew.mono ?_; clear hnew; rintro e w1 ⟨rfl, rfl⟩) | (go_at_call 7; refine herr.mono ?_; clear herr; rintro e w2 ⟨rfl, hb⟩))
    go_ret
    exact ⟨rfl, hb⟩
  · have hf' : ¬ (400 : Int) < (zs.length : Int) := by omega
    cases hany : zs.any (fun n => decide (n < 0))
    case true =>
      have hnew := New_range _ _ w HZ.out (by omega) hany
      have herr := error_any 1 1 w HT.out
      rw [errQ_some (by decide)] at herr
      unfold errV at hnew
      have HA : Hid (∃ x, x ∈ zs ∧ x < 0) := by
        obtain ⟨x, hx, h⟩ := List.any_eq_true.1 hany
        exact ⟨x, hx, by simpa using h⟩
      clear hfull hany
      go_enter Tryd.func4, Tryd.ntmps4
      go_wp2
      go_loop [7, 8] (fun s7 s8 => ∃ (i : Nat) (e : Int), i ≤ zs.length ∧ s7 = .int .i64 e ∧ s8 = .int .i64 i ∧ (e = 0 ∨ e = 1) ∧ Hid (e = 0 → ∀ k, k < i → 0 ≤ zs.getD k 0)) (fun _ s8 => zs.length - (intOf s8).toNat)
      case atStart => exact ⟨0, 0, Nat.zero_le _, rfl, rfl, Or.inl rfl, fun _ k hk => by omega⟩
      case round =>
        obtain ⟨i, e, hi, rfl, rfl, he, hno⟩ := hrel
        rcases he with rfl | rfl
        · by_cases hil : i < zs.length
          · have hil' : (i : Int) < (zs.length : Int) := by omega
            obtain ⟨b, o, rfl, hc⟩ := cell_at HZ.out (Below.refl _ _) hil
            have HN : Hid (∀ k, k < i → 0 ≤ zs.getD k 0) := hno.out rfl
            have hx : zs.getD i 0 < 0 ∨ 0 ≤ zs.getD i 0 := by omega
            have HX : Hid (zs.getD i 0 = zs.getD i 0) := rfl
            clear hno
            generalize hq : zs.getD i 0 = x at hc hx
            have HQ : Hid (zs.getD i 0 = x) := hq
            clear hq
            rcases hx with hx | hx
            · go_wp2
              go_round
              case rel => exact ⟨i + 1, 1, by omega, rfl, by go_num, Or.inr rfl, fun h => by omega⟩
              case measure => simp [intOf]; omega
            · have hx' : ¬ x < 0 := by omega
              go_wp2
              go_round
              case rel => exact ⟨i + 1, 0, by omega, rfl, by go_num, Or.inl rfl, fun _ k hk => by
                by_cases e : k = i
                · subst e; rw [HQ.out]; exact hx
                · exact HN.out k (by omega)⟩
              case measure => simp [intOf]; omega
          · exfalso
            obtain ⟨x, hx, h0⟩ := HA.out
            obtain ⟨k, hk, rfl⟩ := List.mem_iff_getElem.1 hx
            have := hno.out rfl k (by omega)
            rw [List.getD_eq_getElem?_getD, List.getElem?_eq_getElem hk] at this
            simp at this
            omega
        · clear hno
          by_cases hil : (i : Int) < (zs.length : Int)
          · go_wp2_with (first | (go_at_call 5; refine hnew.mono ?_; clear hnew; rintro e w1 ⟨rfl, rfl⟩) | (go_at_call 7; refine herr.mono ?_; clear herr; rintro e w2 ⟨rfl, hb⟩))
            go_ret
            exact ⟨rfl, hb⟩
          · go_wp2_with (first | (go_at_call 5; refine hnew.mono ?_; clear hnew; rintro e w1 ⟨rfl, rfl⟩) | (go_at_call 7; refine herr.mono ?_; clear herr; rintro e w2 ⟨rfl, hb⟩))
            go_ret
            exact ⟨rfl, hb⟩
    case false =>
      have hnew := New_good _ _ w HZ.out HC.out (by omega) hany
      have HPos : Hid (∀ k, k < zs.length → 0 ≤ zs.getD k 0) := fun k hk => by
        have := List.any_eq_false.1 hany _ (getD_mem hk)
        simpa using this
      clear hany
      go_enter Tryd.func4, Tryd.ntmps4
      go_wp2
      go_loop [7, 8] (fun s7 s8 => ∃ i : Nat, i ≤ zs.length ∧ s7 = .int .i64 0 ∧ s8 = .int .i64 i) (fun _ s8 => zs.length - (intOf s8).toNat)
      case atStart => exact ⟨0, Nat.zero_le _, rfl, rfl⟩
      case round =>
        obtain ⟨i, hi, rfl, rfl⟩ := hrel
        by_cases hil : i < zs.length
        · have hil' : (i : Int) < (zs.length : Int) := by omega
          obtain ⟨b, o, rfl, hc⟩ := cell_at HZ.out (Below.refl _ _) hil
          have hx : ¬ zs.getD i 0 < 0 := by have := HPos.out i hil; omega
          generalize zs.getD i 0 = x at hc hx
          go_wp2
          go_round
          case rel => exact ⟨i + 1, by omega, rfl, by go_num⟩
          case measure => simp [intOf]; omega
        · have hil' : ¬ (i : Int) < (zs.length : Int) := by omega
          go_wp2_with (first | (go_at_call 5; refine hnew.mono ?_; clear hnew; rintro e w1 ⟨P, rfl, hp1, hP1, hb1⟩; have HM1 : Hid (Mem w.heap.size P zs 0 w.heap.size w w1) := ⟨rfl, hP1, Nat.le_refl _, hp1, hb1⟩; have herr := error_any 0 0 w1 (HT.out.later hb1); rw [errQ_zero] at herr; clear hp1 hP1 hb1) | (go_at_call 7; refine herr.mono ?_; clear herr; rintro e w2 ⟨rfl, hb2⟩; have HM : Hid (Mem w.heap.size P zs 0 w.heap.size w w2) := HM1.out.later hb2; clear hb2 HM1))
          obtain ⟨C, hC⟩ : ∃ C, C = w.heap.size := ⟨_, rfl⟩
          have HM0 : Hid (Mem C P zs 0 w.heap.size w w2) := by rw [hC]; exact HM
          clear HM hC hil hil' hi
          go_loopw [7, 11, 12, 13, 14, 15, 16] (fun _ _ s12 s13 _ _ _ wx => ∃ i used : Nat, i ≤ 60 ∧ s12 = .int .i64 used ∧ s13 = .int .i64 i ∧ Hid (Mem C P zs used w.heap.size w wx)) (fun _ _ _ s13 _ _ _ _ => 60 - (intOf s13).toNat)
          case atStart => exact ⟨0, 0, Nat.zero_le _, rfl, rfl, HM0⟩
          case round =>
            clear HM0
            obtain ⟨i, used, hi, rfl, rfl, hM⟩ := hrel
            have hul := hM.out.picks.le
            have hu400 : used ≤ 400 := by omega
            by_cases hgo : i < ys.length ∧ i < 60
            · obtain ⟨hiy, hi60⟩ := hgo
              have hiy' : (i : Int) < (ys.length : Int) := by omega
              have hi60' : (i : Int) < 60 := by omega
              obtain ⟨yb, yo, rfl, hyc⟩ := cell_at HY.out hM.out.keep hiy
              generalize ys.getD i 0 = y at hyc
              by_cases hbad : y < 1 ∨ 400 < y
              · have hnext := Next_bad P y wr hbad
                unfold errV at hnext
                have herr := error_any 1 1 wr (HT.out.later hM.out.keep)
                rw [errQ_some (by decide)] at herr
                have hused : ∀ wx, Below wr.heap.size wr wx → Calls Tryd.prog 8 #[.pointer (some ⟨P, 0, none⟩)] wx fun e w' => e = .returned (.int .i64 used) ∧ w' = wx := fun wx hb => Used_any C P zs used wx (hM.out.later hb).picks
                by_cases hy1 : y < 1
                · clear hbad
                  go_wp2_with (first | (go_at_call 6; refine hnext.mono ?_; clear hnext; rintro e w5 ⟨rfl, rfl⟩) | (go_at_call 7; refine herr.mono ?_; clear herr; rintro e w6 ⟨rfl, hb6⟩; have hM6 : Hid (Mem C P zs used w.heap.size w w6) := hM.out.later hb6; have hu6 := hused _ hb6; clear hb6 hused hM) | (go_at_call 8; refine hu6.mono ?_; clear hu6; rintro e w7 ⟨rfl, rfl⟩))
                  go_roundw
                  case rel => exact ⟨i + 1, used, by omega, rfl, by go_num, hM6⟩
                  case measure => simp [intOf]; omega
                · have hy2 : 400 < y := by omega
                  clear hbad
                  go_wp2_with (first | (go_at_call 6; refine hnext.mono ?_; clear hnext; rintro e w5 ⟨rfl, rfl⟩) | (go_at_call 7; refine herr.mono ?_; clear herr; rintro e w6 ⟨rfl, hb6⟩; have hM6 : Hid (Mem C P zs used w.heap.size w w6) := hM.out.later hb6; have hu6 := hused _ hb6; clear hb6 hused hM) | (go_at_call 8; refine hu6.mono ?_; clear hu6; rintro e w7 ⟨rfl, rfl⟩))
                  go_roundw
                  case rel => exact ⟨i + 1, used, by omega, rfl, by go_num, hM6⟩
                  case measure => simp [intOf]; omega
              · obtain ⟨m, rfl⟩ : ∃ m : Nat, y = m := ⟨y.toNat, by omega⟩
                have hm1 : ¬ (m : Int) < 1 := by omega
                have hm2 : ¬ (400 : Int) < (m : Int) := by omega
                have hm0 : ¬ (m : Int) = 0 := by omega
                have hM0 : ∀ q, Mem C P zs used w.heap.size w (wr.drewN q) := fun q => hM.out.later ⟨rfl, rfl, rfl, Nat.le_refl _, fun _ _ => rfl⟩
                have hnext : ∀ q, Calls Tryd.prog 6 #[.pointer (some ⟨P, 0, none⟩), .int .i64 m] (wr.drewN q) fun e w' => e = .returned (.tuple #[.int .i64 (pk zs used m : Nat), .nilIface]) ∧ Hid (Mem C P zs (nx zs used) w.heap.size w w') := fun q => (Next_good C P m zs used (wr.drewN q) (hM0 q).picks (by omega) (by omega)).mono (fun e w' ⟨he, hp, hk, _⟩ => ⟨he, (hM0 q).call hp hk⟩)
                have herr : ∀ wx, Below w.heap.size w wx → Calls Tryd.prog 7 #[.nilIface, .int .i64 0] wx fun ev w' => ev = .returned (.bool true) ∧ Below wx.heap.size wx w' := fun wx hb => by
                  have := error_any 0 0 wx (HT.out.later hb)
                  rw [errQ_zero] at this
                  exact this
                have hused : ∀ wx, Mem C P zs (nx zs used) w.heap.size w wx → Calls Tryd.prog 8 #[.pointer (some ⟨P, 0, none⟩)] wx fun e w' => e = .returned (.int .i64 (nx zs used : Nat)) ∧ w' = wx := fun wx hm => Used_any C P zs _ wx hm.picks
                by_cases hu : used < zs.length
                · have hu' : (used : Int) < (zs.length : Int) := by omega
                  obtain ⟨zb, zo, rfl, hzc⟩ := cell_at HZ.out hM.out.keep hu
                  have hmod := tmod_nat _ m (HPos.out used hu)
                  rw [show (zs.getD used 0).toNat % m = pk zs used m by simp [pk, hu]] at hmod
                  have hnx : nx zs used = used + 1 := by simp [nx, hu]
                  rw [hnx] at hnext hused
                  have hq := pk_lt zs used m (by omega)
                  generalize pk zs used m = q at *
                  generalize zs.getD used 0 = x at hzc hmod
                  clear hnx hM hM0 hbad
                  go_wp2
                  go_quiet (fail)
                  go_wp2_with (first | (go_at_call 6; refine (hnext _).mono ?_; clear hnext; rintro e w5 ⟨rfl, hM5⟩; have her5 := herr w5 hM5.out.keep; clear herr) | (go_at_call 7; refine her5.mono ?_; clear her5; rintro e w6 ⟨rfl, hb6⟩; have hM6 : Hid (Mem C P zs (used + 1) w.heap.size w w6) := hM5.out.later hb6; have hu6 := hused _ hM6.out; clear hb6 hused hM5) | (go_at_call 8; refine hu6.mono ?_; clear hu6; rintro e w7 ⟨rfl, rfl⟩))
                  go_roundw
                  case rel => exact ⟨i + 1, used + 1, by omega, by go_num, by go_num, hM6⟩
                  case measure => simp [intOf]; omega
                · have hu' : ¬ (used : Int) < (zs.length : Int) := by omega
                  have hnx : nx zs used = used := by simp [nx, hu]
                  rw [hnx, show pk zs used m = 0 by simp [pk, hu]] at hnext
                  rw [hnx] at hused
                  have hnext0 := hnext 0
                  clear hnx hM hM0 hbad hnext
                  go_wp2_with (first | (go_at_call 6; refine hnext0.mono ?_; clear hnext0; rintro e w5 ⟨rfl, hM5⟩; have her5 := herr w5 hM5.out.keep; clear herr) | (go_at_call 7; refine her5.mono ?_; clear her5; rintro e w6 ⟨rfl, hb6⟩; have hM6 : Hid (Mem C P zs used w.heap.size w w6) := hM5.out.later hb6; have hu6 := hused _ hM6.out; clear hb6 hused hM5) | (go_at_call 8; refine hu6.mono ?_; clear hu6; rintro e w7 ⟨rfl, rfl⟩))
                  go_roundw
                  case rel => exact ⟨i + 1, used, by omega, rfl, by go_num, hM6⟩
                  case measure => simp [intOf]; omega
            · have hexit : (¬ (i : Int) < (ys.length : Int)) ∨ ((i : Int) < (ys.length : Int) ∧ ¬ (i : Int) < 60) := by omega
              clear hgo hi
              by_cases hn : n < 0 ∨ 30 < n
              · have hsh := Shuffle_bad P n wr hn
                unfold errV at hsh
                have herr := error_any 1 1 wr (HT.out.later hM.out.keep)
                rw [errQ_some (by decide)] at herr
                have hn' : n < 0 ∨ (¬ n < 0 ∧ 30 < n) := by omega
                clear hn
                rcases hexit with hx | ⟨hx, hx2⟩
                all_goals
                  rcases hn' with hn | ⟨hn, hn2⟩
                  all_goals
                    go_wp2
                    refine wp_loop_rounds 1 ?_
                    rw [rounds_succ]
                    go_wp2
                    refine wp_loop_rounds 1 ?_
                    rw [rounds_succ]
                    go_wp2_with (first | (go_at_call 9; refine hsh.mono ?_; clear hsh; rintro e w5 ⟨rfl, rfl⟩) | (go_at_call 7; refine herr.mono ?_; clear herr; rintro e w6 ⟨rfl, hb6⟩; have hM6 : Hid (Mem C P zs used w.heap.size w w6) := hM.out.later hb6; have hin := sameInts_any (.slice none 0 0) (.slice none 0 0) [] [] w6 ⟨by simp, none, 0, rfl, Or.inl rfl⟩ ⟨by simp, none, 0, rfl, Or.inl rfl⟩; clear hb6 hM) | (go_at_call 10; refine hin.mono ?_; clear hin; rintro e w7 ⟨rfl, nd, rfl⟩; have hM7 : Hid (Mem C P zs used w.heap.size w (w6.drewN nd)) := hM6.out.later ⟨rfl, rfl, rfl, Nat.le_refl _, fun _ _ => rfl⟩; have hu7 := Used_any C P zs used _ hM7.out.picks; clear hM6) | (go_at_call 8; refine hu7.mono ?_; clear hu7; rintro e w8 ⟨rfl, rfl⟩))
                    all_goals
                      go_ret
                      exact ⟨rfl, hM7.out.keep⟩
              · obtain ⟨k, rfl⟩ : ∃ k : Nat, n = k := ⟨n.toNat, by omega⟩
                have hk30 : k ≤ 30 := by omega
                have hk1 : ¬ (k : Int) < 0 := by omega
                have hk2 : ¬ (30 : Int) < (k : Int) := by omega
                clear hn
                obtain ⟨T, hTT⟩ : ∃ T, T = wr.heap.size := ⟨_, rfl⟩
                have HTT : Hid (T = wr.heap.size) := hTT
                have hPT : P < T := by rw [hTT]; exact hM.out.picks.lt
                obtain ⟨ws, hws⟩ : ∃ ws, ws = wr := ⟨_, rfl⟩
                have HB0 : Hid (Below T ws wr) := by rw [hws]; exact Below.refl _ _
                have hMs : Hid (Mem C P zs used w.heap.size w ws) := by rw [hws]; exact hM
                have HTs : Hid (T = ws.heap.size) := by rw [hws]; exact hTT
                clear hTT HTT hM hws
                rcases hexit with hx | ⟨hx, hx2⟩
                all_goals
                  go_wp2
                  go_loopw [17, 18] (fun s17 s18 wx => ∃ j : Nat, j ≤ k ∧ s18 = .int .i64 j ∧ Hid (RowI T wx s17 (upTo j)) ∧ Hid (Below T ws wx)) (fun _ s18 _ => k - (intOf s18).toNat)
                  case atStart => exact ⟨0, Nat.zero_le _, rfl, RowI.nil _ _, HB0⟩
                  case round =>
                    clear HB0
                    obtain ⟨j, hj, rfl, hR, hB⟩ := hrel
                    have hTw : T ≤ wr.heap.size := by rw [HTs.out]; exact hB.out.size
                    obtain ⟨ra, rc, rfl⟩ := hR.out.shape
                    rw [upTo_length] at hR
                    by_cases hjk : j < k
                    · have hjk' : (j : Int) < (k : Int) := by omega
                      have HO : Hid (Rds (fun _ => True) (wr.alloc (.cells #[.int .i64 (j : Int)] 3)) (.slice (some ⟨wr.heap.size, 0, none⟩) 1 1) [(j : Int)]) := (lit_one wr (j : Int)).rds (fun a n c h => by cases h; omega)
                      rw [upTo_length]
                      go_wp2_with (first | (at_builtin; refine wpList_append_rows rfl (.tmp 134) (.tmp 136) rfl T (fun _ => True) (.slice ra j rc) (.slice (some ⟨wr.heap.size, 0, none⟩) 1 1) (upTo j) [(j : Int)] rfl rfl (hR.out.alloc _) HO.out (by rw [upTo_length]; simp; omega) (by simp; omega) ?_; intro v6 w6 hown hgr hat))
                      have hR6 : Hid (RowI T w6 v6 (upTo (j + 1))) := by
                        show RowI _ _ _ _
                        rw [upTo_snoc]
                        exact hown
                      have hB6 : Hid (Below T ws w6) := (hB.out.alloc hTw _).grown hgr (by simp; omega) (fun g e => (hR.out.low e).1)
                      clear hown hgr hat HO hR hB
                      go_wp2
                      go_roundw
                      case rel => exact ⟨j + 1, by omega, by go_num, hR6, hB6⟩
                      case measure => simp [intOf]; omega
                    · obtain rfl : j = k := by omega
                      have hjk' : ¬ (j : Int) < (j : Int) := by omega
                      rw [upTo_length]
                      go_wp2
                      go_loopw [12, 19, 20, 21] (fun s12 s19 _ _ wx => ∃ (i : Int) (L : List Int) (uv : Nat), s12 = .int .i64 uv ∧ s19 = .int .i64 i ∧ -1 ≤ i ∧ i < j ∧ uv ≤ zs.length ∧ Hid (L.length = j) ∧ Hid (RowI T wx (.slice ra j rc) L) ∧ Hid (Below T ws wx) ∧ Hid (shuf zs i.toNat L uv = shufOf zs j used)) (fun _ s19 _ _ _ => (intOf s19).toNat)
                      case atStart => exact ⟨(j : Int) - 1, upTo j, used, rfl, rfl, by omega, by omega, hul, upTo_length j, hR, hB, by show shuf _ _ _ _ = shuf _ _ _ _; congr 1; omega⟩
                      case round =>
                        clear hR hB hTw
                        obtain ⟨i, L, uv, rfl, rfl, hi1, hi2, huv, hL, hR, hB, hS⟩ := hrel
                        have hTw : T ≤ wr.heap.size := by rw [HTs.out]; exact hB.out.size
                        by_cases hi : 0 < i
                        · obtain ⟨r, rfl⟩ : ∃ r : Nat, i = r := ⟨i.toNat, by omega⟩
                          obtain ⟨g, gc, hv, hgT, hgs, -⟩ := hR.out.full (by rw [hL.out]; omega)
                          simp only [Value.slice.injEq] at hv
                          obtain ⟨rfl, hvl, rfl⟩ := hv
                          clear hvl
                          have hS' : Hid (shuf zs (r - 1) (swp L r (pk zs uv (r + 1))) (nx zs uv) = shufOf zs j used) := by
                            show _ = _
                            rw [← hS.out]
                            obtain ⟨m, rfl⟩ : ∃ m, r = m + 1 := ⟨r - 1, by omega⟩
                            rfl
                          have hq := pk_lt zs uv (r + 1) (by omega)
                          have hL' := hL.out
                          have hnl := nx_le zs uv huv
                          have HMod : Hid (uv < zs.length → (zs.getD uv 0).tmod ((r : Int) + 1) = ((pk zs uv (r + 1) : Nat) : Int)) := fun h => by
                            have := tmod_nat _ (r + 1) (HPos.out uv h)
                            rw [Int.natCast_add, Int.cast_ofNat_Int] at this
                            rw [this]
                            simp [pk, h]
                          have HPk : Hid (¬ uv < zs.length → pk zs uv (r + 1) = 0) := fun h => by simp [pk, h]
                          generalize hpq : pk zs uv (r + 1) = q at *
                          clear hpq
                          have hrj : r < j := by omega
                          have hqj : q < j := by omega
                          have hc1 := hR.out.cell (k := r) (by omega)
                          have hc2 := hR.out.cell (k := q) (by omega)
                          have hz1 := hR.out.fz hL'.symm r
                          have hR3 := hR.out.set hL'.symm r (L.getD q 0)
                          have hc3 := hR3.cell (k := q) (by simp; omega)
                          have hz3 := hR3.fz (by simp; omega) q
                          generalize (L.set r (L.getD q 0)).getD q 0 = x3 at hc3
                          have HR4 : Hid (RowI T ((wr.setCell ⟨g, r, none⟩ (.int .i64 (L.getD q 0))).setCell ⟨g, q, none⟩ (.int .i64 (L.getD r 0))) (.slice (some ⟨g, 0, none⟩) j rc) (swp L r q)) := hR3.set (by simp; omega) q (L.getD r 0)
                          have HB4 : Hid (Below T ws ((wr.setCell ⟨g, r, none⟩ (.int .i64 (L.getD q 0))).setCell ⟨g, q, none⟩ (.int .i64 (L.getD r 0)))) := (hB.out.setCell hgT _).setCell hgT _
                          have HL4 : Hid ((swp L r q).length = j) := by show _ = _; rw [swp_length]; exact hL'
                          have hkeep := hMs.out.keep.trans (hB.out.mono (by have := hMs.out.lo; omega))
                          clear hR hR3 hB hS hL hL' hTw
                          generalize swp L r q = L2 at *
                          generalize L.getD r 0 = x at *
                          generalize L.getD q 0 = y at *
                          by_cases hu : uv < zs.length
                          · have hu' : (uv : Int) < (zs.length : Int) := by omega
                            obtain ⟨zb, zo, rfl, hzc⟩ := cell_at HZ.out hkeep hu
                            have hmod := HMod.out hu
                            have hnx : nx zs uv = uv + 1 := by simp [nx, hu]
                            rw [hnx] at hS' hnl
                            generalize zs.getD uv 0 = z at hzc hmod
                            have hr0 : ¬ (r : Int) + 1 = 0 := by omega
                            clear HMod HPk hnx hkeep
                            go_wp2
                            go_roundw
                            case rel => exact ⟨(r : Int) - 1, L2, uv + 1, by go_num, rfl, by omega, by omega, hnl, HL4, HR4, HB4, by show shuf _ _ _ _ = _; rw [show ((r : Int) - 1).toNat = r - 1 by omega]; exact hS'.out⟩
                            case measure => simp [intOf]; omega
                          · have hu' : ¬ (uv : Int) < (zs.length : Int) := by omega
                            obtain rfl := HPk.out hu
                            have hnx : nx zs uv = uv := by simp [nx, hu]
                            rw [hnx] at hS' hnl
                            clear HMod HPk hnx hkeep
                            go_wp2
                            go_roundw
                            case rel => exact ⟨(r : Int) - 1, L2, uv, rfl, rfl, by omega, by omega, hnl, HL4, HR4, HB4, by show shuf _ _ _ _ = _; rw [show ((r : Int) - 1).toNat = r - 1 by omega]; exact hS'.out⟩
                            case measure => simp [intOf]; omega
                        · have hS' : (L, uv) = shufOf zs j used := by
                            have := hS.out
                            rw [show i.toNat = 0 by omega] at this
                            exact this
                          have hM8 : Hid (Mem C P zs used w.heap.size w wr) := hMs.out.of hB.out hPT
                          have hsh := Shuffle_good C P j zs used wr hM8.out.picks hk30
                          rw [← hS'] at hsh
                          have HR8 : Hid (RowI T wr (.slice ra j rc) L) := hR
                          have HLL : Hid (L.length = j) := hL
                          have huv400 : uv ≤ 400 := by have := hM8.out.picks.few; omega
                          clear hS hS' hR hB hMs hL
                          go_wp2_with (first | (go_at_call 9; refine hsh.mono ?_; clear hsh; rintro e w5 ⟨rfl, hA5, hp5, hk5⟩; have hM5 : Hid (Mem C P zs uv w.heap.size w w5) := hM8.out.call hp5 hk5; have herr := error_any 0 0 w5 (HT.out.later hM5.out.keep); rw [errQ_zero] at herr; have HA5 : Hid (AllI wr.heap.size L w5) := hA5; have HR5 : Hid (RowI T w5 (.slice ra j rc) L) := HR8.out.of_blocks (fun b e => hk5.block b (HR8.out.low e).2 (by have := (HR8.out.low e).1; show ¬ b = P; omega)); clear hA5 hp5 hk5 hM8 HR8) | (go_at_call 7; refine herr.mono ?_; clear herr; rintro e w6 ⟨rfl, hb6⟩; have hM6 : Hid (Mem C P zs uv w.heap.size w w6) := hM5.out.later hb6; have hin := sameInts_any _ _ L L w6 ((HA5.out.ints HLL.out (by omega)).later hb6) ((HR5.out.ints (by have := HLL.out; omega)).later hb6); rw [show decide (L = L) = true by simp] at hin; clear hb6 hM5 HA5 HR5) | (go_at_call 10; refine hin.mono ?_; clear hin; rintro e w7 ⟨rfl, nd, rfl⟩; have hM7 : Hid (Mem C P zs uv w.heap.size w (w6.drewN nd)) := hM6.out.later ⟨rfl, rfl, rfl, Nat.le_refl _, fun _ _ => rfl⟩; have hu7 := Used_any C P zs uv _ hM7.out.picks; clear hM6) | (go_at_call 8; refine hu7.mono ?_; clear hu7; rintro e w8 ⟨rfl, rfl⟩))
                          go_ret
                          exact ⟨rfl, hM7.out.keep⟩
end Go.Proofs.YtjomcnalmhgljaaDoor
