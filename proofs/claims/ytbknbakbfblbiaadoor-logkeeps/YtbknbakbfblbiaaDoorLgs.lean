/- The walk of LogStops. -/
import Derived.Test.YtbknbakbfblbiaaDoorLgw
namespace Go.Proofs.YtbknbakbfblbiaaDoor
open Go.RowKit Go.Deep

theorem besideTs_getD (work : Int) (n j : Nat) (hj : j < n) : (besideTs work n).getD j (0, []) = (work, []) := by
  induction n with
  | zero => omega
  | succ n ih =>
    unfold besideTs
    by_cases e : j = n
    · subst e
      have := getD_snoc_at (besideTs work j) (work, []) (0, [])
      rwa [besideTs_length] at this
    · rw [getD_snoc _ _ _ _ (by rw [besideTs_length]; omega)]
      exact ih (by omega)
theorem needs_past {ts : List (Int × List Int)} {x : Nat} (h : ts.length ≤ x) : needsOf ts x = [] := by
  unfold needsOf
  rw [List.getD_eq_getElem?_getD, List.getElem?_eq_none h]; rfl
theorem beside_needs (work : Int) (n x : Nat) : needsOf (besideTs work n) x = [] := by
  by_cases hx : x < n
  · unfold needsOf
    rw [besideTs_getD _ _ _ hx]
  · exact needs_past (by rw [besideTs_length]; omega)
theorem beside_reach {work : Int} {n x y : Nat} (h : Reach (besideTs work n) x y) : False := by
  induction h using Reach.ind with
  | one hn => unfold Need at hn; rw [beside_needs] at hn; simp at hn
  | more _ _ ih => exact ih
theorem beside_right {n : Nat} (hn : n ≤ 30) : CheckIs (besideTs 1 n) 0 0 :=
  CheckIs.none (by rw [besideTs_length]; exact hn) (fun j hj => by
    rw [besideTs_length] at hj
    unfold errOf
    rw [beside_needs, besideTs_getD _ _ _ hj]
    simp [taskErr, rising]) (fun j _ h => (beside_reach h).elim)
theorem beside_planAt {N n : Nat} {w : World} {v : Value} (hn : n ≤ 30) (h : OwnPlan N w v (besideTs 1 n)) : PlanAt w v (besideTs 1 n) :=
  h.planAt (by rw [besideTs_length]; omega) (fun j _ => by rw [beside_needs]; simp)
theorem beside_err {l : List Nat} {x : Int} (h0 : 0 ≤ x) (h1 : x < 30) (hx : ¬ x.toNat ∈ l) : doneErr (besideTs 1 30) (inL l) x = 0 := by
  unfold doneErr
  rw [if_neg (by rw [besideTs_length]; omega)]
  have hm : missN (besideTs 1 30) (inL l) x.toNat = 0 := missN_zero.2 (fun y hy => by rw [beside_needs] at hy; simp at hy)
  have : readyB (besideTs 1 30) (inL l) x.toNat = true := by unfold readyB; simp [hm, inL, hx]
  rw [this]; rfl
theorem beside_far (S : Nat → Bool) {x : Int} (h : 30 ≤ x) : doneErr (besideTs 1 30) S x = 1 := by
  unfold doneErr
  rw [if_pos (by rw [besideTs_length]; omega)]

/-- Behind k steps of a log that stops at the a-th; what is done is below b. -/
structure St (a k b : Nat) (s : Ls) : Prop where
  low : ∀ x, x ∈ s.recs → x < b
  run : k ≤ a → s.stopped = false ∧ s.ahead = (a : Int) - (k : Int)
  stop : a < k → s.stopped = true
variable {a k b : Nat} {s : Ls}
theorem St.start (a : Nat) : St a 0 0 (Ls.new.fail a) := ⟨fun x hx => by simp [Ls.fail, Ls.new] at hx, fun _ => ⟨rfl, by simp [Ls.fail]⟩, fun h => by omega⟩
theorem St.mono {b' : Nat} (h : St a k b s) (hb : b ≤ b') : St a k b' s := ⟨fun x hx => Nat.lt_of_lt_of_le (h.low x hx) hb, h.run, h.stop⟩
theorem St.far (h : St a k b s) : s.doneE (besideTs 1 30) 99 = (if k ≤ a then 1 else 6) ∧ s.done (besideTs 1 30) 99 = s := by
  unfold Ls.doneE Ls.done
  rw [beside_far _ (by omega)]
  by_cases hk : k ≤ a
  · rw [(h.run hk).1, if_pos hk]; exact ⟨rfl, rfl⟩
  · rw [h.stop (by omega), if_neg hk]; exact ⟨rfl, rfl⟩
theorem St.done (h : St a k k s) (hk : k < 30) : s.doneE (besideTs 1 30) k = (if k < a then 0 else 6) ∧ St a (k + 1) (k + 1) (s.done (besideTs 1 30) k) := by
  have hd : doneErr (besideTs 1 30) (inL s.recs) (k : Int) = 0 := beside_err (by omega) (by omega) (fun hx => by have := h.low _ hx; simp at this)
  unfold Ls.doneE Ls.done
  rw [hd]
  by_cases h1 : k < a
  · obtain ⟨e1, e2⟩ := h.run (by omega)
    have e3 : ¬ s.ahead = 0 := by omega
    rw [e1, if_pos h1]
    refine ⟨by simp [e3], ?_⟩
    simp only [Bool.false_eq_true, if_false, if_true, e3]
    refine ⟨fun x hx => ?_, fun hk => ?_, fun hk => by omega⟩
    · simp only [List.mem_append, List.mem_singleton, Int.toNat_natCast] at hx
      rcases hx with hx | rfl
      · have := h.low x hx; omega
      · omega
    · rw [Ls.tick_run e1 e3]
      exact ⟨e1, by dsimp only; split <;> omega⟩
  · by_cases h2 : k = a
    · obtain ⟨e1, e2⟩ := h.run (by omega)
      have e3 : s.ahead = 0 := by omega
      rw [e1, if_neg h1]
      refine ⟨by simp [e3], ?_⟩
      simp only [Bool.false_eq_true, if_false, if_true, e3]
      exact ⟨fun x hx => Nat.lt_succ_of_lt (h.low x hx), fun hk => by omega, fun _ => rfl⟩
    · have e1 := h.stop (by omega)
      rw [e1, if_neg h1]
      exact ⟨rfl, fun x hx => Nat.lt_succ_of_lt (h.low x hx), fun hk => by omega, fun _ => e1⟩
theorem St.sync (h : St a k b s) (hk : k ≤ a) : s.syncE = (if k < a then 0 else 6) ∧ St a (k + 1) b s.sync := by
  obtain ⟨e1, e2⟩ := h.run hk
  unfold Ls.syncE Ls.sync
  rw [e1]
  by_cases h1 : k < a
  · have e3 : ¬ s.ahead = 0 := by omega
    rw [if_pos h1]
    refine ⟨by simp [e3], ?_⟩
    simp only [Bool.false_eq_true, if_false, e3]
    rw [Ls.tick_run e1 e3]
    exact ⟨h.low, fun hk => ⟨e1, by dsimp only; split <;> omega⟩, fun hk => by omega⟩
  · have e3 : s.ahead = 0 := by omega
    rw [if_neg h1]
    refine ⟨by simp [e3], ?_⟩
    simp only [Bool.false_eq_true, if_false, if_true, e3]
    exact ⟨h.low, fun hk => by omega, fun _ => rfl⟩
/-- Behind all of it. -/
theorem St.last (h : St a k b s) (hk : a < k) (hb : b ≤ 29) (keep : Int) : (s.syncE = 6 ∧ s.sync = s) ∧ (s.doneE (besideTs 1 30) 28 = 6 ∧ s.done (besideTs 1 30) 28 = s) ∧ (s.crash keep).doneE (besideTs 1 30) 29 = 0 ∧
    ((s.crash keep).done (besideTs 1 30) 29).syncE = 0 ∧ ∃ r, ((s.crash keep).done (besideTs 1 30) 29).sync.recs = r ++ [29] := by
  have e := h.stop hk
  refine ⟨⟨by unfold Ls.syncE; rw [e]; rfl, by unfold Ls.sync; rw [e]; rfl⟩, ⟨by unfold Ls.doneE; rw [e]; rfl, by unfold Ls.done; rw [e]; rfl⟩, ?_⟩
  have hd : doneErr (besideTs 1 30) (inL (s.crash keep).recs) 29 = 0 := beside_err (by omega) (by omega) (fun hx => by
    have := h.low _ (List.mem_of_mem_take hx)
    simp at this
    omega)
  have e1 : (s.crash keep).stopped = false := rfl
  have e2 : (s.crash keep).ahead = -1 := rfl
  have hD : (s.crash keep).done (besideTs 1 30) 29 = { (s.crash keep) with recs := (s.crash keep).recs ++ [29] } := by
    unfold Ls.done
    rw [e1, hd, e2]
    simp only [Bool.false_eq_true, if_false, if_true]
    rw [if_neg (by omega), Ls.tick_run e1 (by rw [e2]; omega)]
    rfl
  refine ⟨?_, ?_, (s.crash keep).recs, ?_⟩
  · unfold Ls.doneE; rw [e1, hd, e2]; rfl
  · rw [hD]; rfl
  · rw [hD]; rfl

set_option maxRecDepth 100000 in
set_option maxHeartbeats 8000000 in
theorem logStops_any (after many keep : Int) (w : World) (ht : Typed w) : Calls Tryd.prog 3 #[.int .i64 after, .int .i64 many, .int .i64 keep] w fun e w' => e = .returned (.bool true) ∧ Below w.heap.size w w' := by
  have HT : Hid (Typed w) := ht
  obtain ⟨i37, hi37, hz0, hz1, hz2⟩ := info_parts Tryd.info26
  clear ht
  go_enter Tryd.func3, Tryd.ntmps3
  go_wp2
  go_loopw [7, 8] (fun s7 s8 wr => ∃ k : Nat, k ≤ 30 ∧ s8 = .int .i64 k ∧ Hid (OwnPlan w.heap.size wr s7 (besideTs 1 k)) ∧ Below w.heap.size w wr) (fun _ s8 _ => 30 - (intOf s8).toNat)
  case atStart => exact ⟨0, Nat.zero_le _, rfl, OwnPlan.nil _ _, Below.refl _ _⟩
  case round =>
    obtain ⟨k, hk, rfl, hp, hb⟩ := hrel
    by_cases hkn : k < 30
    · have hlen := besideTs_length 1 k
      have hb2 : Below wr.heap.size wr (wr.alloc (.cells #[.int .i64 1, .slice none 0 0] 26)) := (Below.refl _ _).alloc (Nat.le_refl _) _
      obtain ⟨xs, ho, hx⟩ := hp.out.later hb2
      have HX : Hid (∀ j, j < (besideTs 1 k).length → xs[j * 2]? = some (.int .i64 ((besideTs 1 k).getD j (0, [])).1) ∧ ∃ nv, xs[j * 2 + 1]? = some nv ∧ NeedsBlk (wr.alloc (.cells #[.int .i64 1, .slice none 0 0] 26)) nv (needsOf (besideTs 1 k) j)) := hx
      have HL : Hid ((besideTs 1 k).length = k) := hlen
      have hk3 : (k : Int) < 30 := by omega
      clear hx hlen hp
      go_wp2_with (at_builtin; refine wpList_append_own _ rfl (.tmp 30) (.tmp 32) 23 rfl w.heap.size 26 i37 (.agg #[.int .i64 0, .slice none 0 0]) 2 32 Tryd.underlying23 hi37 hz0 hz1 hz2 rfl (by decide) _ (besideTs 1 k).length xs rfl ho ⟨wr.heap.size, 0, none⟩ 1 1 [.int .i64 1, .slice none 0 0] rfl rfl ?c1 ?c2 ?c3 ?c4 ?c5 ?_)
      case c1 =>
        have h2 := cell_two_new wr (.int .i64 1) (.slice none 0 0) 26
        exact h2
      case c2 => intro u hu; simp at hu; rcases hu with rfl | rfl <;> rfl
      case c3 => rw [HL.out]; unfold maxLen; omega
      case c4 => rw [HL.out]; omega
      case c5 => have := hb.size; simp; omega
      intro v' w1 hown' hgrow _
      have hnew : Hid (OwnPlan w.heap.size w1 v' (besideTs 1 (k + 1))) := by
        have := OwnPlan.append ho HX.out (nv := .slice none 0 0) (zs := []) (wk := 1) (Or.inl ⟨rfl, rfl⟩) hown' hgrow
        unfold besideTs
        exact this
      have hb3 : Below w.heap.size w w1 := (hb.trans (hb2.mono hb.size)).grown hgrow (by have := hb.size; simp; omega) (fun j e => (ho.lt j e).1)
      clear hown' hgrow ho hb2 HX
      go_wp2
      go_roundw
      case rel => exact ⟨k + 1, by omega, by go_num, hnew, hb3⟩
      case measure => simp [intOf]; omega
    · obtain rfl : k = 30 := by omega
      obtain ⟨wp, hwp⟩ : ∃ wp, wp = wr := ⟨_, rfl⟩
      subst hwp
      have hpl := beside_planAt (Nat.le_refl _) hp.out
      have hnew := newW _ (besideTs 1 30) wp hpl (beside_right (Nat.le_refl _)) (HT.out.later (hb.mono (Nat.le_refl _)))
      have HB : Hid (Below w.heap.size w wp) := hb
      obtain ⟨_, va, vc, rfl, _⟩ := hpl
      rw [besideTs_length] at hnew ⊢
      clear hp hb hkn hk hi37 hz0 hz1 hz2
      go_wp2_with fail
      refine hnew.mono ?_
      clear hnew
      rintro e w2 ⟨L, rfl, h0⟩
      have H0 : Hid (LgW wp.heap.size L (besideTs 1 30) Ls.new wp w2) := h0
      have HF0 : Hid (∀ wz, Below wp.heap.size wp wz → Below w.heap.size w wz) := fun wz h => HB.out.trans (h.mono HB.out.size)
      clear h0
      by_cases hA : after < 0
      · go_wp2
        go_ret
        exact ⟨rfl, HF0.out _ H0.out.below⟩
      by_cases hA2 : 20 < after
      · go_wp2
        go_ret
        exact ⟨rfl, HF0.out _ H0.out.below⟩
      by_cases hM : many < 0
      · go_wp2
        go_ret
        exact ⟨rfl, HF0.out _ H0.out.below⟩
      by_cases hM2 : 20 < many
      · go_wp2
        go_ret
        exact ⟨rfl, HF0.out _ H0.out.below⟩
      obtain ⟨a, rfl⟩ : ∃ a : Nat, after = a := ⟨after.toNat, by omega⟩
      obtain ⟨m, rfl⟩ : ∃ m : Nat, many = m := ⟨many.toNat, by omega⟩
      have hf := failW (a : Int) H0.out (by omega)
      clear H0
      go_wp2_with fail
      refine hf.mono ?_
      clear hf
      rintro e w3 ⟨rfl, h3⟩
      have H3 : Hid (∃ s, LgW wp.heap.size L (besideTs 1 30) s wp w3 ∧ St a 0 0 s) := ⟨_, h3, St.start a⟩
      clear h3
      go_wp2
      go_loopw [11, 12] (fun s11 s12 wx => ∃ i : Nat, i ≤ m ∧ s11 = .int .i64 i ∧ s12 = .int .i64 i ∧ Hid (∃ s, LgW wp.heap.size L (besideTs 1 30) s wp wx ∧ St a i i s)) (fun _ s12 _ => m - (intOf s12).toNat)
      case atStart => exact ⟨0, Nat.zero_le _, rfl, rfl, H3⟩
      case round =>
        clear H3
        obtain ⟨i, hi, rfl, rfl, hR⟩ := hrel
        by_cases him : i < m
        · obtain ⟨s, hW, hS⟩ := hR.out
          have hS2 := hS.done (by omega)
          have hd1 := doneW 99 hW
          rw [hS.far.1, hS.far.2] at hd1
          have HS2 : Hid (s.doneE (besideTs 1 30) i = (if i < a then 0 else 6) ∧ St a (i + 1) (i + 1) (s.done (besideTs 1 30) i)) := hS2
          clear hR hW hS hS2
          have him2 : (i : Int) < (m : Int) := by omega
          rcases Nat.lt_trichotomy i a with hia | hia | hia
          · have q1 : ¬ (a : Int) < (i : Int) := by omega
            have q2 : (i : Int) ≤ (a : Int) := by omega
            have q3 : ((i : Int) == (a : Int)) = false := by simp; omega
            have q4 : (i : Int) < (a : Int) := by omega
            rw [if_pos (by omega)] at hd1
            rw [if_pos hia] at HS2
            go_wp2_with fail
            refine hd1.mono ?_
            clear hd1
            rintro e w4 ⟨rfl, h4⟩
            have hd2 := doneW (i : Int) h4
            rw [HS2.out.1, errV_zero] at hd2
            clear h4
            go_wp2_with fail
            refine hd2.mono ?_
            clear hd2
            rintro e w5 ⟨rfl, h5⟩
            have he := errorW 1 6 h5
            clear h5
            go_wp2_with fail
            refine he.mono ?_
            clear he
            rintro e w6 ⟨rfl, h6⟩
            have he := errorW 1 1 h6
            clear h6
            go_wp2_with fail
            refine he.mono ?_
            clear he
            rintro e w7 ⟨rfl, h7⟩
            have he := errorW 0 6 h7
            rw [errV_zero] at he
            clear h7
            go_wp2_with fail
            refine he.mono ?_
            clear he
            rintro e w8 ⟨rfl, h8⟩
            have HN : Hid (∃ s, LgW wp.heap.size L (besideTs 1 30) s wp w8 ∧ St a (i + 1) (i + 1) s) := ⟨_, h8, HS2.out.2⟩
            clear h8 HS2
            go_wp2
            go_roundw
            case rel => exact ⟨i + 1, by omega, by go_num, by go_num, HN⟩
            case measure => simp [intOf]; omega
          · have q1 : ¬ (a : Int) < (i : Int) := by omega
            have q2 : (i : Int) ≤ (a : Int) := by omega
            have q3 : ((i : Int) == (a : Int)) = true := by simp; omega
            have q4 : ¬ (i : Int) < (a : Int) := by omega
            rw [if_pos (by omega)] at hd1
            rw [if_neg (by omega)] at HS2
            clear hia
            go_wp2_with fail
            refine hd1.mono ?_
            clear hd1
            rintro e w4 ⟨rfl, h4⟩
            have hd2 := doneW (i : Int) h4
            rw [HS2.out.1] at hd2
            clear h4
            go_wp2_with fail
            refine hd2.mono ?_
            clear hd2
            rintro e w5 ⟨rfl, h5⟩
            have he := errorW 1 6 h5
            clear h5
            go_wp2_with fail
            refine he.mono ?_
            clear he
            rintro e w6 ⟨rfl, h6⟩
            have he := errorW 1 1 h6
            clear h6
            go_wp2_with fail
            refine he.mono ?_
            clear he
            rintro e w7 ⟨rfl, h7⟩
            have he := errorW 6 6 h7
            clear h7
            go_wp2_with fail
            refine he.mono ?_
            clear he
            rintro e w8 ⟨rfl, h8⟩
            have HN : Hid (∃ s, LgW wp.heap.size L (besideTs 1 30) s wp w8 ∧ St a (i + 1) (i + 1) s) := ⟨_, h8, HS2.out.2⟩
            clear h8 HS2
            go_wp2
            go_roundw
            case rel => exact ⟨i + 1, by omega, by go_num, by go_num, HN⟩
            case measure => simp [intOf]; omega
          · have q1 : (a : Int) < (i : Int) := by omega
            have q2 : ¬ (i : Int) ≤ (a : Int) := by omega
            have q3 : ((i : Int) == (a : Int)) = false := by simp; omega
            have q4 : ¬ (i : Int) < (a : Int) := by omega
            rw [if_neg (by omega)] at hd1
            rw [if_neg (by omega)] at HS2
            clear hia
            go_wp2_with fail
            refine hd1.mono ?_
            clear hd1
            rintro e w4 ⟨rfl, h4⟩
            have hd2 := doneW (i : Int) h4
            rw [HS2.out.1] at hd2
            clear h4
            go_wp2_with fail
            refine hd2.mono ?_
            clear hd2
            rintro e w5 ⟨rfl, h5⟩
            have he := errorW 6 6 h5
            clear h5
            go_wp2_with fail
            refine he.mono ?_
            clear he
            rintro e w6 ⟨rfl, h6⟩
            have he := errorW 6 1 h6
            clear h6
            go_wp2_with fail
            refine he.mono ?_
            clear he
            rintro e w7 ⟨rfl, h7⟩
            have he := errorW 6 6 h7
            clear h7
            go_wp2_with fail
            refine he.mono ?_
            clear he
            rintro e w8 ⟨rfl, h8⟩
            have HN : Hid (∃ s, LgW wp.heap.size L (besideTs 1 30) s wp w8 ∧ St a (i + 1) (i + 1) s) := ⟨_, h8, HS2.out.2⟩
            clear h8 HS2
            go_wp2
            go_roundw
            case rel => exact ⟨i + 1, by omega, by go_num, by go_num, HN⟩
            case measure => simp [intOf]; omega
        · obtain rfl : i = m := by omega
          have HR : Hid (∃ s, LgW wp.heap.size L (besideTs 1 30) s wp wr ∧ St a i 20 s) := by
            obtain ⟨s, h1, h2⟩ := hR.out
            exact ⟨s, h1, h2.mono (by omega)⟩
          clear hR him hi hM hM2
          have ha20 : (a : Int) ≤ 20 := by omega
          go_wp2
          go_loopw [11] (fun s11 wx => ∃ k : Nat, s11 = .int .i64 k ∧ k ≤ 40 ∧ Hid (∃ s, LgW wp.heap.size L (besideTs 1 30) s wp wx ∧ St a k 20 s)) (fun s11 _ => 41 - (intOf s11).toNat)
          case atStart => exact ⟨i, rfl, by omega, HR⟩
          case round =>
            clear HR
            obtain ⟨k, rfl, hk40, hR⟩ := hrel
            by_cases hka : k ≤ a
            · obtain ⟨s, hW, hS⟩ := hR.out
              have hS2 := hS.sync hka
              have hd := syncW hW
              rw [hS2.1] at hd
              have HS2 : Hid (St a (k + 1) 20 s.sync) := hS2.2
              clear hR hW hS hS2
              have q1 : (k : Int) ≤ (a : Int) := by omega
              by_cases hlt : k < a
              · have q2 : ((k : Int) == (a : Int)) = false := by simp; omega
                rw [if_pos hlt, errV_zero] at hd
                go_wp2_with fail
                refine hd.mono ?_
                clear hd
                rintro e w4 ⟨rfl, h4⟩
                have HN : Hid (∃ s, LgW wp.heap.size L (besideTs 1 30) s wp w4 ∧ St a (k + 1) 20 s) := ⟨_, h4, HS2.out⟩
                clear h4 HS2
                go_wp2
                go_roundw
                case rel => exact ⟨k + 1, by go_num, by omega, HN⟩
                case measure => simp [intOf]; omega
              · have q2 : ((k : Int) == (a : Int)) = true := by simp; omega
                rw [if_neg hlt, errV_some (by decide)] at hd
                go_wp2_with fail
                refine hd.mono ?_
                clear hd
                rintro e w4 ⟨rfl, h4⟩
                have HN : Hid (∃ s, LgW wp.heap.size L (besideTs 1 30) s wp w4 ∧ St a (k + 1) 20 s) := ⟨_, h4, HS2.out⟩
                clear h4 HS2
                go_wp2
                go_roundw
                case rel => exact ⟨k + 1, by go_num, by omega, HN⟩
                case measure => simp [intOf]; omega
            · have q1 : ¬ (k : Int) ≤ (a : Int) := by omega
              obtain ⟨s, hW, hS⟩ := hR.out
              obtain ⟨⟨x1, x2⟩, ⟨y1, y2⟩, z1, z2, r, hr⟩ := hS.last (by omega) (by omega) keep
              have X : Hid (s.doneE (besideTs 1 30) 28 = 6 ∧ s.done (besideTs 1 30) 28 = s ∧ (s.crash keep).doneE (besideTs 1 30) 29 = 0 ∧ ((s.crash keep).done (besideTs 1 30) 29).syncE = 0 ∧ ((s.crash keep).done (besideTs 1 30) 29).sync.recs = r ++ [29]) := ⟨y1, y2, z1, z2, hr⟩
              have hd := syncW hW
              rw [x1, x2] at hd
              clear hR hW hS x1 x2 y1 y2 z1 z2 hr
              go_wp2_with fail
              refine hd.mono ?_
              clear hd
              rintro e w4 ⟨rfl, h4⟩
              have hd := doneW 28 h4
              rw [X.out.1, X.out.2.1] at hd
              clear h4
              go_wp2_with fail
              refine hd.mono ?_
              clear hd
              rintro e w5 ⟨rfl, h5⟩
              have he := errorW 6 6 h5
              clear h5
              go_wp2_with fail
              refine he.mono ?_
              clear he
              rintro e w6 ⟨rfl, h6⟩
              have he := errorW 6 6 h6
              clear h6
              go_wp2_with fail
              refine he.mono ?_
              clear he
              rintro e w7 ⟨rfl, h7⟩
              have hd := crashW keep h7
              clear h7
              go_wp2_with fail
              refine hd.mono ?_
              clear hd
              rintro e w8 ⟨rfl, h8⟩
              have hd := doneW 29 h8
              rw [X.out.2.2.1, errV_zero] at hd
              clear h8
              go_wp2_with fail
              refine hd.mono ?_
              clear hd
              rintro e w9 ⟨rfl, h9⟩
              have hd := syncW h9
              rw [X.out.2.2.2.1, errV_zero] at hd
              clear h9
              go_wp2_with fail
              refine hd.mono ?_
              clear hd
              rintro e w10 ⟨rfl, h10⟩
              have hd := allW h10
              rw [X.out.2.2.2.2] at hd
              have hlr := h10.ok.seq.len
              rw [besideTs_length, X.out.2.2.2.2, List.length_append, List.length_singleton] at hlr
              have H10 : Hid (Below w.heap.size w w10) := HF0.out _ h10.below
              have HSZ : Hid (w.heap.size ≤ w10.heap.size) := H10.out.size
              clear h10
              go_wp2_with fail
              refine hd.mono ?_
              clear hd
              rintro e w11 ⟨⟨v, rfl, hv⟩, hb11⟩
              have hil : (intsOf (r ++ [29])).length = r.length + 1 := by rw [intsOf_length, List.length_append, List.length_singleton]
              have hg29 : (intsOf (r ++ [29])).getD r.length 0 = 29 := by
                rw [intsOf_getD, List.getD_eq_getElem?_getD, List.getElem?_append_right (Nat.le_refl _)]
                simp
              obtain ⟨g, c, rfl, _, hgl, _⟩ := hv.full (by rw [hil]; omega)
              have hcell := hv.cell (k := r.length) (by rw [hil]; omega)
              rw [hg29] at hcell
              have HF : Hid (Below w.heap.size w w11) := H10.out.trans (hb11.mono HSZ.out)
              rw [hil]
              clear hv hb11 hil hg29 X H10
              generalize r.length = n at *
              have hsub : ((n + 1 : Nat) : Int) - 1 = (n : Int) := by omega
              have h1n : (1 : Int) ≤ ((n + 1 : Nat) : Int) := by omega
              go_wp2
              go_ret
              exact ⟨rfl, HF.out⟩
end Go.Proofs.YtbknbakbfblbiaaDoor
