/- The document's Bench, Steps; yardsame.Ints; each call by one contract. -/
import Derived.Test.YtilpjhhjlokfcaaDoorBnd
import Derived.Test.YtilpjhhjlokfcaaDoorQc
namespace Go.Proofs.YtilpjhhjlokfcaaDoor
open Go.RowKit Go.Deep

set_option maxRecDepth 100000 in
set_option maxHeartbeats 4000000 in
theorem docBench_any (v : Value) (l : List BitZ) (hands : Int) (w : World) (hg : BitsAt w v l) :
    Calls Tryd.prog 4 #[v, .int .i64 hands] w fun e w' => e = .returned (.int .i64 (bnErr l hands)) ∧ Below w.heap.size w w' := by
  obtain ⟨hl, a, c, rfl, hc⟩ := hg
  by_cases h6 : 600 < l.length
  · have hfi : (600 : Int) < (l.length : Int) := by omega
    rw [bnErr_full h6]
    clear hc
    go_enter Tryd.func4, Tryd.ntmps4
    go_wp2
    go_ret
    exact ⟨rfl, Below.refl _ _⟩
  · have hfi : ¬ (600 : Int) < (l.length : Int) := by omega
    by_cases h1 : hands < 1
    · rw [bnErr_hands h6 (Or.inl h1)]
      clear hc
      go_enter Tryd.func4, Tryd.ntmps4
      go_wp2
      go_ret
      exact ⟨rfl, Below.refl _ _⟩
    · by_cases h2 : 6 < hands
      · rw [bnErr_hands h6 (Or.inr h2)]
        clear hc
        go_enter Tryd.func4, Tryd.ntmps4
        go_wp2
        go_ret
        exact ⟨rfl, Below.refl _ _⟩
      · have HE1 : Hid (anyB (badBit hands) l = true → bnErr l hands = 1) := fun h => by rw [bnErr_any h6 (by omega), h]; rfl
        have HE0 : Hid (anyB (badBit hands) l = false → bnErr l hands = 0) := fun h => by rw [bnErr_any h6 (by omega), h]; rfl
        go_enter Tryd.func4, Tryd.ntmps4
        go_wp2
        go_loopw [5] (fun s5 wr => ∃ k : Nat, k ≤ l.length ∧ s5 = .int .i64 k ∧ Hid (∀ j, j < k → badBit hands (bitA l j) = false) ∧ Below w.heap.size w wr) (fun s5 _ => l.length - (intOf s5).toNat)
        case atStart => exact ⟨0, Nat.zero_le _, rfl, fun j hj => by omega, Below.refl _ _⟩
        case round =>
          obtain ⟨k, hkn, rfl, hno, hb⟩ := hrel
          by_cases hkl : k < l.length
          · rcases hc with rfl | ⟨b, o, rfl, hbl, hc⟩
            · simp at hkl
            obtain ⟨hc1, hc2, hc3⟩ := hc k hkl
            have hc1' := (hb.cell (p := ⟨b, o + k * 3, none⟩) hbl).trans hc1
            have hc2' := (hb.cell (p := ⟨b, o + k * 3 + 1, none⟩) hbl).trans hc2
            have hc3' := (hb.cell (p := ⟨b, o + k * 3 + 2, none⟩) hbl).trans hc3
            clear hc hc1 hc2 hc3
            have e1 : (l.getD k (0, 0, 0)) = bitA l k := rfl
            rw [e1] at hc1' hc2' hc3'
            clear e1
            have HY : Hid (badBit hands (bitA l k) = true → bnErr l hands = 1) := fun h => HE1.out (anyB_hit hkl h)
            have HN : Hid (badBit hands (bitA l k) = false → ∀ j, j < k + 1 → badBit hands (bitA l j) = false) := fun h j hj => by
              by_cases e : j = k
              · rw [e]; exact h
              · exact hno.out j (by omega)
            have HBB : Hid (∀ x, x = bitA l k → badBit hands x = (!(decide (0 ≤ x.1) && decide (x.1 < 10001)) || !(decide (0 ≤ x.2.1) && decide (x.2.1 < hands)) || !(decide (0 ≤ x.2.2) && decide (x.2.2 < 30)))) := fun x _ => rfl
            have HBB2 := HBB.out _ rfl
            have HB3 : Hid (badBit hands (bitA l k) = (!(decide (0 ≤ (bitA l k).1) && decide ((bitA l k).1 < 10001)) || !(decide (0 ≤ (bitA l k).2.1) && decide ((bitA l k).2.1 < hands)) || !(decide (0 ≤ (bitA l k).2.2) && decide ((bitA l k).2.2 < 30)))) := HBB2
            obtain ⟨b0, b1, b2⟩ := new_bit wr (bitA l k).1 (bitA l k).2.1 (bitA l k).2.2
            have HBA : Hid (∀ q, Below w.heap.size w ((wr.alloc (.cells #[.int .i64 (bitA l k).1, .int .i64 (bitA l k).2.1, .int .i64 (bitA l k).2.2] 28)).drewN q)) := fun q => (hb.alloc hb.size _).trans ((drawn_belowB _ q).mono (by have := hb.size; simp; omega))
            clear hno HE1 HE0 HBB HBB2
            generalize badBit hands (bitA l k) = bad at *
            generalize (bitA l k).1 = x at *
            generalize (bitA l k).2.1 = y at *
            generalize (bitA l k).2.2 = z at *
            by_cases t0 : x < 0
            · have HX : Hid (bnErr l hands = 1) := HY.out (by rw [HB3.out]; simp; omega)
              clear HY HN HB3
              go_wp2
              go_ret
              exact ⟨by rw [HX.out]; rfl, HBA.out 0⟩
            ·
              by_cases t1 : 10000 < x
              · have HX : Hid (bnErr l hands = 1) := HY.out (by rw [HB3.out]; simp; omega)
                clear HY HN HB3
                go_wp2
                go_ret
                exact ⟨by rw [HX.out]; rfl, HBA.out 0⟩
              ·
                by_cases t2 : y < 0
                · have HX : Hid (bnErr l hands = 1) := HY.out (by rw [HB3.out]; simp; omega)
                  clear HY HN HB3
                  go_wp2
                  go_ret
                  exact ⟨by rw [HX.out]; rfl, HBA.out 0⟩
                ·
                  by_cases t3 : hands ≤ y
                  · have HX : Hid (bnErr l hands = 1) := HY.out (by rw [HB3.out]; simp; omega)
                    clear HY HN HB3
                    go_wp2
                    go_ret
                    exact ⟨by rw [HX.out]; rfl, HBA.out 0⟩
                  ·
                    by_cases t4 : z < 0
                    · have HX : Hid (bnErr l hands = 1) := HY.out (by rw [HB3.out]; simp; omega)
                      clear HY HN HB3
                      go_wp2
                      go_ret
                      exact ⟨by rw [HX.out]; rfl, HBA.out 0⟩
                    ·
                      by_cases t5 : 29 < z
                      · have HX : Hid (bnErr l hands = 1) := HY.out (by rw [HB3.out]; simp; omega)
                        clear HY HN HB3
                        go_wp2
                        go_ret
                        exact ⟨by rw [HX.out]; rfl, HBA.out 0⟩
                      ·
                        have HX : Hid (∀ j, j < k + 1 → badBit hands (bitA l j) = false) := HN.out (by rw [HB3.out]; simp; omega)
                        clear HY HN HB3
                        go_wp2
                        go_roundw
                        case rel => exact ⟨k + 1, by omega, by go_num, HX, HBA.out 0⟩
                        case measure => simp [intOf]; omega
          · clear hc
            have HX : Hid (bnErr l hands = 0) := HE0.out (anyB_miss (fun j hj => hno.out j (by omega)))
            clear hno HE0 HE1
            go_wp2
            go_ret
            exact ⟨by rw [HX.out]; rfl, hb⟩

set_option maxRecDepth 100000 in
set_option maxHeartbeats 2000000 in
theorem docSteps_any (v : Value) (l : List BitZ) (w : World) (hg : BitsAt w v l) (hk : ∀ k, k < l.length → 0 ≤ (bitA l k).1 ∧ (bitA l k).1 ≤ 10000) :
    Calls Tryd.prog 8 #[v] w fun e w' => e = .returned (.int .i64 (stepsZ l l.length)) ∧ w' = w := by
  have HS : Hid (∀ k, k ≤ l.length → stepsZ l k ≤ 10001) := stepsZ_le l l.length (fun k h => (hk k h).2)
  have HK : Hid (∀ k, k < l.length → 0 ≤ (bitA l k).1 ∧ (bitA l k).1 ≤ 10000) := hk
  clear hk
  obtain ⟨hl, a, c, rfl, hc⟩ := hg
  go_enter Tryd.func8, Tryd.ntmps8
  go_wp2
  go_loopw [3, 4] (fun s3 s4 wr => ∃ k : Nat, k ≤ l.length ∧ s4 = .int .i64 k ∧ s3 = .int .i64 (stepsZ l k) ∧ w = wr) (fun _ s4 _ => l.length - (intOf s4).toNat)
  case atStart => exact ⟨0, Nat.zero_le _, rfl, rfl, rfl⟩
  case round =>
    obtain ⟨k, hkn, rfl, rfl, rfl⟩ := hrel
    by_cases hkl : k < l.length
    · rcases hc with rfl | ⟨b, o, rfl, hbl, hc⟩
      · simp at hkl
      have hc1' := (hc k hkl).1
      clear hc
      have e1 : (l.getD k (0, 0, 0)) = bitA l k := rfl
      rw [e1] at hc1'
      clear e1
      obtain ⟨hx0, hx1⟩ := HK.out k hkl
      have hsk := HS.out k hkn
      have HM : Hid (stepsZ l (k + 1) = max (stepsZ l k) ((bitA l k).1 + 1).toNat) := rfl
      generalize (bitA l k).1 = x at *
      generalize stepsZ l k = n1 at *
      by_cases hge : (n1 : Int) ≤ x
      · have HX : Hid (((stepsZ l (k + 1) : Nat) : Int) = x + 1) := by show _ = _; rw [HM.out]; omega
        clear HM
        go_wp2
        go_roundw
        case rel => exact ⟨k + 1, by omega, by go_num, by rw [HX.out], trivial⟩
        case measure => simp [intOf]; omega
      · have HX : Hid (stepsZ l (k + 1) = n1) := by show _ = _; rw [HM.out]; omega
        clear HM
        go_wp2
        go_roundw
        case rel => exact ⟨k + 1, by omega, by go_num, by rw [HX.out], trivial⟩
        case measure => simp [intOf]; omega
    · have hke : k = l.length := by omega
      have HE : Hid (stepsZ l k = stepsZ l l.length) := by show _ = _; rw [hke]
      clear hc hke
      generalize stepsZ l k = n1 at *
      go_wp2
      go_ret
      exact ⟨by rw [← HE.out]; rfl, rfl⟩

set_option maxRecDepth 100000 in
set_option maxHeartbeats 1000000 in
theorem sameInts_any (v u : Value) (zs : List Int) (w : World) (hv : IntsAt w v zs) (hu : IntsAt w u zs) :
    Calls Tryd.prog 7 #[v, u] w fun e w' => e = .returned (.bool true) ∧ Below w.heap.size w w' := by
  obtain ⟨hl, a, c, rfl, hv⟩ := hv
  obtain ⟨-, a2, c2, rfl, hu⟩ := hu
  have HV : Hid (∀ k, k < zs.length → ∃ b o, a = some ⟨b, o, none⟩ ∧ w.cell? ⟨b, o + k, none⟩ = some (.int .i64 (zs.getD k 0))) := fun k hk => by
    rcases hv with h0 | ⟨b, o, h1, -, h2⟩
    · rw [h0] at hk; simp at hk
    · exact ⟨b, o, h1, h2 k hk⟩
  have HU : Hid (∀ k, k < zs.length → ∃ b o, a2 = some ⟨b, o, none⟩ ∧ w.cell? ⟨b, o + k, none⟩ = some (.int .i64 (zs.getD k 0))) := fun k hk => by
    rcases hu with h0 | ⟨b, o, h1, -, h2⟩
    · rw [h0] at hk; simp at hk
    · exact ⟨b, o, h1, h2 k hk⟩
  clear hv hu
  go_enter Tryd.func7, Tryd.ntmps7
  go_wp2
  go_loopw [5] (fun s5 wr => ∃ k q : Nat, k ≤ zs.length ∧ s5 = .int .i64 k ∧ wr = w.drewN q) (fun s5 _ => zs.length - (intOf s5).toNat)
  case atStart => exact ⟨0, 0, Nat.zero_le _, rfl, rfl⟩
  case round =>
    obtain ⟨k, q, hk, rfl, rfl⟩ := hrel
    by_cases hkl : k < zs.length
    · obtain ⟨b, o, rfl, h1⟩ := HV.out k hkl
      obtain ⟨b2, o2, rfl, h3⟩ := HU.out k hkl
      generalize zs.getD k 0 = p at *
      go_wp2
      go_quiet (fail)
      go_wp2
      go_roundw
      case rel => exact ⟨k + 1, _, by omega, by go_num, rfl⟩
      case measure => simp [intOf]; omega
    · go_wp2
      go_ret
      exact ⟨rfl, drawn_belowB w q⟩


/-- What Busy, and Row, tell, as numbers. -/
def busyL (l : List BitZ) (hands : Int) : List Int := if bnErr l hands = 0 then cntL (fun b => b.2.1) l hands.toNat else []
def rowL (l : List BitZ) : List Int := if bnErr l 6 = 0 then cntL (fun b => b.1) l (stepsZ l l.length) else []
theorem ints_none (w : World) : IntsAt w (.slice none 0 0) [] := ⟨by simp, none, 0, rfl, Or.inl rfl⟩
theorem ints_row {b n : Nat} {w : World} {f : BitZ → Int} {l : List BitZ} (h : w.rowIs b 3 n (fun j => .int .i64 (cntZ f l l.length j))) (hn : n ≤ 10001) : IntsAt w (.slice (some ⟨b, 0, none⟩) n n) (cntL f l n) := by
  refine ⟨by rw [cntL_length]; omega, some ⟨b, 0, none⟩, n, by rw [cntL_length], Or.inr ⟨b, 0, rfl, h.lt, fun k hk => ?_⟩⟩
  rw [cntL_length] at hk
  rw [cntL_getD f l hk, Nat.zero_add]
  exact h.cell hk
theorem busy_one (v : Value) (l : List BitZ) (hands : Int) (w : World) (hg : BitsAt w v l) :
    Calls Tryd.prog 5 #[v, .int .i64 hands] w fun e w' => ∃ xv, e = .returned (.tuple #[xv, errV (bnErr l hands)]) ∧ IntsAt w' xv (busyL l hands) ∧ Below w.heap.size w w' := by
  refine (busy_any v l hands w hg).mono ?_
  rintro e w' ⟨h, hb⟩
  rcases h with ⟨hq, rfl⟩ | ⟨hq, b, rfl, _, _, hr⟩
  · exact ⟨_, rfl, by unfold busyL; rw [if_neg hq]; exact ints_none _, hb⟩
  · have h6 := bnErr_zero hq
    exact ⟨_, by rw [hq]; rfl, by unfold busyL; rw [if_pos hq]; exact ints_row hr (by omega), hb⟩
theorem row_one (v : Value) (l : List BitZ) (w : World) (hg : BitsAt w v l) :
    Calls Tryd.prog 9 #[v] w fun e w' => ∃ xv, e = .returned (.tuple #[xv, errV (bnErr l 6)]) ∧ IntsAt w' xv (rowL l) ∧ Below w.heap.size w w' := by
  refine (brow_any v l w hg).mono ?_
  rintro e w' ⟨h, hb⟩
  rcases h with ⟨hq, rfl⟩ | ⟨hq, b, rfl, _, _, hr⟩
  · exact ⟨_, rfl, by unfold rowL; rw [if_neg hq]; exact ints_none _, hb⟩
  · have h6 := bnErr_zero hq
    exact ⟨_, by rw [hq]; rfl, by unfold rowL; rw [if_pos hq]; exact ints_row hr (stepsZ_le l l.length (fun k hk => (h6.2.2.2 k hk).2.1) _ (Nat.le_refl _)), hb⟩
theorem error_same (q : Int) (w : World) (hg : Typed w) : Calls Tryd.prog 6 #[errV q, .int .i64 q] w fun e w' => e = .returned (.bool true) ∧ Below w.heap.size w w' := by
  refine (error_any q q w hg).mono ?_
  rintro e w' ⟨rfl, hb⟩
  exact ⟨by simp, hb⟩
/-- Bits of so many hands are bits of six. -/
theorem bnErr_six {l : List BitZ} {hands : Int} (h : bnErr l hands = 0) : bnErr l 6 = 0 := by
  obtain ⟨h600, h1, h6, hb⟩ := bnErr_zero h
  rw [bnErr_any (by omega) (by omega), anyB_miss (fun k hk => ?_)]
  · rfl
  · have := hb k hk
    unfold badBit belowB
    simp
    omega
/-- What Speed tells of a plan with this fault. -/
def SpeedIs (ts : List (Int × List Int)) (hands q sp : Int) : Prop :=
  (gErr q hands ≠ 0 ∧ sp = 0) ∨ (gErr q hands = 0 ∧ ∃ s s1 : Nat, Stops ts hands.toNat s ∧ Stops ts 1 s1 ∧ sp = speedZ s1 s)
theorem speed_one (v : Value) (ts : List (Int × List Int)) (hands p q : Int) (w : World) (hp : PlanAt w v ts) (hc : CheckIs ts p q) :
    ∃ sp, SpeedIs ts hands q sp ∧ ∀ wx, Below w.heap.size w wx → Calls Tryd.prog 14 #[v, .int .i64 hands] wx fun e w' => e = .returned (.tuple #[.int .i64 sp, errV (gErr q hands)]) ∧ Below wx.heap.size wx w' := by
  by_cases hg : gErr q hands = 0
  · obtain ⟨rfl, h1, h6⟩ := gErr_zero hg
    obtain ⟨rfl, -⟩ := hc.ok rfl
    obtain ⟨s, hs⟩ := stops_exists hc.works.1 (h := hands.toNat) (by omega)
    obtain ⟨s1, hs1⟩ := stops_exists hc.works.1 (h := 1) (by omega)
    refine ⟨speedZ s1 s, Or.inr ⟨hg, s, s1, hs, hs1, rfl⟩, fun wx hx => (speed_any v ts hands wx (hp.later hx)).mono ?_⟩
    rintro e w' ⟨h, hb⟩
    refine ⟨?_, hb⟩
    rcases h with ⟨p', q', hc', hq', _⟩ | ⟨_, _, _, s', s1', hs', hs1', rfl⟩
    · rw [(hc'.det hc).2] at hq'; exact absurd hg hq'
    · rw [hs'.det hs, hs1'.det hs1, hg]; rfl
  · refine ⟨0, Or.inl ⟨hg, rfl⟩, fun wx hx => (speed_any v ts hands wx (hp.later hx)).mono ?_⟩
    rintro e w' ⟨h, hb⟩
    refine ⟨?_, hb⟩
    rcases h with ⟨p', q', hc', hq', rfl⟩ | ⟨hc', h1, h6, _⟩
    · rw [(hc'.det hc).2]
    · obtain ⟨_, rfl⟩ := hc'.det hc
      exact absurd (by unfold gErr; rw [if_pos rfl, if_neg (by omega)]) hg
end Go.Proofs.YtilpjhhjlokfcaaDoor
