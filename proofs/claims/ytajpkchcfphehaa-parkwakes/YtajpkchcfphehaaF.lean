/- The walk of ParkWakes. -/
import Derived.Test.YtajpkchcfphehaaE
import Derived.Deep.CutRange
import Derived.Deep.CutBlock
namespace Go.Proofs.Ytajpkchcfphehaa
open Go.RowKit Go.Deep

/-- Two rows that share no block. -/
def Apart (va vb : Value) : Prop := ∀ k, va.ownBlock = some k → vb.ownBlock = some k → False
theorem below_drew (B : Nat) (w : World) (q : Nat) : Below B w (w.drewN q) := ⟨rfl, rfl, rfl, Nat.le_refl _, fun _ _ => rfl⟩

/-- Between two calls: a park, and a row of the law's own; in both those that sleep. -/
structure WM (S hands B : Nat) (xs : List Int) (v rv : Value) (w wr : World) : Prop where
  pk : Pk S hands xs v wr
  row : RowI (S + 1) wr rv xs
  ap : Apart v rv
  BS : B ≤ S
  below : Below B w wr
theorem WM.later {S hands B : Nat} {xs : List Int} {v rv : Value} {w wr w' : World} (h : WM S hands B xs v rv w wr) (hb : Below wr.heap.size wr w') : WM S hands B xs v rv w w' :=
  ⟨h.pk.later hb, h.row.of_blocks (fun k e => hb.block k (h.row.low e).2), h.ap, h.BS, h.below.trans (hb.mono (by have := h.pk.lt; have := h.BS; omega))⟩
/-- The row of the law's own lies where a call of the park changes nothing. -/
theorem WM.rowK {S hands B : Nat} {xs : List Int} {v rv : Value} {w wr w' : World} (h : WM S hands B xs v rv w wr) (hk : Ks S v.ownBlock wr w') : RowI (S + 1) w' rv xs :=
  h.row.of_blocks (fun k e => hk.block k (h.row.low e).2 (by have := (h.row.low e).1; omega) (fun e2 => h.ap k e2 e))
theorem WM.apK {S hands B : Nat} {xs : List Int} {v v' rv : Value} {w wr : World} (h : WM S hands B xs v rv w wr) (hn : Near wr.heap.size v v') : Apart v' rv := fun k e1 e2 => by
  rcases hn k e1 with h1 | h1
  · exact h.ap k h1 e2
  · have := (h.row.low e2).2; omega
theorem WM.belowK {S hands B : Nat} {xs : List Int} {v rv : Value} {w wr w' : World} (h : WM S hands B xs v rv w wr) (hk : Ks S v.ownBlock wr w') : Below B w w' :=
  h.below.trans (hk.below h.BS (fun j e => by have := (h.pk.row.low e).1; have := h.BS; omega) (by have := h.pk.lt; have := h.BS; omega))
/-- One more sleeps, in both. -/
theorem WM.more {S hands B : Nat} {xs : List Int} {v v' rv rv' : Value} {h : Int} {w wr w1 w2 : World} (hM : WM S hands B xs v rv w wr) (hp : Pk S hands (xs ++ [h]) v' w1) (hk : Ks S v.ownBlock wr w1) (hn : Near wr.heap.size v v')
    (hr : RowI (S + 1) w2 rv' (xs ++ [h])) (hg : (w1.alloc (.cells #[.int .i64 h] 3)).grownBy w2 rv.ownBlock) (hat : rv'.ownBlock = rv.ownBlock ∨ rv'.ownBlock = some (w1.alloc (.cells #[.int .i64 h] 3)).heap.size) : WM S hands B (xs ++ [h]) v' rv' w w2 := by
  have hap := hM.apK hn
  have hrow := hM.rowK hk
  have hal := hp.alloc (.cells #[.int .i64 h] 3)
  have hsz := hk.size
  have hBS := hM.BS
  have hS := hM.pk.lt
  refine ⟨hal.of_blocks (hg.block S hal.lt (fun e => ?_)) (fun k e => hg.block k (hal.row.low e).2 (fun e2 => hap k e e2.symm)), hr, fun k e1 e2 => ?_, hBS, ?_⟩
  · have := (hrow.low e.symm).1; omega
  · rcases hat with h1 | h1
    · exact hap k e1 (h1.symm.trans e2)
    · have e3 := h1.symm.trans e2
      have := (hal.row.low e1).2
      simp only [Option.some.injEq] at e3
      omega
  · have b1 := hM.belowK hk
    have b2 : Below B w1 (w1.alloc (.cells #[.int .i64 h] 3)) := (Below.refl _ _).alloc (by omega) _
    refine (b1.trans b2).trans ⟨hg.os, hg.tape, hg.output, hg.size, fun k hk => hg.block k (by simp; omega) (fun e => ?_)⟩
    have := (hrow.low e.symm).1
    omega

theorem mem_drop_iff {xs : List Int} (hd : xs.Nodup) {i m : Nat} (hi : i < xs.length) : xs.getD i 0 ∈ xs.drop m ↔ m ≤ i := by
  have hg : xs.getD i 0 = xs[i] := by rw [List.getD_eq_getElem?_getD, List.getElem?_eq_getElem hi]; rfl
  rw [hg]
  constructor
  · intro h
    obtain ⟨j, hj, e⟩ := List.mem_iff_getElem.1 h
    rw [List.getElem_drop] at e
    rcases Nat.lt_or_ge i m with h1 | h1
    · exact absurd e.symm ((List.pairwise_iff_getElem.1 hd) i (m + j) hi (by simp at hj; omega) (by omega))
    · exact h1
  · intro h
    refine List.mem_iff_getElem.2 ⟨i - m, by simp; omega, ?_⟩
    rw [List.getElem_drop]
    congr 1
    omega

set_option maxRecDepth 100000 in
set_option maxHeartbeats 8000000 in
theorem wakes_in (hands n : Int) (zs : List Int) (sa : Option Addr) (sc : Nat) (w : World) (hs : ∀ k, k < zs.length → ∃ b off, sa = some ⟨b, off, none⟩ ∧ b < w.heap.size ∧ w.cell? ⟨b, off + k, none⟩ = some (.int .i64 (zs.getD k 0))) :
    Calls Try.prog 3 #[.int .i64 hands, .slice sa zs.length sc, .int .i64 n] w fun e w' => e = .returned (.bool true) ∧ Below w.heap.size w w' := by
  have HS : Hid (∀ k, k < zs.length → ∃ b off, sa = some ⟨b, off, none⟩ ∧ b < w.heap.size ∧ w.cell? ⟨b, off + k, none⟩ = some (.int .i64 (zs.getD k 0))) := hs
  have hn := New_good 3 w (by omega) (by omega)
  clear hs
  go_enter Try.func3, Try.ntmps3
  go_wp2_with fail
  refine hn.mono ?_; clear hn; rintro e w1 ⟨rfl, hp1, hb1⟩
  obtain ⟨T, hT⟩ : ∃ T, T = w.heap.size := ⟨_, rfl⟩
  have HM1 : Hid (PM T 3 w.heap.size [] w w1) := ⟨by omega, hb1, _, by rw [hT]; exact hp1⟩
  rw [← hT] at hp1 ⊢
  have c6a := Sleep_good T 3 [] _ 2 w1 hp1 (by omega) (by omega) (by simp)
  have HP1 : Hid (Pk T 3 [] (.slice none 0 0) w1) := hp1
  clear hT hb1 hp1
  go_wp2_with fail
  refine c6a.mono ?_; clear c6a; rintro e w2 ⟨rfl, v2, hp2, hk2, -⟩
  have HM2 : Hid (PM T 3 w.heap.size [2] w w2) := HM1.out.next HP1.out hp2 hk2
  have HP2 : Hid (Pk T 3 [2] v2 w2) := hp2
  have c6b := Sleep_good T 3 [2] _ 0 w2 hp2 (by omega) (by omega) (by simp)
  clear hk2 hp2 HM1 HP1
  go_wp2_with fail
  refine c6b.mono ?_; clear c6b; rintro e w3 ⟨rfl, v3, hp3, hk3, -⟩
  have HM3 : Hid (PM T 3 w.heap.size [2, 0] w w3) := HM2.out.next HP2.out hp3 hk3
  have HP3 : Hid (Pk T 3 [2, 0] v3 w3) := hp3
  have c7 := Wake_good T 3 1 [2, 0] _ w3 hp3
  clear hk3 hp3 HM2 HP2
  go_wp2_with fail
  refine c7.mono ?_; clear c7; rintro e w4 ⟨lv, v4, rfl, hl4, hp4, hk4, -⟩
  have HM4 : Hid (PM T 3 w.heap.size [0] w w4) := HM3.out.next HP3.out hp4 hk4
  obtain ⟨g, c, rfl, -⟩ := hl4.full (by simp)
  have hc0 := hl4.cell (k := 0) (by simp)
  have hmn := Many_any T 3 [0] v4 w4 hp4
  simp at hc0
  clear hk4 hp4 HM3 HP3 hl4
  go_wp2_with fail
  refine hmn.mono ?_; clear hmn; rintro e w4 ⟨rfl, rfl⟩
  clear hc0
  have hb4 : Below w.heap.size w w4 := HM4.out.2.1
  by_cases hh : hands < 1 ∨ 6 < hands
  · have hn := New_bad hands w4 hh
    unfold errV at hn
    clear HM4
    by_cases h1 : hands < 1
    · go_wp2_with (first | (go_at_call 5; refine hn.mono ?_; clear hn; rintro e w5 ⟨rfl, rfl⟩))
      go_ret
      exact ⟨rfl, hb4⟩
    · have h2 : 6 < hands := by omega
      go_wp2_with (first | (go_at_call 5; refine hn.mono ?_; clear hn; rintro e w5 ⟨rfl, rfl⟩))
      go_ret
      exact ⟨rfl, hb4⟩
  obtain ⟨hd, rfl⟩ : ∃ r : Nat, hands = r := ⟨hands.toNat, by omega⟩
  have hn := New_good hd w4 (by omega) (by omega)
  clear HM4
  go_wp2_with fail
  refine hn.mono ?_; clear hn; rintro e w5 ⟨rfl, hp5, hb5⟩
  obtain ⟨S, hS⟩ : ∃ S, S = w4.heap.size := ⟨_, rfl⟩
  have HM : Hid (WM S hd w.heap.size [] (.slice none 0 0) (.slice none 0 0) w w5) := by
    have := hb4.size
    exact ⟨by rw [hS]; exact hp5, RowI.nil _ _, fun k e => by simp [Value.ownBlock] at e, by omega, hb4.trans (hb5.mono this)⟩
  rw [← hS]
  clear hS hp5 hb5 hb4
  go_wp2
  go_loopg [12, 13] 40 (fun gg s12 s13 wr => ∃ (i : Nat) (xs : List Int) (v : Value), s13 = .int .i64 i ∧ i ≤ 40 ∧ Hid (WM S hd w.heap.size xs v s12 w wr) ∧ 40 - i ≤ gg)
  case atStart => exact ⟨0, [], _, rfl, by omega, HM, by omega⟩
  case round =>
    clear HM
    obtain ⟨i, xs, v, rfl, hi, hM, hgg⟩ := hrel
    obtain ⟨G, rfl⟩ : ∃ G, G = gk := ⟨_, rfl⟩
    obtain ⟨ra, rc, hrv⟩ := hM.out.row.shape
    subst hrv
    have hle := hM.out.pk.le
    have h6 := hM.out.pk.six
    by_cases hgo : i < zs.length ∧ i < 40
    · obtain ⟨hil, hi40⟩ := hgo
      have hil' : (i : Int) < (zs.length : Int) := by omega
      have hi40' : (i : Int) < 40 := by omega
      obtain ⟨sb, so, rfl, hsb, hsc⟩ := HS.out i hil
      have hsc' := (hM.out.below.cell (p := ⟨sb, so + i, none⟩) hsb).trans hsc
      generalize zs.getD i 0 = z at hsc hsc'
      have HSC : Hid (w.cell? ⟨sb, so + i, none⟩ = some (.int .i64 z) ∧ sb < w.heap.size) := ⟨hsc, hsb⟩
      clear hsc
      by_cases hz : z < 0 ∨ (hd : Int) ≤ z
      · have hsl := Sleep_bad S hd xs v z wr hM.out.pk hz
        unfold errV at hsl
        go_wp2_with (first | (go_at_call 6; refine hsl.mono ?_; clear hsl; rintro e w6 ⟨rfl, rfl⟩))
        go_roundg (40 - (i + 1))
        case measure => omega
        case rel => exact ⟨i + 1, xs, v, by go_num, by omega, hM, Nat.le_refl _⟩
      by_cases hx : z ∈ xs
      · have hsl := Sleep_state S hd xs v z wr hM.out.pk hx
        unfold errV at hsl
        go_wp2_with (first | (go_at_call 6; refine hsl.mono ?_; clear hsl; rintro e w6 ⟨rfl, rfl⟩))
        go_roundg (40 - (i + 1))
        case measure => omega
        case rel => exact ⟨i + 1, xs, v, by go_num, by omega, hM, Nat.le_refl _⟩
      · have hsl := Sleep_good S hd xs v z wr hM.out.pk (by omega) (by omega) hx
        go_wp2_with fail
        refine hsl.mono ?_; clear hsl; rintro e w6 ⟨rfl, v6, hp6, hk6, hn6⟩
        have hB6 := hM.out.belowK hk6
        have hsc6 := (hB6.cell (p := ⟨sb, so + i, none⟩) HSC.out.2).trans HSC.out.1
        have HP6 : Hid (Pk S hd (xs ++ [z]) v6 w6 ∧ Ks S v.ownBlock wr w6 ∧ Near wr.heap.size v v6) := ⟨hp6, hk6, hn6⟩
        have HR6 : Hid (RowI (S + 1) w6 (.slice ra xs.length rc) xs) := hM.out.rowK hk6
        have HO : Hid (Rds (fun _ => True) (w6.alloc (.cells #[.int .i64 z] 3)) (.slice (some ⟨w6.heap.size, 0, none⟩) 1 1) [z]) := one_rds w6 z
        have hS6 := hp6.lt
        clear hp6 hk6 hn6 hsc' hB6
        go_wp2_with (first | (at_builtin; go_loud (refine wpList_append_rows rfl (.tmp 87) (.tmp 92) rfl (S + 1) (fun _ => True) (.slice ra xs.length rc) (.slice (some ⟨w6.heap.size, 0, none⟩) 1 1) xs [z] rfl rfl (HR6.out.alloc _) HO.out (by simp; omega) (by simp; omega) ?_; intro v7 w7 hown hgr hat)))
        have hM7 : Hid (WM S hd w.heap.size (xs ++ [z]) v6 v7 w w7) := hM.out.more HP6.out.1 HP6.out.2.1 HP6.out.2.2 hown hgr hat
        clear hown hgr hat HP6 HR6 HO
        go_wp2
        go_roundg (40 - (i + 1))
        case measure => omega
        case rel => exact ⟨i + 1, xs ++ [z], v6, by go_num, by omega, hM7, Nat.le_refl _⟩
    · have hwk0 := Wake_bad S n wr
      have hmn := Many_any S hd xs v wr hM.out.pk
      have g1 : ((xs.length : Int) != (xs.length : Int)) = false := by simp
      by_cases hn0 : n < 0
      · have hwk := hwk0 hn0
        unfold errV at hwk
        have hB : Below w.heap.size w wr := hM.out.below
        clear hwk0
        rcases (by omega : (¬ (i : Int) < (zs.length : Int)) ∨ ((i : Int) < (zs.length : Int) ∧ ¬ (i : Int) < 40)) with hil' | ⟨hil', hi40'⟩
        all_goals
          go_wp2_with (first | (go_at_call 8; refine hmn.mono ?_; clear hmn; rintro e w6 ⟨rfl, rfl⟩) | (go_at_call 7; refine hwk.mono ?_; clear hwk; rintro e w6 ⟨rfl, rfl⟩))
          go_ret
          exact ⟨rfl, hB⟩
      · obtain ⟨m, rfl⟩ : ∃ r : Nat, n = r := ⟨n.toNat, by omega⟩
        have hwk := Wake_good S hd m xs v wr hM.out.pk
        obtain ⟨M, hMm⟩ : ∃ M, M = min m xs.length := ⟨_, rfl⟩
        obtain ⟨D, hD⟩ : ∃ D, D = xs.length - m := ⟨_, rfl⟩
        have HMm : Hid (M = min m xs.length) := hMm
        have f1 : ¬ (xs.length : Int) < (M : Int) := by omega
        have f2 : (M : Int) < (xs.length : Int) → ((M : Int) != (m : Int)) = false := fun h => by simp; omega
        have f3 : ((D : Int) != (xs.length : Int) - (M : Int)) = false := by simp; omega
        have HX : Hid (xs.Nodup ∧ ∀ x, x ∈ xs → 0 ≤ x ∧ x < (hd : Int)) := ⟨hM.out.pk.nd, hM.out.pk.rng⟩
        have hM6 : M ≤ 6 := by omega
        clear hwk0
        have hway : (¬ (i : Int) < (zs.length : Int)) ∨ ((i : Int) < (zs.length : Int) ∧ ¬ (i : Int) < 40) := by omega
        have HD : Hid (D = xs.length - m) := hD
        clear hgo hMm hD
        rcases hway with hil' | ⟨hil', hi40'⟩
        all_goals
          go_wp2_with fail
          refine hmn.mono ?_; clear hmn; rintro e wr ⟨rfl, rfl⟩
          go_wp2_with fail
          refine hwk.mono ?_; clear hwk; rintro e w6 ⟨lv, v6, rfl, hl6, hp6, hk6, hn6, -⟩
          have hB6 : Hid (Below w.heap.size w w6) := hM.out.belowK hk6
          have HR6 : Hid (RowI (S + 1) w6 (.slice ra xs.length rc) xs) := hM.out.rowK hk6
          have HP6 : Hid (Pk S hd (xs.drop m) v6 w6) := hp6
          have HL6 : Hid (RowI wr.heap.size w6 lv (xs.take m)) := hl6
          have hmn := Many_any S hd (xs.drop m) v6 w6 hp6
          obtain ⟨la, lc, hlv⟩ := hl6.shape
          rw [List.length_take, ← HMm.out] at hlv
          rw [List.length_drop, ← HD.out] at hmn
          subst hlv
          clear hl6 hp6 hk6 hn6
          go_upto_region 21 with fail
          go_cut [136] from 109 to 135 (fun s136 wx => s136 = .bool false ∧ w6 = wx)
          case first => as_aux_lemma =>
            by_cases hML : (M : Int) < (xs.length : Int)
            · have f4 := f2 hML
              clear f2
              go_wp2_with (first | (go_at_call 8; refine hmn.mono ?_; clear hmn; rintro e w6 ⟨rfl, rfl⟩))
              go_meet
              exact ⟨by have := HMm.out; simp; omega, rfl⟩
            · clear f2
              go_wp2_with (first | (go_at_call 8; refine hmn.mono ?_; clear hmn; rintro e w6 ⟨rfl, rfl⟩))
              go_meet
              exact ⟨by have := HMm.out; simp; omega, rfl⟩
          case rest => as_aux_lemma =>
            obtain ⟨rfl, rfl⟩ := hcut
            clear f1 f2 f3 g1 hmn
            go_wp2
            go_loopw [15] (fun s15 wx => ∃ (j q : Nat), s15 = .int .i64 j ∧ j ≤ xs.length ∧ wx = w6.drewN q) (fun s15 _ => xs.length - (intOf s15).toNat)
            case atStart => exact ⟨0, 0, rfl, Nat.zero_le _, rfl⟩
            case round =>
              obtain ⟨j, q, rfl, hj, rfl⟩ := hrel
              by_cases hjl : j < xs.length
              · have hjl' : (j : Int) < (xs.length : Int) := by omega
                obtain ⟨g, c', hv, -⟩ := HR6.out.full (by omega)
                simp only [Value.slice.injEq] at hv
                obtain ⟨rfl, -, rfl⟩ := hv
                have hcj := HR6.out.cell (k := j) hjl
                have hmem := mem_drop_iff (m := m) HX.out.1 hjl
                have hrg := HX.out.2 (xs.getD j 0) (mem_at hjl rfl)
                have hcl : j < M → ∃ g2 c2, Value.slice la M lc = .slice (some ⟨g2, 0, none⟩) M c2 ∧ w6.cell? ⟨g2, j, none⟩ = some (.int .i64 (xs.getD j 0)) := fun h => by
                  have hlen : (xs.take m).length = M := by rw [List.length_take, ← HMm.out]
                  obtain ⟨g2, c2, hv2, -⟩ := HL6.out.full (by omega)
                  have hq := hv2
                  simp only [Value.slice.injEq] at hv2
                  obtain ⟨rfl, -, rfl⟩ := hv2
                  refine ⟨g2, _, rfl, ?_⟩
                  have := HL6.out.cell (k := j) (by omega)
                  rw [this, List.getD_eq_getElem?_getD, List.getD_eq_getElem?_getD, List.getElem?_take, if_pos (by have := HMm.out; omega)]
                generalize xs.getD j 0 = z at hcj hmem hrg hcl
                have haw := Awake_good S hd (xs.drop m) v6 z (w6.drewN q) (HP6.out.later (below_drew _ _ _)) hrg.1 hrg.2
                have hcj' : (w6.drewN q).cell? ⟨g, j, none⟩ = some (.int .i64 z) := hcj
                have hzz : (z != z) = false := by simp
                by_cases hjM : j < M
                · have hjM' : (j : Int) < (M : Int) := by omega
                  have hjd : decide ((j : Int) < (M : Int)) = true := by simp; omega
                  obtain ⟨g2, c2, hv2, hc2⟩ := hcl hjM
                  simp only [Value.slice.injEq] at hv2
                  obtain ⟨rfl, -, rfl⟩ := hv2
                  have hc2' : (w6.drewN q).cell? ⟨g2, j, none⟩ = some (.int .i64 z) := hc2
                  have hb : memB (xs.drop m) z = false := by
                    have := HMm.out
                    simp only [memB, decide_eq_false_iff_not]
                    rw [hmem]
                    omega
                  rw [hb] at haw
                  simp only [Bool.not_false] at haw
                  clear hmem hrg hcl hb
                  go_wp2_with (first | (go_at_call 9; refine haw.mono ?_; clear haw; rintro e w7 ⟨rfl, rfl⟩))
                  go_quiet (fail)
                  go_wp2
                  go_roundw
                  case rel => exact ⟨j + 1, _, by go_num, by omega, rfl⟩
                  case measure => simp [intOf]; omega
                · have hjM' : ¬ (j : Int) < (M : Int) := by omega
                  have hjd : decide ((j : Int) < (M : Int)) = false := by simp; omega
                  have hb : memB (xs.drop m) z = true := by
                    have := HMm.out
                    simp only [memB, decide_eq_true_eq]
                    rw [hmem]
                    omega
                  rw [hb] at haw
                  simp only [Bool.not_true] at haw
                  clear hmem hrg hcl hb
                  go_wp2_with (first | (go_at_call 9; refine haw.mono ?_; clear haw; rintro e w7 ⟨rfl, rfl⟩))
                  go_quiet (fail)
                  go_wp2
                  go_roundw
                  case rel => exact ⟨j + 1, _, by go_num, by omega, rfl⟩
                  case measure => simp [intOf]; omega
              · have hjl' : ¬ (j : Int) < (xs.length : Int) := by omega
                go_wp2
                go_ret
                exact ⟨rfl, hB6.out.trans (below_drew _ _ _)⟩
end Go.Proofs.Ytajpkchcfphehaa
