/- The walk of ParkPlays. -/
import Derived.Test.YtajpkchcfphehaaDoorM
import Derived.Deep.CutRange
import Derived.Deep.CutBlock
namespace Go.Proofs.YtajpkchcfphehaaDoor
open Go.RowKit Go.Deep

set_option maxRecDepth 100000 in
theorem plays_bad (hands : Int) (sv : Value) (w : World) (hg : Typed w) (h : hands < 1 ∨ 6 < hands) :
    Calls Tryd.prog 3 #[.int .i64 hands, sv] w fun e w' => e = .returned (.bool true) ∧ Below w.heap.size w w' := by
  have hn := New_bad hands w h
  have he := err_is 1 (by decide) w hg
  unfold errV at he hn
  by_cases h1 : hands < 1
  · go_enter Tryd.func3, Tryd.ntmps3
    go_wp2_with (first | (go_at_call 4; refine hn.mono ?_; clear hn; rintro e w ⟨rfl, rfl⟩) | (go_at_call 5; refine he.mono ?_; clear he; rintro e w2 ⟨rfl, hb⟩))
    go_ret
    exact ⟨rfl, hb⟩
  · have h2 : 6 < hands := by omega
    go_enter Tryd.func3, Tryd.ntmps3
    go_wp2_with (first | (go_at_call 4; refine hn.mono ?_; clear hn; rintro e w ⟨rfl, rfl⟩) | (go_at_call 5; refine he.mono ?_; clear he; rintro e w2 ⟨rfl, hb⟩))
    go_ret
    exact ⟨rfl, hb⟩

/-- The steps, each a list, lie in memory. -/
def Steps (w : World) (sa : Option Addr) (n : Nat) : Prop :=
  ∀ k, k < n → ∃ b off rv ys, sa = some ⟨b, off, none⟩ ∧ b < w.heap.size ∧ w.cell? ⟨b, off + k, none⟩ = some rv ∧ Rds (fun j => j < w.heap.size) w rv ys ∧ ys.length ≤ 9223372036854775000
theorem Rds.at {A : Nat → Prop} {w : World} {a : Option Addr} {n c : Nat} {xs : List Int} (h : Rds A w (.slice a n c) xs) {k : Nat} (hk : k < xs.length) : ∃ b o, a = some ⟨b, o, none⟩ ∧ A b ∧ b < w.heap.size ∧ w.cell? ⟨b, o + k, none⟩ = some (.int .i64 (xs.getD k 0)) := by
  obtain ⟨a', c', hv, _, h⟩ := h
  simp only [Value.slice.injEq] at hv
  obtain ⟨rfl, -, -⟩ := hv
  exact h k hk

set_option maxRecDepth 100000 in
set_option maxHeartbeats 8000000 in
theorem plays_in (hands : Nat) (sn : Nat) (sa : Option Addr) (sc : Nat) (w : World) (hg : Typed w) (h1 : 1 ≤ hands) (h2 : hands ≤ 6) (hs : Steps w sa sn) :
    Calls Tryd.prog 3 #[.int .i64 hands, .slice sa sn sc] w fun e w' => e = .returned (.bool true) ∧ Below w.heap.size w w' := by
  have HS : Hid (Steps w sa sn) := hs
  have HG : Hid (Typed w) := hg
  have hn := New_good hands w h1 h2
  clear hs hg
  have g1 : ¬ (hands : Int) < 1 := by omega
  have g2 : ¬ (6 : Int) < (hands : Int) := by omega
  go_enter Tryd.func3, Tryd.ntmps3
  go_wp2_with fail
  refine hn.mono ?_; clear hn; rintro e w1 ⟨rfl, hr1, hb1⟩
  have he := err_ok w1 (HG.out.later hb1)
  go_wp2_with fail
  refine he.mono ?_; clear he; rintro e w2 ⟨rfl, hb2⟩
  obtain ⟨S, hS⟩ : ∃ S, S = w.heap.size := ⟨_, rfl⟩
  have HM : Hid (WM S hands w.heap.size [] [] (.slice none 0 0) (.slice none 0 0) w w2) := by
    have hb3 : Below w.heap.size w w2 := hb1.trans (hb2.mono hb1.size)
    exact ⟨by rw [hS]; exact hr1.later hb2, RowI.nil _ _, fun k e => by simp [Value.ownBlock] at e, by omega, hb3⟩
  rw [← hS]
  clear hS hr1 hb1 hb2
  go_wp2
  go_loopg [9, 10] 60 (fun gg s9 s10 wr => ∃ (i : Nat) (xs : List Int) (v : Value), s10 = .int .i64 i ∧ i ≤ 60 ∧ Hid (WM S hands w.heap.size xs xs v s9 w wr) ∧ 60 - i ≤ gg)
  case atStart => exact ⟨0, [], _, rfl, by omega, HM, by omega⟩
  case round =>
    clear HM
    obtain ⟨i, xs, v, rfl, hi, hM, hgg⟩ := hrel
    obtain ⟨G, rfl⟩ : ∃ G, G = gk := ⟨_, rfl⟩
    by_cases hgo : i < sn ∧ i < 60
    · obtain ⟨hil, hi60⟩ := hgo
      have hil' : (i : Int) < (sn : Int) := by omega
      have hi60' : (i : Int) < 60 := by omega
      obtain ⟨sb, so, rv, ys, rfl, hsb, hsc, hrd, hyl⟩ := HS.out i hil
      have HSC : Hid (w.cell? ⟨sb, so + i, none⟩ = some rv ∧ sb < w.heap.size) := ⟨hsc, hsb⟩
      have HRD : Hid (Rds (fun j => j < w.heap.size) w rv ys) := hrd
      obtain ⟨ra, rc, rfl⟩ := hrd.shape
      obtain ⟨na, nc, hrow⟩ := hM.out.row.shape
      subst hrow
      obtain ⟨wa, hwa⟩ : ∃ wa, wa = wr := ⟨_, rfl⟩
      obtain ⟨V, hV⟩ : ∃ V, V = wr.heap.size := ⟨_, rfl⟩
      have hV' : wr.heap.size = V := hV.symm
      have HV0 : Hid (VM V wa (wr.alloc (.cells #[.int .i64 0, .int .i64 0] 30))) := by rw [hV, hwa]; exact VM.start wr
      have HWA : Hid (WM S hands w.heap.size xs xs v (.slice na xs.length nc) w wa) := by rw [hwa]; exact hM
      have hle : xs.length ≤ 6 := by have := hM.out.pk.le; omega
      have hSV : S < V := by rw [hV]; exact hM.out.pk.lt
      clear hsc hrd hV hwa hM
      go_upto_block 2 with fail
      clear hV'
      go_cut [12] from 52 to 73 (fun _ wx => Hid (VM V wa wx))
      case first => as_aux_lemma =>
        go_wp2_with fail
        go_loopw [12] (fun s12 wx => ∃ j : Nat, s12 = .int .i64 j ∧ j ≤ 2 ∧ Hid (VM V wa wx)) (fun s12 _ => 2 - (intOf s12).toNat)
        case atStart => exact ⟨0, rfl, by omega, HV0⟩
        case round =>
          clear HV0
          obtain ⟨j, rfl, hj2, hVM⟩ := hrel
          have hBw : Below w.heap.size w wr := HWA.out.below.trans (hVM.out.2.1.mono (by have := hVM.out.1; have := HWA.out.below.size; omega))
          have hsc := (hBw.cell (p := ⟨sb, so + i, none⟩) hsb).trans HSC.out.1
          by_cases hjj : j < ys.length ∧ j < 2
          · obtain ⟨hjl, hjt⟩ := hjj
            have hjl' : (j : Int) < (ys.length : Int) := by omega
            have hjt' : (j : Int) < 2 := by omega
            obtain ⟨rb, ro, rfl, hrb, -, hcz⟩ := HRD.out.at (k := j) hjl
            have hcz' := (hBw.cell (p := ⟨rb, ro + j, none⟩) hrb).trans hcz
            generalize ys.getD j 0 = z at hcz hcz'
            clear hcz
            obtain ⟨-, -, x, y, hxy⟩ := hVM.out
            have hM2 : Hid (VM V wa (wr.setCell ⟨V, j, none⟩ (.int .i64 z))) := hVM.out.set j hjt z
            have hfz : wr.frozen? ⟨V, j, none⟩ = false := by simp [World.frozen?, hxy]
            have hcv : ∃ u, wr.cell? ⟨V, j, none⟩ = some (.int .i64 u) := by
              rcases (by omega : j = 0 ∨ j = 1) with rfl | rfl
              · exact ⟨x, by simp [World.cell?, hxy]⟩
              · exact ⟨y, by simp [World.cell?, hxy]⟩
            obtain ⟨u, hcv⟩ := hcv
            clear hxy hVM
            go_wp2
            go_roundw
            case rel => exact ⟨j + 1, by go_num, by omega, hM2⟩
            case measure => simp [intOf]; omega
          · rcases (by omega : (¬ (j : Int) < (ys.length : Int)) ∨ ((j : Int) < (ys.length : Int) ∧ ¬ (j : Int) < 2)) with hjl' | ⟨hjl', hjt'⟩
            all_goals
              go_wp2
              go_meet
              exact hVM
      case rest => as_aux_lemma =>
        obtain ⟨wb, rfl⟩ : ∃ wb, wb = wc := ⟨_, rfl⟩
        obtain ⟨hVs, hVb, x, y, hxy⟩ := hcut.out
        have hP : Hid (PR S V hands w.heap.size y xs xs v (.slice na xs.length nc) w wb) := by
          refine ⟨HWA.out.later (by rw [hVs]; exact hVb), ⟨x, hxy⟩, hSV, fun e => ?_, fun e => ?_⟩
          · have := (HWA.out.pk.row.low e).2; omega
          · have := (HWA.out.row.low e).2; omega
        have hc0 : wb.cell? ⟨V, 0, none⟩ = some (.int .i64 x) := by simp [World.cell?, hxy]
        have hc1 := hP.out.cell
        have hT := HG.out.later hP.out.wm.below
        clear HV0 HRD HSC hsb hyl HWA hcut hVs hVb hxy
        go_upto_if 76 with fail
        go_cut [5, 8, 9, 13, 14, 15, 16] from 42 to 172 (fun _ s8 s9 _ _ _ _ wx => ∃ (xs' : List Int) (v' : Value), s8 = .bool true ∧ Hid (PR S V hands w.heap.size y xs' xs' v' s9 w wx))
        case first => as_aux_lemma =>
          by_cases hx0 : x = 0
          · subst hx0
            by_cases hy0 : y < 0
            · have hwk := Wake_bad S y wb hy0
              have he := err_is 1 (by decide) wb hT
              unfold errV at hwk he
              go_wp2_with (first | (go_at_call 7; refine hwk.mono ?_; clear hwk; rintro e wb ⟨rfl, rfl⟩) | (go_at_call 5; refine he.mono ?_; clear he; rintro e w4 ⟨rfl, hb4⟩; have hin := ints_same (fun _ => True) (fun _ => True) (.slice none 0 0) (.slice none 0 0) [] w4 ⟨none, 0, rfl, Nat.le_refl _, fun k hk => by simp at hk⟩ ⟨none, 0, rfl, Nat.le_refl _, fun k hk => by simp at hk⟩ (by simp)) | (go_at_call 8; refine hin.mono ?_; clear hin; rintro e w5 ⟨rfl, q, rfl⟩))
              go_meet
              exact ⟨xs, v, by simp, (hP.out.later hb4).later (below_drew _ _ q)⟩
            · obtain ⟨n, rfl⟩ : ∃ r : Nat, y = r := ⟨y.toNat, by omega⟩
              have hct := cutting_any _ _ xs n wb hP.out.wm.row.rds (by omega)
              go_wp2_with fail
              refine hct.mono ?_; clear hct; rintro e w3 ⟨va, vb, rfl, hra, hrb, hap, hb3⟩
              have hP3 := hP.out.new hrb hb3
              have hc3 := hP3.cell
              have hwk := Wake_good S hands n xs v w3 hP3.wm.pk
              have HP3 : Hid (PR S V hands w.heap.size n xs (xs.drop n) v vb w w3) := hP3
              have HA3 : Hid (RowI wb.heap.size w3 va (xs.take n)) := hra
              have HV3 : Hid (∀ k, v.ownBlock = some k → k < wb.heap.size) := fun k e => (hP.out.wm.pk.row.low e).2
              have HS3 : Hid (S < wb.heap.size) := hP.out.wm.pk.lt
              clear hra hrb hap hb3 hP3 hc0 hc1 hT hP
              go_wp2_with fail
              refine hwk.mono ?_; clear hwk; rintro e w4 ⟨lv, v4, rfl, hl4, hp4, hk4, hn4, -⟩
              have HP4 : Hid (PR S V hands w.heap.size n (xs.drop n) (xs.drop n) v4 vb w w4) := HP3.out.park hp4 hk4 hn4
              have HA4 : Hid (RowI wb.heap.size w4 va (xs.take n)) := HA3.out.of_blocks (fun k e => hk4.block k (HA3.out.low e).2 (by have := (HA3.out.low e).1; have := HS3.out; omega) (fun e2 => by have := HV3.out k e2; have := (HA3.out.low e).1; omega))
              have HL4 : Hid (RowI w3.heap.size w4 lv (xs.take n)) := hl4
              have he := err_ok w4 (HG.out.later HP4.out.wm.below)
              clear hl4 hp4 hk4 hn4 HP3 HA3 hc3
              go_wp2_with fail
              refine he.mono ?_; clear he; rintro e w5 ⟨rfl, hb5⟩
              have hin := ints_same _ _ lv va (xs.take n) w5 (HL4.out.rds.later hb5) (HA4.out.rds.later hb5) (by simp; omega)
              go_wp2_with fail
              refine hin.mono ?_; clear hin; rintro e w6 ⟨rfl, q, rfl⟩
              go_wp2
              go_meet
              exact ⟨_, _, rfl, (HP4.out.later hb5).later (below_drew _ _ q)⟩
          · have hx0b : (x == 0) = false := by simp [hx0]
            have hin := in_any _ _ xs y wb hP.out.wm.row.rds (by omega)
            clear hx0
            by_cases hyr : y < 0 ∨ (hands : Int) ≤ y
            · have hsl := Sleep_bad S hands xs v y wb hP.out.wm.pk hyr
              have he := err_is 1 (by decide) wb hT
              unfold errV at hsl he
              generalize memB xs y = m at hin
              by_cases hy0 : y < 0
              · go_wp2_with (first | (go_at_call 9; refine hin.mono ?_; clear hin; rintro e wb ⟨rfl, rfl⟩) | (go_at_call 10; refine hsl.mono ?_; clear hsl; rintro e wb ⟨rfl, rfl⟩) | (go_at_call 5; refine he.mono ?_; clear he; rintro e w4 ⟨rfl, hb4⟩))
                go_meet
                exact ⟨xs, v, rfl, hP.out.later hb4⟩
              · have hy1 : (hands : Int) ≤ y := by omega
                go_wp2_with (first | (go_at_call 9; refine hin.mono ?_; clear hin; rintro e wb ⟨rfl, rfl⟩) | (go_at_call 10; refine hsl.mono ?_; clear hsl; rintro e wb ⟨rfl, rfl⟩) | (go_at_call 5; refine he.mono ?_; clear he; rintro e w4 ⟨rfl, hb4⟩))
                go_meet
                exact ⟨xs, v, rfl, hP.out.later hb4⟩
            · have hy0 : ¬ y < 0 := by omega
              have hy1 : ¬ (hands : Int) ≤ y := by omega
              by_cases hyx : y ∈ xs
              · have hsl := Sleep_state S hands xs v y wb hP.out.wm.pk hyx
                have he := err_is 6 (by decide) wb hT
                unfold errV at hsl he
                have hm : memB xs y = true := by simp [memB, hyx]
                rw [hm] at hin
                clear hyx hm
                go_wp2_with (first | (go_at_call 9; refine hin.mono ?_; clear hin; rintro e wb ⟨rfl, rfl⟩) | (go_at_call 10; refine hsl.mono ?_; clear hsl; rintro e wb ⟨rfl, rfl⟩) | (go_at_call 5; refine he.mono ?_; clear he; rintro e w4 ⟨rfl, hb4⟩))
                go_meet
                exact ⟨xs, v, rfl, hP.out.later hb4⟩
              · have hm : memB xs y = false := by simp [memB, hyx]
                rw [hm] at hin
                have HX : Hid (y ∉ xs ∧ 0 ≤ y ∧ y < (hands : Int)) := ⟨hyx, by omega, by omega⟩
                have HO : Hid (Rds (fun _ => True) (wb.alloc (.cells #[.int .i64 y] 3)) (.slice (some ⟨wb.heap.size, 0, none⟩) 1 1) [y]) := one_rds wb y
                have hSb := hP.out.wm.pk.lt
                clear hyx hm
                go_wp2_with (first | (go_at_call 9; refine hin.mono ?_; clear hin; rintro e wb ⟨rfl, rfl⟩) | (at_builtin; go_loud (refine wpList_append_rows rfl (.tmp 116) (.tmp 119) rfl (S + 1) (fun _ => True) (.slice na xs.length nc) (.slice (some ⟨wb.heap.size, 0, none⟩) 1 1) xs [y] rfl rfl (hP.out.wm.row.alloc _) HO.out (by simp; omega) (by simp; omega) ?_; intro v7 w7 hown hgr hat; have hP7 := hP.out.app hown hgr hat; have HP7 : Hid (PR S V hands w.heap.size y xs (xs ++ [y]) v v7 w w7) := hP7; have hc7 := hP7.cell; have hsl := Sleep_good S hands xs v y w7 hP7.wm.pk HX.out.2.1 HX.out.2.2 HX.out.1; clear hown hgr hat hP7 hc0 hc1)) | (go_at_call 10; refine hsl.mono ?_; clear hsl; rintro e w8 ⟨rfl, v8, hp8, hk8, hn8⟩; have HP8 : Hid (PR S V hands w.heap.size y (xs ++ [y]) (xs ++ [y]) v8 v7 w w8) := HP7.out.park hp8 hk8 hn8; have he := err_ok w8 (HG.out.later HP8.out.wm.below); clear hp8 hk8 hn8) | (go_at_call 5; refine he.mono ?_; clear he; rintro e w9 ⟨rfl, hb9⟩))
                go_meet
                exact ⟨_, _, rfl, HP8.out.later hb9⟩
        case rest => as_aux_lemma =>
          clear hP hc0 hc1 hT hle
          obtain ⟨xs', v', rfl, hP⟩ := hcut
          obtain ⟨ma, mc, hmv⟩ := hP.out.wm.row.shape
          subst hmv
          have hle : xs'.length ≤ 6 := by have := hP.out.wm.pk.le; omega
          have hc1 := hP.out.cell
          have hT := HG.out.later hP.out.wm.below
          have hin := in_any _ _ xs' y wc hP.out.wm.row.rds (by omega)
          have f1 : ((xs'.length : Int) != (xs'.length : Int)) = false := by simp
          by_cases hyr : y < 0 ∨ (hands : Int) ≤ y
          · have haw := Awake_bad S hands xs' v' y wc hP.out.wm.pk hyr
            have he := err_is 1 (by decide) wc hT
            unfold errV at haw he
            generalize memB xs' y = m at hin
            by_cases hy0 : y < 0
            · go_wp2_with (first | (go_at_call 9; refine hin.mono ?_; clear hin; rintro e wc ⟨rfl, rfl⟩) | (go_at_call 11; refine haw.mono ?_; clear haw; rintro e wc ⟨rfl, rfl⟩) | (go_at_call 5; refine he.mono ?_; clear he; rintro e w4 ⟨rfl, hb4⟩; have hM4 : Hid (WM S hands w.heap.size xs' xs' v' (.slice ma xs'.length mc) w w4) := hP.out.wm.later hb4; have hmn := Many_any S hands xs' v' w4 hM4.out.pk) | (go_at_call 12; refine hmn.mono ?_; clear hmn; rintro e w4 ⟨rfl, rfl⟩))
              go_roundg (60 - (i + 1))
              case measure => omega
              case rel => exact ⟨i + 1, xs', v', by go_num, by omega, hM4, Nat.le_refl _⟩
            · have hy1 : (hands : Int) ≤ y := by omega
              go_wp2_with (first | (go_at_call 9; refine hin.mono ?_; clear hin; rintro e wc ⟨rfl, rfl⟩) | (go_at_call 11; refine haw.mono ?_; clear haw; rintro e wc ⟨rfl, rfl⟩) | (go_at_call 5; refine he.mono ?_; clear he; rintro e w4 ⟨rfl, hb4⟩; have hM4 : Hid (WM S hands w.heap.size xs' xs' v' (.slice ma xs'.length mc) w w4) := hP.out.wm.later hb4; have hmn := Many_any S hands xs' v' w4 hM4.out.pk) | (go_at_call 12; refine hmn.mono ?_; clear hmn; rintro e w4 ⟨rfl, rfl⟩))
              go_roundg (60 - (i + 1))
              case measure => omega
              case rel => exact ⟨i + 1, xs', v', by go_num, by omega, hM4, Nat.le_refl _⟩
          · have hy0 : ¬ y < 0 := by omega
            have hy1 : ¬ (hands : Int) ≤ y := by omega
            have haw := Awake_good S hands xs' v' y wc hP.out.wm.pk (by omega) (by omega)
            have he := err_ok wc hT
            generalize memB xs' y = m at hin haw
            cases m
            all_goals
              simp only [Bool.not_true, Bool.not_false] at haw
              go_wp2_with (first | (go_at_call 9; refine hin.mono ?_; clear hin; rintro e wc ⟨rfl, rfl⟩) | (go_at_call 11; refine haw.mono ?_; clear haw; rintro e wc ⟨rfl, rfl⟩) | (go_at_call 5; refine he.mono ?_; clear he; rintro e w4 ⟨rfl, hb4⟩; have hM4 : Hid (WM S hands w.heap.size xs' xs' v' (.slice ma xs'.length mc) w w4) := hP.out.wm.later hb4; have hmn := Many_any S hands xs' v' w4 hM4.out.pk) | (go_at_call 12; refine hmn.mono ?_; clear hmn; rintro e w4 ⟨rfl, rfl⟩))
              go_roundg (60 - (i + 1))
              case measure => omega
              case rel => exact ⟨i + 1, xs', v', by go_num, by omega, hM4, Nat.le_refl _⟩
    · have hB : Below w.heap.size w wr := hM.out.below
      rcases (by omega : (¬ (i : Int) < (sn : Int)) ∨ ((i : Int) < (sn : Int) ∧ ¬ (i : Int) < 60)) with hil' | ⟨hil', hi60'⟩
      all_goals
        go_wp2
        go_ret
        exact ⟨rfl, hB⟩
end Go.Proofs.YtajpkchcfphehaaDoor
