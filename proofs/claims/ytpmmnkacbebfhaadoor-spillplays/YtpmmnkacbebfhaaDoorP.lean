/- The walk of SpillPlays. -/
import Derived.Test.YtpmmnkacbebfhaaDoorM
import Derived.Deep.CutRange
import Derived.Deep.CutBlock
namespace Go.Proofs.YtpmmnkacbebfhaaDoor
open Go.RowKit Go.Deep

set_option maxRecDepth 100000 in
theorem plays_bad (room : Int) (sv : Value) (w : World) (hg : Typed w) (h : room < 1 ∨ 16 < room) :
    Calls Tryd.prog 4 #[.int .i64 room, sv] w fun e w' => e = .returned (.bool true) ∧ Below w.heap.size w w' := by
  have hn := New_bad room w h
  have he := err_is 1 (by decide) w hg
  unfold errV at he hn
  by_cases h1 : room < 1
  · go_enter Tryd.func4, Tryd.ntmps4
    go_wp2_with (first | (go_at_call 5; refine hn.mono ?_; clear hn; rintro e w' ⟨rfl, rfl⟩) | (go_at_call 8; refine he.mono ?_; clear he; rintro e w2 ⟨rfl, hb⟩))
    go_ret
    exact ⟨rfl, hb⟩
  · have h2 : 16 < room := by omega
    go_enter Tryd.func4, Tryd.ntmps4
    go_wp2_with (first | (go_at_call 5; refine hn.mono ?_; clear hn; rintro e w' ⟨rfl, rfl⟩) | (go_at_call 8; refine he.mono ?_; clear he; rintro e w2 ⟨rfl, hb⟩))
    go_ret
    exact ⟨rfl, hb⟩

/-- The steps, each a list, lie in memory. -/
def Steps (w : World) (sa : Option Addr) (n : Nat) : Prop :=
  ∀ k, k < n → ∃ b off rv ys, sa = some ⟨b, off, none⟩ ∧ b < w.heap.size ∧ w.cell? ⟨b, off + k, none⟩ = some rv ∧ Rds (fun j => j < w.heap.size) w rv ys ∧ ys.length ≤ 9223372036854775000

set_option maxRecDepth 100000 in
set_option maxHeartbeats 8000000 in
theorem plays_in (room : Nat) (sn : Nat) (sa : Option Addr) (sc : Nat) (w : World) (hg : Typed w) (h1 : 1 ≤ room) (h2 : room ≤ 16) (hs : Steps w sa sn) :
    Calls Tryd.prog 4 #[.int .i64 room, .slice sa sn sc] w fun e w' => e = .returned (.bool true) ∧ Below w.heap.size w w' := by
  have HS : Hid (Steps w sa sn) := hs
  have HG : Hid (Typed w) := hg
  have hn := New_good room w h1 h2
  clear hs hg
  have g1 : ¬ (room : Int) < 1 := by omega
  have g2 : ¬ (16 : Int) < (room : Int) := by omega
  go_enter Tryd.func4, Tryd.ntmps4
  go_wp2_with fail
  refine hn.mono ?_; clear hn; rintro e w1 ⟨rfl, hr1, hb1⟩
  have he := err_ok w1 (HG.out.later hb1)
  go_wp2_with fail
  refine he.mono ?_; clear he; rintro e w2 ⟨rfl, hb2⟩
  obtain ⟨S, hS⟩ : ∃ S, S = w.heap.size := ⟨_, rfl⟩
  obtain ⟨M, hM⟩ : ∃ M, M = w2.heap.size := ⟨_, rfl⟩
  have HM : Hid (PM S M room [] (.slice none 0 0) (.slice none 0 0) (.slice none 0 0) w (w2.alloc (.cells #[.int .i64 room, .slice none 0 0, .slice none 0 0] 36))) := by
    have hlt := hr1.lt
    have hs2 := hb2.size
    have hb3 : Below w.heap.size w w2 := hb1.trans (hb2.mono hb1.size)
    refine ⟨?_, ⟨?_, ?_, ?_, fun k e => by simp [Value.ownBlock] at e, by simp⟩, by simp [Value.ownBlock], fun k e => by simp [Value.ownBlock] at e, fun k e => by simp [Value.ownBlock] at e, by omega, by omega, hb3.alloc hb3.size _⟩
    · rw [hS]; exact (hr1.later hb2).alloc _
    · rw [hM]; exact heap_alloc_new w2 _
    · rw [List.take_nil]; exact RowI.nil _ _
    · rw [List.drop_nil]; exact RowI.nil _ _
  rw [← hS]
  have hM' : w2.heap.size = M := hM.symm
  clear hS hM hr1 hb1 hb2
  go_wp2
  clear hM'
  go_loopg [10] 60 (fun gg s10 wr => ∃ (i : Nat) (xs : List Int) (v vf vh : Value), s10 = .int .i64 i ∧ i ≤ 60 ∧ Hid (PM S M room xs v vf vh w wr) ∧ 60 - i ≤ gg)
  case atStart => exact ⟨0, [], _, _, _, rfl, by omega, HM, by omega⟩
  case round =>
    clear HM
    obtain ⟨i, xs, v, vf, vh, rfl, hi, hM, hgg⟩ := hrel
    obtain ⟨G, rfl⟩ : ∃ G, G = gk := ⟨_, rfl⟩
    by_cases hgo : i < sn ∧ i < 60
    · obtain ⟨hil, hi60⟩ := hgo
      have hil' : (i : Int) < (sn : Int) := by omega
      have hi60' : (i : Int) < 60 := by omega
      obtain ⟨sb, so, rv, ys, rfl, hsb, hsc, hrd, hyl⟩ := HS.out i hil
      have hsc' := (hM.out.below.cell (p := ⟨sb, so + i, none⟩) hsb).trans hsc
      have HSC : Hid (w.cell? ⟨sb, so + i, none⟩ = some rv ∧ sb < w.heap.size) := ⟨hsc, hsb⟩
      have HRD : Hid (Rds (fun j => j < w.heap.size) w rv ys) := hrd
      have HRD2 : Hid (Rds (fun j => j < w.heap.size) wr rv ys) := hrd.of_blocks hM.out.below.size (fun b hb _ => hM.out.below.block b hb)
      obtain ⟨ra, rc, rfl⟩ := hrd.shape
      clear hsc hrd
      have hxl := hM.out.sp.le
      go_upto_if 57 with fail
      go_cut [5, 8, 11, 12, 13, 14, 15] from 42 to 127 (fun _ s8 _ _ _ _ _ wx => ∃ (xs' : List Int) (v' vf' vh' : Value), s8 = .bool true ∧ Hid (PM S M room xs' v' vf' vh' w wx))
      case first => as_aux_lemma =>
        by_cases hy1 : ys.length = 1
        · obtain ⟨n, rfl⟩ := List.length_eq_one_iff.1 hy1
          obtain ⟨b2, o2, rfl, _, hb2, hcn⟩ := HRD2.out.at (k := 0) (by simp)
          simp only [Nat.add_zero, List.getD_cons_zero, List.length_singleton] at hcn hy1
          by_cases hbad : n < 1 ∨ 60 < n
          · have hget := Get_bad S n wr hbad
            have he := err_is 1 (by decide) wr (HG.out.later hM.out.below)
            unfold errV at hget he
            by_cases hn1 : n < 1
            · go_wp2_with (first | (go_at_call 10; refine hget.mono ?_; clear hget; rintro e w3 ⟨rfl, rfl⟩) | (go_at_call 8; refine he.mono ?_; clear he; rintro e w4 ⟨rfl, hb4⟩; have hin := ints_same (fun _ => True) (fun _ => True) (.slice none 0 0) (.slice none 0 0) [] w4 ⟨none, 0, rfl, Nat.le_refl _, fun k hk => by simp at hk⟩ ⟨none, 0, rfl, Nat.le_refl _, fun k hk => by simp at hk⟩ (by simp)) | (go_at_call 11; refine hin.mono ?_; clear hin; rintro e w5 ⟨rfl, q, rfl⟩))
              go_meet
              exact ⟨xs, v, vf, vh, by simp, (hM.out.later hb4).later (below_drew _ _ q)⟩
            · have hn2 : 60 < n := by omega
              go_wp2_with (first | (go_at_call 10; refine hget.mono ?_; clear hget; rintro e w3 ⟨rfl, rfl⟩) | (go_at_call 8; refine he.mono ?_; clear he; rintro e w4 ⟨rfl, hb4⟩; have hin := ints_same (fun _ => True) (fun _ => True) (.slice none 0 0) (.slice none 0 0) [] w4 ⟨none, 0, rfl, Nat.le_refl _, fun k hk => by simp at hk⟩ ⟨none, 0, rfl, Nat.le_refl _, fun k hk => by simp at hk⟩ (by simp)) | (go_at_call 11; refine hin.mono ?_; clear hin; rintro e w5 ⟨rfl, q, rfl⟩))
              go_meet
              exact ⟨xs, v, vf, vh, by simp, (hM.out.later hb4).later (below_drew _ _ q)⟩
          · obtain ⟨m, rfl⟩ : ∃ m : Nat, n = m := ⟨n.toNat, by omega⟩
            have hm1 : ¬ (m : Int) < 1 := by omega
            have hm2 : ¬ (60 : Int) < (m : Int) := by omega
            have hrg := refGet_any M room m xs vf vh wr hM.out.md (by omega) (by omega) h2
            go_wp2_with (first | (go_at_call 9; refine hrg.mono ?_; clear hrg; rintro e w3 ⟨ov, vf', vh', rfl, hov, hmd3, hk3, nf3, nh3⟩; have hget := Get_good S room m xs v w3 (hM.out.spGet hk3) (by omega) (by omega)) | (go_at_call 10; refine hget.mono ?_; clear hget; rintro e w4 ⟨lv, v', rfl, hlv, hsp4, hk4, nv4, -⟩; obtain ⟨hM4', hov4⟩ := hM.out.got hmd3 hk3 nf3 nh3 hov hsp4 hk4 nv4; have hM4 : Hid (PM S M room (xs.drop m) v' vf' vh' w w4) := hM4'; have HL4 : Hid (RowI w3.heap.size w4 lv (xs.take m)) := hlv; have HV4 : Hid (Rds (fun b => wr.heap.size ≤ b) w4 ov (xs.take m)) := hov4; have he := err_ok w4 (HG.out.later hM4.out.below); clear hlv hsp4 hk4 nv4 hov4 hov hmd3 hk3 nf3 nh3 hM4') | (go_at_call 8; refine he.mono ?_; clear he; rintro e w5 ⟨rfl, hb5⟩; have hin := ints_same _ _ lv ov (xs.take m) w5 (HL4.out.rds.later hb5) (HV4.out.later hb5) (by simp; omega)) | (go_at_call 11; refine hin.mono ?_; clear hin; rintro e w6 ⟨rfl, q, rfl⟩))
            go_meet
            exact ⟨_, _, _, _, by simp, (hM4.out.later hb5).later (below_drew _ _ q)⟩
        · have hy1b : ((ys.length : Int) == 1) = false := by simp; omega
          have hwM : w.heap.size ≤ M := by have := hM.out.wS; have := hM.out.SM; omega
          by_cases hfit : xs.length + ys.length ≤ 60
          · have hrp := refPut_good M room xs ys vf vh _ wr hM.out.md (HRD2.out.mono (fun b hb => by omega)) hfit h2
            go_wp2_with (first | (go_at_call 12; refine hrp.mono ?_; clear hrp; rintro e w3 ⟨rfl, vf', vh', hp3⟩; have HP3 : Hid (PutM M room ys.length xs ys vf vh wr vf' vh' w3) := hp3; have hb3 : Below w.heap.size w w3 := hM.out.below.trans (hp3.kx.below (fun j e => by { rcases e with e | e | e; { omega }; { have := (hM.out.md.f.low e).1; omega }; { have := (hM.out.md.h.low e).1; omega } }) hM.out.below.size); have hsc3 := (hb3.cell (p := ⟨sb, so + i, none⟩) HSC.out.2).trans HSC.out.1; have hput := Put_good S room xs ys v _ _ w3 (hM.out.spPut hp3.kx) (HRD.out.of_blocks hb3.size (fun b hb _ => hb3.block b hb)) hfit; clear hp3) | (go_at_call 6; refine hput.mono ?_; clear hput; rintro e w4 ⟨rfl, v', hsp4, hk4, nv4⟩; have hM4 : Hid (PM S M room (xs ++ ys) v' vf' vh' w w4) := hM.out.put HP3.out hsp4 hk4 nv4; have he := err_ok w4 (HG.out.later hM4.out.below); clear hsp4 hk4 nv4) | (go_at_call 8; refine he.mono ?_; clear he; rintro e w5 ⟨rfl, hb5⟩))
            go_meet
            exact ⟨_, _, _, _, rfl, hM4.out.later hb5⟩
          · have hrp := refPut_full M room xs ys vf vh _ _ wr hM.out.md HRD2.out hyl (by omega)
            have hput := fun q => Put_full S room xs ys v _ _ (wr.drewN q) (hM.out.sp.later (below_drew _ _ q)) (HRD2.out.later (below_drew _ _ q)) (by omega)
            have he := fun q => err_is 4 (by decide) (wr.drewN q) (HG.out.later (hM.out.below.trans (below_drew _ _ q)))
            unfold errV at hput he
            go_wp2_with (first | (go_at_call 12; refine hrp.mono ?_; clear hrp; rintro e w3 ⟨rfl, q, rfl⟩) | (go_at_call 6; refine (hput _).mono ?_; clear hput; rintro e w4 ⟨rfl, rfl⟩) | (go_at_call 8; refine (he _).mono ?_; clear he; rintro e w5 ⟨rfl, hb5⟩))
            go_meet
            exact ⟨xs, v, vf, vh, rfl, (hM.out.later (below_drew _ _ q)).later hb5⟩
      case rest => as_aux_lemma =>
        obtain ⟨xs', v', vf', vh', rfl, hM5⟩ := hcut
        clear hM hsc' HRD2
        have hlen := Len_any S room xs' v' wc hM5.out.sp
        have hc1 := fun q => (hM5.out.later (below_drew _ _ q)).md.c1
        have hc2 := fun q => (hM5.out.later (below_drew _ _ q)).md.c2
        obtain ⟨fa, fc, hvf⟩ := hM5.out.md.f.shape
        obtain ⟨ha, hc, hvh⟩ := hM5.out.md.h.shape
        rw [List.length_take] at hvf
        rw [List.length_drop] at hvh
        subst hvf hvh
        obtain ⟨A, hA⟩ : ∃ A, A = min room xs'.length := ⟨_, rfl⟩
        obtain ⟨Bb, hB⟩ : ∃ b, b = xs'.length - room := ⟨_, rfl⟩
        rw [← hA] at hlen hM5 hc1
        rw [← hB] at hlen hM5 hc2
        have f1 : ((A : Int) != (A : Int)) = false := by simp
        have f2 : ((Bb : Int) != (Bb : Int)) = false := by simp
        clear hA hB
        go_wp2_with (first | (go_at_call 7; refine hlen.mono ?_; clear hlen; rintro e w8 ⟨rfl, q, rfl⟩; have hd1 := hc1 q; have hd2 := hc2 q; clear hc1 hc2))
        go_roundg (60 - (i + 1))
        case measure => omega
        case rel => exact ⟨i + 1, xs', _, _, _, by go_num, by omega, hM5.out.later (below_drew _ _ q), Nat.le_refl _⟩
    · have hB : Below w.heap.size w wr := hM.out.below
      by_cases hil : i < sn
      · have hil' : (i : Int) < (sn : Int) := by omega
        have hi60' : ¬ (i : Int) < 60 := by omega
        go_wp2
        go_ret
        exact ⟨rfl, hB⟩
      · have hil' : ¬ (i : Int) < (sn : Int) := by omega
        go_wp2
        go_ret
        exact ⟨rfl, hB⟩
end Go.Proofs.YtpmmnkacbebfhaaDoor
