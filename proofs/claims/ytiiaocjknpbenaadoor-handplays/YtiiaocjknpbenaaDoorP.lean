/- The walk of HandPlays. -/
import Derived.Test.YtiiaocjknpbenaaDoorM
import Derived.Deep.CutRange
import Derived.Deep.CutBlock
namespace Go.Proofs.YtiiaocjknpbenaaDoor
open Go.RowKit Go.Deep

set_option maxRecDepth 100000 in
theorem plays_bad (room : Int) (sv : Value) (w : World) (hg : Typed w) (h : room < 1 ∨ 16 < room) :
    Calls Tryd.prog 3 #[.int .i64 room, sv] w fun e w' => e = .returned (.bool true) ∧ Below w.heap.size w w' := by
  have hn := hNew_bad room w h
  have he := err_is 1 (by decide) w hg
  unfold errV at hn he
  by_cases h1 : room < 1
  · go_enter Tryd.func3, Tryd.ntmps3
    go_wp2_with (first | (go_at_call 4; refine hn.mono ?_; clear hn; rintro e w' ⟨rfl, rfl⟩) | (go_at_call 5; refine he.mono ?_; clear he; rintro e w2 ⟨rfl, hb⟩))
    go_ret
    exact ⟨rfl, hb⟩
  · have h2 : 16 < room := by omega
    go_enter Tryd.func3, Tryd.ntmps3
    go_wp2_with (first | (go_at_call 4; refine hn.mono ?_; clear hn; rintro e w' ⟨rfl, rfl⟩) | (go_at_call 5; refine he.mono ?_; clear he; rintro e w2 ⟨rfl, hb⟩))
    go_ret
    exact ⟨rfl, hb⟩

set_option maxRecDepth 100000 in
set_option maxHeartbeats 8000000 in
theorem plays_in (room : Nat) (zs : List Int) (sa : Option Addr) (sc : Nat) (w : World) (hg : Typed w) (h1 : 1 ≤ room) (h2 : room ≤ 16) (hs : ∀ k, k < zs.length → ∃ b off, sa = some ⟨b, off, none⟩ ∧ b < w.heap.size ∧ w.cell? ⟨b, off + k, none⟩ = some (.int .i64 (zs.getD k 0))) :
    Calls Tryd.prog 3 #[.int .i64 room, .slice sa zs.length sc] w fun e w' => e = .returned (.bool true) ∧ Below w.heap.size w w' := by
  have HS : Hid (∀ k, k < zs.length → ∃ b off, sa = some ⟨b, off, none⟩ ∧ b < w.heap.size ∧ w.cell? ⟨b, off + k, none⟩ = some (.int .i64 (zs.getD k 0))) := hs
  have HG : Hid (Typed w) := hg
  have hn := hNew_good room w h1 h2
  clear hs hg
  have g1 : ¬ (room : Int) < 1 := by omega
  have g2 : ¬ (16 : Int) < (room : Int) := by omega
  go_enter Tryd.func3, Tryd.ntmps3
  go_wp2_with fail
  refine hn.mono ?_; clear hn; rintro e w1 ⟨rfl, hr1, hb1, hs1⟩
  obtain ⟨H, hH⟩ : ∃ H, H = w.heap.size + 1 := ⟨_, rfl⟩
  obtain ⟨R, hR⟩ : ∃ R, R = w.heap.size := ⟨_, rfl⟩
  rw [← hH] at hr1 ⊢
  rw [← hR] at hr1
  have he := err_ok w1 (HG.out.later hb1)
  have HW1 : Hid (Hd H R room (-1) [] w1 ∧ Below w.heap.size w w1 ∧ w.heap.size ≤ H ∧ w.heap.size ≤ R ∧ H < w1.heap.size ∧ R < w1.heap.size) := ⟨hr1, hb1, by omega, by omega, by omega, by omega⟩
  clear hR hH hb1 hs1 hr1
  go_wp2_with fail
  refine he.mono ?_; clear he; rintro e w2 ⟨rfl, hb2⟩
  obtain ⟨M, hM⟩ : ∃ M, M = w2.heap.size := ⟨_, rfl⟩
  have HW2 : Hid (PM H R M room (-1) [] (.slice none 0 0) w (w2.alloc (.cells #[.int .i64 room, .int .i64 (-1), .slice none 0 0] 31))) := by
    obtain ⟨q1, q2, q3, q4, q5, q6⟩ := HW1.out
    have hs2 := hb2.size
    refine ⟨(q1.of_blocks (hb2.block _ q5) (hb2.block _ q6)).of_blocks (Below.heap_alloc _ _ _ (by omega)) (Below.heap_alloc _ _ _ (by omega)), ⟨?_, RowI.nil _ _, Or.inl rfl, Nat.zero_le _, h2⟩, ((q2.trans (hb2.mono q2.size))).alloc (by have := q2.size; omega) _, q3, q4, by omega, by omega⟩
    rw [hM]
    exact heap_alloc_new w2 _
  have hM' : w2.heap.size = M := hM.symm
  clear HW1 hb2 hM
  go_wp2
  clear hM'
  go_loopg [10] 100 (fun gg s10 wr => ∃ (i : Nat) (nr : Int) (xs : List Int) (v : Value), s10 = .int .i64 i ∧ i ≤ 100 ∧ Hid (PM H R M room nr xs v w wr) ∧ 100 - i ≤ gg)
  case atStart => exact ⟨0, _, [], _, rfl, by omega, HW2, by omega⟩
  case round =>
    clear HW2
    obtain ⟨i, nr, xs, v, rfl, hi, hM, hgg⟩ := hrel
    obtain ⟨G, rfl⟩ : ∃ G, G = gk := ⟨_, rfl⟩
    by_cases hgo : i < zs.length ∧ i < 100
    · obtain ⟨hil, hi100⟩ := hgo
      have hil' : (i : Int) < (zs.length : Int) := by omega
      have hi100' : (i : Int) < 100 := by omega
      obtain ⟨sb, so, rfl, hsb, hsc⟩ := HS.out i hil
      have hsc' := (hM.out.below.cell (p := ⟨sb, so + i, none⟩) hsb).trans hsc
      have HSC : Hid (w.cell? ⟨sb, so + i, none⟩ = some (.int .i64 (zs.getD i 0)) ∧ sb < w.heap.size) := ⟨hsc, hsb⟩
      clear hsc
      generalize zs.getD i 0 = z at *
      have hxl : xs.length ≤ 16 := by have := hM.out.hand.ring.le; omega
      go_upto_block 2 with fail
      go_cut [5, 8, 11, 12, 13, 14, 15, 16] from 41 to 121 (fun _ s8 _ _ _ _ _ _ wx => ∃ (nr' : Int) (xs' : List Int) (v' : Value), s8 = .bool true ∧ Hid (PM H R M room nr' xs' v' w wx))
      case first => as_aux_lemma =>
        by_cases h0 : z = -1
        · subst h0
          by_cases hnr : nr = -1
          · subst hnr
            rcases nil_or_snoc xs with rfl | ⟨ys, x, rfl⟩
            · have hrt := refTake_none M room v wr hM.out.doc
              have ht := Take_none H R room wr hM.out.hand
              have he := err_is 5 (by decide) wr (HG.out.later hM.out.below)
              unfold errV at ht he
              go_wp2_with (first | (go_at_call 6; refine hrt.mono ?_; clear hrt; rintro e w1 ⟨rfl, rfl⟩) | (go_at_call 7; refine ht.mono ?_; clear ht; rintro e w1 ⟨rfl, rfl⟩) | (go_at_call 5; refine he.mono ?_; clear he; rintro e w3 ⟨rfl, hb3⟩))
              go_meet
              exact ⟨-1, [], v, rfl, hM.out.later hb3⟩
            · have hrt := refTake_one M room x ys v wr hM.out.doc
              go_wp2_with fail
              refine hrt.mono ?_; clear hrt; rintro e w1 ⟨rfl, ⟨v', hd1⟩, hb1⟩
              have ht := Take_one H R room x ys w1 (hM.out.hand1 hb1)
              go_wp2_with fail
              refine ht.mono ?_; clear ht; rintro e w2 ⟨rfl, hh2, hk2⟩
              have hM2 : Hid (PM H R M room (-1) ys v' w w2) := hM.out.step hb1 hd1 hh2 hk2
              have he := err_ok w2 (HG.out.later hM2.out.below)
              have hxx : (x == x) = true := by simp
              clear hM hd1 hb1 hh2 hk2
              go_wp2_with (first | (go_at_call 5; refine he.mono ?_; clear he; rintro e w3 ⟨rfl, hb3⟩))
              go_meet
              exact ⟨-1, ys, v', by simp, hM2.out.later hb3⟩
          · have hrt := refTake_near M room nr xs v wr hM.out.doc hnr
            go_wp2_with fail
            refine hrt.mono ?_; clear hrt; rintro e w1 ⟨rfl, hd1, hb1⟩
            have ht := Take_near H R room nr xs w1 (hM.out.hand1 hb1) hnr
            go_wp2_with fail
            refine ht.mono ?_; clear ht; rintro e w2 ⟨rfl, hh2, hk2⟩
            have hM2 : Hid (PM H R M room (-1) xs v w w2) := hM.out.step hb1 hd1 hh2 hk2
            have he := err_ok w2 (HG.out.later hM2.out.below)
            have hxx : (nr == nr) = true := by simp
            clear hM hd1 hb1 hh2 hk2
            go_wp2_with (first | (go_at_call 5; refine he.mono ?_; clear he; rintro e w3 ⟨rfl, hb3⟩))
            go_meet
            exact ⟨-1, xs, v, by simp, hM2.out.later hb3⟩
        by_cases h1z : z = -2
        · subst h1z
          have hrr := refRob_any M room nr xs v wr hM.out.doc
          have HR : Hid (∀ w1, Hd H R room nr xs w1 → Calls Tryd.prog 10 #[.pointer (some ⟨H, 0, none⟩)] w1 fun e w' => (∃ v, e = .returned v ∧ RowZ w1.heap.size w' v (xs.take ((xs.length + 1) / 2))) ∧ Hd H R room nr (xs.drop ((xs.length + 1) / 2)) w' ∧ Kh H R w1 w') := fun w1 hw => Rob_any H R room nr xs w1 hw
          have hol : (xs.take ((xs.length + 1) / 2)).length ≤ 100 := by simp; omega
          generalize xs.take ((xs.length + 1) / 2) = o at *
          generalize xs.drop ((xs.length + 1) / 2) = r at *
          go_wp2_with fail
          refine hrr.mono ?_; clear hrr; rintro e w1 ⟨⟨ov, rfl, hov⟩, ⟨v', hd1⟩, hb1⟩
          have hro := HR.out w1 (hM.out.hand1 hb1)
          have HOV : Hid (Rds (fun k => M < k) w1 ov o) := hov
          obtain ⟨oa, oc, rfl⟩ := hov.shape
          clear hov
          go_wp2_with fail
          refine hro.mono ?_; clear hro; rintro e w2 ⟨⟨pv, rfl, hpv⟩, hh2, hk2⟩
          have hM2 : Hid (PM H R M room nr r v' w w2) := hM.out.step hb1 hd1 hh2 hk2
          have hin := ints_same _ _ pv _ o w2 hpv.rds (hM.out.want HOV.out hk2) hol
          obtain ⟨pa, pc, rfl⟩ := hpv.rds.shape
          clear hM hd1 hb1 hh2 hk2 HOV hpv
          go_wp2_with (first | (go_at_call 9; refine hin.mono ?_; clear hin; rintro e w3 ⟨rfl, q, rfl⟩))
          go_meet
          exact ⟨nr, r, v', rfl, hM2.out.later (below_drew _ _ q)⟩
        · have hz0 : (z == -1) = false := by simp [h0]
          have hz1 : (z == -2) = false := by simp [h1z]
          by_cases hneg : z < 0
          · go_wp2
            go_roundg (100 - (i + 1))
            case measure => omega
            case rel => exact ⟨i + 1, nr, xs, v, by go_num, by omega, hM, Nat.le_refl _⟩
          · obtain ⟨n, rfl⟩ : ∃ n : Nat, z = (n : Int) := ⟨z.toNat, by omega⟩
            have hrp := refPut_any M room nr n xs v wr hM.out.doc h1
            have HR : Hid (∀ w1, Hd H R room nr xs w1 → Calls Tryd.prog 12 #[.pointer (some ⟨H, 0, none⟩), .int .i64 n] w1 fun e w' => (∃ v, e = .returned v ∧ OutZ w1.heap.size w' v (putO room nr xs)) ∧ Hd H R room n (putR room nr xs) w' ∧ Kh H R w1 w') := fun w1 hw => Put_any H R room nr xs n w1 hw
            have hol : (putO room nr xs).length ≤ 100 := putO_le hxl
            generalize putO room nr xs = o at *
            generalize putR room nr xs = r at *
            go_wp2_with fail
            refine hrp.mono ?_; clear hrp; rintro e w1 ⟨⟨ov, rfl, hov⟩, ⟨v', hd1⟩, hb1⟩
            have hro := HR.out w1 (hM.out.hand1 hb1)
            have hsc1 := ((hM.out.below1 hb1).cell (p := ⟨sb, so + i, none⟩) HSC.out.2).trans HSC.out.1
            have HOV : Hid (Rds (fun k => M < k) w1 ov o) := hov
            obtain ⟨oa, oc, rfl⟩ := hov.shape
            clear hov hsc'
            go_wp2_with fail
            refine hro.mono ?_; clear hro; rintro e w2 ⟨⟨pv, rfl, hpv⟩, hh2, hk2⟩
            have hM2 : Hid (PM H R M room n r v' w w2) := hM.out.step hb1 hd1 hh2 hk2
            have hin := ints_same _ _ pv _ o w2 hpv.rds (hM.out.want HOV.out hk2) hol
            obtain ⟨pa, pc, rfl⟩ := hpv.rds.shape
            clear hM hd1 hb1 hh2 hk2 HOV hpv hsc1
            go_wp2_with (first | (go_at_call 9; refine hin.mono ?_; clear hin; rintro e w3 ⟨rfl, q, rfl⟩))
            go_meet
            exact ⟨n, r, v', rfl, hM2.out.later (below_drew _ _ q)⟩
      case rest => as_aux_lemma =>
        obtain ⟨nr', xs', v', rfl, hM2⟩ := hcut
        clear hM hsc' hxl
        have hne := fun q => Near_any H R room nr' xs' (wc.drewN q) (hM2.out.later (below_drew _ _ q)).hand
        have hle := fun q => hLen_any H R room nr' xs' (wc.drewN q) (hM2.out.later (below_drew _ _ q)).hand
        have hrl := fun q => refLen_any M room nr' xs' v' (wc.drewN q) (hM2.out.later (below_drew _ _ q)).doc
        have hc1 := hM2.out.doc.c1
        have f1 : (nr' != nr') = false := by simp
        have f2 : (((allH nr' xs').length : Int) != ((allH nr' xs').length : Int)) = false := by simp
        generalize (allH nr' xs').length = L at *
        go_wp2
        go_quiet (first | (go_at_call 13; exact Calls.quiet_of_same (hne _)) | (go_at_call 14; exact Calls.quiet_of_same (hle _)) | (go_at_call 15; exact Calls.quiet_of_same (hrl _)))
        go_wp2
        go_roundg (100 - (i + 1))
        case measure => omega
        case rel => exact ⟨i + 1, nr', xs', v', by go_num, by omega, hM2.out.later (below_drew _ _ _), Nat.le_refl _⟩
    · have hB : Below w.heap.size w wr := hM.out.below
      by_cases hil : i < zs.length
      · have hil' : (i : Int) < (zs.length : Int) := by omega
        have hi100' : ¬ (i : Int) < 100 := by omega
        go_wp2
        go_ret
        exact ⟨rfl, hB⟩
      · have hil' : ¬ (i : Int) < (zs.length : Int) := by omega
        go_wp2
        go_ret
        exact ⟨rfl, hB⟩
end Go.Proofs.YtiiaocjknpbenaaDoor
