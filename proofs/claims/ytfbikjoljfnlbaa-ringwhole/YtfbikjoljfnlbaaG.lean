/- The walk of RingWhole. -/
import Derived.Test.YtfbikjoljfnlbaaF
import Derived.Deep.CutRange
import Derived.Deep.CutBlock
import Derived.Maps.AppendAt
namespace Go.Proofs.Ytfbikjoljfnlbaa
open Go.RowKit Go.Deep

/-- No mark stands yet. -/
def noMarks : Array Value := Array.replicate 100 (.bool false)
theorem zero32 (w : World) : Sem.run Try.prog (zeroValue 32) w = Result.ok (.agg noMarks) w := by kernel_rfl
theorem noMarks_row (w : World) : (w.alloc (.cells noMarks 32)).rowIs w.heap.size 32 100 (boolRow (fun _ => false)) := by
  have := World.rowIs_alloc w noMarks 32 (boolRow (fun _ => false)) (fun i hi => by
    have hi' : i < 100 := by simpa [noMarks] using hi
    simp [noMarks, boolRow, hi'])
  rwa [show noMarks.size = 100 from by simp [noMarks]] at this

theorem nil_or_snoc (xs : List Int) : xs = [] ∨ ∃ ys x, xs = ys ++ [x] := by
  rcases List.eq_nil_or_concat xs with h | ⟨ys, x, h⟩
  · exact Or.inl h
  · exact Or.inr ⟨ys, x, by rw [h]; simp⟩

set_option maxRecDepth 100000 in
set_option maxHeartbeats 8000000 in
theorem whole_in (room : Nat) (zs : List Int) (sa : Option Addr) (sc : Nat) (w : World) (h1 : 1 ≤ room) (h2 : room ≤ 16) (hs : ∀ k, k < zs.length → ∃ b off, sa = some ⟨b, off, none⟩ ∧ b < w.heap.size ∧ w.cell? ⟨b, off + k, none⟩ = some (.int .i64 (zs.getD k 0))) :
    Calls Try.prog 3 #[.int .i64 room, .slice sa zs.length sc] w fun e w' => e = .returned (.bool true) ∧ Below w.heap.size w w' := by
  have HS : Hid (∀ k, k < zs.length → ∃ b off, sa = some ⟨b, off, none⟩ ∧ b < w.heap.size ∧ w.cell? ⟨b, off + k, none⟩ = some (.int .i64 (zs.getD k 0))) := hs
  have hn := New_good 3 w (by omega) (by omega)
  obtain ⟨i3, hi3, hy0, hy1, hy2⟩ := info_parts Try.info3
  clear hs
  go_enter Try.func3, Try.ntmps3
  go_wp2_with fail
  refine hn.mono ?_; clear hn; rintro e w1 ⟨rfl, hr1, hb1, hs1⟩
  have hp5 := Push_one _ _ _ 5 _ hr1 (by simp)
  go_wp2_with fail
  refine hp5.mono ?_; clear hp5; rintro e w2 ⟨rfl, hr2, hk2⟩
  have hp6 := Push_one _ _ _ 6 _ hr2 (by simp)
  go_wp2_with fail
  refine hp6.mono ?_; clear hp6; rintro e w3 ⟨rfl, hr3, hk3⟩
  have hp7 := Push_one _ _ _ 7 _ hr3 (by simp)
  go_wp2_with fail
  refine hp7.mono ?_; clear hp7; rintro e w4 ⟨rfl, hr4, hk4⟩
  have hst := Steal_one _ _ 5 [6, 7] _ hr4
  go_wp2_with fail
  refine hst.mono ?_; clear hst; rintro e w5 ⟨rfl, hr5, hk5⟩
  have hpo := Pop_one _ _ 7 [6] _ hr5
  go_wp2_with fail
  refine hpo.mono ?_; clear hpo; rintro e w6 ⟨rfl, hr6, hk6⟩
  have hle := Len_any _ _ _ _ hr6
  have HB6 : Hid (Below w.heap.size w w6) := hb1.trans (((((hk2.trans hk3).trans hk4).trans hk5).trans hk6).below (Nat.le_refl _) (by omega))
  clear hr1 hr2 hr3 hr4 hr5 hb1 hs1 hk2 hk3 hk4 hk5 hk6 hr6
  go_wp2_with fail
  refine hle.mono ?_; clear hle; rintro e w6' ⟨rfl, rfl⟩
  have hn := New_good room w6' h1 h2
  go_wp2_with fail
  refine hn.mono ?_; clear hn; rintro e w7 ⟨rfl, hr7, hb7, hs7⟩
  obtain ⟨R, hR⟩ : ∃ R, R = w6'.heap.size := ⟨_, rfl⟩
  obtain ⟨I, hI⟩ : ∃ I, I = w7.heap.size := ⟨_, rfl⟩
  have HW : Hid (WMem R I room w.heap.size (fun _ => false) [] w (w7.alloc (.cells noMarks 32))) := by
    have h6 := HB6.out.size
    refine ⟨by rw [hR]; exact hr7.alloc _, by rw [hI]; exact noMarks_row w7, (HB6.out.trans (hb7.mono h6)).alloc (by omega) _, by omega, by omega, by omega⟩
  have HRI : Hid (R < I) := by show R < I; omega
  rw [← hR]
  have hI' : w7.heap.size = I := hI.symm
  have hz := zero32 w7
  clear hR hI hb7 hs7 hr7 HB6
  go_wp2
  clear hz hI'
  go_loopg [12, 13, 15] 100 (fun gg s12 s13 s15 wr => ∃ (i n : Nat) (st : Int) (is : Nat → Bool) (xs : List Int), s12 = .int .i64 n ∧ s13 = .int .i64 st ∧ s15 = .int .i64 i ∧ n ≤ i ∧ i ≤ 100 ∧ Hid (WMem R I room w.heap.size is xs w wr) ∧ Hid (Mid n st is [] xs) ∧ 100 - i ≤ gg)
  case atStart => exact ⟨0, 0, -1, _, _, rfl, rfl, rfl, Nat.le_refl _, by omega, HW, Mid.start, by omega⟩
  case round =>
    clear HW
    obtain ⟨i, n, st, is, xs, rfl, rfl, rfl, hni, hi, hM, hW, hgg⟩ := hrel
    obtain ⟨G, rfl⟩ : ∃ G, G = gk := ⟨_, rfl⟩
    by_cases hgo : i < zs.length ∧ i < 100
    · obtain ⟨hil, hi100⟩ := hgo
      have hil' : (i : Int) < (zs.length : Int) := by omega
      have hi100' : (i : Int) < 100 := by omega
      obtain ⟨sb, so, rfl, hsb, hsc⟩ := HS.out i hil
      have hsc' := (hM.out.below.cell (p := ⟨sb, so + i, none⟩) hsb).trans hsc
      clear hsc
      generalize zs.getD i 0 = z at hsc'
      go_upto_block 2 with fail
      go_cut [12, 13, 16, 17, 18, 19, 20, 21] from 90 to 257 (fun s12 s13 s16 _ _ _ _ _ wx => ∃ (n' : Nat) (st' : Int) (o r : List Int), s12 = .int .i64 n' ∧ s13 = .int .i64 st' ∧ n' ≤ i + 1 ∧ Hid (WMem R I room w.heap.size is r w wx) ∧ Hid (Mid n' st' is o r) ∧ Hid (OutZ (I + 1) wx s16 o))
      case first => as_aux_lemma =>
        by_cases h0 : z = 0
        · subst h0
          rcases nil_or_snoc xs with rfl | ⟨ys, x, rfl⟩
          · have hp := Pop_none R room wr hM.out.ring
            go_wp2_with (first | (go_at_call 8; refine hp.mono ?_; clear hp; rintro e w1 ⟨rfl, rfl⟩; unfold errV))
            go_meet
            exact ⟨n, st, [], [], rfl, rfl, by omega, hM, hW, Or.inl ⟨rfl, rfl⟩⟩
          · have hp := Pop_one R room x ys wr hM.out.ring
            go_wp2_with (first | (go_at_call 8; refine hp.mono ?_; clear hp; rintro e w1 ⟨rfl, hr1, hk1⟩) | (at_builtin; refine wpList_append_own _ rfl (.tmp 119) (.tmp 121) 22 rfl w1.heap.size 3 i3 (.int .i64 0) 1 8 Try.underlying22 hi3 hy0 hy1 hy2 rfl (by decide) _ 0 [] rfl (World.ownsRow_nil _ _ _ _) ⟨w1.heap.size, 0, none⟩ 1 1 [.int .i64 x] rfl rfl ?c1 ?c2 ?c3 ?c4 ?c5 ?_))
            case c1 =>
              exact cell_one_new w1 (.int .i64 x) 3
            case c2 => intro u hu; simp at hu; subst hu; rfl
            case c3 => unfold maxLen; omega
            case c4 => omega
            case c5 => simp
            intro v2 w2 hown2 hgr2 _
            have hb2 : Below w1.heap.size w1 w2 := ((Below.refl _ _).alloc (Nat.le_refl _) _).grown hgr2 (by simp) (fun j e => by simp [Value.ownBlock] at e)
            have hI1 : I < w1.heap.size := (hM.out.kr hr1 hk1).marks.lt
            have hO : Hid (OutZ (I + 1) w2 v2 [x]) := OutZ.one (by simpa using hown2) (by omega)
            go_wp2
            go_meet
            exact ⟨n, st, [x], ys, rfl, rfl, by omega, (hM.out.kr hr1 hk1).later hb2, hW.out.pop, hO⟩
        by_cases h1z : z = 1
        · subst h1z
          rcases xs with _ | ⟨x, ys⟩
          · have hp := Steal_none R room wr hM.out.ring
            have hF : Hid (Front n st is [] [] 0) := hW.out.front (o := []) (r := [])
            have hO : Hid (OutZ (I + 1) wr (.slice none 0 0) []) := Or.inl ⟨rfl, rfl⟩
            have hM1 := hM
            go_wp2_with (first | (go_at_call 7; refine hp.mono ?_; clear hp; rintro e w1 ⟨rfl, rfl⟩; unfold errV))
            refine wp_loop_rounds 1 ?_
            rw [rounds_succ]
            go_wp2
            go_meet
            exact ⟨n, st, [], [], rfl, rfl, by omega, hM1, hF.out.mid, hO⟩
          · have hp := Steal_one R room x ys wr hM.out.ring
            have hF : Hid (Front n st is [x] ys 0) := hW.out.front (o := [x]) (r := ys)
            go_wp2_with (first | (go_at_call 7; refine hp.mono ?_; clear hp; rintro e w1 ⟨rfl, hr1, hk1⟩) | (at_builtin; refine wpList_append_own _ rfl (.tmp 140) (.tmp 142) 22 rfl w1.heap.size 3 i3 (.int .i64 0) 1 8 Try.underlying22 hi3 hy0 hy1 hy2 rfl (by decide) _ 0 [] rfl (World.ownsRow_nil _ _ _ _) ⟨w1.heap.size, 0, none⟩ 1 1 [.int .i64 x] rfl rfl ?c1 ?c2 ?c3 ?c4 ?c5 ?_))
            case c1 =>
              exact cell_one_new w1 (.int .i64 x) 3
            case c2 => intro u hu; simp at hu; subst hu; rfl
            case c3 => unfold maxLen; omega
            case c4 => omega
            case c5 => simp
            intro v2 w2 hown2 hgr2 _
            have hb2 : Below w1.heap.size w1 w2 := ((Below.refl _ _).alloc (Nat.le_refl _) _).grown hgr2 (by simp) (fun j e => by simp [Value.ownBlock] at e)
            have hI1 : I < w1.heap.size := (hM.out.kr hr1 hk1).marks.lt
            have hO : Hid (OutZ (I + 1) w2 v2 [x]) := OutZ.one (by simpa using hown2) (by omega)
            have hM1 : Hid (WMem R I room w.heap.size is ys w w2) := (hM.out.kr hr1 hk1).later hb2
            obtain ⟨oa, oc, hov, _⟩ := hO.out.shape
            subst hov
            clear hM hown2 hgr2 hb2 hr1 hk1
            have hol : [x].length ≤ 16 := by simp
            have hF1 : Hid (Front n st is [x] ys 0) := hF
            clear hF hW
            generalize [x] = o at *
            have hF := hF1
            clear hF1
            generalize ys = r at *
            go_wp2
            go_loop [13, 21] (fun s13 s21 => ∃ (k : Nat) (st2 : Int), k ≤ o.length ∧ s21 = .int .i64 k ∧ s13 = .int .i64 st2 ∧ Hid (Front n st2 is o r k)) (fun _ s21 => o.length - (intOf s21).toNat)
            case atStart => exact ⟨0, st, Nat.zero_le _, rfl, rfl, hF⟩
            case round =>
              clear hF
              obtain ⟨k, st2, hk, rfl, rfl, hF⟩ := hrel
              by_cases hkl : k < o.length
              · obtain ⟨ob, rfl, hob, hobl, hoc⟩ := hO.out.at hkl
                obtain ⟨hlt, hF2⟩ := hF.out.step hkl
                have HF2 : Hid (Front n (o.getD k 0) is o r (k + 1)) := hF2
                have hkl' : (k : Int) < (o.length : Int) := by omega
                clear hF2 hF
                generalize o.getD k 0 = x at *
                have hgt : ¬ x ≤ st2 := by omega
                go_wp2
                go_round
                case rel => exact ⟨k + 1, x, by omega, by go_num, rfl, HF2⟩
                case measure => simp [intOf]; omega
              · have hke : k = o.length := by omega
                have hkl' : ¬ (k : Int) < (o.length : Int) := by omega
                have HF : Hid (Mid n st2 is o r) := by have := hF.out; rw [hke] at this; exact this.mid
                clear hF hke
                go_wp2
                go_meet
                exact ⟨n, st2, o, r, rfl, rfl, by omega, hM1, HF, hO⟩
        by_cases h2z : z = 2
        · subst h2z
          have hp := Half_any R room xs wr hM.out.ring
          have hF : Hid (Front n st is (xs.take ((xs.length + 1) / 2)) (xs.drop ((xs.length + 1) / 2)) 0) := by
            have := hW.out
            rw [← List.take_append_drop ((xs.length + 1) / 2) xs] at this
            exact this.front
          have hol : (xs.take ((xs.length + 1) / 2)).length ≤ 16 := by have := hM.out.ring.le; simp; omega
          generalize xs.take ((xs.length + 1) / 2) = o at *
          generalize xs.drop ((xs.length + 1) / 2) = r at *
          go_wp2_with (first | (go_at_call 10; refine hp.mono ?_; clear hp; rintro e w1 ⟨⟨v, rfl, hv⟩, hr1, hk1⟩))
          have hI1 : I < wr.heap.size := hM.out.marks.lt
          have hM1 : Hid (WMem R I room w.heap.size is r w w1) := hM.out.kr hr1 hk1
          have hO : Hid (OutZ (I + 1) w1 v o) := Or.inr (hv.mono hI1)
          obtain ⟨oa, oc, hov, _⟩ := hO.out.shape
          subst hov
          clear hM hr1 hk1 hv
          go_wp2
          go_loop [13, 21] (fun s13 s21 => ∃ (k : Nat) (st2 : Int), k ≤ o.length ∧ s21 = .int .i64 k ∧ s13 = .int .i64 st2 ∧ Hid (Front n st2 is o r k)) (fun _ s21 => o.length - (intOf s21).toNat)
          case atStart => exact ⟨0, st, Nat.zero_le _, rfl, rfl, hF⟩
          case round =>
            clear hF
            obtain ⟨k, st2, hk, rfl, rfl, hF⟩ := hrel
            by_cases hkl : k < o.length
            · obtain ⟨ob, rfl, hob, hobl, hoc⟩ := hO.out.at hkl
              obtain ⟨hlt, hF2⟩ := hF.out.step hkl
              have HF2 : Hid (Front n (o.getD k 0) is o r (k + 1)) := hF2
              have hkl' : (k : Int) < (o.length : Int) := by omega
              clear hF2 hF
              generalize o.getD k 0 = x at *
              have hgt : ¬ x ≤ st2 := by omega
              go_wp2
              go_round
              case rel => exact ⟨k + 1, x, by omega, by go_num, rfl, HF2⟩
              case measure => simp [intOf]; omega
            · have hke : k = o.length := by omega
              have hkl' : ¬ (k : Int) < (o.length : Int) := by omega
              have HF : Hid (Mid n st2 is o r) := by have := hF.out; rw [hke] at this; exact this.mid
              clear hF hke
              go_wp2
              go_meet
              exact ⟨n, st2, o, r, rfl, rfl, by omega, hM1, HF, hO⟩
        · have hz0 : (z == 0) = false := by simp [h0]
          have hz1 : (z == 1) = false := by simp [h1z]
          have hz2 : (z == 2) = false := by simp [h2z]
          by_cases hfull : xs.length < room
          · have hp := Push_one R room xs n wr hM.out.ring hfull
            go_wp2_with (first | (go_at_call 6; refine hp.mono ?_; clear hp; rintro e w1 ⟨rfl, hr1, hk1⟩))
            go_meet
            exact ⟨n + 1, st, [], _, by go_num, rfl, by omega, hM.out.kr hr1 hk1, hW.out.push, Or.inl ⟨rfl, rfl⟩⟩
          · have hp := Push_full R room xs n wr hM.out.ring (by have := hM.out.ring.le; omega)
            go_wp2_with (first | (go_at_call 6; refine hp.mono ?_; clear hp; rintro e w1 ⟨rfl, hr1, hk1⟩; unfold errV))
            go_meet
            exact ⟨n, st, [], _, rfl, rfl, by omega, hM.out.kr hr1 hk1, hW.out, Or.inl ⟨rfl, rfl⟩⟩
      case rest => as_aux_lemma =>
        obtain ⟨n', st', o, r, rfl, rfl, hn', hM2, hW2, hO⟩ := hcut
        clear hM hW hsc'
        obtain ⟨oa, oc, hov, _⟩ := hO.out.shape
        subst hov
        have hol : o.length ≤ 100 := by
          have h1 := hW2.out.marks.count
          have h2 := cnt_le is n'
          omega
        go_wp2
        go_loopw [22] (fun s22 wr => ∃ (k : Nat) (is2 : Nat → Bool), k ≤ o.length ∧ s22 = .int .i64 k ∧ Hid (WMem R I room w.heap.size is2 r w wr) ∧ Hid (Mid n' st' is2 (o.drop k) r) ∧ Hid (OutZ (I + 1) wr (.slice oa o.length oc) o)) (fun s22 _ => o.length - (intOf s22).toNat)
        case atStart => exact ⟨0, is, Nat.zero_le _, rfl, hM2, hW2, hO⟩
        case round =>
          clear hM2 hW2 hO
          obtain ⟨k, is2, hk, rfl, hM, hW, hO⟩ := hrel
          by_cases hkl : k < o.length
          · obtain ⟨ob, rfl, hob, hobl, hoc⟩ := hO.out.at hkl
            have hd : o.drop k = o.getD k 0 :: o.drop (k + 1) := by
              rw [List.drop_eq_getElem_cons hkl, List.getD_eq_getElem?_getD, List.getElem?_eq_getElem hkl]; rfl
            have hW2 := hW.out
            rw [hd] at hW2
            obtain ⟨hx0, hxn, hxf⟩ := hW2.marks.rng _ (Or.inl (List.mem_cons_self ..))
            have hW3 : Hid (Mid n' st' (updB is2 (o.getD k 0).toNat) (o.drop (k + 1)) r) := hW2.mark
            obtain ⟨p, hp⟩ : ∃ p : Nat, o.getD k 0 = (p : Int) := ⟨(o.getD k 0).toNat, by omega⟩
            rw [hp] at hoc hx0 hxn hxf hW3
            rw [Int.toNat_natCast] at hxf hW3
            clear hW2 hd hW hp hx0
            have hkl' : (k : Int) < (o.length : Int) := by omega
            have hp100 : p < 100 := by omega
            have hp1 : ¬ (p : Int) < 0 := by omega
            have hp2 : ¬ (n' : Int) ≤ (p : Int) := by omega
            have hmc := hM.out.marks.cell hp100
            have hmf := hM.out.marks.frozen p
            unfold boolRow at hmc
            rw [hxf] at hmc
            have hobI : ¬ ob = I := by omega
            go_wp2
            go_roundw
            case rel => exact ⟨k + 1, updB is2 p, by omega, by go_num, hM.out.mark, hW3, hO.out.set (by omega) _⟩
            case measure => simp [intOf]; omega
          · have hke : k = o.length := by omega
            have hkl' : ¬ (k : Int) < (o.length : Int) := by omega
            have hW2 : Hid (Mid n' st' is2 [] r) := by have := hW.out; rw [hke, List.drop_length] at this; exact this
            have ha := All_any R room r wr hM.out.ring
            clear hW hke hO
            go_wp2_with (first | (go_at_call 11; refine ha.mono ?_; clear ha; rintro e w1 ⟨⟨v, rfl, ab, ac, rfl, hab, habl, hac⟩, hr1, hk1⟩))
            have hM1 : Hid (WMem R I room w.heap.size is2 r w w1) := hM.out.kr hr1 hk1
            have hIl : I < wr.heap.size := hM.out.marks.lt
            have HAC : Hid (∀ k, k < r.length → w1.cell? ⟨ab, k, none⟩ = some (.int .i64 (r.getD k 0))) := hac
            have hle := Len_any R room r w1 hr1
            have hcn : cnt is2 n' = r.length := by have := hW2.out.marks.count; simpa using this
            have hr16 : r.length ≤ 16 := by have := hr1.le; omega
            clear hM hac hr1 hk1
            go_loop [24, 25] (fun s24 s25 => ∃ k : Nat, k ≤ n' ∧ s25 = .int .i64 k ∧ s24 = .int .i64 (cnt is2 k : Nat)) (fun _ s25 => n' - (intOf s25).toNat)
            case atStart => exact ⟨0, Nat.zero_le _, rfl, rfl⟩
            case round =>
              obtain ⟨k, hk, rfl, rfl⟩ := hrel
              by_cases hkn : k < n'
              · have hkn' : (k : Int) < (n' : Int) := by omega
                have hmc := hM1.out.marks.cell (i := k) (by omega)
                unfold boolRow at hmc
                have hcl := cnt_le is2 k
                have HC : Hid (cnt is2 (k + 1) = cnt is2 k + (if is2 k then 0 else 1)) := rfl
                cases hb : is2 k
                · rw [hb] at hmc HC
                  clear hb
                  generalize cnt is2 k = c at *
                  go_wp2
                  go_round
                  case rel => exact ⟨k + 1, by omega, by go_num, by rw [HC.out]; go_num⟩
                  case measure => simp [intOf]; omega
                · rw [hb] at hmc HC
                  clear hb
                  generalize cnt is2 k = c at *
                  go_wp2
                  go_round
                  case rel => exact ⟨k + 1, by omega, by go_num, by rw [HC.out]; go_num⟩
                  case measure => simp [intOf]; omega
              · have hke : k = n' := by omega
                subst hke
                rw [hcn]
                clear hcn
                have hkn' : ¬ (k : Int) < (k : Int) := by omega
                have hrr : ((r.length : Int) != (r.length : Int)) = false := by simp
                go_wp2_with (first | (go_at_call 9; refine hle.mono ?_; clear hle; rintro e w2 ⟨rfl, rfl⟩))
                obtain ⟨w3', hw3⟩ : ∃ w3', w3' = w2 := ⟨_, rfl⟩
                rw [← hw3] at hM1 HAC habl ⊢
                clear hw3
                go_loopw [26] (fun s26 wx => ∃ j q : Nat, j ≤ r.length ∧ s26 = .int .i64 j ∧ wx = w3'.drewN q) (fun s26 _ => r.length - (intOf s26).toNat)
                case atStart => exact ⟨0, 0, Nat.zero_le _, rfl, rfl⟩
                case round =>
                  obtain ⟨j, q, hj, rfl, rfl⟩ := hrel
                  by_cases hjl : j < r.length
                  · have hjl' : (j : Int) < (r.length : Int) := by omega
                    have hcj := HAC.out j hjl
                    have hmem : r.getD j 0 ∈ r := by rw [List.getD_eq_getElem?_getD, List.getElem?_eq_getElem hjl]; exact List.getElem_mem hjl
                    obtain ⟨hx0, hxn, hxf⟩ := hW2.out.marks.rng _ (Or.inr hmem)
                    obtain ⟨p, hp⟩ : ∃ p : Nat, r.getD j 0 = (p : Int) := ⟨(r.getD j 0).toNat, by omega⟩
                    have HP : Hid (r.getD j 0 = (p : Int)) := hp
                    rw [hp] at hcj hx0 hxn hxf
                    rw [Int.toNat_natCast] at hxf
                    clear hp hmem hx0
                    have hp100 : p < 100 := by omega
                    have hp1 : ¬ (p : Int) < 0 := by omega
                    have hp2 : ¬ (k : Int) ≤ (p : Int) := by omega
                    have hp3 : decide ((k : Int) ≤ (p : Int)) = false := decide_eq_false hp2
                    have hp5 : decide ((p : Int) < 0) = false := decide_eq_false hp1
                    have hp4 : decide (k ≤ p) = false := decide_eq_false (by omega)
                    have hmc := hM1.out.marks.cell hp100
                    unfold boolRow at hmc
                    rw [hxf] at hmc
                    by_cases hj0 : 0 < j
                    · have hj0' : (0 : Int) < (j : Int) := by omega
                      obtain ⟨j1, rfl⟩ : ∃ j1, j = j1 + 1 := ⟨j - 1, by omega⟩
                      have hcq := HAC.out j1 (by omega)
                      have hlt := sorted_at hW2.out.sorted hjl hj0
                      rw [HP.out, Nat.add_sub_cancel] at hlt
                      generalize r.getD j1 0 = y at *
                      have hly : ¬ (p : Int) ≤ y := by omega
                      have hly2 : decide ((p : Int) ≤ y) = false := decide_eq_false hly
                      go_wp2
                      go_quiet (fail)
                      go_wp2
                      go_roundw
                      case rel => exact ⟨j1 + 1 + 1, _, by omega, by go_num, rfl⟩
                      case measure => simp [intOf]; omega
                    · obtain rfl : j = 0 := by omega
                      go_wp2
                      go_quiet (fail)
                      go_wp2
                      go_roundw
                      case rel => exact ⟨0 + 1, _, by omega, by go_num, rfl⟩
                      case measure => simp [intOf]; omega
                  · have hjl' : ¬ (j : Int) < (r.length : Int) := by omega
                    go_wp2
                    go_roundg (100 - (i + 1))
                    case measure => omega
                    case rel => exact ⟨i + 1, k, st', is2, r, rfl, rfl, by go_num, hn', by omega, hM1.out.later ⟨rfl, rfl, rfl, Nat.le_refl _, fun _ _ => rfl⟩, hW2, Nat.le_refl _⟩
    · have hB : Below w.heap.size w wr := hM.out.below
      by_cases hil : i < zs.length
      · have hil' : (i : Int) < (zs.length : Int) := by omega
        have hi100' : ¬ (i : Int) < 100 := by omega
        go_wp2
        go_ret
        exact ⟨rfl, hB⟩
      · have hil' : ¬ (i : Int) < (zs.length : Int) := by omega
        go_wp2
        go_ret
        exact ⟨rfl, hB⟩
end Go.Proofs.Ytfbikjoljfnlbaa
