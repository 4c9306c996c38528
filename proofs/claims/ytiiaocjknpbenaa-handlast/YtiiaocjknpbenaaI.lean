/- The walk of HandLast. -/
import Derived.Test.YtiiaocjknpbenaaG
import Derived.Deep.CutRange
import Derived.Deep.CutBlock
import Derived.Maps.AppendAt
namespace Go.Proofs.Ytiiaocjknpbenaa
open Go.RowKit Go.Deep

/-- No mark stands yet. -/
def noMarks : Array Value := Array.replicate 100 (.bool false)
theorem zero32 (w : World) : Sem.run Try.prog (zeroValue 32) w = Result.ok (.agg noMarks) w := by kernel_rfl
theorem noMarks_row (w : World) : (w.alloc (.cells noMarks 32)).rowIs w.heap.size 32 100 (boolRow (fun _ => false)) := by
  have := World.rowIs_alloc w noMarks 32 (boolRow (fun _ => false)) (fun i hi => by
    have hi' : i < 100 := by simpa [noMarks] using hi
    simp [noMarks, boolRow, hi'])
  rwa [show noMarks.size = 100 from by simp [noMarks]] at this

theorem nil_or_snoc (xs : List Int) : xs = [] ∨ ∃ ys x, xs = ys ++ [x] := by
  rcases List.eq_nil_or_concat xs with h | ⟨ys, x, h⟩
  · exact Or.inl h
  · exact Or.inr ⟨ys, x, by rw [h]; simp⟩

set_option maxRecDepth 100000 in
set_option maxHeartbeats 8000000 in
theorem last_in (room : Nat) (zs : List Int) (sa : Option Addr) (sc : Nat) (w : World) (h1 : 1 ≤ room) (h2 : room ≤ 16) (hs : ∀ k, k < zs.length → ∃ b off, sa = some ⟨b, off, none⟩ ∧ b < w.heap.size ∧ w.cell? ⟨b, off + k, none⟩ = some (.int .i64 (zs.getD k 0))) :
    Calls Try.prog 3 #[.int .i64 room, .slice sa zs.length sc] w fun e w' => e = .returned (.bool true) ∧ Below w.heap.size w w' := by
  have HS : Hid (∀ k, k < zs.length → ∃ b off, sa = some ⟨b, off, none⟩ ∧ b < w.heap.size ∧ w.cell? ⟨b, off + k, none⟩ = some (.int .i64 (zs.getD k 0))) := hs
  have hn := hNew_good 2 w (by omega) (by omega)
  obtain ⟨i3, hi3, hy0, hy1, hy2⟩ := info_parts Try.info3
  clear hs
  go_enter Try.func3, Try.ntmps3
  go_wp2_with fail
  refine hn.mono ?_; clear hn; rintro e w1 ⟨rfl, hr1, hb1, hs1⟩
  have hp5 := Put_any _ _ _ _ _ 5 _ hr1
  rw [show putO 2 (-1) [] = [] from rfl, show putR 2 (-1) [] = [] from rfl] at hp5
  go_wp2_with fail
  refine hp5.mono ?_; clear hp5; rintro e w2 ⟨⟨v, rfl, hv⟩, hr2, hk2⟩
  obtain ⟨a5, c5, rfl, _⟩ := hv.shape
  clear hv
  have hp6 := Put_any _ _ _ _ _ 6 _ hr2
  rw [show putO 2 ((5 : Nat) : Int) [] = [] from rfl, show putR 2 ((5 : Nat) : Int) [] = [5] from rfl] at hp6
  go_wp2_with fail
  refine hp6.mono ?_; clear hp6; rintro e w3 ⟨⟨v, rfl, hv⟩, hr3, hk3⟩
  obtain ⟨a6, c6, rfl, _⟩ := hv.shape
  clear hv
  have hta := Take_near _ _ _ _ _ _ hr3 (by decide)
  go_wp2_with fail
  refine hta.mono ?_; clear hta; rintro e w4 ⟨rfl, hr4, hk4⟩
  have hle := hLen_any _ _ _ _ _ _ hr4
  rw [show allH (-1) [5] = [5] from rfl] at hle
  have HB4 : Hid (Below w.heap.size w w4) := hb1.trans (((hk2.trans hk3).trans hk4).below (by omega) (Nat.le_refl _) (by omega))
  clear hr1 hr2 hr3 hr4 hb1 hs1 hk2 hk3 hk4
  go_wp2_with fail
  refine hle.mono ?_; clear hle; rintro e w6' ⟨rfl, rfl⟩
  have hn := hNew_good room w6' h1 h2
  go_wp2_with fail
  refine hn.mono ?_; clear hn; rintro e w7 ⟨rfl, hr7, hb7, hs7⟩
  obtain ⟨H, hH⟩ : ∃ H, H = w6'.heap.size + 1 := ⟨_, rfl⟩
  obtain ⟨R, hR⟩ : ∃ R, R = w6'.heap.size := ⟨_, rfl⟩
  obtain ⟨I, hI⟩ : ∃ I, I = w7.heap.size := ⟨_, rfl⟩
  rw [← hH] at hr7 ⊢
  rw [← hR] at hr7
  have HW : Hid (LMem H R I room w.heap.size (fun _ => false) (-1) [] w (w7.alloc (.cells noMarks 32))) := by
    have h6 := HB4.out.size
    refine ⟨hr7.of_blocks (Below.heap_alloc _ _ _ (by omega)) (Below.heap_alloc _ _ _ (by omega)), by rw [hI]; exact noMarks_row w7, (HB4.out.trans (hb7.mono h6)).alloc (by omega) _, by omega, by omega, by omega, by omega, by omega⟩
  have HRI : Hid (H < I ∧ R < I) := by show H < I ∧ R < I; omega
  have hI' : w7.heap.size = I := hI.symm
  have hz := zero32 w7
  clear hR hH hI hb7 hs7 hr7 HB4
  go_wp2
  clear hz hI'
  go_loopg [10, 12] 100 (fun gg s10 s12 wr => ∃ (i n : Nat) (is : Nat → Bool) (nr : Int) (xs : List Int), s10 = .int .i64 n ∧ s12 = .int .i64 i ∧ n ≤ i ∧ i ≤ 100 ∧ Hid (LMem H R I room w.heap.size is nr xs w wr) ∧ Hid (Mk n is [] (allH nr xs)) ∧ 100 - i ≤ gg)
  case atStart => exact ⟨0, 0, _, _, _, rfl, rfl, Nat.le_refl _, by omega, HW, Mk.start, by omega⟩
  case round =>
    clear HW
    obtain ⟨i, n, is, nr, xs, rfl, rfl, hni, hi, hM, hW, hgg⟩ := hrel
    obtain ⟨G, rfl⟩ : ∃ G, G = gk := ⟨_, rfl⟩
    by_cases hgo : i < zs.length ∧ i < 100
    · obtain ⟨hil, hi100⟩ := hgo
      have hil' : (i : Int) < (zs.length : Int) := by omega
      have hi100' : (i : Int) < 100 := by omega
      obtain ⟨sb, so, rfl, hsb, hsc⟩ := HS.out i hil
      have hsc' := (hM.out.below.cell (p := ⟨sb, so + i, none⟩) hsb).trans hsc
      clear hsc
      generalize zs.getD i 0 = z at hsc'
      go_upto_block 2 with fail
      go_cut [10, 13, 14, 15, 16, 17] from 68 to 180 (fun s10 s13 _ _ _ _ wx => ∃ (n' : Nat) (o r : List Int) (nr' : Int), s10 = .int .i64 n' ∧ n' ≤ i + 1 ∧ Hid (LMem H R I room w.heap.size is nr' r w wx) ∧ Hid (Mk n' is o (allH nr' r)) ∧ Hid (OutZ (I + 1) wx s13 o))
      case first => as_aux_lemma =>
        have hne := Near_any H R room nr xs wr hM.out.hand
        have hI0 : I < wr.heap.size := hM.out.marks.lt
        by_cases h0 : z = -1
        · subst h0
          by_cases hnr : nr = -1
          · subst hnr
            rcases nil_or_snoc xs with rfl | ⟨ys, x, rfl⟩
            · have hp := Take_none H R room wr hM.out.hand
              unfold errV at hp
              go_wp2_with (first | (go_at_call 9; refine hne.mono ?_; clear hne; rintro e w1 ⟨rfl, rfl⟩) | (go_at_call 7; refine hp.mono ?_; clear hp; rintro e w1 ⟨rfl, rfl⟩))
              go_meet
              exact ⟨n, [], [], -1, rfl, by omega, hM, hW, Or.inl ⟨rfl, rfl⟩⟩
            · have hp := Take_one H R room x ys wr hM.out.hand
              go_wp2_with (first | (go_at_call 9; refine hne.mono ?_; clear hne; rintro e w0 ⟨rfl, rfl⟩) | (go_at_call 7; refine hp.mono ?_; clear hp; rintro e w1 ⟨rfl, hr1, hk1⟩) | (at_builtin; refine wpList_append_own _ rfl (.tmp 103) (.tmp 105) 22 rfl w1.heap.size 3 i3 (.int .i64 0) 1 8 Try.underlying22 hi3 hy0 hy1 hy2 rfl (by decide) _ 0 [] rfl (World.ownsRow_nil _ _ _ _) ⟨w1.heap.size, 0, none⟩ 1 1 [.int .i64 x] rfl rfl ?c1 ?c2 ?c3 ?c4 ?c5 ?_))
              case c1 => exact cell_one_new w1 (.int .i64 x) 3
              case c2 => intro u hu; simp at hu; subst hu; rfl
              case c3 => unfold maxLen; omega
              case c4 => omega
              case c5 => simp
              intro v2 w2 hown2 hgr2 _
              have hb2 : Below w1.heap.size w1 w2 := ((Below.refl _ _).alloc (Nat.le_refl _) _).grown hgr2 (by simp) (fun j e => by simp [Value.ownBlock] at e)
              have hI1 : I < w1.heap.size := (hM.out.kh hr1 hk1).marks.lt
              have hO : Hid (OutZ (I + 1) w2 v2 [x]) := OutZ.one (by simpa using hown2) (by omega)
              go_wp2
              go_meet
              exact ⟨n, [x], ys, -1, rfl, by omega, (hM.out.kh hr1 hk1).later hb2, hW.out.pop, hO⟩
          · have hp := Take_near H R room nr xs wr hM.out.hand hnr
            have hn0 : 0 ≤ nr := hM.out.hand.near.resolve_left hnr
            have hrr : (nr != nr) = false := by simp
            go_wp2_with (first | (go_at_call 9; refine hne.mono ?_; clear hne; rintro e w0 ⟨rfl, rfl⟩) | (go_at_call 7; refine hp.mono ?_; clear hp; rintro e w1 ⟨rfl, hr1, hk1⟩) | (at_builtin; refine wpList_append_own _ rfl (.tmp 103) (.tmp 105) 22 rfl w1.heap.size 3 i3 (.int .i64 0) 1 8 Try.underlying22 hi3 hy0 hy1 hy2 rfl (by decide) _ 0 [] rfl (World.ownsRow_nil _ _ _ _) ⟨w1.heap.size, 0, none⟩ 1 1 [.int .i64 nr] rfl rfl ?c1 ?c2 ?c3 ?c4 ?c5 ?_))
            case c1 => exact cell_one_new w1 (.int .i64 nr) 3
            case c2 => intro u hu; simp at hu; subst hu; rfl
            case c3 => unfold maxLen; omega
            case c4 => omega
            case c5 => simp
            intro v2 w2 hown2 hgr2 _
            have hb2 : Below w1.heap.size w1 w2 := ((Below.refl _ _).alloc (Nat.le_refl _) _).grown hgr2 (by simp) (fun j e => by simp [Value.ownBlock] at e)
            have hI1 : I < w1.heap.size := (hM.out.kh hr1 hk1).marks.lt
            have hO : Hid (OutZ (I + 1) w2 v2 [nr]) := OutZ.one (by simpa using hown2) (by omega)
            go_wp2
            go_meet
            exact ⟨n, [nr], xs, -1, rfl, by omega, (hM.out.kh hr1 hk1).later hb2, hW.out.near hnr, hO⟩
        by_cases h1z : z = -2
        · subst h1z
          have hp := Rob_any H R room nr xs wr hM.out.hand
          have hMk : Hid (Mk n is (xs.take ((xs.length + 1) / 2)) (allH nr (xs.drop ((xs.length + 1) / 2)))) := hW.out.rob _
          have hrr : (nr != nr) = false := by simp
          generalize xs.take ((xs.length + 1) / 2) = o at *
          generalize xs.drop ((xs.length + 1) / 2) = r at *
          go_wp2_with fail
          refine hne.mono ?_; clear hne; rintro e w0 ⟨rfl, rfl⟩
          go_wp2_with fail
          refine hp.mono ?_; clear hp; rintro e w1 ⟨⟨v, rfl, hv⟩, hr1, hk1⟩
          have hO : Hid (OutZ (I + 1) w1 v o) := Or.inr (hv.mono hI0)
          obtain ⟨oa, oc, hov, _⟩ := hO.out.shape
          subst hov
          have hne := Near_any H R room nr r w1 hr1
          have hM1 : Hid (LMem H R I room w.heap.size is nr r w w1) := hM.out.kh hr1 hk1
          clear hv hr1 hk1
          go_wp2_with fail
          refine hne.mono ?_; clear hne; rintro e w2 ⟨rfl, rfl⟩
          go_wp2
          go_meet
          exact ⟨n, o, r, nr, rfl, by omega, hM1, hMk, hO⟩
        · have hz0 : (z == -1) = false := by simp [h0]
          have hz1 : (z == -2) = false := by simp [h1z]
          have hp := Put_any H R room nr xs n wr hM.out.hand
          have hMk : Hid (Mk (n + 1) is (putO room nr xs) (allH n (putR room nr xs))) := hW.out.put
          have hrr : ((n : Int) != (n : Int)) = false := by simp
          generalize putO room nr xs = o at *
          generalize putR room nr xs = r at *
          clear hne
          go_wp2_with fail
          refine hp.mono ?_; clear hp; rintro e w1 ⟨⟨v, rfl, hv⟩, hr1, hk1⟩
          have hO : Hid (OutZ (I + 1) w1 v o) := hv.mono hI0
          obtain ⟨oa, oc, hov, _⟩ := hO.out.shape
          subst hov
          have hne := Near_any H R room n r w1 hr1
          have hM1 : Hid (LMem H R I room w.heap.size is n r w w1) := hM.out.kh hr1 hk1
          clear hv hr1 hk1
          go_wp2_with fail
          refine hne.mono ?_; clear hne; rintro e w2 ⟨rfl, rfl⟩
          go_wp2
          go_meet
          exact ⟨n + 1, o, r, n, by go_num, by omega, hM1, hMk, hO⟩
      case rest => as_aux_lemma =>
        obtain ⟨n', o, r, nr', rfl, hn', hM2, hW2, hO⟩ := hcut
        clear hM hW hsc'
        obtain ⟨oa, oc, hov, _⟩ := hO.out.shape
        subst hov
        have hol : o.length ≤ 100 := by
          have h1 := hW2.out.count
          have h2 := cnt_le is n'
          rw [List.length_append] at h1
          omega
        go_wp2
        go_loopw [18] (fun s18 wr => ∃ (k : Nat) (is2 : Nat → Bool), k ≤ o.length ∧ s18 = .int .i64 k ∧ Hid (LMem H R I room w.heap.size is2 nr' r w wr) ∧ Hid (Mk n' is2 (o.drop k) (allH nr' r)) ∧ Hid (OutZ (I + 1) wr (.slice oa o.length oc) o)) (fun s18 _ => o.length - (intOf s18).toNat)
        case atStart => exact ⟨0, is, Nat.zero_le _, rfl, hM2, hW2, hO⟩
        case round =>
          clear hM2 hW2 hO
          obtain ⟨k, is2, hk, rfl, hM, hW, hO⟩ := hrel
          by_cases hkl : k < o.length
          · obtain ⟨ob, rfl, hob, hobl, hoc⟩ := hO.out.at hkl
            have hd : o.drop k = o.getD k 0 :: o.drop (k + 1) := by
              rw [List.drop_eq_getElem_cons hkl, List.getD_eq_getElem?_getD, List.getElem?_eq_getElem hkl]; rfl
            have hW2 := hW.out
            rw [hd] at hW2
            obtain ⟨hx0, hxn, hxf⟩ := hW2.rng _ (List.mem_append_left _ (List.mem_cons_self ..))
            have hW3 : Hid (Mk n' (updB is2 (o.getD k 0).toNat) (o.drop (k + 1)) (allH nr' r)) := hW2.mark
            obtain ⟨p, hp⟩ : ∃ p : Nat, o.getD k 0 = (p : Int) := ⟨(o.getD k 0).toNat, by omega⟩
            rw [hp] at hoc hx0 hxn hxf hW3
            rw [Int.toNat_natCast] at hxf hW3
            clear hW2 hd hW hp hx0
            have hkl' : (k : Int) < (o.length : Int) := by omega
            have hp100 : p < 100 := by omega
            have hp1 : ¬ (p : Int) < 0 := by omega
            have hp2 : ¬ (n' : Int) ≤ (p : Int) := by omega
            have hmc := hM.out.marks.cell hp100
            have hmf := hM.out.marks.frozen p
            unfold boolRow at hmc
            rw [hxf] at hmc
            have hobI : ¬ ob = I := by omega
            go_wp2
            go_roundw
            case rel => exact ⟨k + 1, updB is2 p, by omega, by go_num, hM.out.mark, hW3, hO.out.set (by omega) _⟩
            case measure => simp [intOf]; omega
          · have hke : k = o.length := by omega
            have hkl' : ¬ (k : Int) < (o.length : Int) := by omega
            have hW2 : Hid (Mk n' is2 [] (allH nr' r)) := by have := hW.out; rw [hke, List.drop_length] at this; exact this
            have hle := hLen_any H R room nr' r wr hM.out.hand
            have hcn : cnt is2 n' = (allH nr' r).length := by have := hW2.out.count; simpa using this
            have hal : (allH nr' r).length ≤ room + 1 := allH_le hM.out.hand.ring.le.1
            have hM1 := hM
            clear hW hke hO hM
            generalize (allH nr' r).length = L at *
            go_wp2
            go_loop [19, 20] (fun s19 s20 => ∃ k : Nat, k ≤ n' ∧ s20 = .int .i64 k ∧ s19 = .int .i64 (cnt is2 k : Nat)) (fun _ s20 => n' - (intOf s20).toNat)
            case atStart => exact ⟨0, Nat.zero_le _, rfl, rfl⟩
            case round =>
              obtain ⟨k, hk, rfl, rfl⟩ := hrel
              by_cases hkn : k < n'
              · have hkn' : (k : Int) < (n' : Int) := by omega
                have hmc := hM1.out.marks.cell (i := k) (by omega)
                unfold boolRow at hmc
                have hcl := cnt_le is2 k
                have HC : Hid (cnt is2 (k + 1) = cnt is2 k + (if is2 k then 0 else 1)) := rfl
                cases hb : is2 k
                · rw [hb] at hmc HC
                  clear hb
                  generalize cnt is2 k = c at *
                  go_wp2
                  go_round
                  case rel => exact ⟨k + 1, by omega, by go_num, by rw [HC.out]; go_num⟩
                  case measure => simp [intOf]; omega
                · rw [hb] at hmc HC
                  clear hb
                  generalize cnt is2 k = c at *
                  go_wp2
                  go_round
                  case rel => exact ⟨k + 1, by omega, by go_num, by rw [HC.out]; go_num⟩
                  case measure => simp [intOf]; omega
              · have hke : k = n' := by omega
                subst hke
                rw [hcn]
                clear hcn
                have hkn' : ¬ (k : Int) < (k : Int) := by omega
                have hrr : ((L : Int) != (L : Int)) = false := by simp
                have hlr : ¬ (room : Int) + 1 < (L : Int) := by omega
                go_wp2_with (first | (go_at_call 8; refine hle.mono ?_; clear hle; rintro e w2 ⟨rfl, rfl⟩))
                go_roundg (100 - (i + 1))
                case measure => omega
                case rel => exact ⟨i + 1, k, is2, nr', r, rfl, by go_num, hn', by omega, hM1, hW2, Nat.le_refl _⟩
    · have hB : Below w.heap.size w wr := hM.out.below
      by_cases hil : i < zs.length
      · have hil' : (i : Int) < (zs.length : Int) := by omega
        have hi100' : ¬ (i : Int) < 100 := by omega
        go_wp2
        go_ret
        exact ⟨rfl, hB⟩
      · have hil' : ¬ (i : Int) < (zs.length : Int) := by omega
        go_wp2
        go_ret
        exact ⟨rfl, hB⟩
end Go.Proofs.Ytiiaocjknpbenaa
