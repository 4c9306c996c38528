/- The document's own Above. -/
import Derived.Test.YtilpjhhjlokfcaaDoorRe
namespace Go.Proofs.YtilpjhhjlokfcaaDoor
open Go.RowKit Go.Deep

theorem Tryd.info52 : (Tryd.prog.info? 52).map (fun i => (i.zero, i.size, i.bytes)) = some (some (.slice none 0 0), 1, 24) := by kernel_rfl

theorem mat_shape {N n : Nat} {w : World} {v : Value} {cnt : Nat} {bl : Nat → Nat} {S : Nat → Nat → Bool} (h : Mat N n w v cnt bl S) : ∃ a c, v = .slice a cnt c := by
  rcases h.1.2 with ⟨h1, h2⟩ | ⟨g, cap, cur, hv, _⟩
  · exact ⟨none, 0, by rw [h1, h2]⟩
  · exact ⟨_, _, hv⟩

set_option maxRecDepth 100000 in
set_option maxHeartbeats 8000000 in
theorem aboveR_any (v : Value) (ts : List (Int × List Int)) (w : World) (hp : PlanAt w v ts) (h30 : ts.length ≤ 30) (hr : InRange ts) :
    Calls Tryd.prog 28 #[v] w fun e w' => (∃ ov bl S, e = .returned ov ∧ Mat w.heap.size ts.length w' ov ts.length bl S ∧ Sound ts S ∧ Full ts ts.length S) ∧ Below w.heap.size w w' := by
  obtain ⟨hl, a, c, rfl, hp⟩ := hp
  obtain ⟨i51, hi51, hz0, hz1, hz2⟩ := info_parts Tryd.info52
  have hmk := fun wx => run_make_row' (P := Tryd.prog) 52 4 (.bool false) 1 Tryd.underlying52 Tryd.info4 rfl .i64 .i64 ts.length (by omega) (by omega) wx
  have HR : Hid (InRange ts) := hr
  clear hr
  go_enter Tryd.func28, Tryd.ntmps28
  go_wp2
  go_loopw [3, 4] (fun s3 s4 wr => ∃ i : Nat, ∃ bl, i ≤ ts.length ∧ s4 = .int .i64 i ∧ Hid (Mat w.heap.size ts.length wr s3 i bl (needS ts)) ∧ Below w.heap.size w wr) (fun _ s4 _ => ts.length - (intOf s4).toNat)
  case atStart => exact ⟨0, fun _ => 0, Nat.zero_le _, rfl, Mat.nil _ _ _ _ _, Below.refl _ _⟩
  case round =>
    obtain ⟨i, bl, hi, rfl, hm, hb⟩ := hrel
    by_cases hil : i < ts.length
    · rcases hp with rfl | ⟨b, o, rfl, hbl, hc⟩
      · simp at hil
      obtain ⟨_, nv, hc2, hnl, na, nc, rfl, hns⟩ := hc i hil
      clear hc
      obtain ⟨w1, rfl⟩ : ∃ w1, w1 = wr := ⟨_, rfl⟩
      go_wp2
      have hrow0 : Hid ((w1.alloc (.cells (madeCells #[.bool false] ts.length) 4)).rowIs w1.heap.size 4 ts.length (fun y => .bool (rowK (needsOf ts i) 0 y))) := (World.rowIs_made w1 (.bool false) ts.length 4).congr (fun k _ => by rw [rowK_zero])
      have hbm : Below w1.heap.size w1 (w1.alloc (.cells (madeCells #[.bool false] ts.length) 4)) := (Below.refl _ _).alloc (Nat.le_refl _) _
      clear hmk
      go_loopw [6] (fun s6 wq => ∃ k : Nat, k ≤ (needsOf ts i).length ∧ s6 = .int .i64 k ∧ Hid (wq.rowIs w1.heap.size 4 ts.length (fun y => .bool (rowK (needsOf ts i) k y))) ∧ Below w1.heap.size w1 wq) (fun s6 _ => (needsOf ts i).length - (intOf s6).toNat)
      case atStart => exact ⟨0, Nat.zero_le _, rfl, hrow0, hbm⟩
      case round =>
        clear hrow0 hbm
        obtain ⟨k, hk, rfl, hrow, hq⟩ := hrel
        have hB : Below w.heap.size w wr := hb.trans (hq.mono hb.size)
        have hc2' := (hB.cell (p := ⟨b, o + i * 2 + 1, none⟩) hbl).trans hc2
        by_cases hkl : k < (needsOf ts i).length
        · rcases hns with hns | ⟨nb, no, rfl, hnb, hnc⟩
          · rw [hns] at hkl; simp at hkl
          have hyc := (hB.cell (p := ⟨nb, no + k, none⟩) hnb).trans (hnc k hkl)
          obtain ⟨hylt, _, hy0⟩ := need_at HR.out hil hkl
          obtain ⟨y, hy⟩ := Int.eq_ofNat_of_zero_le hy0
          rw [hy, Int.toNat_natCast] at hylt
          have hcy := hrow.out.cell hylt
          have hfy := hrow.out.frozen y
          have HSET : Hid ((wr.setCell ⟨w1.heap.size, y, none⟩ (.bool true)).rowIs w1.heap.size 4 ts.length (fun j => .bool (rowK (needsOf ts i) (k + 1) j))) :=
            (hrow.out.set y (.bool true)).congr (fun j _ => by rw [rowK_succ _ k y hkl hy j]; split <;> rfl)
          rw [hy] at hyc
          clear hnc hy0 hy hb
          generalize rowK (needsOf ts i) k y = old at *
          go_wp2
          go_roundw
          case rel => exact ⟨k + 1, by omega, by go_num, HSET, hq.setCell (Nat.le_refl _) _⟩
          case measure => simp [intOf]; omega
        · have hke : k = (needsOf ts i).length := by omega
          subst hke
          have HROW : Hid (wr.rowIs w1.heap.size 4 ts.length (fun y => .bool (needS ts i y))) := hrow.out.congr (fun j _ => by rw [rowK_all])
          have hmq := hm.out.later hq
          have HNW : Hid (∀ j, j < i → bl j ≠ w1.heap.size) := fun j hj e => by have := (hm.out.2.1 j hj).2.lt; omega
          have hmq2 : Mat w.heap.size ts.length (wr.alloc (.cells #[.slice (some ⟨w1.heap.size, 0, none⟩) ts.length ts.length] 52)) _ i bl (needS ts) := hmq.later ((Below.refl _ _).alloc (Nat.le_refl _) _)
          have hown2 := hmq2.1
          clear hns hrow hmq
          go_wp2_with (at_builtin; (refine wpList_append_own _ rfl (.tmp 39) (.tmp 41) 59 rfl w.heap.size 52 i51 (.slice none 0 0) 1 24 Tryd.underlying59 hi51 hz0 hz1 hz2 rfl (by decide) _ i ((List.range i).map fun j => .slice (some ⟨bl j, 0, none⟩) ts.length ts.length) rfl hown2 ⟨wr.heap.size, 0, none⟩ 1 1 [.slice (some ⟨w1.heap.size, 0, none⟩) ts.length ts.length] rfl rfl ?c1 ?c2 ?c3 ?c4 ?c5 ?_))
          case c1 => exact cell_one_new wr _ 52
          case c2 => intro u hu; simp at hu; subst hu; rfl
          case c3 => unfold maxLen; omega
          case c4 => omega
          case c5 => have := hB.size; simp; omega
          intro v' w2 hown' hgrow _
          have hb2 : Below w.heap.size w w2 := (hB.alloc hB.size _).grown hgrow (by have := hB.size; simp; omega) (fun j e => (hown2.lt j e).1)
          have HM : ∃ bl', Hid (Mat w.heap.size ts.length w2 v' (i + 1) bl' (needS ts)) := hmq2.append (HROW.out.alloc _) hb.size HNW.out hown' hgrow
          obtain ⟨bl', HM⟩ := HM
          clear hown' hgrow hown2 hmq2 HROW HNW
          go_wp2
          go_roundw
          case rel => exact ⟨i + 1, bl', by omega, by go_num, HM, hb2⟩
          case measure => simp [intOf]; omega
    · have hie : i = ts.length := by omega
      subst hie
      clear hp hmk
      obtain ⟨oa, oc, rfl⟩ := mat_shape hm.out
      go_wp2
      go_loopw [7] (fun s7 wr => ∃ m : Nat, ∃ S, m ≤ ts.length ∧ s7 = .int .i64 m ∧ Hid (Mat w.heap.size ts.length wr (.slice oa ts.length oc) ts.length bl S) ∧ Hid (Sound ts S) ∧ Hid (Full ts m S) ∧ Below w.heap.size w wr) (fun s7 _ => ts.length - (intOf s7).toNat)
      case atStart => exact ⟨0, _, Nat.zero_le _, rfl, hm, needS_sound ts, needS_full ts, hb⟩
      case round =>
        clear hm hb
        obtain ⟨m, S0, hml, rfl, hm, hso, hfu, hb⟩ := hrel
        by_cases hmn : m < ts.length
        · go_wp2
          go_loopw [8] (fun s8 wr => ∃ i : Nat, ∃ S, i ≤ ts.length ∧ s8 = .int .i64 i ∧ Hid (Mat w.heap.size ts.length wr (.slice oa ts.length oc) ts.length bl S) ∧ Hid (Within ts m S0 S i 0) ∧ Below w.heap.size w wr) (fun s8 _ => ts.length - (intOf s8).toNat)
          case atStart => exact ⟨0, _, Nat.zero_le _, rfl, hm, Within.start hso.out, hb⟩
          case round =>
            clear hm hb
            obtain ⟨i, S1, hi, rfl, hm, hwi, hb⟩ := hrel
            by_cases hin : i < ts.length
            · go_wp2
              go_loopw [9] (fun s9 wr => ∃ k : Nat, ∃ S, k ≤ ts.length ∧ s9 = .int .i64 k ∧ Hid (Mat w.heap.size ts.length wr (.slice oa ts.length oc) ts.length bl S) ∧ Hid (Within ts m S0 S i k) ∧ Below w.heap.size w wr) (fun s9 _ => ts.length - (intOf s9).toNat)
              case atStart => exact ⟨0, _, Nat.zero_le _, rfl, hm, hwi, hb⟩
              case round =>
                clear hm hwi hb
                obtain ⟨k, S, hk, rfl, hm, hwi, hb⟩ := hrel
                by_cases hkn : k < ts.length
                · obtain ⟨g, gc, hv, hg, hcell⟩ := hm.out.row hkn
                  obtain ⟨rfl, rfl⟩ : oa = some ⟨g, 0, none⟩ ∧ oc = gc := by simpa using hv
                  have hgi := hcell i hin
                  have hgm := hcell m hmn
                  have him := (hm.out.2.1 i hin).2.cell hmn
                  have hmk := (hm.out.2.1 m hmn).2.cell hkn
                  have hik := (hm.out.2.1 i hin).2.cell hkn
                  have hfk := (hm.out.2.1 i hin).2.frozen k
                  clear hcell hv
                  cases h1 : S i m
                  · rw [h1] at him
                    have HW : Hid (Within ts m S0 S i (k + 1)) := hwi.out.skip (fun h => by rw [h1] at h; simp at h)
                    clear h1 hmk hik
                    go_wp2
                    go_roundw
                    case rel => exact ⟨k + 1, S, by omega, by go_num, hm, HW, hb⟩
                    case measure => simp [intOf]; omega
                  · cases h2 : S m k
                    · rw [h1] at him
                      rw [h2] at hmk
                      have HW : Hid (Within ts m S0 S i (k + 1)) := hwi.out.skip (fun h => by rw [h2] at h; simp at h)
                      clear h1 h2 hik
                      go_wp2
                      go_roundw
                      case rel => exact ⟨k + 1, S, by omega, by go_num, hm, HW, hb⟩
                      case measure => simp [intOf]; omega
                    · rw [h1] at him
                      rw [h2] at hmk
                      have HW : Hid (Within ts m S0 (setS S i k) i (k + 1)) := hwi.out.put hmn h1 h2
                      have HMS : Hid (Mat w.heap.size ts.length (wr.setCell ⟨bl i, k, none⟩ (.bool true)) (.slice (some ⟨g, 0, none⟩) ts.length oc) ts.length bl (setS S i k)) := hm.out.set hin k
                      have hNb := (hm.out.2.1 i hin).1
                      clear h1 h2
                      generalize S i k = old at *
                      go_wp2
                      go_roundw
                      case rel => exact ⟨k + 1, _, by omega, by go_num, HMS, HW, hb.setCell hNb _⟩
                      case measure => simp [intOf]; omega
                · go_wp2
                  go_roundw
                  case rel => exact ⟨i + 1, S, by omega, by go_num, hm, hwi.out.row (by omega), hb⟩
                  case measure => simp [intOf]; omega
            · have HE := hwi.out.ends (by omega) hmn hfu.out
              have HS1 : Hid (Sound ts S1) := HE.1
              have HF1 : Hid (Full ts (m + 1) S1) := HE.2
              clear HE
              go_wp2
              go_roundw
              case rel => exact ⟨m + 1, S1, by omega, by go_num, hm, HS1, HF1, hb⟩
              case measure => simp [intOf]; omega
        · have hme : m = ts.length := by omega
          subst hme
          go_wp2
          go_ret
          exact ⟨⟨_, bl, S0, rfl, hm.out, hso.out, hfu.out⟩, hb⟩
end Go.Proofs.YtilpjhhjlokfcaaDoor
