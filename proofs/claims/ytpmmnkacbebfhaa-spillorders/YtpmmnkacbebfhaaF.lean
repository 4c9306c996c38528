/- The walk of SpillOrders. -/
import Derived.Test.YtpmmnkacbebfhaaE
import Derived.Deep.CutRange
import Derived.Deep.CutBlock
namespace Go.Proofs.Ytpmmnkacbebfhaa
open Go.RowKit Go.Deep

set_option maxRecDepth 100000 in
set_option maxHeartbeats 8000000 in
theorem orders_in (room : Nat) (zs : List Int) (sa : Option Addr) (sc : Nat) (w : World) (h1 : 1 ≤ room) (h2 : room ≤ 16) (hs : ∀ k, k < zs.length → ∃ b off, sa = some ⟨b, off, none⟩ ∧ b < w.heap.size ∧ w.cell? ⟨b, off + k, none⟩ = some (.int .i64 (zs.getD k 0))) :
    Calls Try.prog 3 #[.int .i64 room, .slice sa zs.length sc] w fun e w' => e = .returned (.bool true) ∧ Below w.heap.size w w' := by
  have HS : Hid (∀ k, k < zs.length → ∃ b off, sa = some ⟨b, off, none⟩ ∧ b < w.heap.size ∧ w.cell? ⟨b, off + k, none⟩ = some (.int .i64 (zs.getD k 0))) := hs
  have hn := New_good 1 w (by omega) (by omega)
  obtain ⟨i3, hi3, hy0, hy1, hy2⟩ := info_parts Try.info3
  clear hs
  go_enter Try.func3, Try.ntmps3
  go_wp2_with fail
  refine hn.mono ?_; clear hn; rintro e w1 ⟨rfl, hs1, hb1⟩
  have hrow := (RowI.whole (w1.alloc (.cells #[.int .i64 5, .int .i64 6, .int .i64 7] 3)) w1.heap.size 3 [5, 6, 7] rfl (by omega) (heap_alloc_new w1 _)).rds
  have hput := Put_good _ _ _ _ _ _ _ _ (hs1.alloc (.cells #[.int .i64 5, .int .i64 6, .int .i64 7] 3)) hrow (by simp)
  have hB1 : Hid (Below w.heap.size w (w1.alloc (.cells #[.int .i64 5, .int .i64 6, .int .i64 7] 3))) := hb1.alloc hb1.size _
  clear hrow hb1
  go_wp2_with fail
  refine hput.mono ?_; clear hput; rintro e w2 ⟨rfl, v2, hs2, hk2, -⟩
  have hB2 : Hid (Below w.heap.size w w2) := hB1.out.trans (hk2.below (Nat.le_refl _) (fun j e => by simp [Value.ownBlock] at e) hB1.out.size)
  have hget := Get_good _ _ 2 _ _ _ hs2 (by omega) (by omega)
  have hlow : ∀ j, v2.ownBlock = some j → w.heap.size ≤ j := fun j e => by have := (hs2.row.low e).1; omega
  have hS2 := hs2.lt
  clear hs1 hk2 hB1 hs2
  go_wp2_with fail
  refine hget.mono ?_; clear hget; rintro e w3 ⟨lv, v3, rfl, hl3, -, hk3, -⟩
  have hB3 : Hid (Below w.heap.size w w3) := hB2.out.trans (hk3.below (Nat.le_refl _) hlow (by omega))
  obtain ⟨g, c, rfl, -⟩ := hl3.full (by simp)
  have hc0 := hl3.cell (k := 0) (by simp)
  have hc1 := hl3.cell (k := 1) (by simp)
  simp at hc0 hc1
  have hn := New_good room w3 h1 h2
  clear hl3 hk3 hB2 hlow hS2
  go_wp2_with fail
  refine hn.mono ?_; clear hn; rintro e w4 ⟨rfl, hs4, hb4⟩
  obtain ⟨S, hS⟩ : ∃ S, S = w3.heap.size := ⟨_, rfl⟩
  have HM : Hid (SM S room w.heap.size 0 0 w w4) := by
    have h3 := hB3.out.size
    exact ⟨by omega, hB3.out.trans (hb4.mono h3), _, by rw [hS]; exact hs4⟩
  rw [← hS]
  clear hS hs4 hb4 hB3 hc0 hc1
  go_wp2
  go_loopg [10, 11, 12] 60 (fun gg s10 s11 s12 wr => ∃ (i n t m : Nat), s10 = .int .i64 n ∧ s11 = .int .i64 t ∧ s12 = .int .i64 i ∧ Hid (n = t + m) ∧ n ≤ 20 * i ∧ i ≤ 60 ∧ Hid (SM S room w.heap.size t m w wr) ∧ 60 - i ≤ gg)
  case atStart => exact ⟨0, 0, 0, 0, rfl, rfl, rfl, rfl, by omega, by omega, HM, by omega⟩
  case round =>
    clear HM
    obtain ⟨i, n, t, m, rfl, rfl, rfl, hn, hni, hi, hM, hgg⟩ := hrel
    obtain ⟨G, rfl⟩ : ∃ G, G = gk := ⟨_, rfl⟩
    have hm60 := hM.out.le
    have htn : t ≤ n := by have := hn.out; omega
    by_cases hgo : i < zs.length ∧ i < 60
    · obtain ⟨hil, hi60⟩ := hgo
      have hil' : (i : Int) < (zs.length : Int) := by omega
      have hi60' : (i : Int) < 60 := by omega
      obtain ⟨sb, so, rfl, hsb, hsc⟩ := HS.out i hil
      have hsc' := (hM.out.2.1.cell (p := ⟨sb, so + i, none⟩) hsb).trans hsc
      clear hsc
      generalize zs.getD i 0 = z at hsc'
      obtain ⟨-, -, v, hsp⟩ := hM.out
      have HSP : Hid (Sp S room (ups t m) v wr) := hsp
      clear hsp
      go_upto_if 83 with fail
      go_cut [10, 11, 13, 14, 15, 16, 17] from 69 to 181 (fun s10 s11 _ _ _ _ _ wx => ∃ (n' t' m' : Nat), s10 = .int .i64 n' ∧ s11 = .int .i64 t' ∧ Hid (n' = t' + m') ∧ n' ≤ 20 * (i + 1) ∧ Hid (SM S room w.heap.size t' m' w wx))
      case first => as_aux_lemma =>
        by_cases hz0 : z < 0
        · have hget := Get_good S room 3 (ups t m) v wr HSP.out (by omega) (by omega)
          rw [ups_take] at hget
          obtain ⟨L, hL⟩ : ∃ L, L = min 3 m := ⟨_, rfl⟩
          rw [← hL] at hget
          have hL3 : ¬ (3 : Int) < (L : Int) := by omega
          go_wp2_with (first | (go_at_call 6; refine hget.mono ?_; clear hget; rintro e w5 ⟨lv, v5, rfl, hl5, hs5, hk5, -⟩; have HL5 : Hid (RowI wr.heap.size w5 lv (ups t L)) := hl5; obtain ⟨la, lc, rfl⟩ := hl5.shape; rw [ups_length] at HL5 ⊢; have hM5 : Hid (SM S room w.heap.size (t + L) (m - L) w w5) := by { have := hM.out.got (k := L) HSP.out (by rw [ups_drop] at hs5 ⊢; rcases (by omega : L = 3 ∨ (L = m ∧ m < 3)) with h | ⟨h, h'⟩; { rw [h]; exact hs5 }; { rw [h, show m - m = 0 by omega]; rw [show m - 3 = 0 by omega] at hs5; exact hs5 }) hk5; exact this }; clear hl5 hs5 hk5))
          go_loop [11, 15] (fun s11 s15 => ∃ k t2 : Nat, k ≤ L ∧ s15 = .int .i64 k ∧ s11 = .int .i64 t2 ∧ Hid (t2 = t + k) ∧ t2 ≤ 1300) (fun _ s15 => L - (intOf s15).toNat)
          case atStart => exact ⟨0, t, Nat.zero_le _, rfl, rfl, rfl, by omega⟩
          case round =>
            obtain ⟨k, t2, hk, rfl, rfl, ht2, ht3⟩ := hrel
            by_cases hkl : k < L
            · obtain ⟨g, c', hv, -⟩ := HL5.out.full (by rw [ups_length]; omega)
              simp only [Value.slice.injEq] at hv
              obtain ⟨rfl, -, rfl⟩ := hv
              have hc := HL5.out.cell (k := k) (by rw [ups_length]; exact hkl)
              rw [ups_getD hkl, ← ht2.out] at hc
              have hkl' : (k : Int) < (L : Int) := by omega
              have hne : ((t2 : Int) != (t2 : Int)) = false := by simp
              have ht4 : t2 + 1 ≤ 1300 := by have := ht2.out; omega
              go_wp2
              go_round
              case rel => exact ⟨k + 1, t2 + 1, by omega, by go_num, by go_num, by show t2 + 1 = t + (k + 1); have := ht2.out; omega, ht4⟩
              case measure => simp [intOf]; omega
            · have hke : k = L := by omega
              have hkl' : ¬ (k : Int) < (L : Int) := by omega
              have HT : Hid (t2 = t + L) := by rw [← hke]; exact ht2
              have hN5 : Hid (n = t2 + (m - L)) := by show n = t2 + (m - L); have := hn.out; have := HT.out; omega
              have hM6 : Hid (SM S room w.heap.size t2 (m - L) w w5) := by rw [HT.out]; exact hM5
              clear hke ht2 HL5 hM5
              by_cases hL3 : L < 3
              · have hne2 : ((t2 : Int) != (n : Int)) = false := by have := hN5.out; simp; omega
                have hL3' : (L : Int) < 3 := by omega
                go_wp2
                go_meet
                exact ⟨n, t2, m - L, rfl, rfl, hN5, by omega, hM6⟩
              · have hL3' : ¬ (L : Int) < 3 := by omega
                go_wp2
                go_meet
                exact ⟨n, t2, m - L, rfl, rfl, hN5, by omega, hM6⟩
        · by_cases hz20 : z < 20
          · obtain ⟨q, rfl⟩ : ∃ q : Nat, z = q := ⟨z.toNat, by omega⟩
            have hz0' : ¬ (q : Int) < 0 := by omega
            clear hz0
            obtain ⟨w5, rfl⟩ : ∃ w5, w5 = wr := ⟨_, rfl⟩
            go_wp2
            go_loopw [16, 17] (fun s16 s17 wx => ∃ k : Nat, k ≤ q ∧ s17 = .int .i64 k ∧ Hid (RowI w5.heap.size wx s16 (ups n k)) ∧ Hid (Below w5.heap.size w5 wx)) (fun _ s17 _ => q - (intOf s17).toNat)
            case atStart => exact ⟨0, Nat.zero_le _, rfl, RowI.nil _ _, Below.refl _ _⟩
            case round =>
              obtain ⟨k, hk, rfl, hR, hBl⟩ := hrel
              have hb5 : sb < w5.heap.size := by have := hM.out.2.1.size; omega
              have hsc2 := (hBl.out.cell (p := ⟨sb, so + i, none⟩) hb5).trans hsc'
              obtain ⟨la, lc, rfl⟩ := hR.out.shape
              rw [ups_length] at hR
              by_cases hkq : k < q
              · have hkq' : (k : Int) < (q : Int) := by omega
                have hone : Rds (fun _ => True) (wr.alloc (.cells #[.int .i64 ((n : Int) + k)] 3)) (.slice (some ⟨wr.heap.size, 0, none⟩) 1 1) [(n : Int) + k] := ((RowI.whole _ _ 1 _ rfl (by omega) (heap_alloc_new wr _)).rds).mono (fun _ _ => trivial)
                have HO : Hid (Rds (fun _ => True) (wr.alloc (.cells #[.int .i64 ((n : Int) + k)] 3)) (.slice (some ⟨wr.heap.size, 0, none⟩) 1 1) [(n : Int) + k]) := hone
                clear hone
                have hsz := hBl.out.size
                rw [ups_length]
                go_wp2_with (first | (at_builtin; refine wpList_append_rows rfl (.tmp 131) (.tmp 135) rfl w5.heap.size (fun _ => True) (.slice la k lc) (.slice (some ⟨wr.heap.size, 0, none⟩) 1 1) (ups n k) [(n : Int) + k] rfl rfl (hR.out.alloc _) HO.out (by rw [ups_length]; simp; omega) (by simp; omega) ?_; intro v6 w6 hown hgr hat))
                have hR6 : Hid (RowI w5.heap.size w6 v6 (ups n (k + 1))) := by
                  show RowI _ _ _ _
                  rw [← ups_snoc, Int.natCast_add]
                  exact hown
                have hB6 : Hid (Below w5.heap.size w5 w6) := (hBl.out.alloc hsz _).grown hgr (by simp; omega) (fun j e => (hR.out.low e).1)
                clear hown hgr hat HO hR hBl
                go_wp2
                go_roundw
                case rel => exact ⟨k + 1, by omega, by go_num, hR6, hB6⟩
                case measure => simp [intOf]; omega
              · have hkq' : ¬ (k : Int) < (q : Int) := by omega
                obtain rfl : k = q := by omega
                have hs6 := HSP.out.later hBl.out
                have hM6 : Hid (SM S room w.heap.size t m w wr) := hM.out.later hBl.out
                have HS6 : Hid (Sp S room (ups t m) v wr) := hs6
                rw [ups_length]
                by_cases hfit : m + k ≤ 60
                · have hput := Put_good S room (ups t m) (ups n k) v _ _ wr hs6 hR.out.rds (by rw [ups_length, ups_length]; exact hfit)
                  clear hs6
                  go_wp2_with (first | (go_at_call 5; refine hput.mono ?_; clear hput hR hBl; rintro e w7 ⟨rfl, v7, hs7, hk7, -⟩; have hM5 : Hid (SM S room w.heap.size t (m + k) w w7) := hM6.out.put (v' := v7) HS6.out (by rw [← hn.out]; exact hs7) hk7; have hsc3 := (hM5.out.2.1.cell (p := ⟨sb, so + i, none⟩) hsb).trans ((hM.out.2.1.cell (p := ⟨sb, so + i, none⟩) hsb).symm.trans hsc'); clear hs7 hk7 hsc2 hsc'))
                  go_meet
                  exact ⟨n + k, t, m + k, by go_num, rfl, by show n + k = t + (m + k); have := hn.out; omega, by omega, hM5⟩
                · have hput := Put_full S room (ups t m) (ups n k) v _ _ wr hs6 hR.out.rds (by rw [ups_length, ups_length]; omega)
                  clear hs6
                  have hno : ¬ (n : Int) - (t : Int) + (k : Int) ≤ 60 := by have := hn.out; omega
                  go_wp2_with (first | (go_at_call 5; refine hput.mono ?_; clear hput hR hBl; rintro e w7 ⟨rfl, rfl⟩; unfold errV))
                  go_meet
                  exact ⟨n, t, m, rfl, rfl, hn, by omega, hM6⟩
          · have hz0' : ¬ z < 0 := by omega
            go_wp2
            go_meet
            exact ⟨n, t, m, rfl, rfl, hn, by omega, hM⟩
      case rest => as_aux_lemma =>
        obtain ⟨n', t', m', rfl, rfl, hN5, hn20, hM5⟩ := hcut
        clear hM hsc' HSP hn htn hm60
        have hm60 := hM5.out.le
        have htn : t' ≤ n' := by have := hN5.out; omega
        obtain ⟨-, -, v5, hs5⟩ := hM5.out
        have hlen := Len_any S room (ups t' m') v5 wc hs5
        rw [ups_length] at hlen
        obtain ⟨A, hA⟩ : ∃ A, A = min room m' := ⟨_, rfl⟩
        obtain ⟨Bb, hB⟩ : ∃ b, b = m' - room := ⟨_, rfl⟩
        rw [← hA, ← hB] at hlen
        have f0 := hN5.out
        have f1 : ((A : Int) + (Bb : Int) != (n' : Int) - (t' : Int)) = false := by simp; omega
        have f2 : ¬ (room : Int) < (A : Int) := by omega
        have f3 : (A : Int) < room → ¬ (0 : Int) < (Bb : Int) := by omega
        have f4 : A ≤ 60 := by omega
        have f6 : Bb ≤ 60 := by omega
        clear hs5 hA hB f0
        by_cases hAr : (A : Int) < room
        · have f5 := f3 hAr
          go_wp2_with (first | (go_at_call 7; refine hlen.mono ?_; clear hlen; rintro e w8 ⟨rfl, q, rfl⟩))
          go_roundg (60 - (i + 1))
          case measure => omega
          case rel => exact ⟨i + 1, n', t', m', rfl, rfl, by go_num, hN5, by omega, by omega, hM5.out.later ⟨rfl, rfl, rfl, Nat.le_refl _, fun _ _ => rfl⟩, Nat.le_refl _⟩
        · clear f3
          go_wp2_with (first | (go_at_call 7; refine hlen.mono ?_; clear hlen; rintro e w8 ⟨rfl, q, rfl⟩))
          go_roundg (60 - (i + 1))
          case measure => omega
          case rel => exact ⟨i + 1, n', t', m', rfl, rfl, by go_num, hN5, by omega, by omega, hM5.out.later ⟨rfl, rfl, rfl, Nat.le_refl _, fun _ _ => rfl⟩, Nat.le_refl _⟩
    · have hB : Below w.heap.size w wr := hM.out.2.1
      by_cases hil : i < zs.length
      · have hil' : (i : Int) < (zs.length : Int) := by omega
        have hi100' : ¬ (i : Int) < 60 := by omega
        go_wp2
        go_ret
        exact ⟨rfl, hB⟩
      · have hil' : ¬ (i : Int) < (zs.length : Int) := by omega
        go_wp2
        go_ret
        exact ⟨rfl, hB⟩
end Go.Proofs.Ytpmmnkacbebfhaa
