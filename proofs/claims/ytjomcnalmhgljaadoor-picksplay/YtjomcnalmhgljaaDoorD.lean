/- The contract of Shuffle. -/
import Derived.Test.YtjomcnalmhgljaaDoorC
namespace Go.Proofs.YtjomcnalmhgljaaDoor
open Go.RowKit Go.Deep

/-- These numbers are all that block N has. -/
def AllI (N : Nat) (L : List Int) (w : World) : Prop := w.heap[N]? = some (.cells (L.map (Value.int .i64)).toArray 3 (0, 0))
theorem AllI.cell {N : Nat} {L : List Int} {w : World} (h : AllI N L w) {k : Nat} (hk : k < L.length) : w.cell? ⟨N, k, none⟩ = some (.int .i64 (L.getD k 0)) := by
  simp only [World.cell?, show w.heap[N]? = _ from h]
  simp [List.getD_eq_getElem?_getD, List.getElem?_eq_getElem hk]
theorem AllI.fz {N : Nat} {L : List Int} {w : World} (h : AllI N L w) (k : Nat) : w.frozen? ⟨N, k, none⟩ = false := by simp [World.frozen?, show w.heap[N]? = _ from h]
theorem AllI.lt {N : Nat} {L : List Int} {w : World} (h : AllI N L w) : N < w.heap.size := (Array.getElem?_eq_some_iff.1 h).1
theorem AllI.set {N : Nat} {L : List Int} {w : World} (h : AllI N L w) (k : Nat) (x : Int) : AllI N (L.set k x) (w.setCell ⟨N, k, none⟩ (.int .i64 x)) := by
  unfold AllI
  rw [setCell_eq_setRow w N k _ 3 (0, 0) _ h, setRow_heap w N _ _ 3 _ h]
  simp [List.map_set]
theorem AllI.row {N : Nat} {L : List Int} {w : World} (h : AllI N L w) (hl : L.length ≤ 60) : RowI N w (.slice (some ⟨N, 0, none⟩) L.length L.length) L :=
  ⟨by simp, Or.inr ⟨N, _, _, rfl, Nat.le_refl _, h, Nat.le_refl _, by unfold maxLen; omega, by simp, by simp [List.take_of_length_le]⟩⟩

theorem Shuffle_bad (P : Nat) (n : Int) (w : World) (h : n < 0 ∨ 30 < n) : Calls Tryd.prog 9 #[.pointer (some ⟨P, 0, none⟩), .int .i64 n] w fun e w' => e = .returned (.tuple #[.slice none 0 0, errV 1]) ∧ w' = w := by
  by_cases h1 : n < 0
  · go_enter Tryd.func9, Tryd.ntmps9
    go_wp2
    go_ret2
    exact ⟨rfl, rfl⟩
  · have h2 : 30 < n := by omega
    go_enter Tryd.func9, Tryd.ntmps9
    go_wp2
    go_ret2
    exact ⟨rfl, rfl⟩
/-- While it is filled. -/
def fillTo (n k : Nat) : List Int := upTo k ++ List.replicate (n - k) 0
theorem fillTo_length {n k : Nat} (h : k ≤ n) : (fillTo n k).length = n := by simp [fillTo, upTo_length]; omega
theorem fillTo_zero (n : Nat) : fillTo n 0 = List.replicate n 0 := by simp [fillTo, upTo]
theorem fillTo_all (n : Nat) : fillTo n n = upTo n := by simp [fillTo]
theorem fillTo_set {n k : Nat} (h : k < n) : (fillTo n k).set k k = fillTo n (k + 1) := by
  unfold fillTo
  rw [List.set_append_right _ _ (by rw [upTo_length]; exact Nat.le_refl _), upTo_length, Nat.sub_self]
  obtain ⟨m, hm⟩ : ∃ m, n - k = m + 1 := ⟨n - k - 1, by omega⟩
  rw [hm, show n - (k + 1) = m by omega, List.replicate_succ, List.set_cons_zero]
  simp [upTo, List.range_succ]
theorem made_fill (n : Nat) : madeCells #[.int .i64 0] n = ((fillTo n 0).map (Value.int .i64)).toArray := by
  rw [fillTo_zero]
  apply Array.ext
  · simp [madeCells]
  · intro i h1 h2
    simp [madeCells, Nat.mod_one]

set_option maxHeartbeats 2000000 in
theorem Shuffle_good (C P n : Nat) (ls : List Int) (u : Nat) (w : World) (h : Pk C P ls u w) (h2 : n ≤ 30) :
    Calls Tryd.prog 9 #[.pointer (some ⟨P, 0, none⟩), .int .i64 n] w fun e w' => e = .returned (.tuple #[.slice (some ⟨w.heap.size, 0, none⟩) n n, .nilIface]) ∧ AllI w.heap.size (shufOf ls n u).1 w' ∧ Pk C P ls (shufOf ls n u).2 w' ∧ Kx (fun k => k = P) w w' := by
  have HH : Hid (Pk C P ls u w) := h
  have hPN := h.lt
  have g1 : ¬ (n : Int) < 0 := by omega
  have g2 : ¬ (30 : Int) < (n : Int) := by omega
  have hmk := fun wx => run_make_row' (P := Tryd.prog) 27 3 (.int .i64 0) 8 Tryd.underlying27 Tryd.info3 rfl .i64 .i64 n (by omega) (by omega) wx
  clear h
  go_enter Tryd.func9, Tryd.ntmps9
  go_wp2
  clear hmk
  have HA0 : Hid (AllI w.heap.size (fillTo n 0) (w.alloc (.cells (madeCells #[.int .i64 0] n) 3))) := by
    show (w.alloc (.cells (madeCells #[.int .i64 0] n) 3)).heap[w.heap.size]? = _
    rw [made_fill]
    exact heap_alloc_new w _
  have HB0 : Hid (Below w.heap.size w (w.alloc (.cells (madeCells #[.int .i64 0] n) 3))) := (Below.refl _ _).alloc (Nat.le_refl _) _
  obtain ⟨N, hN⟩ : ∃ N, N = w.heap.size := ⟨_, rfl⟩
  have HN : Hid (N = w.heap.size) := hN
  rw [← hN] at HA0 HB0 hPN ⊢
  clear hN
  go_loopw [7, 21] (fun _ s21 wx => ∃ k : Nat, k ≤ n ∧ s21 = .int .i64 k ∧ Hid (AllI N (fillTo n k) wx) ∧ Hid (Below N w wx)) (fun _ s21 _ => n - (intOf s21).toNat)
  case atStart => exact ⟨0, Nat.zero_le _, rfl, HA0, HB0⟩
  case round =>
    clear HA0 HB0
    obtain ⟨k, hk, rfl, hA, hB⟩ := hrel
    by_cases hlt : k < n
    · have hlt' : (k : Int) < (n : Int) := by omega
      have hz := hA.out.fz k
      have hc := hA.out.cell (k := k) (by rw [fillTo_length hk]; exact hlt)
      have hA' : Hid (AllI N (fillTo n (k + 1)) (wr.setCell ⟨N, k, none⟩ (.int .i64 k))) := by
        show AllI _ _ _
        rw [← fillTo_set hlt]
        exact hA.out.set k k
      have hB' : Hid (Below N w (wr.setCell ⟨N, k, none⟩ (.int .i64 k))) := hB.out.setCell (Nat.le_refl _) _
      go_wp2
      go_roundw
      case rel => exact ⟨k + 1, by omega, by go_num, hA', hB'⟩
      case measure => simp [intOf]; omega
    · obtain rfl : k = n := by omega
      have hlt' : ¬ (k : Int) < (k : Int) := by omega
      have hA' : Hid (AllI N (upTo k) wr) := by
        show AllI _ _ _
        rw [← fillTo_all]
        exact hA.out
      have hP' : Hid (Pk C P ls u wr) := HH.out.below hB.out hPN
      have hK' : Hid (Kx (fun k => k = P) w wr) := ⟨hB.out.os, hB.out.tape, hB.out.output, hB.out.size, fun j hj _ => hB.out.block j (by rw [HN.out]; exact hj)⟩
      clear hA hB HH
      go_wp2
      go_loopw [8, 9] (fun s8 _ wx => ∃ (i : Int) (L : List Int) (v : Nat), s8 = .int .i64 i ∧ -1 ≤ i ∧ i < k ∧ Hid (L.length = k) ∧ Hid (AllI N L wx) ∧ Hid (Pk C P ls v wx) ∧ Hid (Kx (fun k => k = P) w wx) ∧ Hid (shuf ls i.toNat L v = shufOf ls k u)) (fun s8 _ _ => (intOf s8).toNat)
      case atStart => exact ⟨(k : Int) - 1, upTo k, u, rfl, by omega, by omega, upTo_length k, hA', hP', hK', by show shuf _ _ _ _ = shuf _ _ _ _; congr 1; omega⟩
      case round =>
        clear hA' hP' hK'
        obtain ⟨i, L, v, rfl, hi1, hi2, hL, hA, hP, hK, hS⟩ := hrel
        by_cases hi : 1 ≤ i
        · obtain ⟨j, rfl⟩ : ∃ j : Nat, i = j := ⟨i.toNat, by omega⟩
          have hcall := take_any C P (j + 1) ls v wr hP.out (by omega) (by omega)
          have hq := pk_lt ls v (j + 1) (by omega)
          have hS' : Hid (shuf ls (j - 1) (swp L j (pk ls v (j + 1))) (nx ls v) = shufOf ls k u) := by
            show _ = _
            rw [← hS.out]
            obtain ⟨m, rfl⟩ : ∃ m, j = m + 1 := ⟨j - 1, by omega⟩
            rfl
          simp only [Int.natCast_add, Int.cast_ofNat_Int] at hcall
          generalize pk ls v (j + 1) = q at *
          go_wp2_with (go_at_call 13; refine hcall.mono ?_; clear hcall; rintro e w2 ⟨rfl, hP2, hK2, hsz⟩)
          have hA2 : AllI N L w2 := (hK2.block N hA.out.lt (by show ¬ N = P; omega)).trans hA.out
          have hL' := hL.out
          have hjk : j < k := by omega
          have hc1 := hA2.cell (k := j) (by omega)
          have hc2 := hA2.cell (k := q) (by omega)
          have hz1 := hA2.fz j
          have hz2 := hA2.fz q
          have hc3 := (hA2.set j (L.getD q 0)).cell (k := q) (by simp; omega)
          have hz3 := (hA2.set j (L.getD q 0)).fz q
          generalize (L.set j (L.getD q 0)).getD q 0 = x3 at hc3
          have HA2 : Hid (AllI N (swp L j q) ((w2.setCell ⟨N, j, none⟩ (.int .i64 (L.getD q 0))).setCell ⟨N, q, none⟩ (.int .i64 (L.getD j 0)))) := (hA2.set j (L.getD q 0)).set q (L.getD j 0)
          have HP2 : Hid (Pk C P ls (nx ls v) ((w2.setCell ⟨N, j, none⟩ (.int .i64 (L.getD q 0))).setCell ⟨N, q, none⟩ (.int .i64 (L.getD j 0)))) := hP2.of_blocks (by simp) (fun b hb => (Below.heap_setCell _ _ _ _ (by show b ≠ N; omega)).trans (Below.heap_setCell _ _ _ _ (by show b ≠ N; omega)))
          have HK2 : Hid (Kx (fun k => k = P) w ((w2.setCell ⟨N, j, none⟩ (.int .i64 (L.getD q 0))).setCell ⟨N, q, none⟩ (.int .i64 (L.getD j 0)))) := ((hK.out.trans hK2 (fun _ e => Or.inl e)).set (Or.inr (by rw [HN.out]; exact Nat.le_refl _)) _ _).set (Or.inr (by rw [HN.out]; exact Nat.le_refl _)) _ _
          have HL2 : Hid ((swp L j q).length = k) := by show _ = _; rw [swp_length]; exact hL'
          have hqk : q < k := by omega
          clear hA hP hK hS hA2 hP2 hK2 hsz hL hL'
          generalize swp L j q = L2 at *
          generalize L.getD j 0 = x at *
          generalize L.getD q 0 = y at *
          go_region
          have HA3 : Hid (AllI N L2 ((w2.setCell ⟨N, j, none⟩ (.int .i64 y)).setCell ⟨N, q, none⟩ (.int .i64 x)).drew) := HA2
          have HP3 : Hid (Pk C P ls (nx ls v) ((w2.setCell ⟨N, j, none⟩ (.int .i64 y)).setCell ⟨N, q, none⟩ (.int .i64 x)).drew) := HP2.out.of_blocks (Nat.le_refl _) (fun _ _ => rfl)
          have HK3 : Hid (Kx (fun k => k = P) w ((w2.setCell ⟨N, j, none⟩ (.int .i64 y)).setCell ⟨N, q, none⟩ (.int .i64 x)).drew) := ⟨HK2.out.os, HK2.out.tape, HK2.out.output, HK2.out.size, HK2.out.block⟩
          clear hc1 hc2 hc3 hz1 hz2 hz3 HA2 HP2 HK2
          generalize ((w2.setCell ⟨N, j, none⟩ (.int .i64 y)).setCell ⟨N, q, none⟩ (.int .i64 x)).drew = w3 at *
          go_wp2
          go_roundw
          case rel => exact ⟨(j : Int) - 1, L2, nx ls v, rfl, by omega, by omega, HL2, HA3, HP3, HK3, by show shuf _ _ _ _ = _; rw [show ((j : Int) - 1).toNat = j - 1 by omega]; exact hS'.out⟩
          case measure => simp [intOf]; omega
        · have hi' : i.toNat = 0 := by omega
          have hS' : (L, v) = shufOf ls k u := by
            have := hS.out
            rw [hi'] at this
            exact this
          go_wp2
          go_ret2
          rw [← hS']
          exact ⟨by rw [← HN.out]; rfl, by rw [← HN.out]; exact hA.out, hP.out, hK.out⟩
end Go.Proofs.YtjomcnalmhgljaaDoor
