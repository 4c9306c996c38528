/- The walk of PicksShuffle. -/
import Derived.Test.YtjomcnalmhgljaaD
namespace Go.Proofs.Ytjomcnalmhgljaa
open Go.RowKit Go.Deep

def boolRow (f : Nat → Bool) : Nat → Value := fun k => .bool (f k)
/-- Which of them came among the first i. -/
def came (L : List Int) (i x : Nat) : Bool := (List.range i).any (fun j => (L.getD j 0).toNat == x)
theorem came_zero (L : List Int) (x : Nat) : came L 0 x = false := rfl
theorem came_succ (L : List Int) (i x : Nat) : came L (i + 1) x = (if x = (L.getD i 0).toNat then true else came L i x) := by
  unfold came
  rw [List.range_succ, List.any_append]
  simp only [List.any_cons, List.any_nil, Bool.or_false]
  generalize (L.getD i 0).toNat = y
  by_cases h : x = y
  · subst h
    simp
  · have h' : (y == x) = false := by simp; omega
    simp [h, h']
theorem came_new {L : List Int} {i n : Nat} (hi : i < n) (hr : ∀ k, k < n → 0 ≤ L.getD k 0) (hd : ∀ j k, j < k → k < n → L.getD j 0 ≠ L.getD k 0) : came L i (L.getD i 0).toNat = false := by
  unfold came
  rw [List.any_eq_false]
  intro j hj
  have hj' := List.mem_range.1 hj
  have h1 := hd j i hj' hi
  have h2 := hr j (by omega)
  have h3 := hr i hi
  simp only [beq_iff_eq]
  omega
theorem row_mark {w : World} {b : Nat} {L : List Int} {i : Nat} {p : Nat} (hp : (L.getD i 0).toNat = p) (h : w.rowIs b 33 30 (boolRow (came L i))) : (w.setCell ⟨b, p, none⟩ (.bool true)).rowIs b 33 30 (boolRow (came L (i + 1))) :=
  (h.set p _).congr (fun k _ => by unfold boolRow; rw [came_succ, hp]; split <;> rfl)
def noMarks : Array Value := Array.replicate 30 (.bool false)
theorem zero33 (w : World) : Sem.run Try.prog (zeroValue 33) w = Result.ok (.agg noMarks) w := by kernel_rfl
theorem noMarks_row (w : World) (L : List Int) : (w.alloc (.cells noMarks 33)).rowIs w.heap.size 33 30 (boolRow (came L 0)) := by
  have := World.rowIs_alloc w noMarks 33 (boolRow (came L 0)) (fun i hi => by
    have hi' : i < 30 := by simpa [noMarks] using hi
    simp [noMarks, boolRow, hi', came_zero])
  rwa [show noMarks.size = 30 from by simp [noMarks]] at this

theorem lit_ints (w : World) (x y : Int) : IntsAt (w.alloc (.cells #[.int .i64 x, .int .i64 y] 3)) (.slice (some ⟨w.heap.size, 0, none⟩) 2 2) [x, y] := by
  refine ⟨by simp, _, _, rfl, Or.inr ⟨w.heap.size, 0, rfl, by simp, fun k hk => ?_⟩⟩
  have hk' : k < 2 := by simpa using hk
  have hh := heap_alloc_new w (.cells #[.int .i64 x, .int .i64 y] 3)
  rcases (by omega : k = 0 ∨ k = 1) with rfl | rfl
  · simp only [World.cell?, hh]
    rfl
  · simp only [World.cell?, hh]
    rfl

/-- What the law knows between its calls: the memory that came is as it was, and there are picks. -/
structure Mem (C P : Nat) (ls : List Int) (u n0 : Nat) (w wx : World) : Prop where
  base : n0 = w.heap.size
  lo : n0 ≤ P
  lc : n0 ≤ C
  picks : Pk C P ls u wx
  keep : Below n0 w wx
theorem Mem.call {C P : Nat} {ls : List Int} {u u' n0 : Nat} {w wx wy : World} (h : Mem C P ls u n0 w wx) (hp : Pk C P ls u' wy) (hk : Kx (fun k => k = P) wx wy) : Mem C P ls u' n0 w wy :=
  ⟨h.base, h.lo, h.lc, hp, h.keep.trans (hk.below (fun j e => by have := h.lo; omega) (by rw [h.base]; exact h.keep.size))⟩

set_option maxRecDepth 100000 in
set_option maxHeartbeats 8000000 in
theorem shuffle_law (v : Value) (zs : List Int) (n m : Int) (w : World) (hz : IntsAt w v zs) (hcap : ∀ a n c, v = .slice a n c → n ≤ c) :
    Calls Try.prog 3 #[v, .int .i64 n, .int .i64 m] w fun e w' => e = .returned (.bool true) ∧ Below w.heap.size w w' := by
  have HZ : Hid (IntsAt w v zs) := hz
  have HC : Hid (∀ a n c, v = .slice a n c → n ≤ c) := hcap
  have hlen := hz.1
  obtain ⟨la, lc, rfl⟩ : ∃ a c, v = .slice a zs.length c := by obtain ⟨_, a, c, h, _⟩ := hz; exact ⟨a, c, h⟩
  clear hz hcap
  have hnew := New_good _ _ _ (lit_ints w 7 5) (fun a n c h => by cases h; omega) (by simp) (by simp)
  go_enter Try.func3, Try.ntmps3
  go_wp2_with fail
  refine hnew.mono ?_; clear hnew; rintro e w1 ⟨P1, rfl, hp1, hP1, hb1⟩
  have hb1' : Below w.heap.size w w1 := ((Below.refl w.heap.size w).alloc (Nat.le_refl _) _).trans (hb1.mono (by simp))
  have HM1 : Hid (Mem (w.heap.size + 1) P1 [7, 5] 0 w.heap.size w w1) := ⟨rfl, by simp at hP1; omega, by omega, by simpa using hp1, hb1'⟩
  have hnext := Next_good _ P1 4 _ _ _ HM1.out.picks (by omega) (by omega)
  clear hp1 hP1 hb1 hb1'
  go_wp2_with fail
  refine hnext.mono ?_; clear hnext; rintro e w2 ⟨rfl, hp2, hk2, -⟩
  have HM2 : Hid (Mem (w.heap.size + 1) P1 [7, 5] 1 w.heap.size w w2) := HM1.out.call hp2 hk2
  rw [show ((pk [7, 5] 0 4 : Nat) : Int) = 3 by rfl]
  have hused := Used_any _ P1 _ _ _ HM2.out.picks
  clear hp2 hk2 HM1
  go_wp2_with fail
  refine hused.mono ?_; clear hused; rintro e w3 ⟨rfl, rfl⟩
  have hz3 := HZ.out.later HM2.out.keep
  have HB : Hid (Below w.heap.size w w3) := HM2.out.keep
  clear HM2
  by_cases hfull : 400 < zs.length
  · have hnew := New_full _ _ w3 hz3 hfull
    go_wp2_with fail
    refine hnew.mono ?_; clear hnew; rintro e w4 ⟨rfl, rfl⟩
    unfold errV
    go_wp2
    go_ret
    exact ⟨rfl, HB.out⟩
  · cases hany : zs.any (fun n => decide (n < 0))
    case true =>
      have hnew := New_range _ _ w3 hz3 (by omega) hany
      clear hany
      go_wp2_with fail
      refine hnew.mono ?_; clear hnew; rintro e w4 ⟨rfl, rfl⟩
      unfold errV
      go_wp2
      go_ret
      exact ⟨rfl, HB.out⟩
    case false =>
      have hnew := New_good _ _ w3 hz3 HC.out (by omega) hany
      clear hany
      go_wp2_with fail
      refine hnew.mono ?_; clear hnew; rintro e w4 ⟨P, rfl, hp4, hP4, hb4⟩
      have h3 := HB.out.size
      have HM : Hid (Mem w3.heap.size P zs 0 w.heap.size w w4) := ⟨rfl, by omega, h3, hp4, HB.out.trans (hb4.mono h3)⟩
      clear hp4 hP4 hb4 hz3 HB
      obtain ⟨C, hC⟩ : ∃ C, C = w3.heap.size := ⟨_, rfl⟩
      rw [← hC] at HM
      clear hC h3
      by_cases hm : m < 1 ∨ 400 < m
      case' pos =>
        have hnext := Next_bad P m w4 hm
        clear hm
        go_wp2_with fail
        refine hnext.mono ?_; clear hnext; rintro e w5 ⟨rfl, rfl⟩
        unfold errV
        obtain ⟨u, hu⟩ : ∃ u, u = 0 := ⟨0, rfl⟩
        rw [← hu] at HM
        clear hu
      case' neg =>
        obtain ⟨m', rfl⟩ : ∃ m' : Nat, m = m' := ⟨m.toNat, by omega⟩
        have hnext := Next_good C P m' _ _ _ HM.out.picks (by omega) (by omega)
        have hq := pk_lt zs 0 m' (by omega)
        generalize pk zs 0 m' = q at *
        go_wp2_with fail
        refine hnext.mono ?_; clear hnext; rintro e w5 ⟨rfl, hp5, hk5, -⟩
        have HM5 : Hid (Mem C P zs (nx zs 0) w.heap.size w w5) := HM.out.call hp5 hk5
        clear HM hp5 hk5 hm
        generalize nx zs 0 = u at *
        have HM := HM5
        clear HM5
        have hq1 : ¬ (q : Int) < 0 := by omega
        have hq2 : ¬ (m' : Int) ≤ (q : Int) := by omega
      all_goals
        by_cases hn : n < 0 ∨ 30 < n
        · have hsh := Shuffle_bad P n w5 hn
          go_wp2_with fail
          refine hsh.mono ?_; clear hsh; rintro e w6 ⟨rfl, rfl⟩
          unfold errV
          by_cases hn0 : n < 0
          · go_wp2
            go_ret
            exact ⟨rfl, HM.out.keep⟩
          · have hn1 : 30 < n := by omega
            go_wp2
            go_ret
            exact ⟨rfl, HM.out.keep⟩
        · obtain ⟨k, rfl⟩ : ∃ k : Nat, n = k := ⟨n.toNat, by omega⟩
          have hk30 : k ≤ 30 := by omega
          have hsh := Shuffle_good C P k zs u w5 HM.out.picks hk30
          have HR : Hid (∀ i, i < k → 0 ≤ (shufOf zs k u).1.getD i 0 ∧ (shufOf zs k u).1.getD i 0 < k) := fun i hi => shufOf_range zs k u i hi
          have HD : Hid (∀ j i, j < i → i < k → (shufOf zs k u).1.getD j 0 ≠ (shufOf zs k u).1.getD i 0) := fun j i hj hi => shufOf_inj zs k u j i hj hi
          have HL : Hid ((shufOf zs k u).1.length = k) := shufOf_length zs k u
          generalize (shufOf zs k u).1 = L at *
          generalize (shufOf zs k u).2 = uz at *
          clear hn
          go_wp2_with fail
          refine hsh.mono ?_; clear hsh; rintro e w6 ⟨rfl, hA6, hp6, hk6⟩
          have HM6 : Hid (Mem C P zs uz w.heap.size w w6) := HM.out.call hp6 hk6
          have hN5 := HM.out.keep.size
          obtain ⟨N, hN⟩ : ∃ N, N = w5.heap.size := ⟨_, rfl⟩
          rw [← hN] at hA6 hN5 ⊢
          have HA6 : Hid (AllI N L w6) := hA6
          have hP5 : P < N := by rw [hN]; exact HM.out.picks.lt
          clear hp6 hk6 HM hA6 hN
          have hz := zero33 w6
          have HI0 : Hid ((w6.alloc (.cells noMarks 33)).rowIs w6.heap.size 33 30 (boolRow (came L 0))) := noMarks_row w6 L
          have hNI : N < w6.heap.size := HA6.out.lt
          have HA7 : Hid (AllI N L (w6.alloc (.cells noMarks 33))) := (Below.heap_alloc _ _ _ hNI).trans HA6.out
          have HM7 : Hid (Mem C P zs uz w.heap.size w (w6.alloc (.cells noMarks 33))) := ⟨rfl, HM6.out.lo, HM6.out.lc, HM6.out.picks.later ((Below.refl _ _).alloc (Nat.le_refl _) _), HM6.out.keep.alloc HM6.out.keep.size _⟩
          have huz := HM6.out.picks.le
          obtain ⟨I, hI⟩ : ∃ I, I = w6.heap.size := ⟨_, rfl⟩
          have hI' : w6.heap.size = I := hI.symm
          rw [← hI] at HI0 hNI
          clear hI HA6 HM6
          go_wp2
          clear hz hI'
          go_loopw [16] (fun s16 wx => ∃ i : Nat, i ≤ k ∧ s16 = .int .i64 i ∧ Hid (wx.rowIs I 33 30 (boolRow (came L i))) ∧ Hid (AllI N L wx) ∧ Hid (Mem C P zs uz w.heap.size w wx)) (fun s16 _ => k - (intOf s16).toNat)
          case atStart => exact ⟨0, Nat.zero_le _, rfl, HI0, HA7, HM7⟩
          case round =>
            clear HI0 HA7 HM7
            obtain ⟨i, hi, rfl, hI, hA, hM⟩ := hrel
            by_cases hik : i < k
            · have hik' : (i : Int) < (k : Int) := by omega
              obtain ⟨hr0, hr1⟩ := HR.out i hik
              have hnew := came_new hik (fun j hj => (HR.out j hj).1) HD.out
              obtain ⟨p, hp⟩ : ∃ p : Nat, L.getD i 0 = (p : Int) := ⟨(L.getD i 0).toNat, by omega⟩
              have hc := hA.out.cell (k := i) (by rw [HL.out]; exact hik)
              rw [hp] at hr1 hc hnew
              rw [Int.toNat_natCast] at hnew
              have hp1 : ¬ (p : Int) < 0 := by omega
              have hp2 : ¬ (k : Int) ≤ (p : Int) := by omega
              have hp30 : p < 30 := by omega
              have hmc := hI.out.cell hp30
              unfold boolRow at hmc
              rw [hnew] at hmc
              have hmf := hI.out.frozen p
              have HI2 : Hid ((wr.setCell ⟨I, p, none⟩ (.bool true)).rowIs I 33 30 (boolRow (came L (i + 1)))) := row_mark (by rw [hp]; exact Int.toNat_natCast p) hI.out
              have HA2 : Hid (AllI N L (wr.setCell ⟨I, p, none⟩ (.bool true))) := (Below.heap_setCell _ _ _ _ (by show N ≠ I; omega)).trans hA.out
              have HM2 : Hid (Mem C P zs uz w.heap.size w (wr.setCell ⟨I, p, none⟩ (.bool true))) := ⟨rfl, hM.out.lo, hM.out.lc, hM.out.picks.of_blocks (by simp) (fun b hb => Below.heap_setCell _ _ _ _ (by show b ≠ I; omega)), hM.out.keep.setCell (by show w.heap.size ≤ I; omega) _⟩
              clear hI hA hM hr0 hr1 hnew hp
              go_wp2
              go_roundw
              case rel => exact ⟨i + 1, by omega, by go_num, HI2, HA2, HM2⟩
              case measure => simp [intOf]; omega
            · have hik' : ¬ (i : Int) < (k : Int) := by omega
              have hused := Used_any _ P _ _ _ hM.out.picks
              have hle : (uz : Int) ≤ (zs.length : Int) := by omega
              go_wp2_with (go_at_call 6; refine hused.mono ?_; clear hused; rintro e w8 ⟨rfl, rfl⟩)
              go_ret
              exact ⟨rfl, hM.out.keep⟩
end Go.Proofs.Ytjomcnalmhgljaa
