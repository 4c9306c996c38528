/- The walk of SpillFull. -/
import Derived.Test.YtpmmnkacbebfhaaDoorD
import Derived.Test.YtpmmnkacbebfhaaDoorI
namespace Go.Proofs.YtpmmnkacbebfhaaDoor
open Go.RowKit Go.Deep

theorem err_ok (w : World) (hg : Typed w) : Calls Tryd.prog 8 #[.nilIface, .int .i64 0] w fun ev w' => ev = .returned (.bool true) ∧ Below w.heap.size w w' := error_any 0 0 w hg
theorem err_is (q : Int) (hq : q ≠ 0) (w : World) (hg : Typed w) : Calls Tryd.prog 8 #[errV q, .int .i64 q] w fun ev w' => ev = .returned (.bool true) ∧ Below w.heap.size w w' := by
  have := error_any q q w hg
  rw [errQ_some hq] at this
  simpa [errV] using this

theorem below_drew (B : Nat) (w : World) (q : Nat) : Below B w (w.drewN q) := ⟨rfl, rfl, rfl, Nat.le_refl _, fun _ _ => rfl⟩
theorem made_rds (w : World) (n : Nat) : Rds (fun _ => True) (w.alloc (.cells (madeCells #[.int .i64 0] n) 3)) (.slice (some ⟨w.heap.size, 0, none⟩) n n) (List.replicate n 0) := by
  have hr := World.rowIs_made w (.int .i64 0) n 3
  refine ⟨some ⟨w.heap.size, 0, none⟩, n, by simp, by simp, fun k hk => ?_⟩
  have hk' : k < n := by simpa using hk
  refine ⟨w.heap.size, 0, rfl, trivial, by simp, ?_⟩
  rw [Nat.zero_add, hr.cell hk']
  simp [List.getD_eq_getElem?_getD, hk']

set_option maxRecDepth 100000 in
set_option maxHeartbeats 2000000 in
theorem full_bad (n more : Int) (w : World) (h : n < 0 ∨ 70 < n ∨ more < 0 ∨ 70 < more) :
    Calls Tryd.prog 3 #[.int .i64 n, .int .i64 more] w fun e w' => e = .returned (.bool true) ∧ Below w.heap.size w w' := by
  have hn := New_good 4 w (by omega) (by omega)
  by_cases h1 : n < 0
  · go_enter Tryd.func3, Tryd.ntmps3
    go_wp2_with (first | (go_at_call 5; refine hn.mono ?_; clear hn; rintro e w1 ⟨rfl, -, hb1⟩))
    go_ret
    exact ⟨rfl, hb1⟩
  by_cases h2 : 70 < n
  · go_enter Tryd.func3, Tryd.ntmps3
    go_wp2_with (first | (go_at_call 5; refine hn.mono ?_; clear hn; rintro e w1 ⟨rfl, -, hb1⟩))
    go_ret
    exact ⟨rfl, hb1⟩
  by_cases h3 : more < 0
  · go_enter Tryd.func3, Tryd.ntmps3
    go_wp2_with (first | (go_at_call 5; refine hn.mono ?_; clear hn; rintro e w1 ⟨rfl, -, hb1⟩))
    go_ret
    exact ⟨rfl, hb1⟩
  have h4 : 70 < more := by omega
  go_enter Tryd.func3, Tryd.ntmps3
  go_wp2_with (first | (go_at_call 5; refine hn.mono ?_; clear hn; rintro e w1 ⟨rfl, -, hb1⟩))
  go_ret
  exact ⟨rfl, hb1⟩

set_option maxRecDepth 100000 in
set_option maxHeartbeats 4000000 in
theorem full_in (n more : Nat) (w : World) (hg : Typed w) (h1 : n ≤ 70) (h2 : more ≤ 70) :
    Calls Tryd.prog 3 #[.int .i64 n, .int .i64 more] w fun e w' => e = .returned (.bool true) ∧ Below w.heap.size w w' := by
  have HG : Hid (Typed w) := hg
  have hn := New_good 4 w (by omega) (by omega)
  have hmk := fun wx => run_make_row' (P := Tryd.prog) 28 3 (.int .i64 0) 8 Tryd.underlying28 Tryd.info3 rfl .i64 .i64 n (by omega) (by omega) wx
  have hmk2 := fun wx => run_make_row' (P := Tryd.prog) 28 3 (.int .i64 0) 8 Tryd.underlying28 Tryd.info3 rfl .i64 .i64 more (by omega) (by omega) wx
  have g1 : ¬ (n : Int) < 0 := by omega
  have g2 : ¬ (70 : Int) < (n : Int) := by omega
  have g3 : ¬ (more : Int) < 0 := by omega
  have g4 : ¬ (70 : Int) < (more : Int) := by omega
  clear hg
  go_enter Tryd.func3, Tryd.ntmps3
  go_wp2_with (first | (go_at_call 5; refine hn.mono ?_; clear hn; rintro e w1 ⟨rfl, hs1, hb1⟩))
  have hs2 := hs1.alloc (.cells (madeCells #[.int .i64 0] n) 3)
  have hm2 := made_rds w1 n
  have HB2 : Hid (Below w.heap.size w (w1.alloc (.cells (madeCells #[.int .i64 0] n) 3))) := hb1.alloc hb1.size _
  obtain ⟨w2, hw2⟩ : ∃ w2, w2 = w1.alloc (.cells (madeCells #[.int .i64 0] n) 3) := ⟨_, rfl⟩
  rw [← hw2] at hs2 hm2 HB2 ⊢
  clear hs1 hb1
  by_cases hn60 : 60 < n
  · have hput := Put_full _ _ _ _ _ _ _ _ hs2 hm2 (by simp; omega)
    have hlen := Len_any _ _ _ _ _ hs2
    have he := fun q => err_is 4 (by decide) (w2.drewN q) (HG.out.later (HB2.out.trans (below_drew _ _ q)))
    have hn60' : (60 : Int) < (n : Int) := by omega
    unfold errV at hput he
    simp only [List.length_nil, Nat.min_zero, Nat.zero_sub] at hlen
    clear hs2 hm2 hw2
    go_wp2_with (first | (go_at_call 6; refine hput.mono ?_; clear hput; rintro e w3 ⟨rfl, rfl⟩) | (go_at_call 7; refine hlen.mono ?_; clear hlen; rintro e w4 ⟨rfl, q, rfl⟩) | (go_at_call 8; refine (he _).mono ?_; clear he; rintro e w5 ⟨rfl, hb5⟩))
    go_ret
    exact ⟨rfl, (HB2.out.trans (below_drew _ _ q)).trans (hb5.mono HB2.out.size)⟩
  · have hput := Put_good _ _ _ _ _ _ _ _ hs2 hm2 (by simp; omega)
    have hn60' : ¬ (60 : Int) < (n : Int) := by omega
    rw [List.nil_append] at hput
    clear hm2 hw2 hmk
    go_wp2_with (first | (go_at_call 6; refine hput.mono ?_; clear hput; rintro e w3 ⟨rfl, v3, hs3, hk3, -⟩))
    have HB3 : Hid (Below w.heap.size w (w3.alloc (.cells (madeCells #[.int .i64 0] more) 3))) := by
      have h2 := HB2.out.size
      have h3 : Below w.heap.size w w3 := HB2.out.trans (hk3.below (Nat.le_refl _) (fun j e => by simp [Value.ownBlock] at e) h2)
      exact h3.alloc h3.size _
    have hs4 := hs3.alloc (.cells (madeCells #[.int .i64 0] more) 3)
    have hm4 := made_rds w3 more
    obtain ⟨w4, hw4⟩ : ∃ w4, w4 = w3.alloc (.cells (madeCells #[.int .i64 0] more) 3) := ⟨_, rfl⟩
    rw [← hw4] at hs4 hm4 HB3 ⊢
    clear hs3 hk3 hw4 hs2 HB2 hmk2
    by_cases hf : 60 < n + more
    · have hput := Put_full _ _ _ _ _ _ _ _ hs4 hm4 (by simp; omega)
      have hlen := Len_any _ _ _ _ _ hs4
      have he := fun q => err_is 4 (by decide) (w4.drewN q) (HG.out.later (HB3.out.trans (below_drew _ _ q)))
      have hf' : (60 : Int) < (n : Int) + (more : Int) := by omega
      unfold errV at hput he
      rw [List.length_replicate] at hlen
      obtain ⟨A, hA⟩ : ∃ A, A = min 4 n := ⟨_, rfl⟩
      obtain ⟨C, hC⟩ : ∃ C, C = n - 4 := ⟨_, rfl⟩
      rw [← hA, ← hC] at hlen
      have hAC : ((A : Int) + (C : Int) == (n : Int)) = true := by simp; omega
      have hA4 : A ≤ 4 := by omega
      have hC4 : C ≤ 60 := by omega
      clear hs4 hm4 hA hC
      go_wp2_with (first | (go_at_call 6; refine hput.mono ?_; clear hput; rintro e w5 ⟨rfl, rfl⟩) | (go_at_call 7; refine hlen.mono ?_; clear hlen; rintro e w6 ⟨rfl, q, rfl⟩) | (go_at_call 8; refine (he _).mono ?_; clear he; rintro e w7 ⟨rfl, hb7⟩))
      go_ret
      exact ⟨by simp, (HB3.out.trans (below_drew _ _ q)).trans (hb7.mono HB3.out.size)⟩
    · have hput := Put_good _ _ _ _ _ _ _ _ hs4 hm4 (by simp; omega)
      have hf' : ¬ (60 : Int) < (n : Int) + (more : Int) := by omega
      have hlow : ∀ j, v3.ownBlock = some j → w.heap.size ≤ j := fun j e => by have := (hs4.row.low e).1; omega
      clear hs4 hm4
      go_wp2_with (first | (go_at_call 6; refine hput.mono ?_; clear hput; rintro e w5 ⟨rfl, v5, hs5, hk5, -⟩))
      have HB5 : Hid (Below w.heap.size w w5) := HB3.out.trans (hk5.below (Nat.le_refl _) hlow HB3.out.size)
      have hlen := Len_any _ _ _ _ _ hs5
      rw [List.length_append, List.length_replicate, List.length_replicate] at hlen
      obtain ⟨A, hA⟩ : ∃ A, A = min 4 (n + more) := ⟨_, rfl⟩
      obtain ⟨C, hC⟩ : ∃ C, C = n + more - 4 := ⟨_, rfl⟩
      rw [← hA, ← hC] at hlen
      have hAC : ((A : Int) + (C : Int) == (n : Int) + (more : Int)) = true := by simp; omega
      have hA4 : A ≤ 4 := by omega
      have hC4 : C ≤ 60 := by omega
      clear hs5 hk5 hA hC HB3 hlow
      go_wp2_with (first | (go_at_call 7; refine hlen.mono ?_; clear hlen; rintro e w6 ⟨rfl, q, rfl⟩))
      go_ret
      exact ⟨by simp, HB5.out.trans (below_drew _ _ q)⟩

theorem full_any (n more : Int) (w : World) (hg : Typed w) :
    Calls Tryd.prog 3 #[.int .i64 n, .int .i64 more] w fun e w' => e = .returned (.bool true) ∧ Below w.heap.size w w' := by
  by_cases h : n < 0 ∨ 70 < n ∨ more < 0 ∨ 70 < more
  · exact full_bad n more w h
  · obtain ⟨n', rfl⟩ : ∃ r : Nat, n = r := ⟨n.toNat, by omega⟩
    obtain ⟨m', rfl⟩ : ∃ r : Nat, more = r := ⟨more.toNat, by omega⟩
    exact full_in n' m' w hg (by omega) (by omega)
end Go.Proofs.YtpmmnkacbebfhaaDoor
