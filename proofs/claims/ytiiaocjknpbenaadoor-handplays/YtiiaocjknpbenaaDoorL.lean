/- The document's Put. -/
import Derived.Test.YtiiaocjknpbenaaDoorK
import Derived.Deep.CutRange
import Derived.Deep.CutBlock
namespace Go.Proofs.YtiiaocjknpbenaaDoor
open Go.RowKit Go.Deep

theorem refPut_none (M room : Nat) (n : Nat) (xs : List Int) (v : Value) (w : World) (h : Mh M room (-1) xs v w) :
    Calls Tryd.prog 11 #[.pointer (some ⟨M, 0, none⟩), .int .i64 n] w fun e w' => e = .returned (.slice none 0 0) ∧ Mh M room n xs v w' ∧ Below M w w' := by
  have HH : Hid (Mh M room (-1) xs v w) := h
  have hc1 := h.c1
  have hf1 := h.fz 1
  clear h
  go_enter Tryd.func11, Tryd.ntmps11
  go_wp2
  go_ret
  exact ⟨rfl, HH.out.setN (Or.inr (by omega)), (Below.refl _ _).setCell (p := ⟨M, 1, none⟩) (Nat.le_refl _) _⟩

theorem grown_below {w w' : World} {o : Option Nat} {B : Nat} (h : w.grownBy w' o) (ho : ∀ k, o = some k → B ≤ k) (hB : B ≤ w.heap.size) : Below B w w' :=
  ⟨h.os, h.tape, h.output, h.size, fun k hk => h.block k (by omega) (fun e => by have := ho k e.symm; omega)⟩
/-- One more is appended to the ring. -/
theorem Mh.more {M room : Nat} {nr x : Int} {xs : List Int} {v v2 : Value} {W w2 : World} {ob : Obj} (h : Mh M room nr xs v W) (hgr : (W.alloc ob).grownBy w2 v.ownBlock) (hown : RowI (M + 1) w2 v2 (xs ++ [x])) (hl : xs.length < room) :
    Mh M room nr (xs ++ [x]) v2 (w2.setCell ⟨M, 2, none⟩ v2) ∧ Below M W (w2.setCell ⟨M, 2, none⟩ v2) ∧ w2.heap[M]? = W.heap[M]? := by
  have hlt := h.lt
  have hb1 : Below M W (W.alloc ob) := (Below.refl _ _).alloc (Nat.le_of_lt hlt) _
  have hbk : w2.heap[M]? = W.heap[M]? := (hgr.block M (by simp; omega) (fun e => by have := (h.row.low e.symm).1; omega)).trans (Below.heap_alloc _ _ _ hlt)
  have hb2 : Below M (W.alloc ob) w2 := grown_below hgr (fun k e => by have := (h.row.low e).1; omega) (by simp; omega)
  exact ⟨h.setV hbk hown (by simp; omega), (hb1.trans hb2).setCell (p := ⟨M, 2, none⟩) (Nat.le_refl _) _, hbk⟩

set_option maxHeartbeats 4000000 in
theorem refPut_room (M room : Nat) (nr : Int) (n : Nat) (xs : List Int) (v : Value) (w : World) (h : Mh M room nr xs v w) (hn : nr ≠ -1) (hl : xs.length < room) :
    Calls Tryd.prog 11 #[.pointer (some ⟨M, 0, none⟩), .int .i64 n] w fun e w' => e = .returned (.slice none 0 0) ∧ (∃ v', Mh M room n (xs ++ [nr]) v' w') ∧ Below M w w' := by
  have hc1 := h.c1
  have hf1 := h.fz 1
  have hlt := h.lt
  have h0 : ¬ nr < 0 := by have := h.near.resolve_left hn; omega
  have hr16 := h.r16
  have hne : ((xs.length : Int) == (room : Int)) = false := by simp; omega
  obtain ⟨W1, hW1⟩ : ∃ W1, W1 = w.setCell ⟨M, 1, none⟩ (.int .i64 n) := ⟨_, rfl⟩
  have HB1 : Hid (Below M w W1) := by rw [hW1]; exact (Below.refl _ _).setCell (p := ⟨M, 1, none⟩) (Nat.le_refl _) _
  have h1 : Mh M room n xs v W1 := by rw [hW1]; exact h.setN (Or.inr (by omega))
  have HH1 : Hid (∀ q, Mh M room n xs v (W1.drewN q)) := fun q => h1.later (below_drew _ _ q)
  have hd0 := h1.c0
  have hd2 := h1.c2
  have hf2 := h1.fz 2
  have hlt1 := h1.lt
  have hcA : ∀ q, ((W1.drewN q).alloc (.cells #[.int .i64 nr] 3)).cell? ⟨M, 2, none⟩ = some v := fun q => (World.cell?_of_block (a := ⟨M, 2, none⟩) (Below.heap_alloc (W1.drewN q) _ _ hlt1)).trans hd2
  obtain ⟨a, c, rfl⟩ := h1.row.shape
  have HO : Hid (∀ q, Rds (fun _ => True) ((W1.drewN q).alloc (.cells #[.int .i64 nr] 3)) (.slice (some ⟨(W1.drewN q).heap.size, 0, none⟩) 1 1) [nr]) := fun q => one_rds (W1.drewN q) nr
  have HW : Hid (W1 = w.setCell ⟨M, 1, none⟩ (.int .i64 n)) := hW1
  clear h h1 hn hW1
  go_enter Tryd.func11, Tryd.ntmps11
  go_wp2
  rw [← HW.out]
  clear HW hc1 hf1
  go_quiet (fail)
  go_wp2_with (first | (at_builtin; refine wpList_append_rows rfl (.tmp 53) (.tmp 55) rfl (M + 1) (fun _ => True) (.slice a xs.length c) (.slice (some ⟨W1.heap.size, 0, none⟩) 1 1) xs [nr] rfl rfl ((HH1.out _).row.alloc _) (HO.out _) (by simp; omega) (by simp; omega) ?_; intro v2 w2 hown2 hgr2 hat2; have hM := (HH1.out _).more hgr2 hown2 hl; obtain ⟨hM1, hM2, hM3⟩ := hM; have HM1 : Hid (Mh M room n (xs ++ [nr]) v2 (w2.setCell ⟨M, 2, none⟩ v2)) := hM1; have HM2 : Hid (Below M W1 (w2.setCell ⟨M, 2, none⟩ v2)) := (below_drew _ _ _).trans hM2; have hz2 := (World.frozen?_of_block (a := ⟨M, 2, none⟩) hM3).trans hf2; have hcm := (World.cell?_of_block (a := ⟨M, 2, none⟩) hM3).trans hd2; obtain ⟨a2, k2, rfl⟩ := hown2.shape; simp only [List.length_append, List.length_singleton] at *; clear hown2 hgr2 hat2 hM1 hM2 hM3))
  go_ret
  exact ⟨rfl, ⟨_, HM1.out⟩, HB1.out.trans HM2.out⟩

set_option maxRecDepth 100000 in
set_option maxHeartbeats 4000000 in
theorem refPut_full (M room : Nat) (nr : Int) (n : Nat) (xs : List Int) (v : Value) (w : World) (h : Mh M room nr xs v w) (hn : nr ≠ -1) (hl : xs.length = room) (hr1 : 1 ≤ room) :
    Calls Tryd.prog 11 #[.pointer (some ⟨M, 0, none⟩), .int .i64 n] w fun e w' => (∃ ov, e = .returned ov ∧ Rds (fun k => M < k) w' ov (xs.take ((xs.length + 1) / 2))) ∧ (∃ v', Mh M room n (xs.drop ((xs.length + 1) / 2) ++ [nr]) v' w') ∧ Below M w w' := by
  have hc1 := h.c1
  have hf1 := h.fz 1
  have hlt := h.lt
  have h0 : ¬ nr < 0 := by have := h.near.resolve_left hn; omega
  have hr16 := h.r16
  have hne : ((xs.length : Int) == (room : Int)) = true := by simp [hl]
  obtain ⟨W1, hW1⟩ : ∃ W1, W1 = w.setCell ⟨M, 1, none⟩ (.int .i64 n) := ⟨_, rfl⟩
  have HB1 : Hid (Below M w W1) := by rw [hW1]; exact (Below.refl _ _).setCell (p := ⟨M, 1, none⟩) (Nat.le_refl _) _
  have h1 : Mh M room n xs v W1 := by rw [hW1]; exact h.setN (Or.inr (by omega))
  have HH1 : Hid (∀ q, Mh M room n xs v (W1.drewN q)) := fun q => h1.later (below_drew _ _ q)
  have hd0 := h1.c0
  have hd2 := h1.c2
  have hlt1 := h1.lt
  have hx16 : xs.length ≤ 16 := by omega
  obtain ⟨m, hm⟩ : ∃ m, m = (xs.length + 1) / 2 := ⟨_, rfl⟩
  have hq : ((xs.length : Int) + 1).tdiv 2 = (m : Int) := by rw [Int.tdiv_eq_ediv_of_nonneg (by omega)]; omega
  have hq2 : ((xs.length : Int) + 1) / 2 = (m : Int) := by omega
  have hw1 : IntKind.i64.wrap ((xs.length : Int) + 1) = (xs.length : Int) + 1 := wrap_fits (by omega) (by omega)
  have hw2 : IntKind.i64.wrap (m : Int) = (m : Int) := wrap_fits (by omega) (by omega)
  have hdl : (xs.drop m).length < room := by simp; omega
  obtain ⟨a, c, rfl⟩ := h1.row.shape
  have hcu := fun q => cutting_any _ (.slice a xs.length c) xs m (W1.drewN q) (HH1.out q).row.rds (by omega)
  have HW : Hid (W1 = w.setCell ⟨M, 1, none⟩ (.int .i64 n)) := hW1
  rw [← hm]
  clear h h1 hn hW1 hm hl
  generalize xs.take m = o at *
  generalize xs.drop m = r at *
  go_enter Tryd.func11, Tryd.ntmps11
  go_wp2
  rw [← HW.out]
  clear HW hc1 hf1
  go_quiet (fail)
  go_wp2
  have HS : (W1.drewN (nq + 1)).cell? ⟨M, 2, none⟩ = some (.slice a xs.length c) := hd2
  refine wp_region_held (S := fun W' => W'.cell? ⟨M, 2, none⟩ = some (.slice a xs.length c)) (by kernel_rfl) ?_
  refine wpAnyH_takeD (i := 0) (v := ?v0) (some 30) rfl rfl (by kernel_rfl) (by kernel_rfl) (by kernel_rfl) (fun _ _ _ h => h) (Or.inl ⟨by rfl, ?hy0⟩) HS ?_
  case hy0 =>
    intro wz hSz
    go_simp
    try rfl
  refine wpAnyH_takeD (i := 1) (v := ?v1) (some 31) rfl rfl (by kernel_rfl) (by kernel_rfl) (by kernel_rfl) (fun _ _ _ h => h) (Or.inl ⟨by rfl, ?hy1⟩) HS ?_
  case hy1 =>
    intro wz hSz
    go_simp
    try rfl
  refine wpAnyH_takeD (i := 2) (v := ?v2) (some 32) rfl rfl (by kernel_rfl) (by kernel_rfl) (by kernel_rfl) (fun _ _ _ h => h) (Or.inl ⟨by rfl, ?hy2⟩) HS ?_
  case hy2 =>
    intro wz hSz
    go_simp
    try rfl
  refine wpAnyH_takeD (i := 3) (v := ?v3) (some 33) rfl rfl (by kernel_rfl) (by kernel_rfl) (by kernel_rfl) (fun _ _ _ h => h) (Or.inl ⟨by rfl, ?hy3⟩) HS ?_
  case hy3 =>
    intro wz hSz
    go_simp
    try rfl
  refine wpAnyH_takeD (i := 4) (v := ?v4) (some 34) rfl rfl (by kernel_rfl) (by kernel_rfl) (by kernel_rfl) (fun _ _ _ h => h) (Or.inl ⟨by rfl, ?hy4⟩) HS ?_
  case hy4 =>
    intro wz hSz
    go_simp
    try rfl
  refine wpAnyH_takeD (i := 5) (v := ?v5) (some 35) rfl rfl (by kernel_rfl) (by kernel_rfl) (by kernel_rfl) (fun _ _ _ h => h) (Or.inl ⟨by rfl, ?hy5⟩) HS ?_
  case hy5 =>
    intro wz hSz
    go_simp
    try rfl
  refine wpAnyH_takeD (i := 6) (v := ?v6) (some 36) rfl rfl (by kernel_rfl) (by kernel_rfl) (by kernel_rfl) (fun _ _ _ h => h) (Or.inl ⟨by rfl, ?hy6⟩) HS ?_
  case hy6 =>
    intro wz hSz
    go_simp
    try rfl
  refine wpAnyH_takeD (i := 7) (v := ?v7) (some 37) rfl rfl (by kernel_rfl) (by kernel_rfl) (by kernel_rfl) (fun _ _ _ h => h) (Or.inl ⟨by rfl, ?hy7⟩) HS ?_
  case hy7 =>
    intro wz hSz
    go_simp
    try rfl
  refine wpAnyH_takeD (i := 8) (v := ?v8) (some 38) rfl rfl (by kernel_rfl) (by kernel_rfl) (by kernel_rfl) (fun _ _ _ h => h) (Or.inl ⟨by rfl, ?hy8⟩) HS ?_
  case hy8 =>
    intro wz hSz
    go_simp
    try rfl
  refine wpAnyH_takeD (i := 9) (v := ?v9) (some 39) rfl rfl (by kernel_rfl) (by kernel_rfl) (by kernel_rfl) (fun _ _ _ h => h) (Or.inl ⟨by rfl, ?hy9⟩) HS ?_
  case hy9 =>
    intro wz hSz
    go_simp
    try rfl
  refine wpAnyH_takeD (i := 10) (v := ?v10) (some 40) rfl rfl (by kernel_rfl) (by kernel_rfl) (by kernel_rfl) (fun _ _ _ h => h) (Or.inl ⟨by rfl, ?hy10⟩) HS ?_
  case hy10 =>
    intro wz hSz
    go_simp
    try rfl
  refine wpAnyH_all (rs := [11]) (by kernel_rfl) (by simp) (fun j hj => ?_)
  obtain rfl := List.mem_singleton.1 hj
  refine wpOp_callD (f := 19) (args := #[.slice a xs.length c, .int .i64 m]) (some 41) rfl rfl (by rfl) ?hcall ?_
  case hcall =>
    go_simp
    all_goals (first | rfl | (rw [hw1, hq, hw2]))
  refine (hcu (nq + 1)).mono ?_
  rintro e w1 ⟨va, vb, rfl, hra, hrb, hap, hb1⟩
  have HB2 : Hid (Below W1.heap.size W1 w1) := (below_drew _ _ (nq + 1)).trans hb1
  have HH2 : Hid (Mh M room n xs (.slice a xs.length c) w1) := (HH1.out 0).later HB2.out
  have HS1 := HH2.out.c2
  have HA : Hid (RowI W1.heap.size w1 va o) := hra
  have HBR : Hid (RowI W1.heap.size w1 vb r) := hrb
  have HAP : Hid (Apart va vb) := hap
  obtain ⟨aa, ac, rfl⟩ := hra.shape
  obtain ⟨ba, bc, rfl⟩ := hrb.shape
  refine ⟨HS1, ?_⟩
  refine wpAnyH_takeD (i := 12) (v := ?v12) (some 29) rfl rfl (by kernel_rfl) (by kernel_rfl) (by kernel_rfl) (fun _ _ _ h => h) (Or.inl ⟨by rfl, ?hy12⟩) HS1 ?_
  case hy12 =>
    intro wz hSz
    go_simp
    try rfl
  refine wpAnyH_takeD (i := 13) (v := ?v13) (some 42) rfl rfl (by kernel_rfl) (by kernel_rfl) (by kernel_rfl) (fun _ _ _ h => h) (Or.inl ⟨by rfl, ?hy13⟩) HS1 ?_
  case hy13 =>
    intro wz hSz
    go_simp
    try rfl
  refine wpAnyH_takeD (i := 14) (v := ?v14) (some 43) rfl rfl (by kernel_rfl) (by kernel_rfl) (by kernel_rfl) (fun _ _ _ h => h) (Or.inl ⟨by rfl, ?hy14⟩) HS1 ?_
  case hy14 =>
    intro wz hSz
    go_simp
    try rfl
  refine wpAnyH_takeD (i := 15) (v := ?v15) (some 7) rfl rfl (by kernel_rfl) (by kernel_rfl) (by kernel_rfl) (fun _ _ _ h => h) (Or.inl ⟨by rfl, ?hy15⟩) HS1 ?_
  case hy15 =>
    intro wz hSz
    go_simp
    try rfl
  refine wpAnyH_takeD (i := 16) (v := ?v16) (some 8) rfl rfl (by kernel_rfl) (by kernel_rfl) (by kernel_rfl) (fun _ _ _ h => h) (Or.inl ⟨by rfl, ?hy16⟩) HS1 ?_
  case hy16 =>
    intro wz hSz
    go_simp
    try rfl
  refine wpAnyH_done (by kernel_rfl) ?_ _
  clear hra hrb hap hb1 hcu hq hq2 hd0 hd2 HS hw1 hw2 hne HH1
  obtain ⟨W3, hW3⟩ : ∃ W3, W3 = w1.setCell ⟨M, 2, none⟩ (.slice ba r.length bc) := ⟨_, rfl⟩
  have hsz := HB2.out.size
  have HB3 : Hid (Below M W1 W3) := by rw [hW3]; exact (HB2.out.mono (Nat.le_of_lt hlt1)).setCell (p := ⟨M, 2, none⟩) (Nat.le_refl _) _
  have h3 : Mh M room n r (.slice ba r.length bc) W3 := by rw [hW3]; exact HH2.out.setV rfl (HBR.out.mono (by omega)) (by omega)
  have HA3 : Hid (RowI W1.heap.size W3 (.slice aa o.length ac) o) := by rw [hW3]; exact HA.out.of_blocks (fun k e => Below.heap_setCell _ _ _ _ (by show k ≠ M; have := (HA.out.low e).1; omega))
  have HH3 : Hid (Mh M room n r (.slice ba r.length bc) W3) := h3
  have hf2 := HH2.out.fz 2
  have hd2 := h3.c2
  have hf3 := h3.fz 2
  have hlt3 := h3.lt
  have hcA : (W3.alloc (.cells #[.int .i64 nr] 3)).cell? ⟨M, 2, none⟩ = some (.slice ba r.length bc) := (World.cell?_of_block (a := ⟨M, 2, none⟩) (Below.heap_alloc W3 _ _ hlt3)).trans hd2
  have HO : Hid (Rds (fun _ => True) (W3.alloc (.cells #[.int .i64 nr] 3)) (.slice (some ⟨W3.heap.size, 0, none⟩) 1 1) [nr]) := one_rds W3 nr
  have HW : Hid (W3 = w1.setCell ⟨M, 2, none⟩ (.slice ba r.length bc)) := hW3
  have HAP2 : Hid (Apart (.slice ba r.length bc) (.slice aa o.length ac)) := HAP.out.symm
  clear h3 hW3
  simp only [Act.put, List.setIfInBounds_toArray, List.set_cons_zero, List.set_cons_succ]
  go_upto_region 10 with fail
  rw [← HW.out]
  clear HW hf2 HS1 HH2 HA HBR HAP
  go_wp2_with (first | (at_builtin; refine wpList_append_rows rfl (.tmp 53) (.tmp 55) rfl (M + 1) (fun _ => True) (.slice ba r.length bc) (.slice (some ⟨W3.heap.size, 0, none⟩) 1 1) r [nr] rfl rfl (HH3.out.row.alloc _) HO.out (by simp; omega) (by simp; omega) ?_; intro v2 w2 hown2 hgr2 hat2; have hM := HH3.out.more hgr2 hown2 hdl; have hA4 := two_grow (HA3.out.alloc (.cells #[.int .i64 nr] 3)) HAP2.out hgr2 (by simpa using hat2); obtain ⟨hM1, hM2, hM3⟩ := hM; have HM1 : Hid (Mh M room n (r ++ [nr]) v2 (w2.setCell ⟨M, 2, none⟩ v2)) := hM1; have HM2 : Hid (Below M W3 (w2.setCell ⟨M, 2, none⟩ v2)) := hM2; have HA4 : Hid (RowI W1.heap.size w2 (.slice aa o.length ac) o) := hA4.1; have hz2 := (World.frozen?_of_block (a := ⟨M, 2, none⟩) hM3).trans hf3; have hcm := (World.cell?_of_block (a := ⟨M, 2, none⟩) hM3).trans hd2; obtain ⟨a2, k2, rfl⟩ := hown2.shape; simp only [List.length_append, List.length_singleton] at *; clear hown2 hgr2 hat2 hM1 hM2 hM3 hA4))
  go_ret
  exact ⟨⟨_, rfl, (HA4.out.over hlt1).set _⟩, ⟨_, HM1.out⟩, (HB1.out.trans HB3.out).trans HM2.out⟩

theorem refPut_any (M room : Nat) (nr : Int) (n : Nat) (xs : List Int) (v : Value) (w : World) (h : Mh M room nr xs v w) (hr1 : 1 ≤ room) :
    Calls Tryd.prog 11 #[.pointer (some ⟨M, 0, none⟩), .int .i64 n] w fun e w' => (∃ ov, e = .returned ov ∧ Rds (fun k => M < k) w' ov (putO room nr xs)) ∧ (∃ v', Mh M room n (putR room nr xs) v' w') ∧ Below M w w' := by
  by_cases hn : nr = -1
  · subst hn
    refine (refPut_none M room n xs v w h).mono ?_
    rintro e w' ⟨rfl, hm, hb⟩
    exact ⟨⟨_, rfl, by simp only [putO, true_or, if_true]; exact Rds.nil _ _⟩, ⟨v, by simp only [putR, if_true]; exact hm⟩, hb⟩
  · by_cases hl : xs.length < room
    · refine (refPut_room M room nr n xs v w h hn hl).mono ?_
      rintro e w' ⟨rfl, ⟨v', hm⟩, hb⟩
      exact ⟨⟨_, rfl, by simp only [putO, hl, or_true, if_true]; exact Rds.nil _ _⟩, ⟨v', by simp only [putR, hn, hl, if_false, if_true]; exact hm⟩, hb⟩
    · have hpo : putO room nr xs = xs.take ((xs.length + 1) / 2) := by simp [putO, hn, hl]
      have hpr : putR room nr xs = xs.drop ((xs.length + 1) / 2) ++ [nr] := by simp [putR, hn, hl]
      rw [hpo, hpr]
      exact refPut_full M room nr n xs v w h hn (by have := h.le; omega) hr1
end Go.Proofs.YtiiaocjknpbenaaDoor
