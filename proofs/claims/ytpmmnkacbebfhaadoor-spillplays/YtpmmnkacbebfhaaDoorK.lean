/- The document's Put. -/
import Derived.Test.YtpmmnkacbebfhaaDoorJ
import Derived.BigQuiet
namespace Go.Proofs.YtpmmnkacbebfhaaDoor
open Go.RowKit Go.Deep

theorem step_append_rows {ops : Array Oper} {o : Oper} {a : Act} {w : World} {K : Act → World → Prop} {Q : Exit → Act → World → Prop} {E : Prop} (hgd : o.guard = none) (s x : Operand) (ho : o.op = .call { callee := .builtin .append, args := #[s, x], argTypes := #[28, 28] })
    (B : Nat) (A : Nat → Prop) (v xv : Value) (zs ys : List Int) (hs : a.eval s = v) (hx : a.eval x = xv) (hv : RowI B w v zs) (hxv : Rds A w xv ys) (hb : zs.length + ys.length ≤ 1000) (hB : B ≤ w.heap.size)
    (h : ∀ v' w', RowI B w' v' (zs ++ ys) → w.grownBy w' v.ownBlock → (v'.ownBlock = v.ownBlock ∨ v'.ownBlock = some w.heap.size) → K (a.put o.dst v') w') :
    if Region.wanted o (yielded ops a.tmps) = true then Oper.wp Tryd.prog o a w K Q else E := by
  have hw : Region.wanted o (yielded ops a.tmps) = true := by simp [Region.wanted, hgd]
  rw [if_pos hw]
  obtain ⟨v', w', hr, h2, h3, h4⟩ := run_append_rows o.type hv hxv hb hB
  unfold Oper.wp execOp
  simp only [ho, resolve, invoke, builtin, Sem.run_bind, Sem.run_pure, Result.andThen_ok, List.map_toArray, List.map_cons, List.map_nil, hs, hx, hr]
  exact h v' w' h2 h3 h4

theorem refPut_full (M room : Nat) (xs ys : List Int) (vf vh lv : Value) (A : Nat → Prop) (w : World) (h : Md M room xs vf vh w) (hl : Rds A w lv ys) (hy : ys.length ≤ 9223372036854775000) (hf : 60 < xs.length + ys.length) :
    Calls Tryd.prog 12 #[.pointer (some ⟨M, 0, none⟩), lv] w fun e w' => e = .returned (.bool false) ∧ ∃ q, w' = w.drewN q := by
  have hc1 := h.c1
  have hc2 := h.c2
  have hle := h.le
  have hlen : (xs.take room).length + (xs.drop room).length = xs.length := by simp; omega
  obtain ⟨fa, fc, hvf⟩ := h.f.shape
  obtain ⟨ha, hc, hvh⟩ := h.h.shape
  obtain ⟨a', c', rfl⟩ := hl.shape
  generalize (xs.take room).length = F at *
  generalize (xs.drop room).length = G at *
  subst hvf hvh
  have hgt : (60 : Int) < (F : Int) + (G : Int) + (ys.length : Int) := by omega
  have hgt2 : decide ((60 : Int) < (F : Int) + (G : Int) + (ys.length : Int)) = true := decide_eq_true hgt
  clear h hl
  go_enter Tryd.func12, Tryd.ntmps12
  go_wp2
  go_quiet (fail)
  go_wp2
  go_ret
  exact ⟨rfl, _, rfl⟩

theorem Md.drewN {M room : Nat} {xs : List Int} {vf vh : Value} {w : World} (h : Md M room xs vf vh w) (q : Nat) : Md M room xs vf vh (w.drewN q) := h.of_blocks rfl (fun _ _ => rfl) (fun _ _ => rfl)

theorem Rds.at {A : Nat → Prop} {w : World} {a : Option Addr} {n c : Nat} {xs : List Int} (h : Rds A w (.slice a n c) xs) {k : Nat} (hk : k < xs.length) : ∃ b o, a = some ⟨b, o, none⟩ ∧ A b ∧ b < w.heap.size ∧ w.cell? ⟨b, o + k, none⟩ = some (.int .i64 (xs.getD k 0)) := by
  obtain ⟨a2, c2, hv, _, h⟩ := h
  simp only [Value.slice.injEq] at hv
  obtain ⟨rfl, _, rfl⟩ := hv
  exact h k hk

theorem take_grow {zs : List Int} {x : Int} {room : Nat} (h : zs.length < room) : zs.take room ++ [x] = (zs ++ [x]).take room ∧ (zs ++ [x]).drop room = zs.drop room := by
  rw [List.take_of_length_le (by omega), List.take_of_length_le (by simp; omega), List.drop_eq_nil_of_le (by simp; omega), List.drop_eq_nil_of_le (by omega)]
  exact ⟨rfl, rfl⟩
theorem drop_grow {zs : List Int} {x : Int} {room : Nat} (h : room ≤ zs.length) : zs.drop room ++ [x] = (zs ++ [x]).drop room ∧ (zs ++ [x]).take room = zs.take room := by
  rw [List.drop_append_of_le_length h, List.take_append_of_le_length h]
  exact ⟨rfl, rfl⟩

/-- What Put's loop has come to. -/
structure PutM (M room k : Nat) (xs ys : List Int) (vf vh : Value) (w : World) (vf' vh' : Value) (wr : World) : Prop where
  md : Md M room (xs ++ ys.take k) vf' vh' wr
  nf : Near w.heap.size vf vf'
  nh : Near w.heap.size vh vh'
  kx : Kx (fun j => j = M ∨ vf.ownBlock = some j ∨ vh.ownBlock = some j) w wr

theorem PutM.front {M room k q : Nat} {xs ys : List Int} {vf vh vf' vh' v2 : Value} {w wr w2 : World} {ob : Obj} (hM : PutM M room k xs ys vf vh w vf' vh' wr) (hgr : ((wr.drewN q).alloc ob).grownBy w2 vf'.ownBlock)
    (hat : v2.ownBlock = vf'.ownBlock ∨ v2.ownBlock = some ((wr.drewN q).alloc ob).heap.size) (hR : RowI (M + 1) w2 v2 ((xs ++ ys.take (k + 1)).take room)) (hE : (xs ++ ys.take (k + 1)).drop room = (xs ++ ys.take k).drop room) (hl : (xs ++ ys.take (k + 1)).length ≤ 60) :
    PutM M room (k + 1) xs ys vf vh w v2 vh' (w2.setCell ⟨M, 1, none⟩ v2) := by
  have hlt := hM.md.lt
  have hsz := hM.kx.size
  have hb1 : Below wr.heap.size wr ((wr.drewN q).alloc ob) := ⟨rfl, rfl, rfl, by simp, fun k hk => Below.heap_alloc (wr.drewN q) ob k hk⟩
  have hbk : w2.heap[M]? = wr.heap[M]? := (hgr.block M (by simp; omega) (fun e => by have := (hM.md.f.low e.symm).1; omega)).trans (hb1.block M hlt)
  have hh1 : RowI (M + 1) ((wr.drewN q).alloc ob) vh' ((xs ++ ys.take k).drop room) := hM.md.h.of_blocks (fun _ e => hb1.block _ (hM.md.h.low e).2)
  obtain ⟨hh2, hap⟩ := two_grow hh1 hM.md.ap hgr hat
  refine ⟨hM.md.set1 hbk hR (by rw [hE]; exact hh2) hap hl, fun j e => ?_, hM.nh, ?_⟩
  · rcases hat with h | h
    · exact hM.nf j (h.symm.trans e)
    · rw [h] at e
      simp only [Option.some.injEq] at e
      exact Or.inr (by have := hb1.size; omega)
  · have k2 : Kx (fun j => vf'.ownBlock = some j) ((wr.drewN q).alloc ob) w2 := ⟨hgr.os, hgr.tape, hgr.output, hgr.size, fun j hj hX => hgr.block j hj (fun e => hX e.symm)⟩
    refine ((hM.kx.later hb1).trans k2 (fun j e => ?_)).set (Or.inl (Or.inl rfl)) _ _
    rcases hM.nf j e with h | h
    · exact Or.inl (Or.inr (Or.inl h))
    · exact Or.inr h
theorem PutM.behind {M room k q : Nat} {xs ys : List Int} {vf vh vf' vh' v2 : Value} {w wr w2 : World} {ob : Obj} (hM : PutM M room k xs ys vf vh w vf' vh' wr) (hgr : ((wr.drewN q).alloc ob).grownBy w2 vh'.ownBlock)
    (hat : v2.ownBlock = vh'.ownBlock ∨ v2.ownBlock = some ((wr.drewN q).alloc ob).heap.size) (hR : RowI (M + 1) w2 v2 ((xs ++ ys.take (k + 1)).drop room)) (hE : (xs ++ ys.take (k + 1)).take room = (xs ++ ys.take k).take room) (hl : (xs ++ ys.take (k + 1)).length ≤ 60) :
    PutM M room (k + 1) xs ys vf vh w vf' v2 (w2.setCell ⟨M, 2, none⟩ v2) := by
  have hlt := hM.md.lt
  have hsz := hM.kx.size
  have hb1 : Below wr.heap.size wr ((wr.drewN q).alloc ob) := ⟨rfl, rfl, rfl, by simp, fun k hk => Below.heap_alloc (wr.drewN q) ob k hk⟩
  have hbk : w2.heap[M]? = wr.heap[M]? := (hgr.block M (by simp; omega) (fun e => by have := (hM.md.h.low e.symm).1; omega)).trans (hb1.block M hlt)
  have hh1 : RowI (M + 1) ((wr.drewN q).alloc ob) vf' ((xs ++ ys.take k).take room) := hM.md.f.of_blocks (fun _ e => hb1.block _ (hM.md.f.low e).2)
  obtain ⟨hh2, hap⟩ := two_grow hh1 hM.md.ap.symm hgr hat
  refine ⟨hM.md.setH hbk (by rw [hE]; exact hh2) hR hap.symm hl, hM.nf, fun j e => ?_, ?_⟩
  · rcases hat with h | h
    · exact hM.nh j (h.symm.trans e)
    · rw [h] at e
      simp only [Option.some.injEq] at e
      exact Or.inr (by have := hb1.size; omega)
  · have k2 : Kx (fun j => vh'.ownBlock = some j) ((wr.drewN q).alloc ob) w2 := ⟨hgr.os, hgr.tape, hgr.output, hgr.size, fun j hj hX => hgr.block j hj (fun e => hX e.symm)⟩
    refine ((hM.kx.later hb1).trans k2 (fun j e => ?_)).set (Or.inl (Or.inl rfl)) _ _
    rcases hM.nh j e with h | h
    · exact Or.inl (Or.inr (Or.inr h))
    · exact Or.inr h

set_option maxRecDepth 100000 in
set_option maxHeartbeats 4000000 in
theorem refPut_good (M room : Nat) (xs ys : List Int) (vf vh lv : Value) (w : World) (h : Md M room xs vf vh w) (hl : Rds (fun b => b < M) w lv ys) (hf : xs.length + ys.length ≤ 60) (hr : room ≤ 16) :
    Calls Tryd.prog 12 #[.pointer (some ⟨M, 0, none⟩), lv] w fun e w' => e = .returned (.bool true) ∧ ∃ vf' vh', PutM M room ys.length xs ys vf vh w vf' vh' w' := by
  have HD : Hid (Md M room xs vf vh w) := h
  have hc1 := h.c1
  have hc2 := h.c2
  have hle := h.le
  have hlen : (xs.take room).length + (xs.drop room).length = xs.length := by simp; omega
  obtain ⟨fa, fc, hvf⟩ := h.f.shape
  obtain ⟨ha, hc, hvh⟩ := h.h.shape
  have HLV : Hid (Rds (fun b => b < M) w lv ys) := hl
  obtain ⟨a', c', rfl⟩ := hl.shape
  generalize (xs.take room).length = F at *
  generalize (xs.drop room).length = G at *
  subst hvf hvh
  have hgt : ¬ (60 : Int) < (F : Int) + (G : Int) + (ys.length : Int) := by omega
  have hgt2 : decide ((60 : Int) < (F : Int) + (G : Int) + (ys.length : Int)) = false := decide_eq_false hgt
  clear h hl
  go_enter Tryd.func12, Tryd.ntmps12
  go_wp2
  go_quiet (fail)
  go_wp2
  have HM0 : Hid (∀ q, PutM M room 0 xs ys (.slice fa F fc) (.slice ha G hc) w (.slice fa F fc) (.slice ha G hc) (w.drewN q)) := fun q => ⟨by rw [List.take_zero, List.append_nil]; exact HD.out.drewN q, fun k e => Or.inl e, fun k e => Or.inl e, ⟨rfl, rfl, rfl, Nat.le_refl _, fun _ _ _ => rfl⟩⟩
  clear hc1 hc2 hgt hgt2
  go_loopw [5] (fun s5 wr => ∃ (k : Nat) (vf' vh' : Value), k ≤ ys.length ∧ s5 = .int .i64 k ∧ Hid (PutM M room k xs ys (.slice fa F fc) (.slice ha G hc) w vf' vh' wr)) (fun s5 _ => ys.length - (intOf s5).toNat)
  case atStart => exact ⟨0, _, _, Nat.zero_le _, rfl, HM0.out _⟩
  case round =>
    clear HM0
    obtain ⟨k, vf', vh', hk, rfl, hM⟩ := hrel
    have hc0 := hM.out.md.c0
    have hc1 := hM.out.md.c1
    have hc2 := hM.out.md.c2
    have hfz1 := hM.out.md.fz 1
    have hfz2 := hM.out.md.fz 2
    have hlt := hM.out.md.lt
    have hle2 := hM.out.md.le
    obtain ⟨fa2, fc2, hvf⟩ := hM.out.md.f.shape
    obtain ⟨ha2, hc2', hvh⟩ := hM.out.md.h.shape
    have hF2 : ((xs ++ ys.take k).take room).length = min room (xs.length + k) := by simp; omega
    have hG2 : ((xs ++ ys.take k).drop room).length = xs.length + k - room := by simp; omega
    rw [hF2] at hvf
    rw [hG2] at hvh
    clear hF2 hG2
    by_cases hkl : k < ys.length
    · obtain ⟨b, o, rfl, hbM, hbl, hcc⟩ := HLV.out.at hkl
      have hcx := (World.cell?_of_block (a := ⟨b, o + k, none⟩) (hM.out.kx.block b hbl (by rintro (e | e | e); { omega }; { have := (HD.out.f.low e).1; omega }; { have := (HD.out.h.low e).1; omega }))).trans hcc
      have hT := take_one ys hkl
      have HT : Hid (ys.take (k + 1) = ys.take k ++ [ys.getD k 0]) := hT
      have hkl' : (k : Int) < (ys.length : Int) := by omega
      clear hcc hT
      generalize ys.getD k 0 = x at *
      subst hvf hvh
      have HRf : Hid (RowI (M + 1) wr (.slice fa2 (min room (xs.length + k)) fc2) ((xs ++ ys.take k).take room)) := hM.out.md.f
      have HRh : Hid (RowI (M + 1) wr (.slice ha2 (xs.length + k - room) hc2') ((xs ++ ys.take k).drop room)) := hM.out.md.h
      obtain ⟨F2, hF2⟩ : ∃ F2, F2 = min room (xs.length + k) := ⟨_, rfl⟩
      obtain ⟨G2, hG2⟩ : ∃ G2, G2 = xs.length + k - room := ⟨_, rfl⟩
      rw [← hF2] at HRf hc1 hM
      rw [← hG2] at HRh hc2 hM
      have HO : Hid (∀ q, Rds (fun _ => True) ((wr.drewN q).alloc (.cells #[.int .i64 x] 3)) (.slice (some ⟨(wr.drewN q).heap.size, 0, none⟩) 1 1) [x]) := fun q => one_rds (wr.drewN q) x
      have HL : Hid ((xs ++ ys.take (k + 1)).length ≤ 60) := by show _ ≤ _; simp only [List.length_take, List.length_append]; omega
      by_cases hroom : xs.length + k < room
      · obtain rfl : G2 = 0 := by omega
        have e1 : decide ((F2 : Int) < (room : Int)) = true := decide_eq_true (by omega)
        have e2 : (F2 : Int) < (room : Int) := by omega
        have hF60 : F2 ≤ 60 := by omega
        have hZ : ((xs ++ ys.take k).take room).length + [x].length ≤ 1000 := by simp only [List.length_take, List.length_append, List.length_singleton]; omega
        have hZS : ((xs ++ ys.take k).take room ++ [x]).length = F2 + 1 := by simp only [List.length_take, List.length_append, List.length_singleton]; omega
        have HE : Hid ((xs ++ ys.take k).take room ++ [x] = (xs ++ ys.take (k + 1)).take room ∧ (xs ++ ys.take (k + 1)).drop room = (xs ++ ys.take k).drop room) := by
          show _ ∧ _
          rw [HT.out, ← List.append_assoc]
          exact take_grow (by simp only [List.length_take, List.length_append]; omega)
        have hcA : ∀ q, ((wr.drewN q).alloc (.cells #[.int .i64 x] 3)).cell? ⟨M, 1, none⟩ = some (.slice fa2 F2 fc2) := fun q => (World.cell?_of_block (a := ⟨M, 1, none⟩) (Below.heap_alloc (wr.drewN q) _ _ hlt)).trans hc1
        clear hF2 hG2
        go_wp2
        go_quiet (fail)
        go_wp2
        go_region_law (refine step_append_rows rfl (.tmp 49) (.tmp 54) rfl (M + 1) (fun _ => True) (.slice fa2 F2 fc2) (.slice (some ⟨wr.heap.size, 0, none⟩) 1 1) ((xs ++ ys.take k).take room) [x] (by simp [Act.eval]) (by simp [Act.eval]) ((HRf.out.of_blocks (w' := wr.drewN (nq + 1)) (fun _ _ => rfl)).alloc _) (HO.out (nq + 1)) (by have := hZ; omega) (by simp; omega) ?_; intro v2 w2 hown2 hgr2 hat2; have HR2 : Hid (RowI (M + 1) w2 v2 ((xs ++ ys.take k).take room ++ [x])) := hown2; obtain ⟨a2, k2, rfl⟩ := hown2.shape; rw [hZS] at HR2 hat2 ⊢; have hbk : w2.heap[M]? = wr.heap[M]? := (hgr2.block M (by simp; omega) (fun e => by have := (HRf.out.low e.symm).1; omega)).trans (Below.heap_alloc _ _ _ hlt); have hz2 := (World.frozen?_of_block (a := ⟨M, 1, none⟩) hbk).trans hfz1; have hcm := (World.cell?_of_block (a := ⟨M, 1, none⟩) hbk).trans hc1; clear hown2)
        all_goals
          have hN : Hid (PutM M room (k + 1) xs ys (.slice fa F fc) (.slice ha G hc) w (.slice a2 (F2 + 1) k2) (.slice ha2 0 hc2') (w2.setCell ⟨M, 1, none⟩ (.slice a2 (F2 + 1) k2))) := hM.out.front hgr2 hat2 (by have := HR2.out; rw [HE.out.1] at this; exact this) HE.out.2 HL.out
          clear hgr2 hat2 HR2 hbk hz2 hcm
          go_wp2
          go_roundw
          case rel => exact ⟨k + 1, _, _, by omega, by go_num, hN⟩
          case measure => simp [intOf]; omega
      · have hZ : ((xs ++ ys.take k).drop room).length + [x].length ≤ 1000 := by simp only [List.length_take, List.length_drop, List.length_append, List.length_singleton]; omega
        have hZS : ((xs ++ ys.take k).drop room ++ [x]).length = G2 + 1 := by simp only [List.length_take, List.length_drop, List.length_append, List.length_singleton]; omega
        have HE : Hid ((xs ++ ys.take k).drop room ++ [x] = (xs ++ ys.take (k + 1)).drop room ∧ (xs ++ ys.take (k + 1)).take room = (xs ++ ys.take k).take room) := by
          show _ ∧ _
          rw [HT.out, ← List.append_assoc]
          exact drop_grow (by simp only [List.length_take, List.length_append]; omega)
        have hcA : ∀ q, ((wr.drewN q).alloc (.cells #[.int .i64 x] 3)).cell? ⟨M, 2, none⟩ = some (.slice ha2 G2 hc2') := fun q => (World.cell?_of_block (a := ⟨M, 2, none⟩) (Below.heap_alloc (wr.drewN q) _ _ hlt)).trans hc2
        have hG60 : G2 ≤ 60 := by omega
        by_cases hG0 : G2 = 0
        · have e1 : decide ((F2 : Int) < (room : Int)) = false := decide_eq_false (by omega)
          have e2 : ¬ (F2 : Int) < (room : Int) := by omega
          have e3 : ((G2 : Int) == 0) = true := by simp [hG0]
          clear hG0
          clear hF2 hG2
          go_wp2
          go_quiet (fail)
          go_wp2
          go_region_law (refine step_append_rows rfl (.tmp 62) (.tmp 67) rfl (M + 1) (fun _ => True) (.slice ha2 G2 hc2') (.slice (some ⟨wr.heap.size, 0, none⟩) 1 1) ((xs ++ ys.take k).drop room) [x] (by simp [Act.eval]) (by simp [Act.eval]) ((HRh.out.of_blocks (w' := wr.drewN (nq + 1)) (fun _ _ => rfl)).alloc _) (HO.out (nq + 1)) (by have := hZ; omega) (by simp; omega) ?_; intro v2 w2 hown2 hgr2 hat2; have HR2 : Hid (RowI (M + 1) w2 v2 ((xs ++ ys.take k).drop room ++ [x])) := hown2; obtain ⟨a2, k2, rfl⟩ := hown2.shape; rw [hZS] at HR2 hat2 ⊢; have hbk : w2.heap[M]? = wr.heap[M]? := (hgr2.block M (by simp; omega) (fun e => by have := (HRh.out.low e.symm).1; omega)).trans (Below.heap_alloc _ _ _ hlt); have hz2 := (World.frozen?_of_block (a := ⟨M, 2, none⟩) hbk).trans hfz2; have hcm := (World.cell?_of_block (a := ⟨M, 2, none⟩) hbk).trans hc2; clear hown2)
          all_goals
            have hN : Hid (PutM M room (k + 1) xs ys (.slice fa F fc) (.slice ha G hc) w (.slice fa2 F2 fc2) (.slice a2 (G2 + 1) k2) (w2.setCell ⟨M, 2, none⟩ (.slice a2 (G2 + 1) k2))) := hM.out.behind hgr2 hat2 (by have := HR2.out; rw [HE.out.1] at this; exact this) HE.out.2 HL.out
            clear hgr2 hat2 HR2 hbk hz2 hcm
            go_wp2
            go_roundw
            case rel => exact ⟨k + 1, _, _, by omega, by go_num, hN⟩
            case measure => simp [intOf]; omega
        · have e3 : ((G2 : Int) == 0) = false := by simp [hG0]
          clear hF2 hG2
          go_wp2
          go_quiet (fail)
          go_wp2
          go_region_law (refine step_append_rows rfl (.tmp 62) (.tmp 67) rfl (M + 1) (fun _ => True) (.slice ha2 G2 hc2') (.slice (some ⟨wr.heap.size, 0, none⟩) 1 1) ((xs ++ ys.take k).drop room) [x] (by simp [Act.eval]) (by simp [Act.eval]) ((HRh.out.of_blocks (w' := wr.drewN (nq + 1)) (fun _ _ => rfl)).alloc _) (HO.out (nq + 1)) (by have := hZ; omega) (by simp; omega) ?_; intro v2 w2 hown2 hgr2 hat2; have HR2 : Hid (RowI (M + 1) w2 v2 ((xs ++ ys.take k).drop room ++ [x])) := hown2; obtain ⟨a2, k2, rfl⟩ := hown2.shape; rw [hZS] at HR2 hat2 ⊢; have hbk : w2.heap[M]? = wr.heap[M]? := (hgr2.block M (by simp; omega) (fun e => by have := (HRh.out.low e.symm).1; omega)).trans (Below.heap_alloc _ _ _ hlt); have hz2 := (World.frozen?_of_block (a := ⟨M, 2, none⟩) hbk).trans hfz2; have hcm := (World.cell?_of_block (a := ⟨M, 2, none⟩) hbk).trans hc2; clear hown2)
          all_goals
            have hN : Hid (PutM M room (k + 1) xs ys (.slice fa F fc) (.slice ha G hc) w (.slice fa2 F2 fc2) (.slice a2 (G2 + 1) k2) (w2.setCell ⟨M, 2, none⟩ (.slice a2 (G2 + 1) k2))) := hM.out.behind hgr2 hat2 (by have := HR2.out; rw [HE.out.1] at this; exact this) HE.out.2 HL.out
            clear hgr2 hat2 HR2 hbk hz2 hcm
            go_wp2
            go_roundw
            case rel => exact ⟨k + 1, _, _, by omega, by go_num, hN⟩
            case measure => simp [intOf]; omega
    · have hkl' : ¬ (k : Int) < (ys.length : Int) := by omega
      obtain rfl : k = ys.length := by omega
      go_wp2
      go_ret
      exact ⟨rfl, _, _, hM.out⟩
end Go.Proofs.YtpmmnkacbebfhaaDoor
