/- The document's own spill in memory; its Get. -/
import Derived.Test.YtpmmnkacbebfhaaDoorG
import Derived.Deep.RegionLaw
namespace Go.Proofs.YtpmmnkacbebfhaaDoor
open Go.RowKit Go.Deep

/-- What is kept: all blocks but those of X, and new ones. -/
structure Kx (X : Nat → Prop) (w w' : World) : Prop where
  os : w'.os = w.os
  tape : w'.tape = w.tape
  output : w'.output = w.output
  size : w.heap.size ≤ w'.heap.size
  block : ∀ k, k < w.heap.size → ¬ X k → w'.heap[k]? = w.heap[k]?
theorem Kx.refl (X : Nat → Prop) (w : World) : Kx X w w := ⟨rfl, rfl, rfl, Nat.le_refl _, fun _ _ _ => rfl⟩
theorem Kx.trans {X Y : Nat → Prop} {a b c : World} (h : Kx X a b) (k : Kx Y b c) (hY : ∀ j, Y j → X j ∨ a.heap.size ≤ j) : Kx X a c :=
  ⟨k.os.trans h.os, k.tape.trans h.tape, k.output.trans h.output, Nat.le_trans h.size k.size, fun i hi hX => by
    refine (k.block i (Nat.lt_of_lt_of_le hi h.size) (fun e => ?_)).trans (h.block i hi hX)
    rcases hY i e with h1 | h1
    · exact hX h1
    · omega⟩
theorem Kx.later {X : Nat → Prop} {w w1 w2 : World} (h : Kx X w w1) (hb : Below w1.heap.size w1 w2) : Kx X w w2 :=
  h.trans (Y := fun _ => False) ⟨hb.os, hb.tape, hb.output, hb.size, fun k hk _ => hb.block k hk⟩ (fun _ e => e.elim)
theorem Below.kx {X : Nat → Prop} {w w' : World} (h : Below w.heap.size w w') : Kx X w w' := ⟨h.os, h.tape, h.output, h.size, fun k hk _ => h.block k hk⟩
theorem Kx.set {X : Nat → Prop} {w0 w : World} (h : Kx X w0 w) {M : Nat} (hM : X M ∨ w0.heap.size ≤ M) (j : Nat) (u : Value) : Kx X w0 (w.setCell ⟨M, j, none⟩ u) :=
  h.trans (Y := fun k => k = M) ⟨rfl, rfl, rfl, by simp, fun k _ hk => Below.heap_setCell _ _ _ _ (by show k ≠ M; exact hk)⟩ (fun j e => by rw [e]; exact hM)
theorem Kx.below {X : Nat → Prop} {B : Nat} {w w' : World} (h : Kx X w w') (hX : ∀ j, X j → B ≤ j) (hB : B ≤ w.heap.size) : Below B w w' :=
  ⟨h.os, h.tape, h.output, h.size, fun k hk => h.block k (by omega) (fun e => by have := hX k e; omega)⟩
theorem Ks.kx {S : Nat} {o : Option Nat} {w w' : World} (h : Ks S o w w') : Kx (fun k => k = S ∨ o = some k) w w' :=
  ⟨h.os, h.tape, h.output, h.size, fun k hk hX => h.block k hk (fun e => hX (Or.inl e)) (fun e => hX (Or.inr e))⟩

/-- The document's spill lies in block M: as many in front as there is room for, the others behind. -/
structure Md (M room : Nat) (xs : List Int) (vf vh : Value) (w : World) : Prop where
  cells : w.heap[M]? = some (.cells #[.int .i64 room, vf, vh] 36 (0, 0))
  f : RowI (M + 1) w vf (xs.take room)
  h : RowI (M + 1) w vh (xs.drop room)
  ap : Apart vf vh
  le : xs.length ≤ 60
theorem Md.lt {M room : Nat} {xs : List Int} {vf vh : Value} {w : World} (h : Md M room xs vf vh w) : M < w.heap.size := (Array.getElem?_eq_some_iff.1 h.cells).1
theorem Md.c0 {M room : Nat} {xs : List Int} {vf vh : Value} {w : World} (h : Md M room xs vf vh w) : w.cell? ⟨M, 0, none⟩ = some (.int .i64 room) := by simp [World.cell?, h.cells]
theorem Md.c1 {M room : Nat} {xs : List Int} {vf vh : Value} {w : World} (h : Md M room xs vf vh w) : w.cell? ⟨M, 1, none⟩ = some vf := by simp [World.cell?, h.cells]
theorem Md.c2 {M room : Nat} {xs : List Int} {vf vh : Value} {w : World} (h : Md M room xs vf vh w) : w.cell? ⟨M, 2, none⟩ = some vh := by simp [World.cell?, h.cells]
theorem Md.fz {M room : Nat} {xs : List Int} {vf vh : Value} {w : World} (h : Md M room xs vf vh w) (j : Nat) : w.frozen? ⟨M, j, none⟩ = false := by simp [World.frozen?, h.cells]
theorem Md.of_blocks {M room : Nat} {xs : List Int} {vf vh : Value} {w w' : World} (h : Md M room xs vf vh w) (h1 : w'.heap[M]? = w.heap[M]?) (h2 : ∀ k, vf.ownBlock = some k → w'.heap[k]? = w.heap[k]?) (h3 : ∀ k, vh.ownBlock = some k → w'.heap[k]? = w.heap[k]?) : Md M room xs vf vh w' :=
  ⟨h1.trans h.cells, h.f.of_blocks h2, h.h.of_blocks h3, h.ap, h.le⟩
theorem Md.later {M room : Nat} {xs : List Int} {vf vh : Value} {w w' : World} (h : Md M room xs vf vh w) (hb : Below w.heap.size w w') : Md M room xs vf vh w' :=
  h.of_blocks (hb.block _ h.lt) (fun _ e => hb.block _ (h.f.low e).2) (fun _ e => hb.block _ (h.h.low e).2)
/-- Both its slices are others. -/
theorem Md.set2 {M room : Nat} {xs ys : List Int} {vf vh vc vd : Value} {w w1 : World} (h : Md M room xs vf vh w) (h1 : w1.heap[M]? = w.heap[M]?) (hc : RowI (M + 1) w1 vc (ys.take room)) (hd : RowI (M + 1) w1 vd (ys.drop room)) (hap : Apart vc vd) (hy : ys.length ≤ 60) :
    Md M room ys vc vd ((w1.setCell ⟨M, 1, none⟩ vc).setCell ⟨M, 2, none⟩ vd) := by
  have hM : w1.heap[M]? = some (.cells #[.int .i64 room, vf, vh] 36 (0, 0)) := h1.trans h.cells
  have hM2 : (w1.setCell ⟨M, 1, none⟩ vc).heap[M]? = some (.cells #[.int .i64 room, vc, vh] 36 (0, 0)) := by
    rw [setCell_eq_setRow w1 M 1 _ 36 (0, 0) vc hM, setRow_heap w1 M _ _ 36 _ hM]; rfl
  have hk : ∀ k, M + 1 ≤ k → ((w1.setCell ⟨M, 1, none⟩ vc).setCell ⟨M, 2, none⟩ vd).heap[k]? = w1.heap[k]? := fun k hk =>
    (Below.heap_setCell _ _ _ _ (by show k ≠ M; omega)).trans (Below.heap_setCell _ _ _ _ (by show k ≠ M; omega))
  refine ⟨?_, hc.of_blocks (fun k e => hk k (hc.low e).1), hd.of_blocks (fun k e => hk k (hd.low e).1), hap, hy⟩
  rw [setCell_eq_setRow _ M 2 _ 36 (0, 0) vd hM2, setRow_heap _ M _ _ 36 _ hM2]; rfl
theorem Md.set1 {M room : Nat} {xs ys : List Int} {vf vh vc : Value} {w w1 : World} (h : Md M room xs vf vh w) (h1 : w1.heap[M]? = w.heap[M]?) (hc : RowI (M + 1) w1 vc (ys.take room)) (hd : RowI (M + 1) w1 vh (ys.drop room)) (hap : Apart vc vh) (hy : ys.length ≤ 60) :
    Md M room ys vc vh (w1.setCell ⟨M, 1, none⟩ vc) := by
  have hM : w1.heap[M]? = some (.cells #[.int .i64 room, vf, vh] 36 (0, 0)) := h1.trans h.cells
  have hk : ∀ k, M + 1 ≤ k → (w1.setCell ⟨M, 1, none⟩ vc).heap[k]? = w1.heap[k]? := fun k hk => Below.heap_setCell _ _ _ _ (by show k ≠ M; omega)
  refine ⟨?_, hc.of_blocks (fun k e => hk k (hc.low e).1), hd.of_blocks (fun k e => hk k (hd.low e).1), hap, hy⟩
  rw [setCell_eq_setRow w1 M 1 _ 36 (0, 0) vc hM, setRow_heap w1 M _ _ 36 _ hM]; rfl
theorem Md.setH {M room : Nat} {xs ys : List Int} {vf vh vd : Value} {w w1 : World} (h : Md M room xs vf vh w) (h1 : w1.heap[M]? = w.heap[M]?) (hc : RowI (M + 1) w1 vf (ys.take room)) (hd : RowI (M + 1) w1 vd (ys.drop room)) (hap : Apart vf vd) (hy : ys.length ≤ 60) :
    Md M room ys vf vd (w1.setCell ⟨M, 2, none⟩ vd) := by
  have hM : w1.heap[M]? = some (.cells #[.int .i64 room, vf, vh] 36 (0, 0)) := h1.trans h.cells
  have hk : ∀ k, M + 1 ≤ k → (w1.setCell ⟨M, 2, none⟩ vd).heap[k]? = w1.heap[k]? := fun k hk => Below.heap_setCell _ _ _ _ (by show k ≠ M; omega)
  refine ⟨?_, hc.of_blocks (fun k e => hk k (hc.low e).1), hd.of_blocks (fun k e => hk k (hd.low e).1), hap, hy⟩
  rw [setCell_eq_setRow w1 M 2 _ 36 (0, 0) vd hM, setRow_heap w1 M _ _ 36 _ hM]; rfl

theorem grown_below {w w' : World} {o : Option Nat} {B : Nat} (h : w.grownBy w' o) (ho : ∀ k, o = some k → B ≤ k) (hB : B ≤ w.heap.size) : Below B w w' :=
  ⟨h.os, h.tape, h.output, h.size, fun k hk => h.block k (by omega) (fun e => by have := ho k e.symm; omega)⟩

set_option maxRecDepth 100000 in
set_option maxHeartbeats 2000000 in
theorem refGet_any (M room most : Nat) (xs : List Int) (vf vh : Value) (w : World) (h : Md M room xs vf vh w) (h1 : 1 ≤ most) (h2 : most ≤ 60) (hr : room ≤ 16) :
    Calls Tryd.prog 9 #[.pointer (some ⟨M, 0, none⟩), .int .i64 most] w fun e w' => ∃ ov vf' vh', e = .returned ov ∧ Rds (fun b => w.heap.size ≤ b) w' ov (xs.take most) ∧ Md M room (xs.drop most) vf' vh' w' ∧ Kx (fun k => k = M) w w' ∧ Near w.heap.size vf vf' ∧ Near w.heap.size vh vh' := by
  have HD : Hid (Md M room xs vf vh w) := h
  have hc1 := h.c1
  have hle := h.le
  have hlt := h.lt
  have HF := h.f
  have HH := h.h
  have hcat := List.take_append_drop room xs
  have hfl : (xs.take room).length ≤ 60 := by simp; omega
  have hhl : (xs.drop room).length ≤ 60 := by simp; omega
  generalize xs.take room = fs at *
  generalize xs.drop room = hs at *
  have HCat : Hid (fs ++ hs = xs) := hcat
  obtain ⟨fa, fc, rfl⟩ := HF.shape
  obtain ⟨ha, hc, rfl⟩ := HH.shape
  have HF1 : Hid (RowI (M + 1) w (.slice fa fs.length fc) fs) := HF
  have HH1 : Hid (RowI (M + 1) w (.slice ha hs.length hc) hs) := HH
  have hml : (xs.take most).length = min most xs.length := by simp
  have hdl : (xs.drop most).length ≤ 60 := by simp; omega
  have hdx : xs = [] → xs.drop most = xs := fun e => by subst e; simp
  have hmx : (xs.take most).length = 0 → xs = [] := fun e => by
    rw [hml] at e
    exact List.eq_nil_of_length_eq_zero (by omega)
  obtain ⟨os, hos⟩ : ∃ os, os = xs.take most := ⟨_, rfl⟩
  obtain ⟨rs, hrs⟩ : ∃ rs, rs = xs.drop most := ⟨_, rfl⟩
  rw [← hos] at hml hmx ⊢
  rw [← hrs] at hdl hdx ⊢
  have HOS : Hid (os = xs.take most) := hos
  have HRS : Hid (rs = xs.drop most) := hrs
  have HDX : Hid (xs = [] → rs = xs) := hdx
  have HMX : Hid (os.length = 0 → xs = []) := hmx
  have hol : os.length ≤ 60 := by omega
  clear h HF HH hcat hos hrs hml hdx hmx
  go_enter Tryd.func9, Tryd.ntmps9
  go_wp2_with (first | (at_builtin; refine wpList_append_rows rfl (.tmp 8) (.tmp 12) rfl w.heap.size _ (.slice none 0 0) (.slice fa fs.length fc) [] fs rfl rfl (RowI.nil _ _) HF1.out.rds (by simp; omega) (Nat.le_refl _) ?_; intro v2 w2 hown2 hgr2 hat2; rw [List.nil_append] at hown2; have HB2 : Hid (Below w.heap.size w w2) := grown_below hgr2 (fun k e => by simp [Value.ownBlock] at e) (Nat.le_refl _); have hd2 := HD.out.later HB2.out; have hc2 := hd2.c2; have HR2 : Hid (RowI w.heap.size w2 v2 fs) := hown2; obtain ⟨a2, k2, rfl⟩ := hown2.shape; have HH2 : Hid (RowI (M + 1) w2 (.slice ha hs.length hc) hs) := HH1.out.of_blocks (fun k e => HB2.out.block k (HH1.out.low e).2); clear hown2 hgr2 hat2 hc1 hd2) | (at_builtin; refine wpList_append_rows rfl (.tmp 14) (.tmp 18) rfl w.heap.size _ (.slice a2 fs.length k2) (.slice ha hs.length hc) fs hs rfl rfl HR2.out HH2.out.rds (by omega) HB2.out.size ?_; intro v3 w3 hown3 hgr3 hat3; rw [HCat.out] at hown3; have HB3 : Hid (Below w.heap.size w w3) := HB2.out.trans (grown_below hgr3 (fun k e => (HR2.out.low e).1) HB2.out.size); have hcut := cutting_any _ v3 xs most w3 hown3.rds (by omega); clear hown3 hgr3 hat3 hc2 HH2))
  refine hcut.mono ?_; clear hcut; rintro e w4 ⟨va, vb, rfl, hra, hrb, hap, hb4⟩
  rw [← HOS.out] at hra
  rw [← HRS.out] at hrb
  have HB4 : Hid (Below w.heap.size w w4) := HB3.out.trans (hb4.mono HB3.out.size)
  have HD4 : Hid (Md M room xs (.slice fa fs.length fc) (.slice ha hs.length hc) w4) := HD.out.later HB4.out
  have hc4 := HD4.out.c0
  have HA4 : Hid (RowI w.heap.size w4 va os) := hra.mono HB3.out.size
  have hcut := cutting_any _ vb rs room w4 hrb.rds (by omega)
  obtain ⟨aa, ac, rfl⟩ := hra.shape
  obtain ⟨ba, bc, rfl⟩ := hrb.shape
  clear hra hrb hap hb4
  obtain ⟨L, hL⟩ : ∃ L, L = os.length := ⟨_, rfl⟩
  have HL : Hid (L = os.length) := hL
  rw [← hL] at HA4 ⊢
  clear hL hol
  by_cases h0 : L = 0
  · subst h0
    clear hcut
    go_wp2
    go_ret
    have hx0 := HMX.out HL.out.symm
    have hos0 : os = [] := List.eq_nil_of_length_eq_zero HL.out.symm
    refine ⟨_, _, _, rfl, ?_, ?_, Below.kx HB4.out, fun k e => Or.inl e, fun k e => Or.inl e⟩
    · rw [hos0]; exact ⟨none, 0, rfl, Nat.le_refl _, fun k hk => by simp at hk⟩
    · rw [HDX.out hx0]; exact HD4.out
  · have h0b : ((L : Int) == 0) = false := by simp; omega
    go_wp2_with (first | (go_at_call 14; refine hcut.mono ?_; clear hcut; rintro e w5 ⟨vc, vd, rfl, hrc, hrd, hap, hb5⟩; have HB5 : Hid (Below w.heap.size w w5) := HB4.out.trans (hb5.mono HB4.out.size); have HD5 : Hid (Md M room xs (.slice fa fs.length fc) (.slice ha hs.length hc) w5) := HD.out.later HB5.out; have hm1 := HD5.out.c1; have hm2 := HD5.out.c2; have hz1 := HD5.out.fz 1; have hz2 := HD5.out.fz 2; have HA5 : Hid (RowI w.heap.size w5 (.slice aa L ac) os) := HA4.out.of_blocks (fun k e => hb5.block k (HA4.out.low e).2); have HC5 : Hid (RowI w4.heap.size w5 vc (rs.take room)) := hrc; have HD6 : Hid (RowI w4.heap.size w5 vd (rs.drop room)) := hrd; have HAP : Hid (Apart vc vd) := hap; obtain ⟨ca, cc, rfl⟩ := hrc.shape; obtain ⟨da, dc, rfl⟩ := hrd.shape; clear hrc hrd hap hb5 hc4 HA4))
    go_ret
    have hs4 := HB4.out.size
    have hrc := HC5.out
    have hrd := HD6.out
    have hap := HAP.out
    rw [List.length_take] at hrc hap
    rw [List.length_drop] at hrd hap
    have hro : RowI w.heap.size ((w5.setCell ⟨M, 1, none⟩ (.slice ca (min room rs.length) cc)).setCell ⟨M, 2, none⟩ (.slice da (rs.length - room) dc)) (.slice aa L ac) os := HA5.out.of_blocks (fun k e => (Below.heap_setCell _ _ _ _ (by show k ≠ M; have := (HA5.out.low e).1; omega)).trans (Below.heap_setCell _ _ _ _ (by show k ≠ M; have := (HA5.out.low e).1; omega)))
    exact ⟨_, _, _, rfl, hro.rds.mono (fun b e => (hro.low e).1), HD5.out.set2 rfl (hrc.mono (by omega)) (hrd.mono (by omega)) hap hdl, ((Below.kx (X := fun k => k = M) HB5.out).set (Or.inl rfl) _ _).set (Or.inl rfl) _ _, fun k e => Or.inr (by have := (hrc.low e).1; omega), fun k e => Or.inr (by have := (hrd.low e).1; omega)⟩
end Go.Proofs.YtpmmnkacbebfhaaDoor
