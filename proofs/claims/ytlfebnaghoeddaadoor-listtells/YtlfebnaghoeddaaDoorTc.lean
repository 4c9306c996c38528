/- A row that is filled while all else stays; what is read of a plan and its order; the document's Tails. -/
import Derived.Test.YtlfebnaghoeddaaDoorDj
import Derived.Test.YtlfebnaghoeddaaDoorRa
import Derived.Test.YtlfebnaghoeddaaDoorDh
import Derived.BigRegion
namespace Go.Proofs.YtlfebnaghoeddaaDoor

section
open Go.RowKit Go.Deep

/-- A row of numbers in block N; every other block that was there stays as it was. -/
structure RMem (N n : Nat) (w1 wr : World) (f : Nat → Int) : Prop where
  row : wr.rowIs N 3 n (intRow f)
  below : Below N w1 wr
  blk : ∀ k, k < w1.heap.size → k ≠ N → wr.heap[k]? = w1.heap[k]?
theorem RMem.cell {N n : Nat} {w1 wr : World} {f : Nat → Int} (h : RMem N n w1 wr f) {p : Addr} (hp : p.block < w1.heap.size) (hN : p.block ≠ N) : wr.cell? p = w1.cell? p := World.cell?_of_block (h.blk p.block hp hN)
theorem RMem.trans {N n : Nat} {w1 w2 wr : World} {f g : Nat → Int} (h : RMem N n w1 w2 f) (k : RMem N n w2 wr g) : RMem N n w1 wr g :=
  ⟨k.row, h.below.trans k.below, fun j hj hN => (k.blk j (Nat.lt_of_lt_of_le hj h.below.size) hN).trans (h.blk j hj hN)⟩
theorem RMem.start {N n : Nat} {w : World} {f : Nat → Int} (h : w.rowIs N 3 n (intRow f)) : RMem N n w w f := ⟨h, Below.refl _ _, fun _ _ _ => rfl⟩
theorem RMem.alloc {N n : Nat} {w1 wr : World} {f : Nat → Int} (h : RMem N n w1 wr f) (o : Obj) : RMem N n w1 (wr.alloc o) f :=
  ⟨h.row.alloc o, h.below.alloc (Nat.le_of_lt h.row.lt) o, fun k hk hN => (blk_alloc_lt _ _ _ (Nat.lt_of_lt_of_le hk h.below.size)).trans (h.blk k hk hN)⟩
theorem RMem.set {N n x : Nat} {w1 wr : World} {f : Nat → Int} (h : RMem N n w1 wr f) (v : Int) : RMem N n w1 (wr.setCell ⟨N, x, none⟩ (.int .i64 v)) (upd f x v) :=
  ⟨row_upd h.row, h.below.setCell (p := ⟨N, x, none⟩) (Nat.le_refl _) _, fun k hk hN => (Below.heap_setCell wr ⟨N, x, none⟩ (.int .i64 v) k (by show k ≠ N; exact hN)).trans (h.blk k hk hN)⟩
theorem RMem.drew {N n : Nat} {w1 wr : World} {f : Nat → Int} (h : RMem N n w1 wr f) : RMem N n w1 wr.drew f := ⟨h.row.drew, h.below.drew, h.blk⟩
theorem RMem.drewN {N n : Nat} {w1 wr : World} {f : Nat → Int} (h : RMem N n w1 wr f) (q : Nat) : RMem N n w1 (wr.drewN q) f := ⟨h.row.of_block rfl, below_drewN h.below q, h.blk⟩
end

section
open Go.RowKit Go.Deep

/-- What is read of a plan and of its order while a row in block N is filled. -/
structure Reads (ts : List (Int × List Int)) (ord : List Nat) (N : Nat) (w1 : World) (a oa : Option Addr) : Prop where
  ordr : ∀ m, m < ts.length → ∃ b o, oa = some ⟨b, o, none⟩ ∧ b < w1.heap.size ∧ b ≠ N ∧ w1.cell? ⟨b, o + m, none⟩ = some (.int .i64 (ord.getD m 0 : Nat))
  plan : ∀ k, k < ts.length → ∃ b o nv, a = some ⟨b, o, none⟩ ∧ b < N ∧ w1.cell? ⟨b, o + k * 2, none⟩ = some (.int .i64 (wkOf ts k)) ∧ w1.cell? ⟨b, o + k * 2 + 1, none⟩ = some nv ∧
    ∃ na nc, nv = .slice na (needsOf ts k).length nc ∧ (needsOf ts k).length * 8 ≤ 140737488351232 ∧ ∀ j, j < (needsOf ts k).length → ∃ nb no, na = some ⟨nb, no, none⟩ ∧ nb < N ∧ w1.cell? ⟨nb, no + j, none⟩ = some (.int .i64 ((needsOf ts k).getD j 0))

theorem Reads.of {ts : List (Int × List Int)} {ord : List Nat} {w w0 w1 : World} {a oa : Option Addr} {c oc n : Nat} (hp : PlanAt w (.slice a n c) ts) (hB : Below w.heap.size w w1) (hlen : ord.length = ts.length)
    (hi : IntsAt w1 (.slice oa ord.length oc) (intsOf ord)) (hf : ∀ j, (Value.slice oa ord.length oc).ownBlock = some j → w0.heap.size ≤ j) (h0 : w.heap.size < w0.heap.size) : Reads ts ord w.heap.size w1 a oa := by
  obtain ⟨_, a', c', hva, hpc⟩ := hp
  obtain ⟨rfl, -, rfl⟩ : a = a' ∧ True ∧ c = c' := by simp at hva; exact ⟨hva.1, trivial, hva.2.2⟩
  obtain ⟨_, oa', oc', hvo, hoc⟩ := hi
  obtain rfl : oa = oa' := by simp at hvo; exact hvo.1
  rw [intsOf_length, hlen] at hoc
  refine ⟨fun m hm => ?_, fun k hk => ?_⟩
  · rcases hoc with h | ⟨b, o, h1, h2, h3⟩
    · have := congrArg List.length h
      rw [intsOf_length, hlen, List.length_nil] at this
      omega
    · have := hf b (by rw [h1]; rfl)
      exact ⟨b, o, h1, h2, by omega, by have := h3 m hm; rwa [intsOf_getD] at this⟩
  · rcases hpc with h | ⟨b, o, h1, h2, h3⟩
    · subst h; simp at hk
    · obtain ⟨g1, nv, g2, hl2, na, nc, rfl, g3⟩ := h3 k hk
      refine ⟨b, o, _, h1, h2, (hB.cell (p := ⟨b, o + k * 2, none⟩) h2).trans g1, (hB.cell (p := ⟨b, o + k * 2 + 1, none⟩) h2).trans g2, na, nc, rfl, hl2, fun j hj => ?_⟩
      rcases g3 with g3 | ⟨nb, no, e1, e2, e3⟩
      · rw [g3] at hj; simp at hj
      · exact ⟨nb, no, e1, e2, (hB.cell (p := ⟨nb, no + j, none⟩) e2).trans (e3 j hj)⟩
end

section
open Go.RowKit Go.Deep

theorem tailAll_low {ts : List (Int × List Int)} {ord : List Nat} (hd : Ready ts ord) : ∀ m, m ≤ ord.length → ∀ y, 0 ≤ tailAll ts ord m y ∧ tailAll ts ord m y ≤ 20 * m := by
  intro m
  induction m with
  | zero => intro _ y; exact ⟨Int.le_refl _, Int.le_refl _⟩
  | succ m ih =>
    intro hm y
    have := tailIn_low hd.rng hd.wk (hd.lt (ord.length - 1 - m) (by omega)) (ih (by omega)) (needsOf ts (ord.getD (ord.length - 1 - m) 0)).length (Nat.le_refl _) y
    refine ⟨this.1, ?_⟩
    have h2 := this.2
    show tailIn ts _ _ _ y ≤ _
    push_cast
    omega

set_option maxRecDepth 100000 in
set_option maxHeartbeats 8000000 in
theorem tailsR_any (v : Value) (ts : List (Int × List Int)) (w : World) (hp : PlanAt w v ts) (hck : CheckIs ts 0 0) :
    Calls Tryd.prog 21 #[v] w fun e w' => (∃ ord rv, OrdIs ts ord ∧ e = .returned rv ∧ IntsAt w' rv (listOf (tailsOf ts ord) ts.length)) ∧ Below w.heap.size w w' := by
  have HP : Hid (PlanAt w v ts) := hp
  have HCK : Hid (CheckIs ts 0 0) := hck
  have hB0 : Below w.heap.size w (w.alloc (.cells (madeCells #[.int .i64 0] ts.length) 3)) := (Below.refl _ _).alloc (Nat.le_refl _) _
  have hord := orderR_any v ts _ (hp.later hB0) hck
  obtain ⟨hl, a, c, rfl, hp⟩ := hp
  clear hp hck
  have hmk := fun wx => run_make_row' (P := Tryd.prog) 24 3 (.int .i64 0) 8 Tryd.underlying24 Tryd.info3 rfl .i64 .i64 ts.length (by omega) (by omega) wx
  go_enter Tryd.func21, Tryd.ntmps21
  go_wp2_with fail
  refine hord.mono ?_
  rintro e w1 ⟨⟨ov, ord, rfl, ho, hi, hf⟩, hb1⟩
  clear hord
  have hd := Ready.of HCK.out ho
  have HD : Hid (Ready ts ord) := hd
  have HO : Hid (OrdIs ts ord) := ho
  have h30 := hd.small
  have hlen := hd.len
  have hB1 : Below w.heap.size w w1 := hB0.trans (hb1.mono hB0.size)
  have hrow1 : w1.rowIs w.heap.size 3 ts.length (intRow (tailAll ts ord 0)) := ((World.rowIs_made w (.int .i64 0) ts.length 3).congr (fun k _ => rfl)).of_block (hb1.block _ (by simp))
  obtain ⟨oa, oc, rfl⟩ : ∃ oa oc, ov = .slice oa ord.length oc := by
    obtain ⟨_, x, y, h, _⟩ := hi
    rw [intsOf_length] at h
    exact ⟨x, y, h⟩
  have HRD : Hid (Reads ts ord w.heap.size w1 a oa) := Reads.of HP.out hB1 hlen hi hf (by simp)
  clear hi hf ho hd hb1 hB0
  have HM : Hid (RMem w.heap.size ts.length w1 w1 (tailAll ts ord 0)) := RMem.start hrow1
  clear hrow1 hmk
  rw [hlen]
  go_wp2
  go_loopw [5] (fun s5 wr => ∃ m : Nat, m ≤ ts.length ∧ s5 = .int .i64 ((ts.length : Int) - 1 - (m : Int)) ∧ Hid (RMem w.heap.size ts.length w1 wr (tailAll ts ord m))) (fun s5 _ => (intOf s5 + 1).toNat)
  case atStart => exact ⟨0, Nat.zero_le _, by simp, HM⟩
  case round =>
    clear HM
    obtain ⟨m, hm, rfl, hM⟩ := hrel
    by_cases hml : m < ts.length
    · obtain ⟨q, hq⟩ : ∃ q : Nat, q = ts.length - 1 - m := ⟨_, rfl⟩
      have hqi : (ts.length : Int) - 1 - (m : Int) = (q : Int) := by omega
      have hql : q < ts.length := by omega
      obtain ⟨ob, oo, rfl, hob, hobN, hocell⟩ := HRD.out.ordr q hql
      have hxl := HD.out.lt q (by omega)
      obtain ⟨pb, po, nv, rfl, hpb, hp1, hp2, na, nc, rfl, hln, hnc⟩ := HRD.out.plan (ord.getD q 0) hxl
      have HNC : Hid (∀ j, j < (needsOf ts (ord.getD q 0)).length → ∃ nb no, na = some ⟨nb, no, none⟩ ∧ nb < w.heap.size ∧ w1.cell? ⟨nb, no + j, none⟩ = some (.int .i64 ((needsOf ts (ord.getD q 0)).getD j 0))) := hnc
      have HX : Hid (∀ k, tailIn ts (ord.getD q 0) (tailAll ts ord m) (k + 1) = upd (tailIn ts (ord.getD q 0) (tailAll ts ord m) k) (nd ts (ord.getD q 0) k) (max (tailIn ts (ord.getD q 0) (tailAll ts ord m) k (nd ts (ord.getD q 0) k)) (tailIn ts (ord.getD q 0) (tailAll ts ord m) k (ord.getD q 0)))) := fun k => rfl
      have hlow := tailAll_low HD.out m (by omega)
      have HXB : Hid (∀ k, k ≤ (needsOf ts (ord.getD q 0)).length → ∀ y, 0 ≤ tailIn ts (ord.getD q 0) (tailAll ts ord m) k y ∧ tailIn ts (ord.getD q 0) (tailAll ts ord m) k y ≤ 620) := fun k hk y => by
        have := tailIn_low HD.out.rng HD.out.wk hxl hlow k hk y
        omega
      have HXE : Hid (tailIn ts (ord.getD q 0) (tailAll ts ord m) (needsOf ts (ord.getD q 0)).length = tailAll ts ord (m + 1)) := by show tailIn _ _ _ _ = _; rw [hq, ← hlen]; rfl
      have HX0 : Hid (tailIn ts (ord.getD q 0) (tailAll ts ord m) 0 = upd (tailAll ts ord m) (ord.getD q 0) (tailAll ts ord m (ord.getD q 0) + wkOf ts (ord.getD q 0))) := rfl
      have hrng : Hid (∀ k, k < (needsOf ts (ord.getD q 0)).length → nd ts (ord.getD q 0) k < ts.length ∧ (needsOf ts (ord.getD q 0)).getD k 0 = (nd ts (ord.getD q 0) k : Nat)) := fun k hk => by
        have := need_at HD.out.rng hxl hk
        exact ⟨this.1, (Int.toNat_of_nonneg this.2.2).symm⟩
      rw [hqi]
      have HQ : Hid (q = ts.length - 1 - m) := hq
      have HQI : Hid ((ts.length : Int) - 1 - (m : Int) = (q : Int)) := hqi
      clear hnc hq hqi
      have hlx := hlow (ord.getD q 0)
      have hwx := HD.out.wk _ hxl
      clear hlow
      generalize ord.getD q 0 = x at *
      generalize tailIn ts x (tailAll ts ord m) = TK at *
      have hN1 : w.heap.size ≤ w1.heap.size := hB1.size
      have ho' := (hM.out.cell (p := ⟨ob, oo + q, none⟩) hob hobN).trans hocell
      have hp1' := (hM.out.cell (p := ⟨pb, po + x * 2, none⟩) (by show pb < _; omega) (by show pb ≠ _; omega)).trans hp1
      have hcx := hM.out.row.cell hxl
      have hfx := hM.out.row.frozen x
      unfold intRow at hcx
      have hM1 : Hid (RMem w.heap.size ts.length w1 (wr.setCell ⟨w.heap.size, x, none⟩ (.int .i64 (tailAll ts ord m x + wkOf ts x))).drew (TK 0)) := by
        show RMem _ _ _ _ _
        rw [HX0.out]
        exact (hM.out.set _).drew
      clear HX0
      generalize tailAll ts ord m x = tx at *
      generalize hwx' : wkOf ts x = wx at *
      clear hwx'
      have htx : 0 ≤ tx + wx ∧ tx + wx ≤ 640 := by omega
      go_wp2
      go_region
      clear ho' hp1' hcx hfx hM
      obtain ⟨W2, hW2⟩ : ∃ W2, (wr.setCell ⟨w.heap.size, x, none⟩ (.int .i64 (tx + wx))).drew = W2 := ⟨_, rfl⟩
      rw [hW2] at hM1 ⊢
      clear hW2
      have ho2 := (hM1.out.cell (p := ⟨ob, oo + q, none⟩) hob hobN).trans hocell
      have hp12 := (hM1.out.cell (p := ⟨pb, po + x * 2, none⟩) (by show pb < _; omega) (by show pb ≠ _; omega)).trans hp1
      have hp22 := (hM1.out.cell (p := ⟨pb, po + x * 2 + 1, none⟩) (by show pb < _; omega) (by show pb ≠ _; omega)).trans hp2
      have hMa : Hid (RMem w.heap.size ts.length w1 (W2.alloc (.cells #[.int .i64 wx, .slice na (needsOf ts x).length nc] 51)) (TK 0)) := hM1.out.alloc _
      have hbox : (W2.alloc (.cells #[.int .i64 wx, .slice na (needsOf ts x).length nc] 51)).cell? ⟨W2.heap.size, 1, none⟩ = some (.slice na (needsOf ts x).length nc) := by
        unfold World.cell?
        dsimp only
        rw [blk_alloc_new]
        rfl
      have hxN : w.heap.size ≠ W2.heap.size := by have := hM1.out.row.lt; omega
      have hpbr : pb < W2.heap.size := by have := hM1.out.below.size; omega
      have hobr : ob < W2.heap.size := by have := hM1.out.below.size; omega
      go_wp2
      clear ho2 hp12 hp22 hM1
      obtain ⟨W, hW⟩ : ∃ W, W = W2.alloc (.cells #[.int .i64 wx, .slice na (needsOf ts x).length nc] 51) := ⟨_, rfl⟩
      obtain ⟨B6, hB6⟩ : ∃ B6, B6 = W2.heap.size := ⟨_, rfl⟩
      have hBW : B6 < W.heap.size := by rw [hW, hB6]; simp
      rw [← hW] at hMa hbox ⊢
      rw [← hB6] at hbox hxN ⊢
      clear hW hB6 hpbr hobr
      go_loopw [7] (fun s7 wr => ∃ k : Nat, k ≤ (needsOf ts x).length ∧ s7 = .int .i64 k ∧ Hid (RMem w.heap.size ts.length W wr (TK k))) (fun s7 _ => (needsOf ts x).length - (intOf s7).toNat)
      case atStart => exact ⟨0, Nat.zero_le _, rfl, RMem.start hMa.out.row⟩
      case round =>
        obtain ⟨k, hk, rfl, hM⟩ := hrel
        have hboxr := (hM.out.cell (p := ⟨B6, 1, none⟩) hBW (by show B6 ≠ _; exact fun e => hxN e.symm)).trans hbox
        by_cases hkl : k < (needsOf ts x).length
        · obtain ⟨nb, no, rfl, hnb, hnc⟩ := HNC.out k hkl
          obtain ⟨hyl, hyn⟩ := hrng.out k hkl
          have hMM := hMa.out.trans hM.out
          have hnk := (hMM.cell (p := ⟨nb, no + k, none⟩) (by show nb < _; omega) (by show nb ≠ _; omega)).trans hnc
          rw [hyn] at hnk
          have hst := HX.out k
          have hcx := hM.out.row.cell hxl
          have hcy := hM.out.row.cell hyl
          have hfy := hM.out.row.frozen (nd ts x k)
          have hok := (hMM.cell (p := ⟨ob, oo + q, none⟩) hob hobN).trans hocell
          have HST : Hid (TK (k + 1) = upd (TK k) (nd ts x k) (max (TK k (nd ts x k)) (TK k x))) := hst
          clear hnc hyn hst hMM
          unfold intRow at hcx hcy
          generalize hRx : TK k x = rx at *
          generalize hRy : TK k (nd ts x k) = ry at *
          generalize nd ts x k = y at *
          have HRY : Hid (TK k y = ry) := hRy
          clear hRx hRy
          by_cases hgt : ry < rx
          · have HMX : Hid (max ry rx = rx) := Int.max_eq_right (by omega)
            go_wp2
            go_quiet (fail)
            go_wp2
            go_region
            go_wp2
            go_roundw
            case rel =>
              refine ⟨k + 1, by omega, by go_num, ?_⟩
              show RMem _ _ _ _ _
              rw [HST.out, HMX.out]
              exact (hM.out.drewN _).set _
            case measure => simp [intOf]; omega
          · have HMX : Hid (max ry rx = ry) := Int.max_eq_left (by omega)
            go_wp2
            go_quiet (fail)
            go_wp2
            go_roundw
            case rel =>
              refine ⟨k + 1, by omega, by go_num, ?_⟩
              show RMem _ _ _ _ _
              rw [HST.out, HMX.out, ← HRY.out, upd_self]
              exact hM.out.drewN _
            case measure => simp [intOf]; omega
        · have hke : k = (needsOf ts x).length := by omega
          have HK : Hid (k = (needsOf ts x).length) := hke
          clear hke
          go_wp2
          go_roundw
          case rel => exact ⟨m + 1, by omega, by rw [← HQI.out]; go_num, by have := hMa.out.trans hM.out; rw [HK.out, HXE.out] at this; exact this⟩
          case measure => simp [intOf]
    · have hme : m = ts.length := by omega
      have HME : Hid (m = ts.length) := hme
      have hneg : (ts.length : Int) - 1 - (m : Int) = -1 := by omega
      rw [hneg]
      clear hme hneg
      go_wp2
      go_ret
      have hr := hM.out.row
      rw [HME.out] at hr
      exact ⟨⟨ord, _, HO.out, rfl, row_ints (by unfold tailsOf; rw [hlen]; exact hr) (by omega)⟩, hB1.trans hM.out.below⟩
end
end Go.Proofs.YtlfebnaghoeddaaDoor
