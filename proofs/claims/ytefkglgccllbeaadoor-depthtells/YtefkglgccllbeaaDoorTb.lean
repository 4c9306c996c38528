/- The document's own Ranks. -/
import Derived.Test.YtefkglgccllbeaaDoorTa
namespace Go.Proofs.YtefkglgccllbeaaDoor
open Go.RowKit Go.Deep

/-- What is read of a plan and of its order while a row in block N is filled. -/
structure Reads (ts : List (Int × List Int)) (ord : List Nat) (N : Nat) (w1 : World) (a oa : Option Addr) : Prop where
  ordr : ∀ m, m < ts.length → ∃ b o, oa = some ⟨b, o, none⟩ ∧ b < w1.heap.size ∧ b ≠ N ∧ w1.cell? ⟨b, o + m, none⟩ = some (.int .i64 (ord.getD m 0 : Nat))
  plan : ∀ k, k < ts.length → ∃ b o nv, a = some ⟨b, o, none⟩ ∧ b < N ∧ w1.cell? ⟨b, o + k * 2, none⟩ = some (.int .i64 (wkOf ts k)) ∧ w1.cell? ⟨b, o + k * 2 + 1, none⟩ = some nv ∧
    ∃ na nc, nv = .slice na (needsOf ts k).length nc ∧ (needsOf ts k).length * 8 ≤ 140737488351232 ∧ ∀ j, j < (needsOf ts k).length → ∃ nb no, na = some ⟨nb, no, none⟩ ∧ nb < N ∧ w1.cell? ⟨nb, no + j, none⟩ = some (.int .i64 ((needsOf ts k).getD j 0))

theorem Reads.of {ts : List (Int × List Int)} {ord : List Nat} {w w0 w1 : World} {a oa : Option Addr} {c oc n : Nat} (hp : PlanAt w (.slice a n c) ts) (hB : Below w.heap.size w w1) (hlen : ord.length = ts.length)
    (hi : IntsAt w1 (.slice oa ord.length oc) (intsOf ord)) (hf : ∀ j, (Value.slice oa ord.length oc).ownBlock = some j → w0.heap.size ≤ j) (h0 : w.heap.size < w0.heap.size) : Reads ts ord w.heap.size w1 a oa := by
  obtain ⟨_, a', c', hva, hpc⟩ := hp
  obtain ⟨rfl, -, rfl⟩ : a = a' ∧ True ∧ c = c' := by simp at hva; exact ⟨hva.1, trivial, hva.2.2⟩
  obtain ⟨_, oa', oc', hvo, hoc⟩ := hi
  obtain rfl : oa = oa' := by simp at hvo; exact hvo.1
  rw [intsOf_length, hlen] at hoc
  refine ⟨fun m hm => ?_, fun k hk => ?_⟩
  · rcases hoc with h | ⟨b, o, h1, h2, h3⟩
    · have := congrArg List.length h
      rw [intsOf_length, hlen, List.length_nil] at this
      omega
    · have := hf b (by rw [h1]; rfl)
      exact ⟨b, o, h1, h2, by omega, by have := h3 m hm; rwa [intsOf_getD] at this⟩
  · rcases hpc with h | ⟨b, o, h1, h2, h3⟩
    · subst h; simp at hk
    · obtain ⟨g1, nv, g2, hl2, na, nc, rfl, g3⟩ := h3 k hk
      refine ⟨b, o, _, h1, h2, (hB.cell (p := ⟨b, o + k * 2, none⟩) h2).trans g1, (hB.cell (p := ⟨b, o + k * 2 + 1, none⟩) h2).trans g2, na, nc, rfl, hl2, fun j hj => ?_⟩
      rcases g3 with g3 | ⟨nb, no, e1, e2, e3⟩
      · rw [g3] at hj; simp at hj
      · exact ⟨nb, no, e1, e2, (hB.cell (p := ⟨nb, no + j, none⟩) e2).trans (e3 j hj)⟩

set_option maxRecDepth 100000 in
set_option maxHeartbeats 4000000 in
theorem ranksR_any (v : Value) (ts : List (Int × List Int)) (w : World) (hp : PlanAt w v ts) (hck : CheckIs ts 0 0) :
    Calls Tryd.prog 18 #[v] w fun e w' => (∃ ord rv, OrdIs ts ord ∧ e = .returned rv ∧ IntsAt w' rv (listOf (ranksOf ts ord) ts.length)) ∧ Below w.heap.size w w' := by
  have HP : Hid (PlanAt w v ts) := hp
  have HCK : Hid (CheckIs ts 0 0) := hck
  have hB0 : Below w.heap.size w (w.alloc (.cells (madeCells #[.int .i64 0] ts.length) 3)) := (Below.refl _ _).alloc (Nat.le_refl _) _
  have hord := orderR_any v ts _ (hp.later hB0) hck
  obtain ⟨hl, a, c, rfl, hp⟩ := hp
  clear hp hck
  have hmk := fun wx => run_make_row' (P := Tryd.prog) 28 3 (.int .i64 0) 8 Tryd.underlying28 Tryd.info3 rfl .i64 .i64 ts.length (by omega) (by omega) wx
  go_enter Tryd.func18, Tryd.ntmps18
  go_wp2_with fail
  refine hord.mono ?_
  rintro e w1 ⟨⟨ov, ord, rfl, ho, hi, hf⟩, hb1⟩
  clear hord
  have hd := Ready.of HCK.out ho
  have HD : Hid (Ready ts ord) := hd
  have HO : Hid (OrdIs ts ord) := ho
  have h30 := hd.small
  have hlen := hd.len
  have hB1 : Below w.heap.size w w1 := hB0.trans (hb1.mono hB0.size)
  have hrow1 : w1.rowIs w.heap.size 3 ts.length (intRow (rankAll ts ord 0)) := ((World.rowIs_made w (.int .i64 0) ts.length 3).congr (fun k _ => rfl)).of_block (hb1.block _ (by simp))
  obtain ⟨oa, oc, rfl⟩ : ∃ oa oc, ov = .slice oa ord.length oc := by
    obtain ⟨_, x, y, h, _⟩ := hi
    rw [intsOf_length] at h
    exact ⟨x, y, h⟩
  have HRD : Hid (Reads ts ord w.heap.size w1 a oa) := Reads.of HP.out hB1 hlen hi hf (by simp)
  clear hi hf ho hd hb1 hB0
  have HM : Hid (RMem w.heap.size ts.length w1 w1 (rankAll ts ord 0)) := RMem.start hrow1
  clear hrow1 hmk
  rw [hlen]
  go_wp2
  go_loopw [5] (fun s5 wr => ∃ m : Nat, m ≤ ts.length ∧ s5 = .int .i64 m ∧ Hid (RMem w.heap.size ts.length w1 wr (rankAll ts ord m))) (fun s5 _ => ts.length - (intOf s5).toNat)
  case atStart => exact ⟨0, Nat.zero_le _, rfl, HM⟩
  case round =>
    clear HM
    obtain ⟨m, hm, rfl, hM⟩ := hrel
    by_cases hml : m < ts.length
    · obtain ⟨ob, oo, rfl, hob, hobN, hocell⟩ := HRD.out.ordr m hml
      have hxl := HD.out.lt m (by omega)
      obtain ⟨pb, po, nv, rfl, hpb, hp1, hp2, na, nc, rfl, hln, hnc⟩ := HRD.out.plan (ord.getD m 0) hxl
      have HNC : Hid (∀ j, j < (needsOf ts (ord.getD m 0)).length → ∃ nb no, na = some ⟨nb, no, none⟩ ∧ nb < w.heap.size ∧ w1.cell? ⟨nb, no + j, none⟩ = some (.int .i64 ((needsOf ts (ord.getD m 0)).getD j 0))) := hnc
      have HX : Hid (∀ k, rankIn ts (ord.getD m 0) (rankAll ts ord m) (k + 1) = upd (rankIn ts (ord.getD m 0) (rankAll ts ord m) k) (ord.getD m 0) (max (rankIn ts (ord.getD m 0) (rankAll ts ord m) k (ord.getD m 0)) (rankIn ts (ord.getD m 0) (rankAll ts ord m) k (nd ts (ord.getD m 0) k) + wkOf ts (nd ts (ord.getD m 0) k)))) := fun k => rfl
      have HXB : Hid (∀ k, k ≤ (needsOf ts (ord.getD m 0)).length → ∀ y, 0 ≤ rankIn ts (ord.getD m 0) (rankAll ts ord m) k y ∧ rankIn ts (ord.getD m 0) (rankAll ts ord m) k y ≤ 620) := fun k hk => rank_bound HD.out (by omega) hk
      have HXE : Hid (rankIn ts (ord.getD m 0) (rankAll ts ord m) (needsOf ts (ord.getD m 0)).length = rankAll ts ord (m + 1)) := rfl
      have HX0 : Hid (rankIn ts (ord.getD m 0) (rankAll ts ord m) 0 = rankAll ts ord m) := rfl
      have hrng : Hid (∀ k, k < (needsOf ts (ord.getD m 0)).length → nd ts (ord.getD m 0) k < ts.length ∧ (needsOf ts (ord.getD m 0)).getD k 0 = (nd ts (ord.getD m 0) k : Nat)) := fun k hk => by
        have := need_at HD.out.rng hxl hk
        exact ⟨this.1, (Int.toNat_of_nonneg this.2.2).symm⟩
      clear hnc
      generalize ord.getD m 0 = x at *
      generalize rankIn ts x (rankAll ts ord m) = RK at *
      have hN1 : w.heap.size ≤ w1.heap.size := hB1.size
      have ho' := (hM.out.cell (p := ⟨ob, oo + m, none⟩) hob hobN).trans hocell
      have hp1' := (hM.out.cell (p := ⟨pb, po + x * 2, none⟩) (by show pb < _; omega) (by show pb ≠ _; omega)).trans hp1
      have hp2' := (hM.out.cell (p := ⟨pb, po + x * 2 + 1, none⟩) (by show pb < _; omega) (by show pb ≠ _; omega)).trans hp2
      have hMa : Hid (RMem w.heap.size ts.length w1 (wr.alloc (.cells #[.int .i64 (wkOf ts x), .slice na (needsOf ts x).length nc] 30)) (RK 0)) := by
        show RMem _ _ _ _ _
        rw [HX0.out]
        exact hM.out.alloc _
      have hbox : (wr.alloc (.cells #[.int .i64 (wkOf ts x), .slice na (needsOf ts x).length nc] 30)).cell? ⟨wr.heap.size, 1, none⟩ = some (.slice na (needsOf ts x).length nc) := by
        unfold World.cell?
        dsimp only
        rw [blk_alloc_new]
        rfl
      have hxN : w.heap.size ≠ wr.heap.size := by have := hM.out.row.lt; omega
      have hpbr : pb < wr.heap.size := by have := hM.out.below.size; omega
      have hobr : ob < wr.heap.size := by have := hM.out.below.size; omega
      generalize hwx : wkOf ts x = wx at *
      clear hwx hp1 hp2
      go_wp2
      clear ho' hp1' hp2' hM
      obtain ⟨W, hW⟩ : ∃ W, W = wr.alloc (.cells #[.int .i64 wx, .slice na (needsOf ts x).length nc] 30) := ⟨_, rfl⟩
      obtain ⟨B6, hB6⟩ : ∃ B6, B6 = wr.heap.size := ⟨_, rfl⟩
      have hBW : B6 < W.heap.size := by rw [hW, hB6]; simp
      rw [← hW] at hMa hbox ⊢
      rw [← hB6] at hbox hxN ⊢
      clear hW hB6 hpbr hobr
      go_loopw [7] (fun s7 wr => ∃ k : Nat, k ≤ (needsOf ts x).length ∧ s7 = .int .i64 k ∧ Hid (RMem w.heap.size ts.length W wr (RK k))) (fun s7 _ => (needsOf ts x).length - (intOf s7).toNat)
      case atStart => exact ⟨0, Nat.zero_le _, rfl, RMem.start hMa.out.row⟩
      case round =>
        obtain ⟨k, hk, rfl, hM⟩ := hrel
        have hboxr := (hM.out.cell (p := ⟨B6, 1, none⟩) hBW (by show B6 ≠ _; exact fun e => hxN e.symm)).trans hbox
        by_cases hkl : k < (needsOf ts x).length
        · obtain ⟨nb, no, rfl, hnb, hnc⟩ := HNC.out k hkl
          obtain ⟨hyl, hyn⟩ := hrng.out k hkl
          have hMM := hMa.out.trans hM.out
          have hnk := (hMM.cell (p := ⟨nb, no + k, none⟩) (by show nb < _; omega) (by show nb ≠ _; omega)).trans hnc
          rw [hyn] at hnk
          have hst := HX.out k
          have hbx := HXB.out k hk x
          have hby := HXB.out k hk (nd ts x k)
          obtain ⟨pb2, po2, nv2, hpe, _, hpw, _⟩ := HRD.out.plan (nd ts x k) hyl
          simp only [Option.some.injEq, Addr.mk.injEq, and_true] at hpe
          obtain ⟨rfl, rfl⟩ := hpe
          have hpw' := (hMM.cell (p := ⟨pb, po + nd ts x k * 2, none⟩) (by show pb < _; omega) (by show pb ≠ _; omega)).trans hpw
          have hwk := HD.out.wk _ hyl
          have hcx := hM.out.row.cell hxl
          have hcy := hM.out.row.cell hyl
          have hfx := hM.out.row.frozen x
          have hok := (hMM.cell (p := ⟨ob, oo + m, none⟩) hob hobN).trans hocell
          have HST : Hid (RK (k + 1) = upd (RK k) x (max (RK k x) (RK k (nd ts x k) + wkOf ts (nd ts x k)))) := hst
          clear hnc hyn hpw hst hMM
          unfold intRow at hcx hcy
          generalize wkOf ts (nd ts x k) = wy at *
          generalize hRx : RK k x = rx at *
          generalize hRy : RK k (nd ts x k) = ry at *
          generalize nd ts x k = y at *
          have HRX : Hid (RK k x = rx) := hRx
          clear hRx hRy
          by_cases hgt : rx < ry + wy
          · have HMX : Hid (max rx (ry + wy) = ry + wy) := Int.max_eq_right (by omega)
            go_wp2
            go_quiet (fail)
            go_wp2
            go_roundw
            case rel =>
              refine ⟨k + 1, by omega, by go_num, ?_⟩
              show RMem _ _ _ _ _
              rw [HST.out, HMX.out]
              exact (hM.out.drewN _).set _
            case measure => simp [intOf]; omega
          · have HMX : Hid (max rx (ry + wy) = rx) := Int.max_eq_left (by omega)
            go_wp2
            go_quiet (fail)
            go_wp2
            go_roundw
            case rel =>
              refine ⟨k + 1, by omega, by go_num, ?_⟩
              show RMem _ _ _ _ _
              rw [HST.out, HMX.out, ← HRX.out, upd_self]
              exact hM.out.drewN _
            case measure => simp [intOf]; omega
        · have hke : k = (needsOf ts x).length := by omega
          have HK : Hid (k = (needsOf ts x).length) := hke
          clear hke
          go_wp2
          go_roundw
          case rel => exact ⟨m + 1, by omega, by go_num, by have := hMa.out.trans hM.out; rw [HK.out, HXE.out] at this; exact this⟩
          case measure => simp [intOf]; omega
    · have hme : m = ts.length := by omega
      have HME : Hid (m = ts.length) := hme
      clear hme
      go_wp2
      go_ret
      have hr := hM.out.row
      rw [HME.out] at hr
      exact ⟨⟨ord, _, HO.out, rfl, row_ints (by unfold ranksOf; rw [hlen]; exact hr) (by omega)⟩, hB1.trans hM.out.below⟩
end Go.Proofs.YtefkglgccllbeaaDoor
