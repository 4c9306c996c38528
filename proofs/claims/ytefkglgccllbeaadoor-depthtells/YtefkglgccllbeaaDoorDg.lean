/- The contract of depth.Ranks. -/
import Derived.Test.YtefkglgccllbeaaDoorDk
import Derived.Test.YtefkglgccllbeaaDoorDe
import Derived.RegionTactic
import Derived.BigRegion
namespace Go.Proofs.YtefkglgccllbeaaDoor
open Go.RowKit Go.Deep

def intRow (f : Nat → Int) : Nat → Value := fun k => .int .i64 (f k)

theorem row_upd {w : World} {b n x : Nat} {f : Nat → Int} {v : Int} (h : w.rowIs b 3 n (intRow f)) : (w.setCell ⟨b, x, none⟩ (.int .i64 v)).rowIs b 3 n (intRow (upd f x v)) :=
  (h.set x _).congr (fun k _ => by unfold intRow upd; split <;> rfl)
theorem row_ints {w : World} {b n c : Nat} {f : Nat → Int} (h : w.rowIs b 3 n (intRow f)) (hn : n * 8 ≤ 140737488351232) : IntsAt w (.slice (some ⟨b, 0, none⟩) n c) (listOf f n) := by
  refine ⟨by rw [listOf_length]; exact hn, _, _, by rw [listOf_length], Or.inr ⟨b, 0, rfl, h.lt, fun k hk => ?_⟩⟩
  rw [listOf_length] at hk
  rw [Nat.zero_add, h.cell hk, listOf_getD f hk]; rfl

theorem rank_bound {ts : List (Int × List Int)} {ord : List Nat} {m k : Nat} (hd : Ready ts ord) (hm : m < ord.length) (hk : k ≤ (needsOf ts (ord.getD m 0)).length) :
    ∀ y, 0 ≤ rankIn ts (ord.getD m 0) (rankAll ts ord m) k y ∧ rankIn ts (ord.getD m 0) (rankAll ts ord m) k y ≤ 620 := by
  intro y
  have hI := rank_inv hd m (by omega)
  have hM := rank_mid hd hm hI k hk
  have h30 := hd.small
  have hl := hd.len
  by_cases e : y = ord.getD m 0
  · subst e; have := hM.low; omega
  · rw [hM.other y e]; have := hI.low y; omega

set_option maxRecDepth 100000 in
set_option maxHeartbeats 4000000 in
theorem ranks_any (v : Value) (ts : List (Int × List Int)) (w : World) (hp : PlanAt w v ts) :
    Calls Tryd.prog 23 #[v] w fun e w' => ((∃ p q, q ≠ 0 ∧ CheckIs ts p q ∧ e = .returned (.tuple #[.slice none 0 0, errV q])) ∨
      (CheckIs ts 0 0 ∧ ∃ ord rv, OrdIs ts ord ∧ e = .returned (.tuple #[rv, .nilIface]) ∧ IntsAt w' rv (listOf (ranksOf ts ord) ts.length))) ∧ Below w.heap.size w w' := by
  have HP : Hid (PlanAt w v ts) := hp
  have hck := order_back v ts w hp
  obtain ⟨hl, a, c, rfl, hp⟩ := hp
  clear hp
  have hmk := fun wx => run_make_row' (P := Tryd.prog) 28 3 (.int .i64 0) 8 Tryd.underlying28 Tryd.info3 rfl .i64 .i64 ts.length (by omega) (by omega) wx
  go_enter Tryd.func23, Tryd.ntmps23
  go_wp2_with fail
  refine hck.mono ?_
  rintro e w1 ⟨h, hb1⟩
  clear hck
  rcases h with ⟨p, q, hq, hc, rfl⟩ | ⟨hc, ord, ov, rfl, ho, hi⟩
  · have hev := errV_some hq
    rw [hev]
    have HV : Hid (errV q = .iface 57 (.int .i64 q)) := hev
    clear hev
    go_wp2
    go_ret2
    exact ⟨Or.inl ⟨p, q, hq, hc, by rw [HV.out]; rfl⟩, hb1⟩
  · have hd := Ready.of hc ho
    have HD : Hid (Ready ts ord) := hd
    have HO : Hid (OrdIs ts ord) := ho
    have HCK : Hid (CheckIs ts 0 0) := hc
    have h30 := hd.small
    have hlen := hd.len
    have hpw := HP.out.later hb1
    obtain ⟨_, a', c', hva, hpc⟩ := hpw
    obtain ⟨rfl, -, rfl⟩ : a = a' ∧ True ∧ c = c' := by simp at hva; exact ⟨hva.1, trivial, hva.2⟩
    clear hva
    obtain ⟨_, oa, oc, rfl, hoc⟩ := hi
    rw [intsOf_length, hlen] at hoc ⊢
    have HOC : Hid (∀ m, m < ts.length → ∃ b o, oa = some ⟨b, o, none⟩ ∧ b < w1.heap.size ∧ w1.cell? ⟨b, o + m, none⟩ = some (.int .i64 (ord.getD m 0 : Nat))) := fun m hm => by
      rcases hoc with h | ⟨b, o, h1, h2, h3⟩
      · have := congrArg List.length h
        rw [intsOf_length, hlen, List.length_nil] at this
        omega
      · exact ⟨b, o, h1, h2, by have := h3 m hm; rwa [intsOf_getD] at this⟩
    have HPC : Hid (∀ k, k < ts.length → ∃ b o nv, a = some ⟨b, o, none⟩ ∧ b < w1.heap.size ∧ w1.cell? ⟨b, o + k * 2, none⟩ = some (.int .i64 (wkOf ts k)) ∧ w1.cell? ⟨b, o + k * 2 + 1, none⟩ = some nv ∧ IntsAt w1 nv (needsOf ts k)) := fun k hk => by
      rcases hpc with h | ⟨b, o, h1, h2, h3⟩
      · subst h; simp at hk
      · obtain ⟨g1, nv, g2, g3⟩ := h3 k hk
        exact ⟨b, o, nv, h1, h2, g1, g2, g3⟩
    clear hoc hpc hc ho hd
    go_wp2
    go_loopw [24] (fun s24 wr => ∃ m : Nat, m ≤ ts.length ∧ s24 = .int .i64 m ∧ Hid (wr.rowIs w1.heap.size 3 ts.length (intRow (rankAll ts ord m))) ∧ Below w1.heap.size w1 wr) (fun s24 _ => ts.length - (intOf s24).toNat)
    case atStart => exact ⟨0, Nat.zero_le _, rfl, (World.rowIs_made w1 (.int .i64 0) ts.length 3).congr (fun k _ => rfl), (Below.refl _ _).alloc (Nat.le_refl _) _⟩
    case round =>
      obtain ⟨m, hm, rfl, hrow, hB⟩ := hrel
      by_cases hml : m < ts.length
      · obtain ⟨ob, oo, hoa, hob, hocell⟩ := HOC.out m hml
        have hxl := HD.out.lt m (by omega)
        obtain ⟨pb, po, nv, hpa, hpb, hp1, hp2, hin⟩ := HPC.out (ord.getD m 0) hxl
        have HX : Hid (∀ k, rankIn ts (ord.getD m 0) (rankAll ts ord m) (k + 1) = upd (rankIn ts (ord.getD m 0) (rankAll ts ord m) k) (ord.getD m 0) (max (rankIn ts (ord.getD m 0) (rankAll ts ord m) k (ord.getD m 0)) (rankIn ts (ord.getD m 0) (rankAll ts ord m) k (nd ts (ord.getD m 0) k) + wkOf ts (nd ts (ord.getD m 0) k)))) := fun k => rfl
        have HXB : Hid (∀ k, k ≤ (needsOf ts (ord.getD m 0)).length → ∀ y, 0 ≤ rankIn ts (ord.getD m 0) (rankAll ts ord m) k y ∧ rankIn ts (ord.getD m 0) (rankAll ts ord m) k y ≤ 620) := fun k hk => rank_bound HD.out (by omega) hk
        have HXE : Hid (rankIn ts (ord.getD m 0) (rankAll ts ord m) (needsOf ts (ord.getD m 0)).length = rankAll ts ord (m + 1)) := rfl
        have HX0 : Hid (rankIn ts (ord.getD m 0) (rankAll ts ord m) 0 = rankAll ts ord m) := rfl
        have hrng : Hid (∀ k, k < (needsOf ts (ord.getD m 0)).length → nd ts (ord.getD m 0) k < ts.length ∧ (needsOf ts (ord.getD m 0)).getD k 0 = (nd ts (ord.getD m 0) k : Nat)) := fun k hk => by
          have := need_at HD.out.rng hxl hk
          exact ⟨this.1, (Int.toNat_of_nonneg this.2.2).symm⟩
        generalize ord.getD m 0 = x at *
        generalize rankIn ts x (rankAll ts ord m) = RK at *
        obtain ⟨hln, na, nc, rfl, hnc⟩ := hin
        subst hoa hpa
        have ho' := (hB.cell (p := ⟨ob, oo + m, none⟩) hob).trans hocell
        have hp2' := (hB.cell (p := ⟨pb, po + x * 2 + 1, none⟩) hpb).trans hp2
        have hpbr : pb < wr.heap.size := Nat.lt_of_lt_of_le hpb hB.size
        clear hocell hp2
        go_wp2
        go_loopw [34] (fun s34 wr => ∃ k : Nat, k ≤ (needsOf ts x).length ∧ s34 = .int .i64 k ∧ Hid (wr.rowIs w1.heap.size 3 ts.length (intRow (RK k))) ∧ Below w1.heap.size w1 wr) (fun s34 _ => (needsOf ts x).length - (intOf s34).toNat)
        case atStart => exact ⟨0, Nat.zero_le _, rfl, by rw [HX0.out]; exact hrow, hB⟩
        case round =>
          clear hrow hB ho' hp2' hpbr
          obtain ⟨k, hk, rfl, hrow, hB⟩ := hrel
          by_cases hkl : k < (needsOf ts x).length
          · rcases hnc with hnc | ⟨nb, no, rfl, hnb, hnc⟩
            · rw [hnc] at hkl; simp at hkl
            obtain ⟨hyl, hyn⟩ := hrng.out k hkl
            have hnk := (hB.cell (p := ⟨nb, no + k, none⟩) hnb).trans (hnc k hkl)
            rw [hyn] at hnk
            have hst := HX.out k
            have hbx := HXB.out k hk x
            have hby := HXB.out k hk (nd ts x k)
            obtain ⟨pb2, po2, nv2, hpe, _, hpw, _, _⟩ := HPC.out (nd ts x k) hyl
            simp only [Option.some.injEq, Addr.mk.injEq, and_true] at hpe
            obtain ⟨rfl, rfl⟩ := hpe
            have hpw' := (hB.cell (p := ⟨pb, po + nd ts x k * 2, none⟩) hpb).trans hpw
            have hwk := HD.out.wk _ hyl
            have hcx := hrow.out.cell hxl
            have hcy := hrow.out.cell hyl
            have hfx := hrow.out.frozen x
            have HST : Hid (RK (k + 1) = upd (RK k) x (max (RK k x) (RK k (nd ts x k) + wkOf ts (nd ts x k)))) := hst
            clear hnc hyn hpw hst
            unfold intRow at hcx hcy
            generalize wkOf ts (nd ts x k) = wy at *
            generalize hRx : RK k x = rx at *
            generalize hRy : RK k (nd ts x k) = ry at *
            generalize nd ts x k = y at *
            clear hRx hRy
            go_wp2
            go_region
            all_goals go_wp2
            go_roundw
            case rel =>
              refine ⟨k + 1, by omega, by go_num, ?_, (hB.setCell (p := ⟨w1.heap.size, x, none⟩) (Nat.le_refl _) _).drew⟩
              rw [HST.out, ← max_if]
              exact (row_upd hrow.out).drew
            case measure => simp [intOf]; omega
          · have hke : k = (needsOf ts x).length := by omega
            have HK : Hid (k = (needsOf ts x).length) := hke
            clear hke
            go_wp2
            go_roundw
            case rel => exact ⟨m + 1, by omega, by go_num, by have := hrow.out; rw [HK.out, HXE.out] at this; exact this, hB⟩
            case measure => simp [intOf]; omega
      · have hme : m = ts.length := by omega
        have HM : Hid (m = ts.length) := hme
        clear hme
        go_wp2
        go_ret2
        have hr := hrow.out
        rw [HM.out] at hr
        refine ⟨Or.inr ⟨HCK.out, ord, _, HO.out, rfl, row_ints (by unfold ranksOf; rw [hlen]; exact hr) (by omega)⟩, hb1.trans (hB.mono hb1.size)⟩
end Go.Proofs.YtefkglgccllbeaaDoor
