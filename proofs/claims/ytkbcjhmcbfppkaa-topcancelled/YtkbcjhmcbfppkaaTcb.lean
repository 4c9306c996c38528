/- The walk of TopCancelled. -/
import Derived.Test.YtkbcjhmcbfppkaaTca
import Derived.Deep.Slices
namespace Go.Proofs.Ytkbcjhmcbfppkaa
open Go.RowKit Go.Deep

theorem cells_duo (w : World) (x y : Value) (t : TypeId) : ∀ j u, [x, y][j]? = some u → (w.alloc (.cells #[x, y] t)).cell? ((⟨w.heap.size, 0, none⟩ : Addr).add j) = some u := by
  intro j u hj
  rw [add_lit, Nat.zero_add]
  match j, hj with
  | 0, hj => simp at hj; subst hj; simp
  | 1, hj => simp at hj; subst hj; simp
/-- While those that live are taken out of a plan. -/
structure PMem (ts : List (Int × List Int)) (L : Nat → Bool) (nv : Nat → Value) (A k : Nat) (v : Value) (w0 wr : World) : Prop where
  place : wr.rowIs A 41 30 (fun j => .int .i64 (if j < k then (cnt L j : Int) else 0))
  row : wr.ownsRow (A + 1) 38 2 v (cnt L k) (flatQ (fun b => (ts.getD (orig L ts.length b) (0, [])).1) (fun b => nv (orig L ts.length b)) (cnt L k))
  below : Below A w0 wr
theorem PMem.put {ts : List (Int × List Int)} {L : Nat → Bool} {nv : Nat → Value} {A k : Nat} {v : Value} {w0 wr : World} (h : PMem ts L nv A k v w0 wr) :
    (wr.setCell ⟨A, k, none⟩ (.int .i64 (cnt L k : Nat))).rowIs A 41 30 (fun j => .int .i64 (if j < k + 1 then (cnt L j : Int) else 0)) ∧ (wr.setCell ⟨A, k, none⟩ (.int .i64 (cnt L k : Nat))).ownsRow (A + 1) 38 2 v (cnt L k) (flatQ (fun b => (ts.getD (orig L ts.length b) (0, [])).1) (fun b => nv (orig L ts.length b)) (cnt L k)) ∧ Below A w0 (wr.setCell ⟨A, k, none⟩ (.int .i64 (cnt L k : Nat))) := by
  refine ⟨(h.place.set k (.int .i64 (cnt L k : Nat))).congr (fun j _ => ?_), ownsRow_setCell_below h.row (by show A < A + 1; omega) _, h.below.setCell (Nat.le_refl _) _⟩
  by_cases e : j = k
  · subst e
    simp
  · have : (j < k + 1) ↔ (j < k) := by omega
    simp [e, this]
theorem PMem.start {ts : List (Int × List Int)} {L : Nat → Bool} {nv : Nat → Value} (w : World) : PMem ts L nv w.heap.size 0 (.slice none 0 0) w (w.alloc (.cells #[.int .i64 0, .int .i64 0, .int .i64 0, .int .i64 0, .int .i64 0, .int .i64 0, .int .i64 0, .int .i64 0, .int .i64 0, .int .i64 0, .int .i64 0, .int .i64 0, .int .i64 0, .int .i64 0, .int .i64 0, .int .i64 0, .int .i64 0, .int .i64 0, .int .i64 0, .int .i64 0, .int .i64 0, .int .i64 0, .int .i64 0, .int .i64 0, .int .i64 0, .int .i64 0, .int .i64 0, .int .i64 0, .int .i64 0, .int .i64 0] 41)) := by
  refine ⟨(World.rowIs_alloc w #[.int .i64 0, .int .i64 0, .int .i64 0, .int .i64 0, .int .i64 0, .int .i64 0, .int .i64 0, .int .i64 0, .int .i64 0, .int .i64 0, .int .i64 0, .int .i64 0, .int .i64 0, .int .i64 0, .int .i64 0, .int .i64 0, .int .i64 0, .int .i64 0, .int .i64 0, .int .i64 0, .int .i64 0, .int .i64 0, .int .i64 0, .int .i64 0, .int .i64 0, .int .i64 0, .int .i64 0, .int .i64 0, .int .i64 0, .int .i64 0] 41 (fun _ => .int .i64 0) (fun i hi => ?_)).congr (fun k _ => by simp), World.ownsRow_nil _ _ _ _, (Below.refl _ _).alloc (Nat.le_refl _) _⟩
  have e : (#[.int .i64 0, .int .i64 0, .int .i64 0, .int .i64 0, .int .i64 0, .int .i64 0, .int .i64 0, .int .i64 0, .int .i64 0, .int .i64 0, .int .i64 0, .int .i64 0, .int .i64 0, .int .i64 0, .int .i64 0, .int .i64 0, .int .i64 0, .int .i64 0, .int .i64 0, .int .i64 0, .int .i64 0, .int .i64 0, .int .i64 0, .int .i64 0, .int .i64 0, .int .i64 0, .int .i64 0, .int .i64 0, .int .i64 0, .int .i64 0] : Array Value) = Array.replicate 30 (.int .i64 0) := rfl
  rw [e] at hi ⊢
  rw [Array.size_replicate] at hi
  rw [Array.getElem?_replicate, if_pos hi]
theorem PMem.skip {ts : List (Int × List Int)} {L : Nat → Bool} {nv : Nat → Value} {A k : Nat} {v : Value} {w0 wr : World} (h : PMem ts L nv A k v w0 wr) (hL : L k = false) : PMem ts L nv A (k + 1) v w0 (wr.setCell ⟨A, k, none⟩ (.int .i64 (cnt L k : Nat))) := by
  obtain ⟨h1, h2, h3⟩ := h.put
  have e : cnt L (k + 1) = cnt L k := by rw [cnt_step, hL]; rfl
  exact ⟨h1, by rw [e]; exact h2, h3⟩
theorem PMem.more {ts : List (Int × List Int)} {L : Nat → Bool} {nv : Nat → Value} {A k : Nat} {v v' : Value} {w0 wr w' : World} {o : Obj} (h : PMem ts L nv A k v w0 wr) (hL : L k = true) (hk : k < ts.length)
    (ho : w'.ownsRow (A + 1) 38 2 v' (cnt L k + 1) (flatQ (fun b => (ts.getD (orig L ts.length b) (0, [])).1) (fun b => nv (orig L ts.length b)) (cnt L k) ++ [.int .i64 (ts.getD k (0, [])).1, nv k])) (hg : ((wr.setCell ⟨A, k, none⟩ (.int .i64 (cnt L k : Nat))).alloc o).grownBy w' v.ownBlock) : PMem ts L nv A (k + 1) v' w0 w' := by
  obtain ⟨h1, h2, h3⟩ := h.put
  have e : cnt L (k + 1) = cnt L k + 1 := by rw [cnt_step, hL]; rfl
  have hne : some A ≠ v.ownBlock := fun e2 => by
    have := (World.ownsRow.lt h2 A e2.symm).1
    omega
  have h1' := h1.alloc o
  refine ⟨h1'.of_block (hg.block A h1'.lt hne), ?_, (h3.alloc (Nat.le_of_lt h1.lt) o).grown hg (Nat.le_of_lt h1'.lt) (fun j e2 => ?_)⟩
  · rw [e, flatQ, orig_at hk hL]
    exact ho
  · have := (World.ownsRow.lt h2 j e2).1
    omega
/-- All of them taken out: now each has its old needs. -/
theorem PMem.done {ts : List (Int × List Int)} {L : Nat → Bool} {nv : Nat → Value} {A g cap : Nat} {w0 wr : World} (h : PMem ts L nv A ts.length (.slice (some ⟨g, 0, none⟩) (cnt L ts.length) cap) w0 wr) : QMem ts L nv A g cap 0 w0 wr :=
  ⟨h.place, ⟨_, h.row, fun _ _ _ => rfl, fun b hb => by omega⟩, h.below⟩

/-- While the plan is laid anew; there may be none. -/
def Q2 (ts : List (Int × List Int)) (L : Nat → Bool) (nv : Nat → Value) (A : Nat) (qa : Option Addr) (qc a : Nat) (w0 wr : World) : Prop :=
  (cnt L ts.length = 0 ∧ Below A w0 wr ∧ A ≤ wr.heap.size) ∨ ∃ g, qa = some ⟨g, 0, none⟩ ∧ A < g ∧ QMem ts L nv A g qc a w0 wr
theorem PMem.q2 {ts : List (Int × List Int)} {L : Nat → Bool} {nv : Nat → Value} {A qc : Nat} {qa : Option Addr} {w0 wr : World} (h : PMem ts L nv A ts.length (.slice qa (cnt L ts.length) qc) w0 wr) : Q2 ts L nv A qa qc 0 w0 wr := by
  rcases h.row.2 with ⟨_, h0⟩ | ⟨g, cap, cur, hv, hg, _⟩
  · exact Or.inl ⟨h0, h.below, Nat.le_of_lt h.place.lt⟩
  · simp only [Value.slice.injEq] at hv
    obtain ⟨rfl, -, rfl⟩ := hv
    exact Or.inr ⟨g, rfl, by omega, h.done⟩
theorem Q2.below {ts : List (Int × List Int)} {L : Nat → Bool} {nv : Nat → Value} {A qc a : Nat} {qa : Option Addr} {w0 wr : World} (h : Q2 ts L nv A qa qc a w0 wr) : Below A w0 wr := by
  rcases h with ⟨_, h, _⟩ | ⟨g, _, _, h⟩
  · exact h
  · exact h.below
theorem Q2.plan {ts : List (Int × List Int)} {L : Nat → Bool} {nv : Nat → Value} {A qc : Nat} {qa : Option Addr} {w0 wr : World} (h : Q2 ts L nv A qa qc (cnt L ts.length) w0 wr) (h30 : ts.length ≤ 30) : PlanAt wr (.slice qa (cnt L ts.length) qc) (subTs ts L) := by
  rcases h with ⟨h0, _, _⟩ | ⟨g, rfl, _, h⟩
  · have hl : (subTs ts L).length = 0 := by rw [subTs_length, h0]
    exact ⟨by omega, qa, qc, by rw [subTs_length], Or.inl (List.eq_nil_of_length_eq_zero hl)⟩
  · exact h.plan h30
theorem newNeeds_take {ts : List (Int × List Int)} {L : Nat → Bool} {k d n : Nat} (hd : d < (needsOf ts k).length) (hn : (needsOf ts k).getD d 0 = (n : Int)) : (newNeeds ts L k).take (d + 1) = (newNeeds ts L k).take d ++ [((cnt L n : Nat) : Int)] := by
  rw [List.take_add_one]
  congr 1
  have e : (needsOf ts k)[d]? = some (n : Int) := by
    rw [List.getD_eq_getElem?_getD, List.getElem?_eq_getElem hd] at hn
    rw [List.getElem?_eq_getElem hd]
    exact congrArg some hn
  unfold newNeeds
  rw [List.getElem?_map, e]
  rfl
theorem up_len : ∀ (zs : List Int) (lo hi : Int), zs.Pairwise (· < ·) → (∀ z, z ∈ zs → lo ≤ z ∧ z < hi) → lo ≤ hi → (zs.length : Int) ≤ hi - lo := by
  intro zs
  induction zs with
  | nil => intro lo hi _ _ h; simp; omega
  | cons a r ih =>
    intro lo hi hp hz _
    have ha := hz a (List.mem_cons_self ..)
    have h1 := List.pairwise_cons.1 hp
    have := ih (a + 1) hi h1.2 (fun z hzr => ⟨by have := h1.1 z hzr; omega, (hz z (List.mem_cons_of_mem _ hzr)).2⟩) (by omega)
    simp only [List.length_cons]
    omega
theorem rising_len {ts : List (Int × List Int)} (hc : CheckIs ts 0 0) {k : Nat} (hk : k < ts.length) : (needsOf ts k).length ≤ 30 := by
  have hg := hc.good
  have h := up_len (needsOf ts k) 0 ts.length (hg.up k hk) (fun z hz => by have := hg.rng k hk z hz; omega) (by omega)
  have := hg.le
  omega

set_option maxRecDepth 100000 in
set_option maxHeartbeats 8000000 in
theorem topCancelled_any (pv gv ov : Value) (ts : List (Int × List Int)) (gs : List Grp) (ofs : List Int) (i : Int) (w : World) (hp : PlanAt w pv ts) (hg : GrpsAt w gv gs) (ho : IntsAt w ov ofs) :
    Calls Try.prog 4 #[pv, gv, ov, .int .i64 i] w fun e w' => e = .returned (.bool true) ∧ Below w.heap.size w w' := by
  have HG : Hid (GrpsAt w gv gs) := hg
  have HP : Hid (PlanAt w pv ts) := hp
  have HO : Hid (IntsAt w ov ofs) := ho
  obtain ⟨hl, ga, gc, rfl, hg⟩ := hg
  clear hg
  obtain ⟨hpl, pa, pc, rfl, hp⟩ := hp
  clear hp
  obtain ⟨hol, oa, oc, rfl, ho⟩ := ho
  clear ho
  obtain ⟨cp, cq, hck⟩ := check_some HP.out
  have HCK : Hid (CheckIs ts cp cq) := hck
  clear hck
  have hone := one_any w
  go_enter Try.func4, Try.ntmps4
  go_wp2_with fail
  refine hone.mono ?_
  clear hone
  rintro e w1 ⟨rfl, hB1⟩
  by_cases hq : placeErr gs i = 0
  · have hca := cancel_ok (HG.out.later hB1) hq
    obtain ⟨h12, hr, k0, rfl, hk0⟩ := placeErr_zero hq
    rw [Int.toNat_natCast] at hca
    clear hq hr
    go_wp2_with fail
    refine hca.mono ?_
    clear hca
    rintro e w2 ⟨g2, c2, rfl, hrow2, hb2⟩
    have HH : Hid (GrpsAt w2 (.slice (some ⟨g2, 0, none⟩) gs.length c2) (setC gs k0)) := hrow2.grps (by rw [setC_length]; exact hl)
    have hB2 : Below w.heap.size w w2 := hB1.trans (hb2.mono hB1.size)
    clear hrow2 hb2 hB1
    by_cases hle : liveErr cq (setC gs k0) ts.length ofs = 0
    · have hq0 : cq = 0 := by
        unfold liveErr at hle
        by_cases hq : cq = 0
        · exact hq
        · rw [if_neg hq] at hle; exact absurd hle hq
      have hpe : placesErr (setC gs k0) ts.length ofs = 0 := by
        unfold liveErr at hle
        rw [if_pos hq0] at hle
        exact hle
      have hc := HCK.out
      rw [hq0] at hc
      obtain ⟨hcp, h30, herr, hno⟩ := hc.ok rfl
      rw [hcp] at hc
      have HC : Hid (CheckIs ts 0 0) := hc
      have HRNG : Hid (InRange ts) := inRange_of herr
      have hli := live_ok (HP.out.later hB2) HH.out (HO.out.later hB2) HC.out hpe
      obtain ⟨L, hL⟩ : ∃ L, L = liveB ts (deadG (setC gs k0) ofs) := ⟨_, rfl⟩
      have HCL : Hid (∀ k, k < ts.length → L k = true → ∀ n, Need ts k n → L n = true) := fun k _ h n hn => by rw [hL] at h ⊢; exact live_needs hn h
      rw [← hL] at hli
      clear hle hq0 hpe hc hcp herr hno hL HCK HH HG
      go_wp2_with fail
      refine hli.mono ?_
      clear hli
      rintro e w3 ⟨lb, lo, lc, rfl, hlb, hb3⟩
      have hB3 : Below w.heap.size w w3 := hB2.trans (hb3.mono hB2.size)
      obtain ⟨lb2, lo2, lc2, el, hlbl, hlc⟩ := hlb
      simp only [Value.slice.injEq, Option.some.injEq, Addr.mk.injEq] at el
      obtain ⟨⟨rfl, rfl, -⟩, -, rfl⟩ := el
      have HLC : Hid (∀ m, m < ts.length → w3.cell? ⟨lb, lo + m, none⟩ = some (.bool (L m))) := hlc
      have HLL : Hid (lb < w3.heap.size) := hlbl
      clear hlc hlbl hb3 hB2 HO
      obtain ⟨nv, hnv⟩ : ∃ nv : Nat → Value, ∀ k, k < ts.length → ∃ pb po, pa = some ⟨pb, po, none⟩ ∧ pb < w.heap.size ∧ w.cell? ⟨pb, po + k * 2, none⟩ = some (.int .i64 (ts.getD k (0, [])).1) ∧ w.cell? ⟨pb, po + k * 2 + 1, none⟩ = some (nv k) ∧ IntsAt w (nv k) (needsOf ts k) := by
        obtain ⟨-, a5, c5, e5, hpc⟩ := HP.out
        simp only [Value.slice.injEq] at e5
        obtain ⟨rfl, -, rfl⟩ := e5
        rcases hpc with h0 | ⟨pb, po, rfl, hpbl, hpc⟩
        · refine ⟨fun _ => undef, fun k hk => ?_⟩
          rw [h0] at hk
          simp at hk
        · obtain ⟨f, hf⟩ := choose_lt (n := ts.length) (fun k hk => (hpc k hk).2)
          exact ⟨f, fun k hk => ⟨pb, po, rfl, hpbl, (hpc k hk).1, (hf k hk).1, (hf k hk).2⟩⟩
      have HNV : Hid (∀ k, k < ts.length → ∃ pb po, pa = some ⟨pb, po, none⟩ ∧ pb < w.heap.size ∧ w.cell? ⟨pb, po + k * 2, none⟩ = some (.int .i64 (ts.getD k (0, [])).1) ∧ w.cell? ⟨pb, po + k * 2 + 1, none⟩ = some (nv k) ∧ IntsAt w (nv k) (needsOf ts k)) := hnv
      clear hnv
      have hnA : ¬ w3.heap.size = lb := by have := HLL.out; omega
      obtain ⟨iT, hiT, hz0, hz1, hz2⟩ := info_parts Try.info38
      obtain ⟨iI, hiI, hy0, hy1, hy2⟩ := info_parts Try.info3
      have HST : Hid (PMem ts L nv w3.heap.size 0 (.slice none 0 0) w3 (w3.alloc (.cells #[.int .i64 0, .int .i64 0, .int .i64 0, .int .i64 0, .int .i64 0, .int .i64 0, .int .i64 0, .int .i64 0, .int .i64 0, .int .i64 0, .int .i64 0, .int .i64 0, .int .i64 0, .int .i64 0, .int .i64 0, .int .i64 0, .int .i64 0, .int .i64 0, .int .i64 0, .int .i64 0, .int .i64 0, .int .i64 0, .int .i64 0, .int .i64 0, .int .i64 0, .int .i64 0, .int .i64 0, .int .i64 0, .int .i64 0, .int .i64 0] 41))) := PMem.start w3
      go_wp2
      go_loopw [13, 15] (fun s13 s15 wr => ∃ k : Nat, k ≤ ts.length ∧ s15 = .int .i64 k ∧ (∃ a c, s13 = .slice a (cnt L k) c) ∧ Hid (PMem ts L nv w3.heap.size k s13 w3 wr)) (fun _ s15 _ => ts.length - (intOf s15).toNat)
      case atStart => exact ⟨0, Nat.zero_le _, rfl, ⟨none, 0, rfl⟩, HST⟩
      case round =>
        clear HST
        obtain ⟨k, hk, rfl, ⟨qa, qc, rfl⟩, hM⟩ := hrel
        have hb3 : Below w3.heap.size w3 wr := hM.out.below
        have hBr : Below w.heap.size w wr := hB3.trans (hb3.mono hB3.size)
        by_cases hkl : k < ts.length
        · have hk30 : k < 30 := by omega
          have hpk := hM.out.place.cell (i := k) (by omega)
          rw [if_neg (by omega)] at hpk
          have hpf := hM.out.place.frozen k
          have hlk := (hb3.cell (p := ⟨lb, lo + k, none⟩) HLL.out).trans (HLC.out k hkl)
          have hck := cnt_le L k
          cases hL : L k
          · have HX : Hid (PMem ts L nv w3.heap.size (k + 1) (.slice qa (cnt L k) qc) w3 (wr.setCell ⟨w3.heap.size, k, none⟩ (.int .i64 (cnt L k : Nat)))) := hM.out.skip hL
            have HE : Hid (cnt L (k + 1) = cnt L k) := by show _ = _; rw [cnt_step, hL]; rfl
            rw [hL] at hlk
            clear hM hL hBr hb3
            generalize cnt L k = c at *
            go_wp2
            go_roundw
            case rel => exact ⟨k + 1, by omega, by go_num, ⟨_, _, by rw [HE.out]⟩, HX⟩
            case measure => simp [intOf]; omega
          · obtain ⟨pb, po, rfl, hpb, hp1, hp2, hin⟩ := HNV.out k hkl
            have hp1' := (hBr.cell (p := ⟨pb, po + k * 2, none⟩) hpb).trans hp1
            have hp2' := (hBr.cell (p := ⟨pb, po + k * 2 + 1, none⟩) hpb).trans hp2
            have hnp : ¬ w3.heap.size = pb := by have := hB3.size; omega
            obtain ⟨na, nc, hnk⟩ : ∃ na nc, nv k = .slice na (needsOf ts k).length nc := by
              obtain ⟨_, a2, c2, h, _⟩ := hin
              exact ⟨a2, c2, h⟩
            have HNK : Hid (nv k = .slice na (needsOf ts k).length nc) := hnk
            have HMM : Hid (PMem ts L nv w3.heap.size k (.slice qa (cnt L k) qc) w3 wr) := hM
            have hA := (hM.out.put.2.1).alloc (.cells #[.int .i64 (ts.getD k (0, [])).1, nv k] 38)
            have HL : Hid (L k = true) := hL
            have HE : Hid (cnt L (k + 1) = cnt L k + 1) := by show _ = _; rw [cnt_step, hL]; rfl
            have hws : w3.heap.size < wr.heap.size := hM.out.place.lt
            have HN2 := cells_duo (wr.setCell ⟨w3.heap.size, k, none⟩ (.int .i64 (cnt L k : Nat))) (.int .i64 (ts.getD k (0, [])).1) (nv k) 38
            have hsz : (wr.setCell ⟨w3.heap.size, k, none⟩ (.int .i64 (cnt L k : Nat))).heap.size = wr.heap.size := by simp [World.setCell]
            rw [hsz] at HN2
            rw [hnk] at hp2 hp2' hA HN2
            obtain ⟨wk, hwk⟩ : ∃ wk, wk = (ts.getD k (0, [])).1 := ⟨_, rfl⟩
            have HWK : Hid (wk = (ts.getD k (0, [])).1) := hwk
            rw [← hwk] at hp1' hA HN2
            clear hwk
            rw [hL] at hlk
            clear hL hp1 hp2 hin hM hnk hBr hb3 hsz
            generalize (needsOf ts k).length = nl at *
            go_wp2_with (at_builtin; go_loud (refine wpList_append_own _ rfl (.tmp 73) (.tmp 78) 24 rfl (w3.heap.size + 1) 38 iT (.agg #[.int .i64 0, .slice none 0 0]) 2 32 Try.underlying24 hiT hz0 hz1 hz2 rfl (by decide) _ (cnt L k) _ rfl hA ⟨wr.heap.size, 0, none⟩ 1 1 [.int .i64 wk, .slice na nl nc] rfl rfl HN2 ?c2 ?c3 ?c4 ?c5 ?_))
            case c2 => intro u hu; simp at hu; rcases hu with rfl | rfl <;> rfl
            case c3 => unfold maxLen; omega
            case c4 => omega
            case c5 => simp [World.setCell]; omega
            intro v' w5 hown' hgrow _
            rw [← HNK.out, HWK.out] at hown'
            have HX : Hid (PMem ts L nv w3.heap.size (k + 1) v' w3 w5) := HMM.out.more HL.out hkl hown' hgrow
            obtain ⟨va, vc, rfl⟩ : ∃ va vc, v' = .slice va (cnt L k + 1) vc := by
              rcases hown'.2 with ⟨_, h0⟩ | ⟨g, cap, cur, hv, _⟩
              · omega
              · exact ⟨_, _, hv⟩
            clear hown' hgrow hA HMM HN2
            go_wp2
            go_roundw
            case rel => exact ⟨k + 1, by omega, by go_num, ⟨_, _, by rw [HE.out]⟩, HX⟩
            case measure => simp [intOf]; omega
        · obtain rfl : k = ts.length := by omega
          have HQ0 : Hid (Q2 ts L nv w3.heap.size qa qc 0 w3 wr) := hM.out.q2
          clear hM hBr hb3
          go_wp2
          go_loopw [16] (fun s16 wr => ∃ a : Nat, a ≤ cnt L ts.length ∧ s16 = .int .i64 a ∧ Hid (Q2 ts L nv w3.heap.size qa qc a w3 wr)) (fun s16 _ => cnt L ts.length - (intOf s16).toNat)
          case atStart => exact ⟨0, Nat.zero_le _, rfl, HQ0⟩
          case round =>
            clear HQ0
            obtain ⟨a, ha, rfl, hQ⟩ := hrel
            have hcl := cnt_le L ts.length
            by_cases hal : a < cnt L ts.length
            · obtain ⟨w4, rfl⟩ : ∃ w4, w4 = wr := ⟨_, rfl⟩
              obtain ⟨g, rfl, hAg, hQM⟩ : ∃ g, qa = some ⟨g, 0, none⟩ ∧ w3.heap.size < g ∧ QMem ts L nv w3.heap.size g qc a w3 w4 := by
                rcases hQ.out with ⟨h0, _, _⟩ | h
                · omega
                · exact h
              have HQM : Hid (QMem ts L nv w3.heap.size g qc a w3 w4) := hQM
              have hB4 : Below w.heap.size w w4 := hB3.trans (hQM.below.mono hB3.size)
              have hb34 : Below w3.heap.size w3 w4 := hQM.below
              obtain ⟨k, hk⟩ : ∃ k, k = orig L ts.length a := ⟨_, rfl⟩
              have hok := orig_some (n := ts.length) hal
              rw [← hk] at hok
              obtain ⟨hkl2, hLk, -⟩ := origs_mem hok
              obtain ⟨pb, po, rfl, hpb, -, -, hin⟩ := HNV.out k hkl2
              have hnl := rising_len HC.out hkl2
              obtain ⟨-, na, nc, hnk, hns⟩ := hin
              have HNS : Hid (∀ d, d < (needsOf ts k).length → ∃ nb no, na = some ⟨nb, no, none⟩ ∧ nb < w.heap.size ∧ w.cell? ⟨nb, no + d, none⟩ = some (.int .i64 ((needsOf ts k).getD d 0))) := fun d hd => by
                rcases hns with h0 | ⟨nb, no, h1, h2, h3⟩
                · rw [h0] at hd; simp at hd
                · exact ⟨nb, no, h1, h2, h3 d hd⟩
              have HNR : Hid (∀ d, d < (needsOf ts k).length → ∃ n : Nat, (needsOf ts k).getD d 0 = n ∧ n < ts.length ∧ L n = true) := fun d hd => by
                have hme : (needsOf ts k).getD d 0 ∈ needsOf ts k := by
                  rw [List.getD_eq_getElem?_getD, List.getElem?_eq_getElem hd]
                  exact List.getElem_mem _
                have := HRNG.out k hkl2 _ hme
                refine ⟨((needsOf ts k).getD d 0).toNat, by omega, by omega, HCL.out k hkl2 hLk _ ?_⟩
                unfold Need
                rw [Int.toNat_of_nonneg this.1]
                exact hme
              have hgl : g < w4.heap.size := (hQM.cells hal).2.2
              have HCE : Hid (∀ wq, Below w4.heap.size w4 wq → wq.cell? ⟨g, a * 2 + 1, none⟩ = some (.slice na (needsOf ts k).length nc) ∧ wq.frozen? ⟨g, a * 2 + 1, none⟩ = false) := fun wq hb => by
                have := (HQM.out.later hb).cells hal
                rw [← hk, hnk] at this
                exact ⟨this.1, this.2.1⟩
              have HPL : Hid (∀ wq, Below w4.heap.size w4 wq → ∀ n, n < ts.length → wq.cell? ⟨w3.heap.size, n, none⟩ = some (.int .i64 (cnt L n : Nat))) := fun wq hb n hn => by
                have := (HQM.out.later hb).place.cell (i := n) (by omega)
                rw [if_pos hn] at this
                exact this
              have HSTO : Hid (∀ wq u, Below w4.heap.size w4 wq → NbAt g wq u (newNeeds ts L k) → Q2 ts L nv w3.heap.size (some ⟨g, 0, none⟩) qc (a + 1) w3 (wq.setCell ⟨g, a * 2 + 1, none⟩ u)) := fun wq u hb hu => Or.inr ⟨g, rfl, hAg, (HQM.out.later hb).store hal hAg (by rw [← hk]; exact hu)⟩
              have HTK : Hid (∀ d n : Nat, d < (needsOf ts k).length → (needsOf ts k).getD d 0 = (n : Int) → (newNeeds ts L k).take (d + 1) = (newNeeds ts L k).take d ++ [((cnt L n : Nat) : Int)]) := fun d n h1 h2 => newNeeds_take h1 h2
              have HNL : Hid ((newNeeds ts L k).length = (needsOf ts k).length) := by show _ = _; unfold newNeeds; simp
              clear hQ hns hnk hQM HQM hk hok hLk
              generalize hgn : newNeeds ts L k = nn at *
              clear hgn
              go_wp2
              go_loopw [17, 18] (fun s17 s18 wq => ∃ d : Nat, d ≤ (needsOf ts k).length ∧ s18 = .int .i64 d ∧ (∃ sa sc, s17 = .slice sa d sc) ∧ Hid (wq.ownsRow w4.heap.size 3 1 s17 d ((nn.take d).map (Value.int .i64))) ∧ Below w4.heap.size w4 wq) (fun _ s18 _ => (needsOf ts k).length - (intOf s18).toNat)
              case atStart => exact ⟨0, Nat.zero_le _, rfl, ⟨none, 0, rfl⟩, World.ownsRow_nil _ _ _ _, Below.refl _ _⟩
              case round =>
                obtain ⟨d, hd, rfl, ⟨sa, sc, rfl⟩, hrow, hbq⟩ := hrel
                obtain ⟨hce, hcf⟩ := HCE.out wr hbq
                by_cases hdl : d < (needsOf ts k).length
                · obtain ⟨nb, no, rfl, hnb, hcn⟩ := HNS.out d hdl
                  obtain ⟨n, hn, hnt, hLn⟩ := HNR.out d hdl
                  rw [hn] at hcn
                  have hB5 : Below w.heap.size w wr := hB4.trans (hbq.mono hB4.size)
                  have hcn' := (hB5.cell (p := ⟨nb, no + d, none⟩) hnb).trans hcn
                  have hpn := HPL.out wr hbq n hnt
                  have hb35 : Below w3.heap.size w3 wr := hb34.trans (hbq.mono hb34.size)
                  have hln := (hb35.cell (p := ⟨lb, lo + n, none⟩) HLL.out).trans (HLC.out n hnt)
                  rw [hLn] at hln
                  have HT := HTK.out d n hdl hn
                  have HTT : Hid (nn.take (d + 1) = nn.take d ++ [((cnt L n : Nat) : Int)]) := HT
                  have hn30 : n < 30 := by omega
                  have hbs := hbq.size
                  have hA := hrow.out.alloc (.cells #[.int .i64 (cnt L n : Nat)] 3)
                  clear HT hcn hn hLn hB5 hb35
                  generalize cnt L n = cn at *
                  generalize (needsOf ts k).length = nl at *
                  go_wp2_with (at_builtin; refine wpList_append_own _ rfl (.tmp 123) (.tmp 127) 25 rfl w4.heap.size 3 iI (.int .i64 0) 1 8 Try.underlying25 hiI hy0 hy1 hy2 rfl (by decide) _ d _ rfl hA ⟨wr.heap.size, 0, none⟩ 1 1 [.int .i64 cn] rfl rfl (cell_one_new _ _ _) ?c2 ?c3 ?c4 ?c5 ?_)
                  case c2 => first | rfl | (intro u hu; simp at hu; subst hu; rfl)
                  case c3 => unfold maxLen; omega
                  case c4 => omega
                  case c5 => first | omega | (simp; omega)
                  intro v' w5 hown' hgrow _
                  have hB55 : Below w4.heap.size w4 w5 := (hbq.alloc hbs _).grown hgrow (by simp; omega) (fun j e => (World.ownsRow.lt hA j e).1)
                  have hR5 : Hid (w5.ownsRow w4.heap.size 3 1 v' (d + 1) ((nn.take (d + 1)).map (Value.int .i64))) := by
                    show World.ownsRow _ _ _ _ _ _ _
                    rw [HTT.out, List.map_append, List.map_take]
                    exact hown'
                  obtain ⟨va, vc, rfl⟩ : ∃ va vc, v' = .slice va (d + 1) vc := by
                    rcases hown'.2 with ⟨_, h0⟩ | ⟨g, cap, cur, hv, _⟩
                    · omega
                    · exact ⟨_, _, hv⟩
                  clear hown' hgrow hA hrow hbq HTT
                  go_wp2
                  go_roundw
                  case rel => exact ⟨d + 1, by omega, by go_num, ⟨_, _, rfl⟩, hR5, hB55⟩
                  case measure => simp [intOf]; omega
                · obtain rfl : d = (needsOf ts k).length := by omega
                  have hrow2 := hrow.out
                  rw [← HNL.out, List.take_length] at hrow2
                  have HNB : Hid (NbAt g wr (.slice sa (needsOf ts k).length sc) nn) := by
                    show NbAt _ _ _ _
                    rw [← HNL.out]
                    exact nb_row hrow2 hgl (by have := HNL.out; omega)
                  have HX : Hid (Q2 ts L nv w3.heap.size (some ⟨g, 0, none⟩) qc (a + 1) w3 (wr.setCell ⟨g, a * 2 + 1, none⟩ (.slice sa (needsOf ts k).length sc))) := HSTO.out wr _ hbq HNB.out
                  clear hrow hrow2 HNB
                  generalize (needsOf ts k).length = nl at *
                  go_wp2
                  go_roundw
                  case rel => exact ⟨a + 1, by omega, by go_num, HX⟩
                  case measure => simp [intOf]; omega
            · obtain rfl : a = cnt L ts.length := by omega
              have HPQ : Hid (PlanAt wr (.slice qa (cnt L ts.length) qc) (subTs ts L)) := hQ.out.plan h30
              have HCQ : Hid (CheckIs (subTs ts L) 0 0) := sub_check HC.out HCL.out
              have hBr : Below w.heap.size w wr := hB3.trans (hQ.out.below.mono hB3.size)
              clear hQ HLC HNV
              have h1 := check_ok HPQ.out HCQ.out
              go_wp2_with fail
              refine h1.mono ?_
              clear h1
              rintro e w5 ⟨rfl, hb5⟩
              have hB5 : Below w.heap.size w w5 := hBr.trans (hb5.mono hBr.size)
              have HQ5 := HPQ.out.later hb5
              clear hb5 hBr HPQ
              have h1 := work_ok (HP.out.later hB5) HC.out
              go_wp2_with fail
              refine h1.mono ?_
              clear h1
              rintro e w6 ⟨rfl, hb6⟩
              have hB6 : Below w.heap.size w w6 := hB5.trans (hb6.mono hB5.size)
              have HQ6 := HQ5.later hb6
              clear hb6 hB5 HQ5
              have h1 := work_ok HQ6 HCQ.out
              go_wp2_with fail
              refine h1.mono ?_
              clear h1
              rintro e w7 ⟨rfl, hb7⟩
              have hB7 : Below w.heap.size w w7 := hB6.trans (hb7.mono hB6.size)
              have HQ7 := HQ6.later hb7
              clear hb7 hB6 HQ6
              have h1 := span_ok (HP.out.later hB7) HC.out
              go_wp2_with fail
              refine h1.mono ?_
              clear h1
              rintro e w8 ⟨⟨o1, ho1, rfl⟩, hb8⟩
              have hB8 : Below w.heap.size w w8 := hB7.trans (hb8.mono hB7.size)
              have HQ8 := HQ7.later hb8
              clear hb8 hB7 HQ7
              have h1 := span_ok HQ8 HCQ.out
              go_wp2_with fail
              refine h1.mono ?_
              clear h1
              rintro e w9 ⟨⟨o2, ho2, rfl⟩, hb9⟩
              have hB9 : Below w.heap.size w w9 := hB8.trans (hb9.mono hB8.size)
              have hwk : workTo (subTs ts L) (subTs ts L).length ≤ workTo ts ts.length := sub_work (fun x hx => by have := ((Ready.of HC.out ho1).deep.wk x hx).1; omega)
              have hsp : maxTo (tailsOf (subTs ts L) o2) (subTs ts L).length ≤ maxTo (tailsOf ts o1) ts.length := sub_span (Ready.of HC.out ho1).deep (Ready.of HCQ.out ho2).deep HCL.out
              clear hb9 hB8 HQ8 ho1 ho2
              generalize workTo (subTs ts L) (subTs ts L).length = b1 at *
              generalize workTo ts ts.length = a1 at *
              generalize maxTo (tailsOf (subTs ts L) o2) (subTs ts L).length = d1 at *
              generalize maxTo (tailsOf ts o1) ts.length = c1 at *
              go_wp2
              go_ret
              exact ⟨rfl, hB9⟩
    · have hli := live_no (HP.out.later hB2) HH.out (HO.out.later hB2) HCK.out hle
      clear hle HP HG HO HH HCK
      generalize liveErr cq (setC gs k0) ts.length ofs = q1 at *
      go_wp2_with fail
      refine hli.mono ?_
      clear hli
      rintro e w3 ⟨rfl, hb3⟩
      go_wp2
      go_ret
      exact ⟨rfl, hB2.trans (hb3.mono hB2.size)⟩
  · have hca := cancel_no (HG.out.later hB1) hq
    clear hq HG HP HO HCK
    generalize placeErr gs i = q at *
    go_wp2_with fail
    refine hca.mono ?_
    clear hca
    rintro e w2 ⟨rfl, hb2⟩
    go_wp2
    go_ret
    exact ⟨rfl, hB1.trans (hb2.mono hB1.size)⟩
end Go.Proofs.Ytkbcjhmcbfppkaa
