/- Bits in a row of their own; the contracts of greedy.check and greedy.Run. The contract of greedy.Run. -/
import Derived.Test.YtlfbdjeojgbniaaGreatDoorRcm13
import Derived.Test.YtlfbdjeojgbniaaGreatDoorRcm04

namespace Go.Proofs.YtlfbdjeojgbniaaGreatDoor
open Go.RowKit Go.Deep

/-- Check's error, then that of the hands. -/
def gErr (q hands : Int) : Int := if q = 0 then (if hands < 1 ∨ 6 < hands then 1 else 0) else q

set_option maxHeartbeats 1000000 in
theorem gcheck_any (v : Value) (ts : List (Int × List Int)) (hands : Int) (w : World) (hp : PlanAt w v ts) :
    Calls Tryz.prog 80 #[v, .int .i64 hands] w fun e w' => (∃ p q, CheckIs ts p q ∧ e = .returned (errV (gErr q hands))) ∧ Below w.heap.size w w' := by
  have hck := check_any v ts w hp
  obtain ⟨hl, a, c, rfl, hp⟩ := hp
  clear hp
  go_enter Tryz.func80, Tryz.ntmps80
  go_wp2_with fail
  refine hck.mono ?_
  rintro e w1 ⟨⟨p, q, rfl, hc⟩, hb1⟩
  clear hck
  by_cases hq : q = 0
  · subst hq
    rw [errV_zero]
    by_cases h1 : hands < 1
    · have HE : Hid (errV (gErr 0 hands) = .iface 97 (.int .i64 1)) := by show _ = _; unfold gErr; rw [if_pos rfl, if_pos (Or.inl h1)]; rfl
      go_wp2
      go_ret
      exact ⟨⟨p, 0, hc, by rw [HE.out]; rfl⟩, hb1⟩
    · by_cases h2 : 6 < hands
      · have HE : Hid (errV (gErr 0 hands) = .iface 97 (.int .i64 1)) := by show _ = _; unfold gErr; rw [if_pos rfl, if_pos (Or.inr h2)]; rfl
        go_wp2
        go_ret
        exact ⟨⟨p, 0, hc, by rw [HE.out]; rfl⟩, hb1⟩
      · have HE : Hid (errV (gErr 0 hands) = .nilIface) := by show _ = _; unfold gErr; rw [if_pos rfl, if_neg (by omega)]; rfl
        go_wp2
        go_ret
        exact ⟨⟨p, 0, hc, by rw [HE.out]; rfl⟩, hb1⟩
  · have hev := errV_some hq
    rw [hev]
    have HE : Hid (errV (gErr q hands) = .iface 97 (.int .i64 q)) := by show _ = _; unfold gErr; rw [if_neg hq]; exact hev
    clear hev
    go_wp2
    go_ret
    exact ⟨⟨p, q, hc, by rw [HE.out]; rfl⟩, hb1⟩

/-- Bits as cells. -/
def flat (bs : List (Nat × Nat × Nat)) : List Value := bs.flatMap (fun b => [.int .i64 b.1, .int .i64 b.2.1, .int .i64 b.2.2])
theorem flat_nil : flat [] = [] := rfl
theorem flat_append (a b : List (Nat × Nat × Nat)) : flat (a ++ b) = flat a ++ flat b := by simp [flat]
theorem flat_one (b : Nat × Nat × Nat) : flat [b] = [.int .i64 b.1, .int .i64 b.2.1, .int .i64 b.2.2] := rfl
theorem flat_length (bs : List (Nat × Nat × Nat)) : (flat bs).length = bs.length * 3 := by
  induction bs with
  | nil => rfl
  | cons b r ih =>
    have : flat (b :: r) = flat [b] ++ flat r := flat_append [b] r
    rw [this, List.length_append, ih, flat_one]
    simp; omega
theorem flat_at {bs : List (Nat × Nat × Nat)} {k : Nat} (hk : k < bs.length) : (flat bs)[k * 3]? = some (.int .i64 (bs.getD k (0, 0, 0)).1) ∧ (flat bs)[k * 3 + 1]? = some (.int .i64 (bs.getD k (0, 0, 0)).2.1) ∧ (flat bs)[k * 3 + 2]? = some (.int .i64 (bs.getD k (0, 0, 0)).2.2) := by
  induction bs generalizing k with
  | nil => simp at hk
  | cons b r ih =>
    have e : flat (b :: r) = flat [b] ++ flat r := flat_append [b] r
    rw [e]
    cases k with
    | zero => exact ⟨rfl, rfl, rfl⟩
    | succ k =>
      have hl : (flat [b]).length = 3 := rfl
      rw [List.getElem?_append_right (by rw [hl]; omega), List.getElem?_append_right (by rw [hl]; omega), List.getElem?_append_right (by rw [hl]; omega), hl]
      rw [show (k + 1) * 3 - 3 = k * 3 by omega, show (k + 1) * 3 + 1 - 3 = k * 3 + 1 by omega, show (k + 1) * 3 + 2 - 3 = k * 3 + 2 by omega]
      simpa using ih (k := k) (by simp at hk; omega)

/-- Bits in a row of their own, from block b on. -/
def RowB (b : Nat) (w : World) (v : Value) (bs : List (Nat × Nat × Nat)) : Prop := w.ownsRow b 102 3 v bs.length (flat bs)
theorem RowB.of_blocks {b : Nat} {w w' : World} {v : Value} {bs : List (Nat × Nat × Nat)} (h : RowB b w v bs) (hk : ∀ k, v.ownBlock = some k → w'.heap[k]? = w.heap[k]?) : RowB b w' v bs := by
  rcases h.2 with ⟨rfl, hn⟩ | ⟨g, cap, cur, rfl, hb, hh, hr⟩
  · exact ⟨h.1, Or.inl ⟨rfl, hn⟩⟩
  · exact ⟨h.1, Or.inr ⟨g, cap, cur, rfl, hb, (hk g rfl).trans hh, hr⟩⟩
theorem RowB.mono {b b' : Nat} {w : World} {v : Value} {bs : List (Nat × Nat × Nat)} (h : RowB b w v bs) (hb : b' ≤ b) : RowB b' w v bs := by
  rcases h.2 with hn | ⟨g, cap, cur, hv, hg, r⟩
  · exact ⟨h.1, Or.inl hn⟩
  · exact ⟨h.1, Or.inr ⟨g, cap, cur, hv, Nat.le_trans hb hg, r⟩⟩
theorem RowB.low {b : Nat} {w : World} {v : Value} {bs : List (Nat × Nat × Nat)} (h : RowB b w v bs) {k : Nat} (hk : v.ownBlock = some k) : b ≤ k ∧ k < w.heap.size := World.ownsRow.lt h k hk
theorem RowB.shape {b : Nat} {w : World} {v : Value} {bs : List (Nat × Nat × Nat)} (h : RowB b w v bs) : ∃ a c, v = .slice a bs.length c := by
  rcases h.2 with ⟨rfl, hn⟩ | ⟨g, cap, cur, rfl, _, _, hc, _⟩
  · exact ⟨none, 0, by rw [hn]⟩
  · exact ⟨_, _, rfl⟩
theorem RowB.nil (b : Nat) (w : World) : RowB b w (.slice none 0 0) [] := World.ownsRow_nil _ _ _ _
theorem RowB.later {b : Nat} {w w' : World} {v : Value} {bs : List (Nat × Nat × Nat)} (h : RowB b w v bs) (hb : Below w.heap.size w w') : RowB b w' v bs := h.of_blocks (fun _ e => hb.block _ (h.low e).2)
theorem RowB.alloc {b : Nat} {w : World} {v : Value} {bs : List (Nat × Nat × Nat)} (h : RowB b w v bs) (o : Obj) : RowB b (w.alloc o) v bs := h.of_blocks (fun _ e => Below.heap_alloc _ _ _ (h.low e).2)
theorem RowB.full {b : Nat} {w : World} {v : Value} {bs : List (Nat × Nat × Nat)} (h : RowB b w v bs) (hz : 0 < bs.length) : ∃ g c, v = .slice (some ⟨g, 0, none⟩) bs.length c ∧ b ≤ g ∧ g < w.heap.size ∧ bs.length ≤ c ∧ ∀ k, k < bs.length →
    w.cell? ⟨g, k * 3, none⟩ = some (.int .i64 (bs.getD k (0, 0, 0)).1) ∧ w.cell? ⟨g, k * 3 + 1, none⟩ = some (.int .i64 (bs.getD k (0, 0, 0)).2.1) ∧ w.cell? ⟨g, k * 3 + 2, none⟩ = some (.int .i64 (bs.getD k (0, 0, 0)).2.2) := by
  rcases h.2 with ⟨_, h0⟩ | ⟨g, cap, cur, hv, hb, hh, hc, hm, _⟩
  · omega
  · subst hv
    refine ⟨g, cap, rfl, hb, (Array.getElem?_eq_some_iff.1 hh).1, hc, fun k hk => ?_⟩
    obtain ⟨e1, e2, e3⟩ := flat_at hk
    exact ⟨(World.ownsRow.cellAt h (k * 3) (by omega)).trans e1, (World.ownsRow.cellAt h (k * 3 + 1) (by omega)).trans e2, (World.ownsRow.cellAt h (k * 3 + 2) (by omega)).trans e3⟩
theorem RowB.not_row {C b n : Nat} {w : World} {v : Value} {bs : List (Nat × Nat × Nat)} {t : TypeId} {f : Nat → Value} (h : RowB C w v bs) (hb : v.ownBlock = some b) (h' : w.rowIs b t n f) : t = 102 := by
  rcases h.2 with ⟨rfl, _⟩ | ⟨g, cap, cur, rfl, _, hh, _⟩
  · simp [Value.ownBlock] at hb
  · simp only [Value.ownBlock, Option.some.injEq] at hb
    subst hb
    obtain ⟨c, hb', _⟩ := h'
    rw [hh] at hb'
    simp at hb'
    exact hb'.2.symm
theorem RowB.not_ints {C C' b : Nat} {w : World} {v v' : Value} {bs : List (Nat × Nat × Nat)} {zs : List Int} (h : RowB C w v bs) (hb : v.ownBlock = some b) (h' : RowI C' w v' zs) (hb' : v'.ownBlock = some b) : False := by
  rcases h.2 with ⟨rfl, _⟩ | ⟨g, cap, cur, rfl, _, hh, _⟩
  · simp [Value.ownBlock] at hb
  · simp only [Value.ownBlock, Option.some.injEq] at hb
    subst hb
    rcases h'.2 with ⟨rfl, _⟩ | ⟨g', cap', cur', rfl, _, hh', _⟩
    · simp [Value.ownBlock] at hb'
    · simp only [Value.ownBlock, Option.some.injEq] at hb'
      subst hb'
      rw [hh] at hh'
      simp at hh'
theorem RowI.past {C C' : Nat} {w w' : World} {v v' : Value} {bs : List (Nat × Nat × Nat)} {zs : List Int} (h' : RowI C' w v' zs) (h : RowB C w v bs) (hg : w.grownBy w' v.ownBlock) : RowI C' w' v' zs :=
  h'.of_blocks (fun k hk => hg.block k (h'.low hk).2 (fun e => h.not_ints e.symm h' hk))

/-- What a run has in memory: what is left, and bits; all below N stays as it was. -/
structure GMem (N n : Nat) (w wr : World) (L : Nat → Int) (bv : Value) (bs : List (Nat × Nat × Nat)) : Prop where
  row : wr.rowIs N 3 n (intRow L)
  bits : RowB N wr bv bs
  below : Below N w wr
theorem GMem.later {N n : Nat} {w wr w' : World} {L : Nat → Int} {bv : Value} {bs : List (Nat × Nat × Nat)} (h : GMem N n w wr L bv bs) (hb : Below wr.heap.size wr w') : GMem N n w w' L bv bs :=
  ⟨h.row.of_block (hb.block _ h.row.lt), h.bits.later hb, h.below.trans (hb.mono (Nat.le_of_lt h.row.lt))⟩
theorem GMem.app {N n : Nat} {w wr w' : World} {L : Nat → Int} {bv bv' : Value} {bs : List (Nat × Nat × Nat)} {b : Nat × Nat × Nat} (h : GMem N n w wr L bv bs)
    (ho : w'.ownsRow N 102 3 bv' (bs.length + 1) (flat bs ++ [.int .i64 b.1, .int .i64 b.2.1, .int .i64 b.2.2])) (hg : wr.grownBy w' bv.ownBlock) : GMem N n w w' L bv' (bs ++ [b]) := by
  refine ⟨h.row.of_block (hg.block _ h.row.lt (fun e => absurd (h.bits.not_row e.symm h.row) (by decide))), ?_, h.below.grown hg (Nat.le_of_lt h.row.lt) (fun j e => (h.bits.low e).1)⟩
  show w'.ownsRow N 102 3 bv' (bs ++ [b]).length (flat (bs ++ [b]))
  rw [flat_append, flat_one, List.length_append]
  exact ho
theorem GMem.set {N n : Nat} {w wr : World} {L : Nat → Int} {bv : Value} {bs : List (Nat × Nat × Nat)} (h : GMem N n w wr L bv bs) (x : Nat) (u : Int) : GMem N n w (wr.setCell ⟨N, x, none⟩ (.int .i64 u)) (upd L x u) bv bs :=
  ⟨row_upd h.row, h.bits.of_blocks (fun k hk => Below.heap_setCell wr ⟨N, x, none⟩ _ k (fun e => by
    have e : k = N := e
    subst e
    exact absurd (h.bits.not_row hk h.row) (by decide))), h.below.setCell (p := ⟨N, x, none⟩) (Nat.le_refl _) _⟩
theorem Tryz.info102 : (Tryz.prog.info? 102).map (fun i => (i.zero, i.size, i.bytes)) = some (some (.agg #[.int .i64 0, .int .i64 0, .int .i64 0]), 3, 24) := by kernel_rfl
end Go.Proofs.YtlfbdjeojgbniaaGreatDoor

namespace Go.Proofs.YtlfbdjeojgbniaaGreatDoor
open Go.RowKit Go.Deep

theorem CheckIs.works {ts : List (Int × List Int)} (hc : CheckIs ts 0 0) : Works ts ∧ InRange ts ∧ ∀ j, j < ts.length → ¬ Reach ts j j := by
  obtain ⟨_, h30, herr, hno⟩ := hc.ok rfl
  exact ⟨⟨h30, fun x hx => wkOf_right (herr x hx)⟩, inRange_of herr, hno⟩
theorem take_one {l : List Nat} {k : Nat} (hk : k < l.length) : l.take (k + 1) = l.take k ++ [l.getD k 0] := by
  rw [List.take_succ_eq_append_getElem hk, List.getD_eq_getElem?_getD, List.getElem?_eq_getElem hk]; rfl
theorem getD_mem {l : List Nat} {k : Nat} (hk : k < l.length) : l.getD k 0 ∈ l := by
  rw [List.getD_eq_getElem?_getD, List.getElem?_eq_getElem hk]; exact List.getElem_mem hk
theorem decs_bound {l : List Nat} (hd : l.Nodup) {L : Nat → Int} (h : ∀ x, 0 ≤ L x ∧ L x ≤ 20) (x : Nat) : -1 ≤ decs L l x ∧ decs L l x ≤ 20 := by
  rw [decs_at hd]
  have := h x
  split <;> omega

theorem cell_three_new (w : World) (a b c : Value) (t : TypeId) : ∀ j u, [a, b, c][j]? = some u → (w.alloc (.cells #[a, b, c] t)).cell? ((⟨w.heap.size, 0, none⟩ : Addr).add j) = some u := by
  intro j u hu
  rw [Addr.add_lit, Nat.zero_add]
  unfold World.cell?
  dsimp only
  rw [blk_alloc_new]
  show (#[a, b, c])[j]? = some u
  simpa using hu

/-- What Run hands back. -/
def RunOut (ts : List (Int × List Int)) (hands : Int) (n : Nat) (e : Ending) (w' : World) : Prop :=
  (∃ p q, CheckIs ts p q ∧ gErr q hands ≠ 0 ∧ e = .returned (.tuple #[.slice none 0 0, errV (gErr q hands)])) ∨
  (CheckIs ts 0 0 ∧ 1 ≤ hands ∧ hands ≤ 6 ∧ ∃ s bv, Stops ts hands.toNat s ∧ e = .returned (.tuple #[bv, .nilIface]) ∧ RowB n w' bv (bitsTo ts hands.toNat s))

theorem gErr_zero {q hands : Int} (h : gErr q hands = 0) : q = 0 ∧ 1 ≤ hands ∧ hands ≤ 6 := by
  unfold gErr at h
  split at h
  · split at h
    · omega
    · omega
  · omega

set_option maxRecDepth 100000 in
set_option maxHeartbeats 4000000 in
theorem run_any (v : Value) (ts : List (Int × List Int)) (hands : Int) (w : World) (hp : PlanAt w v ts) :
    Calls Tryz.prog 41 #[v, .int .i64 hands] w fun e w' => RunOut ts hands w.heap.size e w' ∧ Below w.heap.size w w' := by
  obtain ⟨i36, hi36, hz0, hz1, hz2⟩ := info_parts Tryz.info102
  have HP : Hid (PlanAt w v ts) := hp
  have hck := gcheck_any v ts hands w hp
  obtain ⟨hl, a, c, rfl, hp⟩ := hp
  clear hp
  go_enter Tryz.func41, Tryz.ntmps41
  go_wp2_with fail
  refine hck.mono ?_
  rintro e w1 ⟨⟨p, q, hc, rfl⟩, hb1⟩
  clear hck
  by_cases hq : gErr q hands = 0
  · obtain ⟨rfl, h1, h6⟩ := gErr_zero hq
    obtain ⟨rfl, -⟩ := hc.ok rfl
    rw [hq, errV_zero]
    obtain ⟨hd, rfl⟩ := Int.eq_ofNat_of_zero_le (show 0 ≤ hands by omega)
    obtain ⟨hw, hr, hno⟩ := hc.works
    have HC : Hid (CheckIs ts 0 0) := hc
    have h30 := hw.1
    have HW : Hid (Works ts) := hw
    clear hc hq hw hno
    have hwk := works_any _ ts w1 (HP.out.later hb1) h30
    go_wp2_with (go_at_call 81; refine hwk.mono ?_; clear hwk; rintro e w2 ⟨rfl, hrow, hb2⟩)
    have HG : Hid (GMem w1.heap.size ts.length w1 w2 (leftAt ts hd 0) (.slice none 0 0) (bitsTo ts hd 0)) := ⟨hrow, RowB.nil _ _, hb2⟩
    have HPW : Hid (∀ wx, Below w1.heap.size w1 wx → PlanAt wx (.slice a ts.length c) ts) := fun wx hx => (HP.out.later hb1).later hx
    clear hrow hb2
    go_loopw [7, 9] (fun s7 s9 wr => ∃ s : Nat, s ≤ 600 ∧ s9 = .int .i64 s ∧ Hid (Busy ts hd s) ∧ Hid (GMem w1.heap.size ts.length w1 wr (leftAt ts hd s) s7 (bitsTo ts hd s))) (fun _ s9 _ => 600 - (intOf s9).toNat)
    case atStart => exact ⟨0, by omega, rfl, Busy.zero _ _, HG⟩
    case round =>
      clear HG
      obtain ⟨s, hs600, rfl, hbusy, hG⟩ := hrel
      obtain ⟨ba, bc, rfl⟩ := hG.out.bits.shape
      have hrd := ready_any _ ts (leftAt ts hd s) w1.heap.size wr (HPW.out _ hG.out.below) hG.out.row hr h30
      by_cases hem : rdyTo ts (leftAt ts hd s) ts.length = []
      · have HS : Hid (Stops ts hd s) := ⟨hbusy.out, hem⟩
        rw [hem] at hrd
        clear hbusy
        go_wp2_with fail
        refine hrd.mono ?_
        clear hrd
        rintro e w3 ⟨⟨rv, rfl, hR⟩, hb3⟩
        obtain ⟨ra, rc, rfl⟩ := hR.shape
        have HF : Hid (RowB w.heap.size w3 (.slice ba (bitsTo ts hd s).length bc) (bitsTo ts hd s)) := (hG.out.later hb3).bits.mono hb1.size
        have HB : Hid (Below w.heap.size w w3) := hb1.trans ((hG.out.later hb3).below.mono hb1.size)
        clear hG hR hem hb3
        generalize (bitsTo ts hd s).length = bl at *
        go_wp2
        go_ret2
        exact ⟨Or.inr ⟨HC.out, h1, h6, s, _, HS.out, rfl, HF.out⟩, HB.out⟩
      · have HBS : Hid (Busy ts hd (s + 1)) := hbusy.out.succ hem
        have hs1 : s + 1 ≤ 600 := HBS.out.le HW.out (by omega)
        have HL : Hid (leftAt ts hd (s + 1) = decs (leftAt ts hd s) (nowL ts hd (leftAt ts hd s))) := rfl
        have HT : Hid (bitsTo ts hd (s + 1) = bitsTo ts hd s ++ bitsOf s (nowL ts hd (leftAt ts hd s))) := rfl
        have HLB : Hid (∀ x, 0 ≤ leftAt ts hd s x ∧ leftAt ts hd s x ≤ 20) := fun x => leftAt_bound HW.out hd s x
        have HBL : Hid ((bitsTo ts hd (s + 1)).length ≤ 600) := bits_len HW.out hd (s + 1)
        unfold nowL at HL HT
        have hpos := List.length_pos_iff.2 hem
        have hln := rdyTo_len ts (leftAt ts hd s) ts.length
        have HND : Hid ((rdyTo ts (leftAt ts hd s) ts.length).Nodup) := rdyTo_nodup _ _ _
        have HLT : Hid (∀ x, x ∈ rdyTo ts (leftAt ts hd s) ts.length → x < ts.length) := fun x hx => (mem_rdyTo.1 hx).1
        rw [HT.out] at HBL
        have HT2 := HT
        clear hbusy hem HT
        generalize leftAt ts hd s = L at *
        generalize rdyTo ts L ts.length = l at *
        generalize bitsTo ts hd s = bs at *
        go_wp2_with fail
        refine hrd.mono ?_
        clear hrd
        rintro e w3 ⟨⟨rv, rfl, hR⟩, hb3⟩
        have hil := intsOf_length l
        obtain ⟨g, rc, rfl, hg1, hg2, hrc, hrm⟩ := hR.full (by rw [hil]; exact hpos)
        rw [hil] at hR hrc ⊢
        have HG3 : Hid (GMem w1.heap.size ts.length w1 w3 L (.slice ba bs.length bc) bs) := hG.out.later hb3
        have hgN : w1.heap.size < g := by have := hG.out.row.lt; omega
        have HIL : Hid ((intsOf l).length = l.length) := hil
        have HR : Hid (RowI g w3 (.slice (some ⟨g, 0, none⟩) l.length rc) (intsOf l)) := by
          rcases hR.2 with ⟨h, _⟩ | ⟨g', cap, cur, hv, _, r⟩
          · simp at h
          · simp only [Value.slice.injEq, Option.some.injEq, Addr.mk.injEq, and_true] at hv
            obtain ⟨rfl, h2, rfl⟩ := hv
            exact ⟨hR.1, Or.inr ⟨g, rc, cur, by rw [h2], Nat.le_refl _, r⟩⟩
        clear hG hR hb3 hil hg1
        have hne : ((l.length : Int) == 0) = false := by rw [beq_eq_false_iff_ne]; omega
        obtain ⟨m, hm1, hm2, HM, hor⟩ : ∃ m : Nat, m ≤ l.length ∧ m ≤ hd ∧ Hid (l.take m = l.take hd) ∧ ((l.length < hd ∧ Hid (m = l.length)) ∨ (¬ l.length < hd ∧ Hid (m = hd))) := by
          by_cases e : l.length < hd
          · exact ⟨l.length, by omega, by omega, by show _ = _; rw [List.take_of_length_le (Nat.le_refl _), List.take_of_length_le (by omega)], Or.inl ⟨e, rfl⟩⟩
          · exact ⟨hd, by omega, by omega, rfl, Or.inr ⟨e, rfl⟩⟩
        have hmc : l.length ≤ rc := hrc
        have hEL : Hid (leftAt ts hd (s + 1) = decs L (l.take m)) := by show _ = _; rw [HL.out, HM.out]
        have hET : Hid (bitsTo ts hd (s + 1) = bs ++ bitsOf s (l.take m)) := by show _ = _; rw [HT2.out, HM.out]
        have hBL : Hid (bs.length + m ≤ 600) := by
          have := HBL.out
          rw [← HM.out, List.length_append, bitsOf_length, List.length_take, Nat.min_eq_left hm1] at this
          exact this
        clear HM HL HT2 HBL
        rcases hor with ⟨hlt, hcase⟩ | ⟨hlt, hcase⟩
        all_goals
          go_wp2
          go_loopw [7, 37] (fun s7 s37 wr => ∃ k : Nat, k ≤ m ∧ s37 = .int .i64 k ∧ Hid (GMem w1.heap.size ts.length w1 wr (decs L (l.take k)) s7 (bs ++ bitsOf s (l.take k))) ∧ Hid (RowI g wr (.slice (some ⟨g, 0, none⟩) l.length rc) (intsOf l))) (fun _ s37 _ => m - (intOf s37).toNat)
          case atStart => exact ⟨0, Nat.zero_le _, rfl, by show GMem _ _ _ _ _ _ _; simpa [decs, bitsOf] using HG3.out, HR⟩
          case round =>
            clear HG3 HR
            obtain ⟨k, hk, rfl, hG, hR⟩ := hrel
            by_cases hkm : k < m
            · have hkl : k < l.length := by omega
              have hcell := RowI.cell hR.out (k := k) (by rw [HIL.out]; exact hkl)
              rw [intsOf_getD] at hcell
              have hx := HLT.out _ (getD_mem hkl)
              have HD : Hid (decs L (l.take (k + 1)) = upd (decs L (l.take k)) (l.getD k 0) (decs L (l.take k) (l.getD k 0) - 1)) := by show _ = _; rw [take_one hkl, decs_snoc]
              have HBT : Hid (bs ++ bitsOf s (l.take (k + 1)) = bs ++ bitsOf s (l.take k) ++ [(s, k, l.getD k 0)]) := by
                show _ = _
                rw [take_one hkl, bitsOf_snoc, List.length_take, Nat.min_eq_left (by omega), List.append_assoc]
              have hbd := decs_bound (l := l.take k) (HND.out.sublist (List.take_sublist _ _)) HLB.out (l.getD k 0)
              have hlb : (bs ++ bitsOf s (l.take k)).length ≤ 599 := by
                rw [List.length_append, bitsOf_length, List.length_take, Nat.min_eq_left (by omega)]
                have := hBL.out
                omega
              generalize l.getD k 0 = x at *
              generalize bs ++ bitsOf s (l.take k) = cs at *
              generalize decs L (l.take k) = F at *
              obtain ⟨ca, cc, rfl⟩ := hG.out.bits.shape
              have hGa := hG.out.later (w' := wr.alloc (.cells #[.int .i64 s, .int .i64 k, .int .i64 x] 102)) ((Below.refl _ _).alloc (Nat.le_refl _) _)
              have hRa := hR.out.alloc (.cells #[.int .i64 s, .int .i64 k, .int .i64 x] 102)
              have ho := hGa.bits
              have hsz : w1.heap.size ≤ wr.heap.size := Nat.le_of_lt hG.out.row.lt
              unfold RowB at ho
              have HGA : Hid (GMem w1.heap.size ts.length w1 (wr.alloc (.cells #[.int .i64 s, .int .i64 k, .int .i64 x] 102)) F (.slice ca cs.length cc) cs) := hGa
              have HRA : Hid (RowI g (wr.alloc (.cells #[.int .i64 s, .int .i64 k, .int .i64 x] 102)) (.slice (some ⟨g, 0, none⟩) l.length rc) (intsOf l)) := hRa
              obtain ⟨y, hy⟩ : ∃ y, F x = y := ⟨_, rfl⟩
              have HY : Hid (F x = y) := hy
              rw [hy] at hbd HD
              clear hy
              have h1c : ∀ u ∈ [Value.int .i64 (s : Int), .int .i64 (k : Int), .int .i64 (x : Int)], u.oneCell' = true := by intro u hu; simp at hu; rcases hu with rfl | rfl | rfl <;> rfl
              clear hGa hRa hG hR
              go_wp2_with (at_builtin; refine wpList_append_own _ rfl (.tmp 42) (.tmp 47) 77 rfl w1.heap.size 102 i36 (.agg #[.int .i64 0, .int .i64 0, .int .i64 0]) 3 24 Tryz.underlying77 hi36 hz0 hz1 hz2 rfl (by decide) _ cs.length (flat cs) rfl ho ⟨wr.heap.size, 0, none⟩ 1 1 [.int .i64 s, .int .i64 k, .int .i64 x] rfl rfl (cell_three_new wr _ _ _ _) h1c (by unfold maxLen; omega) (by omega) (by simp; omega) ?_; intro v2 w4 hown hgr _; have hG4 : GMem w1.heap.size ts.length w1 w4 F v2 (cs ++ [(s, k, x)]) := HGA.out.app hown hgr; have hc4 : w4.cell? ⟨w1.heap.size, x, none⟩ = some (.int .i64 y) := (hG4.row.cell hx).trans (congrArg (fun z => some (Value.int .i64 z)) HY.out); have hf4 := hG4.row.frozen x; have hl4 := hG4.row.lt; have HG4 : Hid (GMem w1.heap.size ts.length w1 w4 F v2 (cs ++ [(s, k, x)])) := hG4; have HR4 : Hid (RowI g w4 (.slice (some ⟨g, 0, none⟩) l.length rc) (intsOf l)) := HRA.out.past HGA.out.bits hgr; clear hG4 hown hgr ho)
              have HN : Hid (GMem w1.heap.size ts.length w1 (w4.setCell ⟨w1.heap.size, x, none⟩ (.int .i64 (y - 1))) (decs L (l.take (k + 1))) v2 (bs ++ bitsOf s (l.take (k + 1)))) := by
                show GMem _ _ _ _ _ _ _
                rw [HD.out, HBT.out]
                exact HG4.out.set x _
              have HRN : Hid (RowI g (w4.setCell ⟨w1.heap.size, x, none⟩ (.int .i64 (y - 1))) (.slice (some ⟨g, 0, none⟩) l.length rc) (intsOf l)) :=
                HR4.out.of_blocks (fun j hj => Below.heap_setCell w4 ⟨w1.heap.size, x, none⟩ _ j (by show j ≠ w1.heap.size; have := (HR4.out.low hj).1; omega))
              go_roundw
              case rel => exact ⟨k + 1, by omega, by go_num, HN, HRN⟩
              case measure => simp [intOf]; omega
            · have hkm2 := hkm
              have hke : k = m := by omega
              rw [hcase.out] at hkm2
              have HN0 := hG.out
              rw [hke, ← hEL.out, ← hET.out] at HN0
              have HN : Hid _ := HN0
              clear HN0
              clear hG hR hke
              go_wp2
              go_roundw
              case rel => exact ⟨s + 1, hs1, by go_num, HBS, HN⟩
              case measure => simp [intOf]; omega
  · have hev := errV_some hq
    rw [hev]
    have HV : Hid (errV (gErr q hands) = .iface 97 (.int .i64 (gErr q hands))) := hev
    have HQ : Hid (gErr q hands ≠ 0) := hq
    clear hev hq
    have HF : Hid (∀ u, u = errV (gErr q hands) → RunOut ts hands w.heap.size (.returned (.tuple #[.slice none 0 0, u])) w1) := fun u hu => Or.inl ⟨p, q, hc, HQ.out, by rw [hu]⟩
    rw [HV.out] at HF
    clear HV HQ hc
    generalize gErr q hands = g at *
    go_wp2
    go_ret2
    exact ⟨HF.out _ rfl, hb1⟩
end Go.Proofs.YtlfbdjeojgbniaaGreatDoor
