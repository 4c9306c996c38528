/- The document's own Ready and Steps; the sameness of bits. -/
import Derived.Test.YtilpjhhjlokfcaaDoorPe
import Derived.Test.YtilpjhhjlokfcaaDoorTa
namespace Go.Proofs.YtilpjhhjlokfcaaDoor
open Go.RowKit Go.Deep

/-- Of the first n: who is done, by what is left. -/
def Tells (T : Nat → Bool) (L : Nat → Int) (n : Nat) : Prop := ∀ k, k < n → T k = decide (L k = 0)
theorem tells_not {T : Nat → Bool} {L : Nat → Int} {n k : Nat} (h0 : ∀ x, 0 ≤ L x) (hT : Tells T L n) (hk : k < n) : (!T k) = decide (0 < L k) := by
  rw [hT k hk]
  have := h0 k
  by_cases e : L k = 0
  · simp [e]
  · have : 0 < L k := by omega
    simp [e, this]
theorem rdyB_tells {ts : List (Int × List Int)} {T : Nat → Bool} {L : Nat → Int} {k : Nat} (hr : InRange ts) (h0 : ∀ x, 0 ≤ L x) (hT : Tells T L ts.length) (hk : k < ts.length) : rdyB ts L k = (!T k && !missing ts T k) := by
  unfold rdyB missing
  rw [tells_not h0 hT hk]
  congr 2
  rw [Bool.eq_iff_iff, List.any_eq_true, List.any_eq_true]
  constructor
  · rintro ⟨y, hy, hu⟩
    have := hr k hk y hy
    exact ⟨y, hy, by rw [tells_not h0 hT (by omega)]; exact hu⟩
  · rintro ⟨y, hy, hu⟩
    have := hr k hk y hy
    exact ⟨y, hy, by rw [tells_not h0 hT (by omega)] at hu; exact hu⟩

set_option maxRecDepth 100000 in
set_option maxHeartbeats 2000000 in
theorem readyR_any (v pv : Value) (ts : List (Int × List Int)) (T : Nat → Bool) (L : Nat → Int) (w : World) (hp : PlanAt w v ts) (hr : InRange ts) (h30 : ts.length ≤ 30) (hb : BoolsAt w pv ts.length T) (h0 : ∀ x, 0 ≤ L x) (hT : Tells T L ts.length) :
    Calls Tryd.prog 22 #[v, pv] w fun e w' => (∃ rv, e = .returned rv ∧ RowI w.heap.size w' rv (intsOf (rdyTo ts L ts.length))) ∧ Below w.heap.size w w' := by
  have HP : Hid (PlanAt w v ts) := hp
  have HB : Hid (BoolsAt w pv ts.length T) := hb
  obtain ⟨hl, a, c, rfl, hpc⟩ := hp
  obtain ⟨bb, bo, bc, rfl, hblt, hbc⟩ := hb
  have HRB : Hid (∀ k, k < ts.length → rdyB ts L k = (!T k && !missing ts T k)) := fun k hk => rdyB_tells hr h0 hT hk
  clear hpc hbc h0 hT
  go_enter Tryd.func22, Tryd.ntmps22
  go_wp2
  go_loopw [5, 6] (fun s5 s6 wr => ∃ k : Nat, k ≤ ts.length ∧ s6 = .int .i64 k ∧ Hid (RowI w.heap.size wr s5 (intsOf (rdyTo ts L k))) ∧ Below w.heap.size w wr) (fun _ s6 _ => ts.length - (intOf s6).toNat)
  case atStart => exact ⟨0, Nat.zero_le _, rfl, RowI.nil _ _, Below.refl _ _⟩
  case round =>
    obtain ⟨k, hk, rfl, hR, hB⟩ := hrel
    obtain ⟨la, lc, rfl⟩ := hR.out.shape
    by_cases hkl : k < ts.length
    · have hfr := freeR_any _ _ ts T k wr (HP.out.later hB) hkl hr (HB.out.later hB)
      have HT : Hid (rdyTo ts L (k + 1) = rdyTo ts L k ++ if rdyB ts L k then [k] else []) := rdyTo_succ ts L k
      have hsb := hB.size
      have hlen : (intsOf (rdyTo ts L k)).length ≤ 30 := by rw [intsOf_length]; have := rdyTo_len ts L k; omega
      have HR : Hid (∀ wx, Below wr.heap.size wr wx → RowI w.heap.size wx (.slice la (intsOf (rdyTo ts L k)).length lc) (intsOf (rdyTo ts L k))) := fun wx hx => hR.out.later hx
      have HRN : Hid (rdyB ts L k = false → intsOf (rdyTo ts L (k + 1)) = intsOf (rdyTo ts L k)) := fun e => by rw [HT.out, e]; simp
      have HRY : Hid (rdyB ts L k = true → intsOf (rdyTo ts L (k + 1)) = intsOf (rdyTo ts L k) ++ [(k : Int)]) := fun e => by rw [HT.out, e]; simp [intsOf]
      rw [HRB.out k hkl] at HRN HRY
      have hbk : ∀ wx, Below wr.heap.size wr wx → wx.cell? ⟨bb, bo + k, none⟩ = some (.bool (T k)) := fun wx hx => by
        obtain ⟨b2, o2, c2, hv, hlt2, hc2⟩ := (HB.out.later hB).later hx
        simp only [Value.slice.injEq, Option.some.injEq, Addr.mk.injEq, and_true] at hv
        obtain ⟨⟨rfl, rfl⟩, -⟩ := hv
        exact hc2 k hkl
      have HBK : Hid (∀ wx, Below wr.heap.size wr wx → wx.cell? ⟨bb, bo + k, none⟩ = some (.bool (T k))) := hbk
      clear hR HT hbk
      generalize hxs : intsOf (rdyTo ts L k) = l at *
      generalize missing ts T k = mi at *
      clear hxs
      cases hTk : T k
      · rw [hTk] at HRN HRY HBK
        cases mi
        · have HE : Hid (intsOf (rdyTo ts L (k + 1)) = l ++ [(k : Int)]) := HRY.out rfl
          clear HRN HRY hTk
          go_wp2_with fail
          refine hfr.mono ?_
          clear hfr
          rintro e w1 ⟨rfl, hb1⟩
          have hs1 := hb1.size
          have hbc := HBK.out w1 hb1
          have hoa := (HR.out _ hb1).alloc (.cells #[.int .i64 k] 3)
          have hba2 : Below w.heap.size w (w1.alloc (.cells #[.int .i64 k] 3)) := (hB.trans (hb1.mono hsb)).alloc (by omega) _
          have HO : Hid (Rds (fun _ => True) (w1.alloc (.cells #[.int .i64 k] 3)) (.slice (some ⟨w1.heap.size, 0, none⟩) 1 1) [(k : Int)]) := one_rds w1 k
          go_wp2_with (first | (at_builtin; refine wpList_append_rows rfl (.tmp 26) (.tmp 28) rfl w.heap.size (fun _ => True) (.slice la l.length lc) (.slice (some ⟨w1.heap.size, 0, none⟩) 1 1) l [(k : Int)] rfl rfl hoa HO.out (by simp; omega) (by simp; omega) ?_; intro v2 w2 hown2 hgr2 hat2))
          have hb2 : Below w.heap.size w w2 := hba2.grown hgr2 (by simp; omega) (fun j e => (hoa.low e).1)
          have HN : Hid (RowI w.heap.size w2 v2 (intsOf (rdyTo ts L (k + 1)))) := by show RowI _ _ _ _; rw [HE.out]; exact hown2
          clear hown2 hgr2 hat2 hoa HO HR hba2
          go_wp2
          go_roundw
          case rel => exact ⟨k + 1, by omega, by go_num, HN, hb2⟩
          case measure => simp [intOf]; omega
        · have HE : Hid (intsOf (rdyTo ts L (k + 1)) = l) := HRN.out rfl
          clear HRN HRY hTk
          go_wp2_with fail
          refine hfr.mono ?_
          clear hfr
          rintro e w1 ⟨rfl, hb1⟩
          have hbc := HBK.out w1 hb1
          go_wp2
          go_roundw
          case rel => exact ⟨k + 1, by omega, by go_num, by show RowI _ _ _ _; rw [HE.out]; exact HR.out _ hb1, hB.trans (hb1.mono hsb)⟩
          case measure => simp [intOf]; omega
      · rw [hTk] at HRN HBK
        have HE : Hid (intsOf (rdyTo ts L (k + 1)) = l) := HRN.out rfl
        clear HRN HRY hTk
        go_wp2_with fail
        refine hfr.mono ?_
        clear hfr
        rintro e w1 ⟨rfl, hb1⟩
        have hbc := HBK.out w1 hb1
        generalize (!mi) = mj at *
        go_wp2
        go_roundw
        case rel => exact ⟨k + 1, by omega, by go_num, by show RowI _ _ _ _; rw [HE.out]; exact HR.out _ hb1, hB.trans (hb1.mono hsb)⟩
        case measure => simp [intOf]; omega
    · have hke : k = ts.length := by omega
      have HE : Hid (RowI w.heap.size wr (.slice la (intsOf (rdyTo ts L k)).length lc) (intsOf (rdyTo ts L ts.length))) := by
        have := hR.out
        rw [hke] at this ⊢; exact this
      clear hR hke
      go_wp2
      go_ret
      exact ⟨⟨_, rfl, HE.out⟩, hB⟩

theorem steps_le (l : List (Nat × Nat × Nat)) (h : ∀ b, b ∈ l → b.1 ≤ 600) : stepsOf l ≤ 601 := by
  have key : ∀ (l : List (Nat × Nat × Nat)) n, n ≤ 601 → (∀ b, b ∈ l → b.1 ≤ 600) → l.foldl (fun n b => max n (b.1 + 1)) n ≤ 601 := by
    intro l
    induction l with
    | nil => intro n hn _; exact hn
    | cons b l ih =>
      intro n hn h
      have := h b (List.mem_cons_self ..)
      exact ih _ (by show max n (b.1 + 1) ≤ 601; omega) (fun c hc => h c (List.mem_cons_of_mem _ hc))
  exact key l 0 (by omega) h
theorem take_bit {l : List (Nat × Nat × Nat)} {k : Nat} (hk : k < l.length) : l.take (k + 1) = l.take k ++ [l.getD k (0, 0, 0)] := by
  rw [List.take_succ_eq_append_getElem hk, List.getD_eq_getElem?_getD, List.getElem?_eq_getElem hk]; rfl
theorem bit_mem {l : List (Nat × Nat × Nat)} {k : Nat} (hk : k < l.length) : l.getD k (0, 0, 0) ∈ l := by
  rw [List.getD_eq_getElem?_getD, List.getElem?_eq_getElem hk]; exact List.getElem_mem hk

set_option maxRecDepth 100000 in
set_option maxHeartbeats 2000000 in
theorem stepsR_any (bv : Value) (bs : List (Nat × Nat × Nat)) (C : Nat) (w : World) (hB : RowB C w bv bs) (hb : ∀ b, b ∈ bs → b.1 ≤ 600) (hl : bs.length ≤ 600) :
    Calls Tryd.prog 8 #[bv] w fun e w' => e = .returned (.int .i64 (stepsOf bs)) ∧ w' = w := by
  have HB : Hid (RowB C w bv bs) := hB
  have HL : Hid (∀ b, b ∈ bs → b.1 ≤ 600) := hb
  obtain ⟨a, c, rfl⟩ := hB.shape
  clear hB hb
  go_enter Tryd.func8, Tryd.ntmps8
  go_wp2
  go_loopw [3, 4] (fun s3 s4 wr => ∃ k : Nat, k ≤ bs.length ∧ s4 = .int .i64 k ∧ s3 = .int .i64 (stepsOf (bs.take k)) ∧ wr = w) (fun _ s4 _ => bs.length - (intOf s4).toNat)
  case atStart => exact ⟨0, Nat.zero_le _, rfl, rfl, rfl⟩
  case round =>
    obtain ⟨k, hk, rfl, rfl, rfl⟩ := hrel
    by_cases hkl : k < bs.length
    · obtain ⟨g, cc, hv, _, hg, hc, hcells⟩ := HB.out.full (by omega)
      simp only [Value.slice.injEq, true_and] at hv
      obtain ⟨rfl, rfl⟩ := hv
      have hc1 := (hcells k hkl).1
      have hx := HL.out _ (bit_mem hkl)
      have HS : Hid (stepsOf (bs.take (k + 1)) = max (stepsOf (bs.take k)) ((bs.getD k (0, 0, 0)).1 + 1)) := by show _ = _; rw [take_bit hkl, stepsOf_snoc]
      have hsl := steps_le (bs.take k) (fun b hb => HL.out b (List.mem_of_mem_take hb))
      clear hcells
      generalize (bs.getD k (0, 0, 0)).1 = t at *
      generalize stepsOf (bs.take k) = n at *
      by_cases htn : n ≤ t
      · have HE : Hid (((stepsOf (bs.take (k + 1)) : Nat) : Int) = (t : Int) + 1) := by show _ = _; rw [HS.out]; omega
        clear HS
        go_wp2
        go_roundw
        case rel => exact ⟨k + 1, by omega, by go_num, by rw [HE.out], trivial⟩
        case measure => simp [intOf]; omega
      · have HE : Hid (stepsOf (bs.take (k + 1)) = n) := by show _ = _; rw [HS.out]; omega
        clear HS
        go_wp2
        go_roundw
        case rel => exact ⟨k + 1, by omega, by go_num, by rw [HE.out], trivial⟩
        case measure => simp [intOf]; omega
    · have hke : k = bs.length := by omega
      have HE : Hid (bs.take k = bs) := by rw [hke]; exact List.take_length
      clear hke
      go_wp2
      go_ret
      exact ⟨by show Ending.returned (.int .i64 ((stepsOf (bs.take k) : Nat) : Int)) = _; rw [HE.out], rfl⟩

end Go.Proofs.YtilpjhhjlokfcaaDoor
