/- The walk of JudgeChain. -/
import Derived.Test.YtkgdhfdahafaoaaDoorJv
import Derived.Test.YtkgdhfdahafaoaaDoorJx
import Derived.Test.YtkgdhfdahafaoaaDoorJe
import Derived.Test.YtkgdhfdahafaoaaDoorDt
import Derived.Test.YtkgdhfdahafaoaaDoorI
namespace Go.Proofs.YtkgdhfdahafaoaaDoor
open Go.RowKit Go.Deep

theorem owns_shapeZ {w : World} {base e size : Nat} {v : Value} {n : Nat} {xs : List Value} (h : w.ownsRow base e size v n xs) : ∃ a c, v = .slice a n c := by
  rcases h.2 with ⟨h1, h2⟩ | ⟨g, cap, cur, hv, _⟩
  · exact ⟨none, 0, by rw [h1, h2]⟩
  · exact ⟨_, _, hv⟩
theorem chainL_next (work : Int) (k : Nat) : chainL work (k + 1) 1 0 = chainL work k 1 0 ++ [(((k % 2 : Nat) : Int), (k : Int), (k : Int) * work, ((k : Int) + 1) * work)] := by
  unfold chainL
  rw [List.range_succ, List.map_append]
  have : soon 1 0 k = 0 := by unfold soon; split <;> rfl
  simp [chainSt, this]
theorem chainL_getD (work : Int) {n k e : Nat} {d : Int} (hk : k < n) : (chainL work n e d).getD k (0, 0, 0, 0) = chainSt work k (soon e d k) := by
  unfold chainL
  rw [List.getD_eq_getElem?_getD, List.getElem?_map, List.getElem?_range hk]
  rfl
/-- The row of a chain, of which one begins a step sooner. -/
theorem chain_set {b g m c e : Nat} {w : World} {work : Int} (h : w.ownsRow b 45 4 (.slice (some ⟨g, 0, none⟩) m c) m (flatS (chainL work m 1 0))) (hm : m ≤ 30) (he : e < m) :
    StaysAt ((w.setCell ⟨g, e * 4 + 2, none⟩ (.int .i64 ((e : Int) * work - 1))).setCell ⟨g, e * 4 + 3, none⟩ (.int .i64 (((e : Int) + 1) * work - 1))) (.slice (some ⟨g, 0, none⟩) m c) (chainL work m e 1) := by
  have h1 := (h.stored (e * 4 + 2) (.int .i64 ((e : Int) * work - 1))).1
  have h2 := (h1.stored (e * 4 + 3) (.int .i64 (((e : Int) + 1) * work - 1))).1
  have hlt : g < ((w.setCell ⟨g, e * 4 + 2, none⟩ (.int .i64 ((e : Int) * work - 1))).setCell ⟨g, e * 4 + 3, none⟩ (.int .i64 (((e : Int) + 1) * work - 1))).heap.size := (World.ownsRow.lt h2 g rfl).2
  refine ⟨by rw [chainL_length]; omega, _, _, by rw [chainL_length], Or.inr ⟨g, 0, rfl, hlt, fun k hk => ?_⟩⟩
  rw [chainL_length] at hk
  have hs0 : soon 1 0 k = 0 := by unfold soon; split <;> rfl
  have hc : ∀ j, j < 4 → ((w.setCell ⟨g, e * 4 + 2, none⟩ (.int .i64 ((e : Int) * work - 1))).setCell ⟨g, e * 4 + 3, none⟩ (.int .i64 (((e : Int) + 1) * work - 1))).cell? ⟨g, k * 4 + j, none⟩ = (styVZ (chainSt work k (soon e 1 k)))[j]? := by
    intro j hj
    rw [h2.cellAt (k * 4 + j) (by omega), List.getElem?_set, List.getElem?_set]
    have hb := flatS_at (l := chainL work m 1 0) (k := k) (by rw [chainL_length]; exact hk) j hj
    rw [chainL_getD work hk, hs0] at hb
    have hlen : (flatS (chainL work m 1 0)).length = m * 4 := by rw [flatS_length, chainL_length]
    by_cases ek : k = e
    · subst ek
      have hs : soon k 1 k = 1 := by unfold soon; rw [if_pos rfl]
      rw [hs]
      by_cases e3 : j = 3
      · subst e3
        rw [if_pos rfl, if_pos (by rw [List.length_set, hlen]; omega)]
        rfl
      · rw [if_neg (by omega)]
        by_cases e2 : j = 2
        · subst e2
          rw [if_pos rfl, if_pos (by rw [hlen]; omega)]
          rfl
        · rw [if_neg (by omega), hb]
          obtain rfl | rfl : j = 0 ∨ j = 1 := by omega
          · rfl
          · rfl
    · have hs : soon e 1 k = 0 := by unfold soon; rw [if_neg ek]
      rw [hs, if_neg (by omega), if_neg (by omega), hb]
  rw [chainL_getD work hk, Nat.zero_add]
  exact ⟨hc 0 (by omega), hc 1 (by omega), hc 2 (by omega), hc 3 (by omega)⟩
theorem chain_plan {N : Nat} {w : World} {v : Value} {work : Int} {n : Nat} (h : OwnPlan N w v (chainTs work n)) (hn : n ≤ 30) : PlanAt w v (chainTs work n) := by
  refine h.planAt (by rw [chainTs_length]; omega) (fun j hj => ?_)
  rw [chainTs_length] at hj
  rw [chain_needs work n j hj]
  split <;> simp
/-- Stays tells the error, where the plan is right. -/
theorem stays_right {ts : List (Int × List Int)} {hands : Int} {l : List StyZ} {e : Ending} (hc : CheckIs ts 0 0) (h1 : 1 ≤ hands) (h6 : hands ≤ 6) (h : StaysOut ts hands l e) : e = .returned (errV (staysErr ts hands.toNat l)) := by
  rcases h with ⟨p, q, hc', hne, _⟩ | ⟨_, _, _, h⟩
  · exfalso
    obtain ⟨_, rfl⟩ := hc.det hc'
    apply hne
    unfold jErr
    rw [if_pos rfl, if_neg (by omega)]
  · exact h

theorem World.setCell_size2 (w : World) (a b : Addr) (u v : Value) : w.heap.size = ((w.setCell a u).setCell b v).heap.size := by simp [World.setCell]
theorem below_two_sets {B g : Nat} {wr w3 w6 w7 : World} {i j : Nat} {u u' : Value} (h3 : Below wr.heap.size wr w3) (h6 : Below w3.heap.size ((w3.setCell ⟨g, i, none⟩ u).setCell ⟨g, j, none⟩ u') w6) (h7 : Below w6.heap.size w6 w7) (hg : B ≤ g) (_hgz : g < wr.heap.size) (hB : B ≤ wr.heap.size) : Below B wr w7 := by
  have s3 := h3.size
  have s6 : w3.heap.size ≤ w6.heap.size := by have := h6.size; rw [← World.setCell_size2] at this; exact this
  have a3 : Below B wr w3 := h3.mono hB
  have a5 : Below B wr ((w3.setCell ⟨g, i, none⟩ u).setCell ⟨g, j, none⟩ u') := (a3.setCell (p := ⟨g, i, none⟩) hg _).setCell (p := ⟨g, j, none⟩) hg _
  exact (a5.trans (h6.mono (by omega))).trans (h7.mono (by omega))

set_option maxRecDepth 100000 in
set_option maxHeartbeats 8000000 in
theorem chain_law (n work early : Int) (w : World) (ht : Typed w) :
    Calls Tryd.prog 5 #[.int .i64 n, .int .i64 work, .int .i64 early] w fun e w' => e = .returned (.bool true) ∧ Below w.heap.size w w' := by
  by_cases g1 : n < 2
  · go_enter Tryd.func5, Tryd.ntmps5
    go_wp2
    go_ret
    exact ⟨rfl, Below.refl _ _⟩
  by_cases g2 : 30 < n
  · go_enter Tryd.func5, Tryd.ntmps5
    go_wp2
    go_ret
    exact ⟨rfl, Below.refl _ _⟩
  by_cases g3 : work < 1
  · go_enter Tryd.func5, Tryd.ntmps5
    go_wp2
    go_ret
    exact ⟨rfl, Below.refl _ _⟩
  by_cases g4 : 20 < work
  · go_enter Tryd.func5, Tryd.ntmps5
    go_wp2
    go_ret
    exact ⟨rfl, Below.refl _ _⟩
  obtain ⟨m, rfl⟩ := Int.eq_ofNat_of_zero_le (show 0 ≤ n by omega)
  obtain ⟨i45, hi45, hz0, hz1, hz2⟩ := info_parts Tryd.info45
  have h1 : 1 ≤ work := by omega
  have h2 : work ≤ 20 := by omega
  have hm30 : m ≤ 30 := by omega
  have HC : Hid (CheckIs (chainTs work m) 0 0) := chainW_check h1 h2 hm30
  have HT : Hid (Typed w) := ht
  clear ht
  go_enter Tryd.func5, Tryd.ntmps5
  go_wp2
  go_loopw [7, 8] (fun s7 s8 wr => ∃ k : Nat, k ≤ m ∧ s8 = .int .i64 k ∧ Hid (wr.ownsRow w.heap.size 45 4 s7 k (flatS (chainL work k 1 0))) ∧ Below w.heap.size w wr) (fun _ s8 _ => m - (intOf s8).toNat)
  case atStart => exact ⟨0, Nat.zero_le _, rfl, World.ownsRow_nil _ _ _ _, Below.refl _ _⟩
  case round =>
    obtain ⟨k, hk, rfl, hrow, hb⟩ := hrel
    obtain ⟨sa, sc, rfl⟩ := owns_shapeZ hrow.out
    by_cases hkm : k < m
    · have hm1 := times_bound h1 h2 (i := k) (by omega)
      have hm2 := times_bound h1 h2 (i := k + 1) (by omega)
      have hm3 : ((k + 1 : Nat) : Int) * work = ((k : Int) + 1) * work := by rw [Int.natCast_add]; rfl
      rw [hm3] at hm2
      have hrem : (k : Int).tmod 2 = ((k % 2 : Nat) : Int) := by rw [Int.tmod_eq_emod_of_nonneg (by omega)]; omega
      have HNX : Hid (flatS (chainL work (k + 1) 1 0) = flatS (chainL work k 1 0) ++ [.int .i64 ((k % 2 : Nat) : Int), .int .i64 (k : Int), .int .i64 ((k : Int) * work), .int .i64 (((k : Int) + 1) * work)]) := by
        show _ = _
        rw [chainL_next, flatS_append, flatS_one]; rfl
      have hown : ∀ o1, (wr.alloc o1).ownsRow w.heap.size 45 4 (.slice sa k sc) k (flatS (chainL work k 1 0)) := fun o1 => by
        have h := hrow.out
        rcases h.2 with ⟨hv, hn⟩ | ⟨g, cap, cur, hv, hg, hh, hr⟩
        · exact ⟨h.1, Or.inl ⟨hv, hn⟩⟩
        · exact ⟨h.1, Or.inr ⟨g, cap, cur, hv, hg, (Below.heap_alloc _ _ _ (Array.getElem?_eq_some_iff.1 hh).1).trans hh, hr⟩⟩
      have HOWN : Hid (∀ o1, (wr.alloc o1).ownsRow w.heap.size 45 4 (.slice sa k sc) k (flatS (chainL work k 1 0))) := hown
      have hbs := hb.size
      have HB : Hid (Below w.heap.size w wr) := hb
      clear hrow hm3 hown hb
      generalize ((k % 2 : Nat) : Int) = km at *
      generalize hp1 : (k : Int) * work = p1 at *
      generalize hp2 : ((k : Int) + 1) * work = p2 at *
      have h1c : ∀ u ∈ [Value.int .i64 km, .int .i64 (k : Int), .int .i64 p1, .int .i64 p2], u.oneCell' = true := by intro u hu; simp at hu; rcases hu with rfl | rfl | rfl | rfl <;> rfl
      go_wp2_with (at_builtin; refine wpList_append_own _ rfl (.tmp 30) (.tmp 42) 25 rfl w.heap.size 45 i45 (.agg #[.int .i64 0, .int .i64 0, .int .i64 0, .int .i64 0]) 4 32 Tryd.underlying25 hi45 hz0 hz1 hz2 rfl (by decide) _ k (flatS (chainL work k 1 0)) rfl (HOWN.out _) ⟨wr.heap.size, 0, none⟩ 1 1 [.int .i64 km, .int .i64 (k : Int), .int .i64 p1, .int .i64 p2] rfl rfl (cell_four _ _ rfl _ _ _ _ _) h1c (by unfold maxLen; omega) (by omega) (by simp; omega) ?_; intro v2 w4 hown2 hgr _)
      go_roundw
      case rel => exact ⟨k + 1, by omega, by go_num, by show World.ownsRow _ _ _ _ _ _ _; rw [HNX.out]; exact hown2, (HB.out.alloc hbs _).grown hgr (by simp; omega) (fun j e => (World.ownsRow.lt (HOWN.out (.cells #[] 45)) j e).1)⟩
      case measure => simp [intOf]; omega
    · obtain rfl : k = m := by omega
      obtain ⟨g, gc, hvg, hgl, hgz⟩ : ∃ g gc, Value.slice sa k sc = .slice (some ⟨g, 0, none⟩) k gc ∧ w.heap.size ≤ g ∧ g < wr.heap.size := by
        rcases hrow.out.2 with ⟨hv, hn⟩ | ⟨g, cap, cur, hv, hg, hh, _⟩
        · omega
        · exact ⟨g, cap, hv, hg, (Array.getElem?_eq_some_iff.1 hh).1⟩
      simp only [Value.slice.injEq, true_and] at hvg
      obtain ⟨rfl, rfl⟩ := hvg
      have HROW : Hid (∀ wx, Below wr.heap.size wr wx → wx.ownsRow w.heap.size 45 4 (.slice (some ⟨g, 0, none⟩) k sc) k (flatS (chainL work k 1 0))) := fun wx hx => by
        have h := hrow.out
        rcases h.2 with ⟨hv, hn⟩ | ⟨g', cap, cur, hv, hg, hh, hr⟩
        · exact ⟨h.1, Or.inl ⟨hv, hn⟩⟩
        · exact ⟨h.1, Or.inr ⟨g', cap, cur, hv, hg, (hx.block _ (Array.getElem?_eq_some_iff.1 hh).1).trans hh, hr⟩⟩
      have HB : Hid (Below w.heap.size w wr) := hb
      have hc1 := chain_any k work wr (by omega)
      have HS0 : Hid (staysErr (chainTs work k) 2 (chainL work k 1 0) = 0) := chain_right h1 h2 hm30
      have HST : Hid (∀ wx v2, Below wr.heap.size wr wx → PlanAt wx v2 (chainTs work k) → Calls Tryd.prog 13 #[v2, .int .i64 2, .slice (some ⟨g, 0, none⟩) k sc] wx fun e w' => e = .returned .nilIface ∧ Below wx.heap.size wx w') := fun wx v2 hx hp => by
        have hl : StaysAt wx (.slice (some ⟨g, 0, none⟩) k sc) (chainL work k 1 0) := by
          refine RowSZ.stays (b := w.heap.size) (l := chainL work k 1 0) ?_ (by rw [chainL_length]; omega)
          unfold RowSZ
          rw [chainL_length]
          exact HROW.out wx hx
        refine (stays_any v2 _ (chainTs work k) _ 2 wx hp hl).mono (fun e w' h => ⟨?_, h.2⟩)
        rw [stays_right HC.out (by omega) (by omega) h.1, show (2 : Int).toNat = 2 by rfl, HS0.out, errV_zero]
      clear hrow hb
      by_cases e1 : early < 1
      · go_wp2_with (first | (go_at_call 14; refine hc1.mono ?_; clear hc1; rintro e w2 ⟨v2, rfl, hpl, hb2⟩; have hst := HST.out w2 v2 hb2 (chain_plan hpl hm30); have HB2 : Hid (Below w.heap.size w w2) := HB.out.trans (hb2.mono HB.out.size); clear hpl hb2) | (go_at_call 13; refine hst.mono ?_; clear hst; rintro e w3 ⟨rfl, hb3⟩))
        go_ret
        exact ⟨rfl, HB2.out.trans (hb3.mono HB2.out.size)⟩
      · by_cases e2 : (k : Int) ≤ early
        · go_wp2_with (first | (go_at_call 14; refine hc1.mono ?_; clear hc1; rintro e w2 ⟨v2, rfl, hpl, hb2⟩; have hst := HST.out w2 v2 hb2 (chain_plan hpl hm30); have HB2 : Hid (Below w.heap.size w w2) := HB.out.trans (hb2.mono HB.out.size); clear hpl hb2) | (go_at_call 13; refine hst.mono ?_; clear hst; rintro e w3 ⟨rfl, hb3⟩))
          go_ret
          exact ⟨rfl, HB2.out.trans (hb3.mono HB2.out.size)⟩
        · obtain ⟨x, rfl⟩ := Int.eq_ofNat_of_zero_le (show 0 ≤ early by omega)
          have hxk : x < k := by omega
          have hm1 := times_bound h1 h2 (i := x) (by omega)
          have hm2 := times_bound h1 h2 (i := x + 1) (by omega)
          have hm3 : ((x + 1 : Nat) : Int) * work = ((x : Int) + 1) * work := by rw [Int.natCast_add]; rfl
          rw [hm3] at hm2
          have HS6 : Hid (staysErr (chainTs work k) 2 (chainL work k x 1) = 6) := chain_soon h1 h2 hm30 (by omega) hxk
          have HST2 : Hid (∀ (w3 w6 : World) (v6 : Value), w3.ownsRow w.heap.size 45 4 (.slice (some ⟨g, 0, none⟩) k sc) k (flatS (chainL work k 1 0)) → Below w3.heap.size ((w3.setCell ⟨g, x * 4 + 2, none⟩ (.int .i64 ((x : Int) * work - 1))).setCell ⟨g, x * 4 + 3, none⟩ (.int .i64 (((x : Int) + 1) * work - 1))) w6 → PlanAt w6 v6 (chainTs work k) → Calls Tryd.prog 13 #[v6, .int .i64 2, .slice (some ⟨g, 0, none⟩) k sc] w6 fun e w' => e = .returned (.iface 51 (.int .i64 6)) ∧ Below w6.heap.size w6 w') := fun w3 w6 v6 hr hx hp => by
            have hl := (chain_set hr hm30 hxk).later (w' := w6) (by simpa [World.setCell] using hx)
            refine (stays_any v6 _ (chainTs work k) _ 2 w6 hp hl).mono (fun e w' h => ⟨?_, h.2⟩)
            rw [stays_right HC.out (by omega) (by omega) h.1, show (2 : Int).toNat = 2 by rfl, HS6.out, errV_some (by decide)]
          have HCL : Hid (∀ w3 : World, w3.ownsRow w.heap.size 45 4 (.slice (some ⟨g, 0, none⟩) k sc) k (flatS (chainL work k 1 0)) → w3.cell? ⟨g, x * 4 + 2, none⟩ = some (.int .i64 ((x : Int) * work)) ∧ w3.cell? ⟨g, x * 4 + 3, none⟩ = some (.int .i64 (((x : Int) + 1) * work))) := fun w3 hr => by
            have hs0 : soon 1 0 x = 0 := by unfold soon; split <;> rfl
            have hb : ∀ j, j < 4 → w3.cell? ⟨g, x * 4 + j, none⟩ = (styVZ (chainSt work x 0))[j]? := fun j hj => by
              rw [hr.cellAt (x * 4 + j) (by omega), flatS_at (l := chainL work k 1 0) (k := x) (by rw [chainL_length]; exact hxk) j hj, chainL_getD work hxk, hs0]
            refine ⟨(hb 2 (by omega)).trans ?_, (hb 3 (by omega)).trans ?_⟩
            · simp [styVZ, chainSt]
            · simp [styVZ, chainSt]
          have HERR : Hid (∀ wx, Below w.heap.size w wx → Calls Tryd.prog 8 #[.iface 51 (.int .i64 6), .int .i64 6] wx fun ev w' => ev = .returned (.bool true) ∧ Below wx.heap.size wx w') := fun wx hx => by
            have h := error_any 6 6 wx (HT.out.later hx)
            rw [errV_some (by decide)] at h
            exact h
          have hk1000 : k ≤ 1000 := by omega
          generalize (x : Int) * work = p1 at *
          generalize ((x : Int) + 1) * work = p2 at *
          clear hm3
          go_wp2_with (first | (go_at_call 14; refine hc1.mono ?_; clear hc1; rintro e w2 ⟨v2, rfl, hpl, hb2⟩; have hst := HST.out w2 v2 hb2 (chain_plan hpl hm30); have HB2 : Hid (Below wr.heap.size wr w2) := hb2; clear hpl hb2) | (go_at_call 13; refine hst.mono ?_; clear hst; rintro e w3 ⟨rfl, hb3⟩; have HB3 : Hid (Below wr.heap.size wr w3) := HB2.out.trans (hb3.mono HB2.out.size); have HR3 : Hid (w3.ownsRow w.heap.size 45 4 (.slice (some ⟨g, 0, none⟩) k sc) k (flatS (chainL work k 1 0))) := HROW.out w3 HB3.out; obtain ⟨hcc2, hcc3⟩ := HCL.out w3 HR3.out; have hfz2 := HR3.out.frozenAt (x * 4 + 2); have hfz3 := HR3.out.frozenAt (x * 4 + 3); clear hb3) | (go_at_call 14; refine (chain_any k work _ hk1000).mono ?_; rintro e w6 ⟨v6, rfl, hpl6, hb6⟩; have HB6 : Hid (Below w3.heap.size ((w3.setCell ⟨g, x * 4 + 2, none⟩ (.int .i64 (p1 - 1))).setCell ⟨g, x * 4 + 3, none⟩ (.int .i64 (p2 - 1))) w6) := Below.mono hb6 (Nat.le_of_eq (World.setCell_size2 w3 _ _ _ _)); have hst2 := HST2.out w3 w6 v6 HR3.out HB6.out (chain_plan hpl6 hm30); clear hpl6 hb6) | (go_at_call 13; refine hst2.mono ?_; clear hst2; rintro e w7 ⟨rfl, hb7⟩; have HB7 : Hid (Below w6.heap.size w6 w7) := hb7; have HBA : Hid (Below w.heap.size w w7) := HB.out.trans (below_two_sets HB3.out HB6.out HB7.out hgl hgz HB.out.size); have herr := HERR.out w7 HBA.out; clear hb7) | (go_at_call 8; refine herr.mono ?_; clear herr; rintro e w8 ⟨rfl, hb8⟩))
          go_ret
          exact ⟨rfl, HBA.out.trans (hb8.mono HBA.out.size)⟩
end Go.Proofs.YtkgdhfdahafaoaaDoor
