/- The document's gang: take; how many are left. -/
import Derived.Test.YtchbncgifefegaaDoorDga
namespace Go.Proofs.YtchbncgifefegaaDoor
open Go.RowKit Go.Deep
open Spl.Dsp (Gq gArr)

/-- The document's gang, wherever its parts lie. -/
def DgE (M room hands : Nat) (ts : List (Int × List Int)) (p : Value) (g : Gs) (Bd : Bs) (w0 w : World) : Prop :=
  ∃ own gq vf vh HB hc DB dc Hk vk, gq.p = p ∧ Dg M room hands ts g own gq vf vh HB hc DB dc Hk vk Bd w0 w

theorem DgE.later {M room hands : Nat} {ts : List (Int × List Int)} {p : Value} {g : Gs} {Bd : Bs} {w0 w w' : World} (h : DgE M room hands ts p g Bd w0 w) (hb : Below w.heap.size w w') : DgE M room hands ts p g Bd w0 w' := by
  obtain ⟨own, gq, vf, vh, HB, hc, DB, dc, Hk, vk, hp, hD⟩ := h
  exact ⟨_, _, _, _, _, _, _, _, _, _, hp, hD.later0 (Kc.of_below hb)⟩
theorem PlanAt.work {w : World} {v : Value} {ts : List (Int × List Int)} (h : PlanAt w v ts) {k : Nat} (hk : k < ts.length) : ∃ b o c, v = .slice (some ⟨b, o, none⟩) ts.length c ∧ b < w.heap.size ∧ w.cell? ⟨b, o + k * 2, none⟩ = some (.int .i64 (workOf ts k)) := by
  obtain ⟨hl, a, c, rfl, h⟩ := h
  rcases h with e | ⟨b, o, rfl, hb, hc⟩
  · subst e; simp at hk
  · exact ⟨b, o, c, rfl, hb, (hc k hk).1⟩

set_option maxHeartbeats 2000000 in
theorem Dg.take {M room hands : Nat} {ts : List (Int × List Int)} {g : Gs} {own : Nat → Nat} {gq : Gq} {vf vh : Value} {HB hc DB dc : Nat} {Hk : Nat → Nat} {vk : Nat → Value} {Bd : Bs} {w0 w : World} (hD : Dg M room hands ts g own gq vf vh HB hc DB dc Hk vk Bd w0 w) (hd i : Nat) (hh : hd < hands) (h6 : hands ≤ 6) (hi : i < ts.length) :
    Calls Tryd.prog 32 #[.pointer (some ⟨M, 0, none⟩), .int .i64 hd, .int .i64 i] w fun e w' => e = .returned (.tuple #[]) ∧ (∃ own', Dg M room hands ts (takes ts g hd i) own' gq vf vh HB hc DB dc Hk vk Bd w0 w') ∧ Kc own (fun c => c = 2 ∨ c = 3) w w' := by
  obtain ⟨hc0, -, hc2, hc3, -, -⟩ := hD.c
  obtain ⟨tb, tc, htv, htlo, htlt, -⟩ := hD.tk.full (by rw [upto_length]; omega)
  obtain ⟨wb, wc, hwv, hwlo, hwlt, -⟩ := hD.wk.full (by rw [upto_length]; omega)
  obtain ⟨pb, po, pc, hpv, hplt, hpc⟩ := hD.plan.work hi
  rw [upto_length] at htv hwv
  have htl : own tb = 2 := hD.ltk tb (by rw [htv]; rfl)
  have hwl : own wb = 3 := hD.lwk wb (by rw [hwv]; rfl)
  have hne : tb ≠ wb := fun e => by rw [e, hwl] at htl; omega
  have hpt : tb ≠ pb := by have := hD.base; omega
  have hpw : wb ≠ pb := by have := hD.base; omega
  have hMt : tb ≠ M := by omega
  have hpc' := (hD.below.cell (p := ⟨pb, po + i * 2, none⟩) hplt).trans hpc
  have htk := hD.tk
  have hwk := hD.wk
  rw [htv] at htk
  rw [hwv] at hwk
  have h1 := htk.setAt (k := hd) (by rw [upto_length]; exact hh) ((i : Nat) : Int)
  rw [upto_set, ← htv] at h1
  have hD1 := hD.setTask (upd g.task hd ((i : Nat) : Int)) h1 (Kc.store (b := tb) (by exact htl) hd (.int .i64 ((i : Nat) : Int)))
  have hwk1 := hD1.wk
  rw [hwv] at hwk1
  have h2 := hwk1.setAt (k := hd) (by rw [upto_length]; exact hh) (workOf ts i)
  rw [upto_set, ← hwv] at h2
  have hwl1 : relabel own w.heap.size 2 wb = 3 := by rw [relabel_lt hwlt]; exact hwl
  have hD2 := hD1.setWork (upd g.work hd (workOf ts i)) h2 (Kc.store (b := wb) (by exact hwl1) hd (.int .i64 (workOf ts i)))
  have HD2 : Hid (∃ own', Dg M room hands ts (takes ts g hd i) own' gq vf vh HB hc DB dc Hk vk Bd w0 ((w.setCell ⟨tb, hd, none⟩ (.int .i64 ((i : Nat) : Int))).setCell ⟨wb, hd, none⟩ (.int .i64 (workOf ts i))).drew) := ⟨_, hD2.later0 (Kc.of_below ⟨rfl, rfl, rfl, Nat.le_refl _, fun _ _ => rfl⟩)⟩
  have HK2 : Hid (Kc own (fun c => c = 2 ∨ c = 3) w ((w.setCell ⟨tb, hd, none⟩ (.int .i64 ((i : Nat) : Int))).setCell ⟨wb, hd, none⟩ (.int .i64 (workOf ts i))).drew) := ⟨rfl, rfl, rfl, by simp, fun k _ hk => (Below.heap_setCell (w.setCell ⟨tb, hd, none⟩ (.int .i64 ((i : Nat) : Int))) ⟨wb, hd, none⟩ _ k (by show k ≠ wb; intro e; subst e; exact hk (Or.inr hwl))).trans (Below.heap_setCell w ⟨tb, hd, none⟩ _ k (by show k ≠ tb; intro e; subst e; exact hk (Or.inl htl)))⟩
  have hct := htk.cell (k := hd) (by rw [upto_length]; exact hh)
  have hcw := hwk.cell (k := hd) (by rw [upto_length]; exact hh)
  rw [upto_getD _ hh] at hct hcw
  have hfT : ∀ j, w.frozen? ⟨tb, j, none⟩ = false := fun j => RowI.frozen htk j
  have hfW : ∀ j, (w.setCell ⟨tb, hd, none⟩ (.int .i64 ((i : Nat) : Int))).frozen? ⟨wb, j, none⟩ = false := fun j => RowI.frozen hwk1 j
  have d0 := hD1.c.1
  have d3 := hD1.c.2.2.2.1
  have dcw := hwk1.cell (k := hd) (by rw [upto_length]; exact hh)
  have dpc := (hD1.below.cell (p := ⟨pb, po + i * 2, none⟩) hplt).trans hpc
  rw [upto_getD _ hh] at dcw
  rw [htv] at hc2
  rw [hwv] at hc3 d3
  rw [hpv] at hc0 d0
  have fT := hfT hd
  have fW := hfW hd
  generalize workOf ts i = wi at *
  have hhi : (hd : Int) < (hands : Int) := by omega
  have hii : (i : Int) < (ts.length : Int) := by omega
  clear hfT hfW hD hD1 hD2 h1 h2 hwk htk hwk1 hplt hpc hpc' htlo hwlo htv hwv hpv hwl1 htl hwl
  go_enter Tryd.func32, Tryd.ntmps32
  go_wp2
  go_region
  all_goals
    go_wp2
    go_end0
    exact ⟨rfl, HD2.out, HK2.out⟩

theorem dTake_any (M room hands : Nat) (ts : List (Int × List Int)) (p : Value) (g : Gs) (Bd : Bs) (w0 w : World) (h : DgE M room hands ts p g Bd w0 w) (hd i : Nat) (hh : hd < hands) (h6 : hands ≤ 6) (hi : i < ts.length) :
    Calls Tryd.prog 32 #[.pointer (some ⟨M, 0, none⟩), .int .i64 hd, .int .i64 i] w fun e w' => e = .returned (.tuple #[]) ∧ DgE M room hands ts p (takes ts g hd i) Bd w0 w' ∧ w.heap.size ≤ w'.heap.size := by
  obtain ⟨own, gq, vf, vh, HB, hc, DB, dc, Hk, vk, rfl, hD⟩ := h
  refine (hD.take hd i hh h6 hi).mono ?_
  rintro e w' ⟨rfl, ⟨own', hD'⟩, hk⟩
  exact ⟨rfl, ⟨_, _, _, _, _, _, _, _, _, _, rfl, hD'⟩, hk.size⟩

theorem unseen_succ (S : Nat → Bool) (n : Nat) : unseen S (n + 1) = unseen S n + if S n then 0 else 1 := rfl
set_option maxHeartbeats 1000000 in
theorem dLeft_any (M room hands : Nat) (ts : List (Int × List Int)) (p : Value) (g : Gs) (Bd : Bs) (w0 w : World) (h : DgE M room hands ts p g Bd w0 w) (h30 : ts.length ≤ 30) :
    Calls Tryd.prog 16 #[.pointer (some ⟨M, 0, none⟩)] w fun e w' => e = .returned (.int .i64 (unseen g.S ts.length)) ∧ Below w.heap.size w w' := by
  obtain ⟨own, gq, vf, vh, HB, hc, DB, dc, Hk, vk, rfl, hD⟩ := h
  obtain ⟨-, -, -, -, -, hc8⟩ := hD.c
  rw [hD.dn] at hc8
  have HR : Hid (w.rowIs DB 4 ts.length (fun k => .bool (g.S k))) := hD.drow
  clear hD
  go_enter Tryd.func16, Tryd.ntmps16
  go_wp2
  go_loopw [3, 4] (fun s3 s4 wr => ∃ (k m q : Nat), k ≤ ts.length ∧ s4 = .int .i64 k ∧ s3 = .int .i64 m ∧ Hid (m = unseen g.S k) ∧ m ≤ k ∧ wr = w.drewN q) (fun _ s4 _ => ts.length - (intOf s4).toNat)
  case atStart => exact ⟨0, 0, 0, Nat.zero_le _, rfl, rfl, rfl, Nat.le_refl _, rfl⟩
  case round =>
    obtain ⟨k, m, q, hk, rfl, rfl, hm, hmk, rfl⟩ := hrel
    have hc8' : (w.drewN q).cell? ⟨M, 8, none⟩ = some (.slice (some ⟨DB, 0, none⟩) ts.length dc) := hc8
    by_cases hkl : k < ts.length
    · have hkl' : (k : Int) < (ts.length : Int) := by omega
      have hcd : (w.drewN q).cell? ⟨DB, k, none⟩ = some (.bool (g.S k)) := HR.out.cell hkl
      have hs := unseen_succ g.S k
      have HS : Hid (unseen g.S (k + 1) = unseen g.S k + if g.S k then 0 else 1) := hs
      clear hs
      cases hSk : g.S k
      · rw [hSk] at hcd HS
        have hm2 : Hid (m + 1 = unseen g.S (k + 1)) := by show _ = _; rw [HS.out, ← hm.out]; simp
        clear hSk
        go_wp2
        go_roundw
        case rel => exact ⟨k + 1, m + 1, q, by omega, by go_num, by go_num, hm2, by omega, rfl⟩
        case measure => simp [intOf]; omega
      · rw [hSk] at hcd HS
        have hm2 : Hid (m = unseen g.S (k + 1)) := by show _ = _; rw [HS.out, ← hm.out]; simp
        clear hSk
        go_wp2
        go_roundw
        case rel => exact ⟨k + 1, m, q, by omega, by go_num, rfl, hm2, by omega, rfl⟩
        case measure => simp [intOf]; omega
    · have hkl' : ¬ (k : Int) < (ts.length : Int) := by omega
      obtain rfl : k = ts.length := by omega
      have HE := hm.out
      subst HE
      go_wp2
      go_ret
      exact ⟨rfl, ⟨rfl, rfl, rfl, Nat.le_refl _, fun _ _ => rfl⟩⟩
end Go.Proofs.YtchbncgifefegaaDoor
