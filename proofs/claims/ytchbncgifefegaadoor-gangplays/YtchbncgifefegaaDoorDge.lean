/- The document's Step, way by way: one that sleeps; a unit of work; what the hand takes; what the spill gets; one falls asleep. -/
import Derived.Test.YtchbncgifefegaaDoorDgd
import Derived.Test.YtchbncgifefegaaDoorPrk
import Derived.Deep.CutRange
import Derived.Deep.CutBlock
namespace Go.Proofs.YtchbncgifefegaaDoor
open Go.RowKit Go.Deep
open Spl.Dsp (Gq gArr)

theorem inZ {v : Value} {b : Nat} {zs : List Int} {w : World} (h : RowI b w v zs) (hz : zs.length ≤ 6) (x : Int) : Calls Tryd.prog 28 #[v, .int .i64 x] w fun e w' => e = .returned (.bool (decide (x ∈ zs))) ∧ w' = w :=
  Prk.in_any _ v zs x w h.rds (by omega)

variable (M room hands : Nat) (ts : List (Int × List Int)) (p : Value) (g : Gs) (Bd : Bs) (w0 w : World) (h : Nat) (pick : Int)
set_option maxRecDepth 100000 in
theorem dStep_asleep (hD : DgE M room hands ts p g Bd w0 w) (hz : (h : Int) ∈ g.zz) :
    Calls Tryd.prog 8 #[.pointer (some ⟨M, 0, none⟩), .int .i64 h, .int .i64 pick] w fun e w' => (∃ v, e = .returned v ∧ RowD w.heap.size w' v []) ∧ DgE M room hands ts p g Bd w0 w' := by
  have HD : Hid (DgE M room hands ts p g Bd w0 w) := hD
  obtain ⟨own, gq, vf, vh, HB, hc, DB, dc, Hk, vk, hp, hD⟩ := hD
  have hin := inZ hD.row hD.zle (h : Int)
  rw [decide_eq_true hz] at hin
  have hc7 := hD.c.2.2.2.2.1
  clear hD hp hz
  go_enter Tryd.func8, Tryd.ntmps8
  go_wp2_with (first | (go_at_call 28; refine hin.mono ?_; clear hin; rintro e w ⟨rfl, rfl⟩))
  go_ret
  exact ⟨⟨_, rfl, RowD.nil _ _⟩, HD.out⟩

/-- What is read of the hand's task and work. -/
theorem Dg.tw {M room hands : Nat} {ts : List (Int × List Int)} {g : Gs} {own : Nat → Nat} {gq : Gq} {vf vh : Value} {HB hc DB dc : Nat} {Hk : Nat → Nat} {vk : Nat → Value} {Bd : Bs} {w0 w : World} (hD : Dg M room hands ts g own gq vf vh HB hc DB dc Hk vk Bd w0 w) {h : Nat} (hh : h < hands) :
    ∃ tb tc wb wc, gq.tk = .slice (some ⟨tb, 0, none⟩) hands tc ∧ gq.wk = .slice (some ⟨wb, 0, none⟩) hands wc ∧ w.cell? ⟨tb, h, none⟩ = some (.int .i64 (g.task h)) ∧ w.cell? ⟨wb, h, none⟩ = some (.int .i64 (g.work h)) ∧ own tb = 2 ∧ own wb = 3 ∧ tb < w.heap.size ∧ wb < w.heap.size ∧ (∀ j, w.frozen? ⟨tb, j, none⟩ = false) ∧ ∀ j, w.frozen? ⟨wb, j, none⟩ = false := by
  obtain ⟨tb, tc, htv, -, htlt, -⟩ := hD.tk.full (by rw [upto_length]; omega)
  obtain ⟨wb, wc, hwv, -, hwlt, -⟩ := hD.wk.full (by rw [upto_length]; omega)
  rw [upto_length] at htv hwv
  have htk := hD.tk
  have hwk := hD.wk
  rw [htv] at htk
  rw [hwv] at hwk
  have hct := htk.cell (k := h) (by rw [upto_length]; exact hh)
  have hcw := hwk.cell (k := h) (by rw [upto_length]; exact hh)
  rw [upto_getD _ hh] at hct hcw
  exact ⟨tb, tc, wb, wc, htv, hwv, hct, hcw, hD.ltk tb (by rw [htv]; rfl), hD.lwk wb (by rw [hwv]; rfl), htlt, hwlt, fun j => RowI.frozen htk j, fun j => RowI.frozen hwk j⟩
theorem Dg.workTo {M room hands : Nat} {ts : List (Int × List Int)} {g : Gs} {own : Nat → Nat} {gq : Gq} {vf vh : Value} {HB hc DB dc : Nat} {Hk : Nat → Nat} {vk : Nat → Value} {Bd : Bs} {w0 w : World} (hD : Dg M room hands ts g own gq vf vh HB hc DB dc Hk vk Bd w0 w) {h wb wc : Nat} (hh : h < hands) (hwv : gq.wk = .slice (some ⟨wb, 0, none⟩) hands wc) (x : Int) :
    Dg M room hands ts { g with work := upd g.work h x } (relabel own w.heap.size 3) gq vf vh HB hc DB dc Hk vk Bd w0 (w.setCell ⟨wb, h, none⟩ (.int .i64 x)) := by
  have hwk := hD.wk
  rw [hwv] at hwk
  have h2 := hwk.setAt (k := h) (by rw [upto_length]; exact hh) x
  rw [upto_set, ← hwv] at h2
  exact hD.setWork (upd g.work h x) h2 (Kc.store (b := wb) (hD.lwk wb (by rw [hwv]; rfl)) h (.int .i64 x))
theorem Dg.taskTo {M room hands : Nat} {ts : List (Int × List Int)} {g : Gs} {own : Nat → Nat} {gq : Gq} {vf vh : Value} {HB hc DB dc : Nat} {Hk : Nat → Nat} {vk : Nat → Value} {Bd : Bs} {w0 w : World} (hD : Dg M room hands ts g own gq vf vh HB hc DB dc Hk vk Bd w0 w) {h tb tc : Nat} (hh : h < hands) (htv : gq.tk = .slice (some ⟨tb, 0, none⟩) hands tc) (x : Int) :
    Dg M room hands ts { g with task := upd g.task h x } (relabel own w.heap.size 2) gq vf vh HB hc DB dc Hk vk Bd w0 (w.setCell ⟨tb, h, none⟩ (.int .i64 x)) := by
  have htk := hD.tk
  rw [htv] at htk
  have h2 := htk.setAt (k := h) (by rw [upto_length]; exact hh) x
  rw [upto_set, ← htv] at h2
  exact hD.setTask (upd g.task h x) h2 (Kc.store (b := tb) (hD.ltk tb (by rw [htv]; rfl)) h (.int .i64 x))

set_option maxRecDepth 100000 in
set_option maxHeartbeats 2000000 in
theorem dStep_works (hD : DgE M room hands ts p g Bd w0 w) (hh : h < hands) (_h6 : hands ≤ 6) (hz : (h : Int) ∉ g.zz) (ht : 0 ≤ g.task h) (hw : 1 < g.work h) (hw2 : g.work h ≤ 100) :
    Calls Tryd.prog 8 #[.pointer (some ⟨M, 0, none⟩), .int .i64 h, .int .i64 pick] w fun e w' => (∃ v, e = .returned v ∧ RowD w.heap.size w' v []) ∧ DgE M room hands ts p { g with work := upd g.work h (g.work h - 1) } Bd w0 w' := by
  obtain ⟨own, gq, vf, vh, HB, hc, DB, dc, Hk, vk, rfl, hD⟩ := hD
  have hin := inZ hD.row hD.zle (h : Int)
  rw [decide_eq_false hz] at hin
  obtain ⟨-, -, hc2, hc3, hc7, -⟩ := hD.c
  obtain ⟨tb, tc, wb, wc, htv, hwv, hct, hcw, htl, hwl, htlt, hwlt, hfT, hfW⟩ := hD.tw hh
  rw [htv] at hc2
  rw [hwv] at hc3
  have hD2 := hD.workTo hh hwv (g.work h - 1)
  have HD2 : Hid (DgE M room hands ts gq.p { g with work := upd g.work h (g.work h - 1) } Bd w0 (w.setCell ⟨wb, h, none⟩ (.int .i64 (g.work h - 1)))) := hD2.e
  have d3 := hD2.c.2.2.2.1
  rw [hwv] at d3
  have dcw : (w.setCell ⟨wb, h, none⟩ (.int .i64 (g.work h - 1))).cell? ⟨wb, h, none⟩ = some (.int .i64 (g.work h - 1)) := by
    obtain ⟨tb', tc', wb', wc', -, hwv', -, hcw', -⟩ := hD2.tw hh
    rw [hwv] at hwv'
    simp only [Value.slice.injEq, Option.some.injEq, Addr.mk.injEq, and_true, true_and] at hwv'
    obtain ⟨rfl, rfl⟩ := hwv'
    simpa [upd_self] using hcw'
  have hfw := hfW h
  have hhi : (h : Int) < (hands : Int) := by omega
  generalize g.task h = t at *
  generalize g.work h = wk at *
  have hg : 0 < wk - 1 := by omega
  clear hD hD2 hfT hfW htl hwl hz
  go_enter Tryd.func8, Tryd.ntmps8
  go_wp2_with (first | (go_at_call 28; refine hin.mono ?_; clear hin; rintro e w ⟨rfl, rfl⟩))
  go_ret
  exact ⟨⟨_, rfl, RowD.nil _ _⟩, HD2.out⟩

/-- A deed that is told, new. -/
theorem RowD.told (w w' : World) (hb : w.heap.size ≤ w'.heap.size) (d : Deed) : RowD w.heap.size (w'.alloc (.cells #[.int .i64 d.1, .int .i64 d.2.1, .int .i64 d.2.2.1, .int .i64 d.2.2.2] 81)) (.slice (some ⟨w'.heap.size, 0, none⟩) 1 1) [d] := (RowD.one w' d).mono hb

set_option maxRecDepth 100000 in
set_option maxHeartbeats 4000000 in
theorem dStep_near (hD : DgE M room hands ts p g Bd w0 w) (hh : h < hands) (h6 : hands ≤ 6) (hz : (h : Int) ∉ g.zz) (ht : ¬ 0 ≤ g.task h) (hn : g.near h ≠ -1) (i : Nat) (hi : i < ts.length) (hni : g.near h = ((i : Nat) : Int)) :
    Calls Tryd.prog 8 #[.pointer (some ⟨M, 0, none⟩), .int .i64 h, .int .i64 pick] w fun e w' => (∃ v, e = .returned v ∧ RowD w.heap.size w' v [(1, (h : Int), ((i : Nat) : Int), 0)]) ∧ DgE M room hands ts p (takes ts { g with near := upd g.near h (-1) } h ((i : Nat) : Int)) Bd w0 w' := by
  obtain ⟨own, gq, vf, vh, HB, hc, DB, dc, Hk, vk, rfl, hD⟩ := hD
  have hin := inZ hD.row hD.zle (h : Int)
  rw [decide_eq_false hz] at hin
  obtain ⟨-, -, hc2, hc3, hc7, -⟩ := hD.c
  obtain ⟨hc1, hcp⟩ := hD.hands1 hh
  obtain ⟨tb, tc, wb, wc, htv, hwv, hct, -⟩ := hD.tw hh
  rw [htv] at hc2
  have htk := hD.takeNear hh hn
  rw [hni] at htk
  have hhi : (h : Int) < (hands : Int) := by omega
  generalize g.task h = t at *
  clear hD hz
  go_enter Tryd.func8, Tryd.ntmps8
  go_wp2_with (first | (go_at_call 28; refine hin.mono ?_; clear hin; rintro e w ⟨rfl, rfl⟩) | (go_at_call 31; refine htk.mono ?_; clear htk; rintro e w2 ⟨rfl, hD2, hs2⟩; have hta := dTake_any M room hands ts gq.p _ Bd w0 w2 hD2 h i hh h6 hi; clear hD2) | (go_at_call 32; refine hta.mono ?_; clear hta; rintro e w3 ⟨rfl, hD3, hs3⟩; have HD3 : Hid (DgE M room hands ts gq.p (takes ts { g with near := upd g.near h (-1) } h ((i : Nat) : Int)) Bd w0 w3) := hD3; clear hD3))
  go_ret
  exact ⟨⟨_, rfl, RowD.told w w3 (by omega) (1, (h : Int), ((i : Nat) : Int), 0)⟩, HD3.out.later ((Below.refl _ _).alloc (Nat.le_refl _) _)⟩

set_option maxRecDepth 100000 in
set_option maxHeartbeats 4000000 in
theorem dStep_ring (hD : DgE M room hands ts p g Bd w0 w) (hh : h < hands) (h6 : hands ≤ 6) (hz : (h : Int) ∉ g.zz) (ht : ¬ 0 ≤ g.task h) (hn : g.near h = -1) (hr : g.ring h ≠ []) (i : Nat) (hi : i < ts.length) (hni : (g.ring h).getLastD 0 = ((i : Nat) : Int)) :
    Calls Tryd.prog 8 #[.pointer (some ⟨M, 0, none⟩), .int .i64 h, .int .i64 pick] w fun e w' => (∃ v, e = .returned v ∧ RowD w.heap.size w' v [(1, (h : Int), ((i : Nat) : Int), 0)]) ∧ DgE M room hands ts p (takes ts { g with ring := upd g.ring h (g.ring h).dropLast } h ((i : Nat) : Int)) Bd w0 w' := by
  obtain ⟨own, gq, vf, vh, HB, hc, DB, dc, Hk, vk, rfl, hD⟩ := hD
  have hin := inZ hD.row hD.zle (h : Int)
  rw [decide_eq_false hz] at hin
  obtain ⟨-, -, hc2, hc3, hc7, -⟩ := hD.c
  obtain ⟨hc1, hcp⟩ := hD.hands1 hh
  obtain ⟨tb, tc, wb, wc, htv, hwv, hct, -⟩ := hD.tw hh
  rw [htv] at hc2
  have htk := hD.takeRing hh hn hr
  rw [hni] at htk
  have hhi : (h : Int) < (hands : Int) := by omega
  generalize g.task h = t at *
  clear hD hz hni
  go_enter Tryd.func8, Tryd.ntmps8
  go_wp2_with (first | (go_at_call 28; refine hin.mono ?_; clear hin; rintro e w ⟨rfl, rfl⟩) | (go_at_call 31; refine htk.mono ?_; clear htk; rintro e w2 ⟨rfl, hD2, hs2⟩; have hta := dTake_any M room hands ts gq.p _ Bd w0 w2 hD2 h i hh h6 hi; clear hD2) | (go_at_call 32; refine hta.mono ?_; clear hta; rintro e w3 ⟨rfl, hD3, hs3⟩; have HD3 : Hid (DgE M room hands ts gq.p (takes ts { g with ring := upd g.ring h (g.ring h).dropLast } h ((i : Nat) : Int)) Bd w0 w3) := hD3; clear hD3))
  go_ret
  exact ⟨⟨_, rfl, RowD.told w w3 (by omega) (1, (h : Int), ((i : Nat) : Int), 0)⟩, HD3.out.later ((Below.refl _ _).alloc (Nat.le_refl _) _)⟩

set_option maxRecDepth 100000 in
set_option maxHeartbeats 4000000 in
theorem dStep_fetch (hD : DgE M room hands ts p g Bd w0 w) (hh : h < hands) (h6 : hands ≤ 6) (h16 : room ≤ 16) (hz : (h : Int) ∉ g.zz) (ht : ¬ 0 ≤ g.task h) (hn : g.near h = -1) (hr : g.ring h = []) (i : Nat) (hi : i < ts.length) (l : List Int) (hs : g.sp = ((i : Nat) : Int) :: l) :
    Calls Tryd.prog 8 #[.pointer (some ⟨M, 0, none⟩), .int .i64 h, .int .i64 pick] w fun e w' => (∃ v, e = .returned v ∧ RowD w.heap.size w' v [(3, (h : Int), ((i : Nat) : Int), 0)]) ∧ DgE M room hands ts p (takes ts { g with sp := g.sp.tail } h ((i : Nat) : Int)) Bd w0 w' := by
  obtain ⟨own, gq, vf, vh, HB, hc, DB, dc, Hk, vk, rfl, hD⟩ := hD
  have hin := inZ hD.row hD.zle (h : Int)
  rw [decide_eq_false hz] at hin
  obtain ⟨-, -, hc2, hc3, hc7, -⟩ := hD.c
  obtain ⟨hc1, hcp⟩ := hD.hands1 hh
  obtain ⟨tb, tc, wb, wc, htv, hwv, hct, -⟩ := hD.tw hh
  rw [htv] at hc2
  have htk := hD.takeNone hh hn hr
  have hget := hD.get1 h16
  have h1 : g.sp.take 1 = [((i : Nat) : Int)] := by rw [hs]; rfl
  rw [h1] at hget
  have hhi : (h : Int) < (hands : Int) := by omega
  generalize g.task h = t at *
  clear hD hz hs h1
  go_enter Tryd.func8, Tryd.ntmps8
  go_wp2_with (first | (go_at_call 28; refine hin.mono ?_; clear hin; rintro e w ⟨rfl, rfl⟩) | (go_at_call 31; refine htk.mono ?_; clear htk; rintro e w ⟨rfl, rfl⟩) | (go_at_call 33; refine hget.mono ?_; clear hget; rintro e w2 ⟨⟨ov, rfl, ho⟩, ⟨own2, vf2, vh2, hD2, hl2⟩, hs2⟩; obtain ⟨oa, oc, rfl⟩ := ho.shape; obtain ⟨ob, oo, rfl, hob, hol, hco⟩ := ho.at (k := 0) (by simp); simp only [Nat.add_zero, List.getD_cons_zero, List.length_singleton] at hco ⊢; have HO2 : Hid (w2.cell? ⟨ob, oo, none⟩ = some (.int .i64 ((i : Nat) : Int)) ∧ ob < w2.heap.size ∧ own2 ob = 6) := ⟨hco, hol, hl2 ob hob⟩; have hta := hD2.take h i hh h6 hi; clear hD2 ho hl2) | (go_at_call 32; refine hta.mono ?_; clear hta; rintro e w3 ⟨rfl, ⟨own3, hD3⟩, hk3⟩; have hco3 := (World.cell?_of_block (a := ⟨ob, oo, none⟩) (hk3.block ob HO2.out.2.1 (by have := HO2.out.2.2; omega))).trans HO2.out.1; have hs3 := hk3.size; have HD3 : Hid (DgE M room hands ts gq.p (takes ts { g with sp := g.sp.tail } h ((i : Nat) : Int)) Bd w0 w3) := hD3.e; clear hD3 hk3 hco))
  go_ret
  exact ⟨⟨_, rfl, RowD.told w w3 (by omega) (3, (h : Int), ((i : Nat) : Int), 0)⟩, HD3.out.later ((Below.refl _ _).alloc (Nat.le_refl _) _)⟩
end Go.Proofs.YtchbncgifefegaaDoor
