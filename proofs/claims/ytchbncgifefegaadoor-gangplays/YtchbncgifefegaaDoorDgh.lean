/- The document's Step: its last unit is done. -/
import Derived.Test.YtchbncgifefegaaDoorDgg
namespace Go.Proofs.YtchbncgifefegaaDoor
open Go.RowKit Go.Deep
open Spl.Dsp (Gq gArr)

theorem Dg.bools {M room hands : Nat} {ts : List (Int × List Int)} {g : Gs} {own : Nat → Nat} {gq : Gq} {vf vh : Value} {HB hc DB dc : Nat} {Hk : Nat → Nat} {vk : Nat → Value} {Bd : Bs} {w0 w : World} (hD : Dg M room hands ts g own gq vf vh HB hc DB dc Hk vk Bd w0 w) : BoolsAt w gq.dn ts.length g.S :=
  ⟨DB, 0, dc, hD.dn, hD.drow.lt, fun k hk => by rw [Nat.zero_add]; exact hD.drow.cell hk⟩
theorem Dg.planNow {M room hands : Nat} {ts : List (Int × List Int)} {g : Gs} {own : Nat → Nat} {gq : Gq} {vf vh : Value} {HB hc DB dc : Nat} {Hk : Nat → Nat} {vk : Nat → Value} {Bd : Bs} {w0 w : World} (hD : Dg M room hands ts g own gq vf vh HB hc DB dc Hk vk Bd w0 w) : PlanAt w gq.p ts := hD.plan.later hD.below
theorem Dg.doneTo {M room hands : Nat} {ts : List (Int × List Int)} {g : Gs} {own : Nat → Nat} {gq : Gq} {vf vh : Value} {HB hc DB dc : Nat} {Hk : Nat → Nat} {vk : Nat → Value} {Bd : Bs} {w0 w : World} (hD : Dg M room hands ts g own gq vf vh HB hc DB dc Hk vk Bd w0 w) (i : Nat) :
    Dg M room hands ts { g with S := mark g.S i } (relabel own w.heap.size 5) gq vf vh HB hc DB dc Hk vk Bd w0 (w.setCell ⟨DB, i, none⟩ (.bool true)) := by
  refine hD.setDone (mark g.S i) ((hD.drow.set i (.bool true)).congr (fun k _ => ?_)) (Kc.store (b := DB) hD.lDB i (.bool true))
  unfold mark
  split <;> rfl

/-- While the last unit is done: the gang, who was ready, who is ready now, what is told. -/
structure Eh (M room hands : Nat) (ts : List (Int × List Int)) (g : Gs) (own : Nat → Nat) (gq : Gq) (vf vh : Value) (HB hc DB dc : Nat) (Hk : Nat → Nat) (vk : Nat → Value) (Bd : Bs) (w0 : World) (N0 : Nat) (ov nv dv : Value) (was now : List Int) (ds : List Deed) (w : World) : Prop where
  dg : Dg M room hands ts g own gq vf vh HB hc DB dc Hk vk Bd w0 w
  was : RowI N0 w ov was
  now : RowI N0 w nv now
  out : RowD N0 w dv ds
  lw : Lb own 8 ov
  ln : Lb own 8 nv
  ld : Lb own 8 dv
  n0 : N0 ≤ w.heap.size
variable {M room hands : Nat} {ts : List (Int × List Int)} {g g' : Gs} {own : Nat → Nat} {gq gq' : Gq} {vf vh vf' vh' : Value} {HB hc DB dc : Nat} {Hk : Nat → Nat} {vk vk' : Nat → Value} {Bd : Bs} {w0 w w' : World} {N0 c : Nat} {ov nv dv : Value} {was now : List Int} {ds : List Deed}
theorem Eh.to (h : Eh M room hands ts g own gq vf vh HB hc DB dc Hk vk Bd w0 N0 ov nv dv was now ds w) {C : Nat → Prop} (K : Kc own C w w') (hC : ¬ C 8) (hd : Dg M room hands ts g' (relabel own w.heap.size c) gq' vf' vh' HB hc DB dc Hk vk' Bd w0 w') : Eh M room hands ts g' (relabel own w.heap.size c) gq' vf' vh' HB hc DB dc Hk vk' Bd w0 N0 ov nv dv was now ds w' :=
  ⟨hd, h.was.kc h.lw hC K, h.now.kc h.ln hC K, h.out.kc h.ld hC K, h.lw.re h.was, h.ln.re h.now, h.ld.reD h.out, Nat.le_trans h.n0 K.size⟩
theorem Eh.ready {q : Nat} {v : Value} {l : List Int} (h : Eh M room hands ts g own gq vf vh HB hc DB dc Hk vk Bd w0 N0 ov nv dv was now ds w) (hr : RowI (w.drewN q).heap.size w' v l) (hb : Below (w.drewN q).heap.size (w.drewN q) w') : ∃ own', Eh M room hands ts g own' gq vf vh HB hc DB dc Hk vk Bd w0 N0 v nv dv l now ds w' := by
  have hb2 : Below w.heap.size w w' := ⟨hb.os, hb.tape, hb.output, hb.size, hb.block⟩
  have hr2 : RowI w.heap.size w' v l := hr
  have h1 := h.to (C := fun c => c = 99) (Kc.of_below hb2) (show ¬ ((8 : Nat) = 99) by omega) (h.dg.later8 (Kc.of_below hb2))
  exact ⟨_, h1.dg, hr2.mono h.n0, h1.now, h1.out, fun k e => relabel_ge (hr2.low e).1, h1.ln, h1.ld, h1.n0⟩
theorem Eh.ready2 {q : Nat} {v : Value} {l : List Int} (h : Eh M room hands ts g own gq vf vh HB hc DB dc Hk vk Bd w0 N0 ov nv dv was now ds w) (hr : RowI (w.drewN q).heap.size w' v l) (hb : Below (w.drewN q).heap.size (w.drewN q) w') : ∃ own', Eh M room hands ts g own' gq vf vh HB hc DB dc Hk vk Bd w0 N0 ov v dv was l ds w' := by
  have hb2 : Below w.heap.size w w' := ⟨hb.os, hb.tape, hb.output, hb.size, hb.block⟩
  have hr2 : RowI w.heap.size w' v l := hr
  have h1 := h.to (C := fun c => c = 99) (Kc.of_below hb2) (show ¬ ((8 : Nat) = 99) by omega) (h.dg.later8 (Kc.of_below hb2))
  exact ⟨_, h1.dg, h1.was, hr2.mono h.n0, h1.out, h1.lw, fun k e => relabel_ge (hr2.low e).1, h1.ld, h1.n0⟩
/-- It is done, and the hand has none. -/
theorem Eh.next {tb tc h i : Nat} (hE : Eh M room hands ts g own gq vf vh HB hc DB dc Hk vk Bd w0 N0 ov nv dv was now ds w) (hh : h < hands) (hi : i < ts.length) (htv : gq.tk = .slice (some ⟨tb, 0, none⟩) hands tc) :
    w.cell? ⟨M, 8, none⟩ = some (.slice (some ⟨DB, 0, none⟩) ts.length dc) ∧ w.cell? ⟨DB, i, none⟩ = some (.bool (g.S i)) ∧ w.frozen? ⟨DB, i, none⟩ = false ∧ (w.setCell ⟨DB, i, none⟩ (.bool true)).cell? ⟨M, 2, none⟩ = some (.slice (some ⟨tb, 0, none⟩) hands tc) ∧ (w.setCell ⟨DB, i, none⟩ (.bool true)).cell? ⟨tb, h, none⟩ = some (.int .i64 (g.task h)) ∧ (w.setCell ⟨DB, i, none⟩ (.bool true)).frozen? ⟨tb, h, none⟩ = false
      ∧ ∃ own6, Eh M room hands ts { g with S := mark g.S i, task := upd g.task h (-1) } own6 gq vf vh HB hc DB dc Hk vk Bd w0 N0 ov nv dv was now ds ((w.setCell ⟨DB, i, none⟩ (.bool true)).setCell ⟨tb, h, none⟩ (.int .i64 (-1))) := by
  obtain ⟨-, -, -, -, -, e8⟩ := hE.dg.c
  rw [hE.dg.dn] at e8
  have hE5 := hE.to (Kc.store (C := fun c => c = 5) (b := DB) hE.dg.lDB i (.bool true)) (show ¬ ((8 : Nat) = 5) by omega) (hE.dg.doneTo i)
  obtain ⟨-, -, f2, -, -, -⟩ := hE5.dg.c
  obtain ⟨tb', tc', wb', wc', htv', -, fct, -, ftl, -, ftlt, -, ffT, -⟩ := hE5.dg.tw hh
  rw [htv] at htv'
  simp only [Value.slice.injEq, Option.some.injEq, Addr.mk.injEq, and_true, true_and] at htv'
  obtain ⟨rfl, rfl⟩ := htv'
  rw [htv] at f2
  exact ⟨e8, hE.dg.drow.cell hi, hE.dg.drow.frozen i, f2, fct, ffT h, _, hE5.to (Kc.store (C := fun c => c = 2) (b := tb) ftl h (.int .i64 (-1))) (show ¬ ((8 : Nat) = 2) by omega) (hE5.dg.taskTo hh htv (-1))⟩
theorem Dg.sput2 (h : Dg M room hands ts g own gq vf vh HB hc DB dc Hk vk Bd w0 w) (h16 : room ≤ 16) {A : Nat → Prop} {lv : Value} {ys : List Int} (hl : Rds A w lv ys) (hA : ∀ b, A b → own b ≠ 0 ∧ own b ≠ 6) (hle : g.sp.length + ys.length ≤ 60) :
    Calls Tryd.prog 26 #[.pointer (some ⟨M, 4, none⟩), lv] w fun e w' => e = .returned (.bool true) ∧ (∃ vf' vh', Dg M room hands ts { g with sp := g.sp ++ ys } (relabel own w.heap.size 6) gq vf' vh' HB hc DB dc Hk vk Bd w0 w') ∧ Kc own (fun c => c = 0 ∨ c = 6) w w' := by
  refine (Spl.Dsp.refPut_good gq M room g.sp ys vf vh lv w h.md (Rds.mono hl (fun b hb => ⟨fun e => (hA b hb).1 (by rw [e]; exact h.lM), fun e => (hA b hb).2 (h.lf b e), fun e => (hA b hb).2 (h.lh b e)⟩)) hle h16).mono ?_
  rintro e w' ⟨rfl, vf', vh', hp⟩
  have hm := hp.md
  rw [List.take_length] at hm
  exact ⟨rfl, ⟨vf', vh', h.setSp (g.sp ++ ys) vf' vh' hm (Lb.near h.lf (fun k e => (h.fr.low e).2) hp.nf) (Lb.near h.lh (fun k e => (h.hp.low e).2) hp.nh) (h.kx6 hp.kx)⟩, h.kx6 hp.kx⟩

theorem Eh.drawn (h : Eh M room hands ts g own gq vf vh HB hc DB dc Hk vk Bd w0 N0 ov nv dv was now ds w) (q : Nat) : Eh M room hands ts g (relabel own w.heap.size 9) gq vf vh HB hc DB dc Hk vk Bd w0 N0 ov nv dv was now ds (w.drewN q) :=
  have hb : Below w.heap.size w (w.drewN q) := ⟨rfl, rfl, rfl, Nat.le_refl _, fun _ _ => rfl⟩
  h.to (C := fun c => c = 99) (Kc.of_below hb) (show ¬ ((8 : Nat) = 99) by omega) (h.dg.later0 (Kc.of_below hb))
theorem Eh.putHand (h : Eh M room hands ts g own gq vf vh HB hc DB dc Hk vk Bd w0 N0 ov nv dv was now ds w) {j : Nat} (hj : j < hands) (hr1 : 1 ≤ room) (n q : Nat) :
    Calls Tryd.prog 29 #[.pointer (some ⟨Hk j, 0, none⟩), .int .i64 n] (w.drewN q) fun e w' => ∃ lv, e = .returned lv ∧ ∃ own5 vk5, Eh M room hands ts { g with near := upd g.near j (n : Int), ring := upd g.ring j (putR room (g.near j) (g.ring j)) } own5 gq vf vh HB hc DB dc Hk vk5 Bd w0 N0 ov nv dv was now ds w' ∧ Rds (fun k => own5 k ≠ 0 ∧ own5 k ≠ 6) w' lv (putO room (g.near j) (g.ring j)) := by
  have hq := h.drawn q
  refine (hq.dg.put hj hr1 n).mono ?_
  rintro e w' ⟨⟨lv, rfl, hl⟩, ⟨vk5, hD5⟩, hk5⟩
  exact ⟨lv, rfl, _, vk5, hq.to hk5 (show ¬ ((8 : Nat) = 10 + j) by omega) hD5, hl.mono (fun b hb => by rw [relabel_ge hb]; omega)⟩
theorem Eh.putSpill (h : Eh M room hands ts g own gq vf vh HB hc DB dc Hk vk Bd w0 N0 ov nv dv was now ds w) (h16 : room ≤ 16) {lv : Value} {ys : List Int} (hl : Rds (fun k => own k ≠ 0 ∧ own k ≠ 6) w lv ys) (hle : g.sp.length + ys.length ≤ 60) :
    Calls Tryd.prog 26 #[.pointer (some ⟨M, 4, none⟩), lv] w fun e w' => e = .returned (.bool true) ∧ ∃ own9 vf9 vh9, Eh M room hands ts { g with sp := g.sp ++ ys } own9 gq vf9 vh9 HB hc DB dc Hk vk Bd w0 N0 ov nv dv was now ds w' := by
  refine (h.dg.sput2 h16 hl (fun b hb => hb) hle).mono ?_
  rintro e w' ⟨rfl, ⟨vf9, vh9, hD9⟩, hk9⟩
  exact ⟨rfl, _, vf9, vh9, h.to hk9 (show ¬ ((8 : Nat) = 0 ∨ (8 : Nat) = 6) by omega) hD9⟩

end Go.Proofs.YtchbncgifefegaaDoor
