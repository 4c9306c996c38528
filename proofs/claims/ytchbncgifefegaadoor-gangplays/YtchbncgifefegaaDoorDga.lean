/- The document's gang in memory: its parts lie in blocks that are told apart by labels. -/
import Derived.Test.YtchbncgifefegaaDoorSlb
import Derived.Test.YtchbncgifefegaaDoorHnb
import Derived.Test.YtchbncgifefegaaDoorLbl
import Derived.Test.YtchbncgifefegaaDoorV
namespace Go.Proofs.YtchbncgifefegaaDoor
open Go.RowKit Go.Deep
open Spl.Dsp (Gq gArr)

/-- The document's gang lies in block M; labels: 0 M, 1 the row of its hands, 2 tasks, 3 work, 4 those that sleep, 5 what is done, 6 the spill's rows, 10 and on its hands. -/
structure Dg (M room hands : Nat) (ts : List (Int × List Int)) (g : Gs) (own : Nat → Nat) (gq : Gq) (vf vh : Value) (HB hc DB dc : Nat) (Hk : Nat → Nat) (vk : Nat → Value) (Bd : Bs) (w0 w : World) : Prop where
  blk : w.heap[M]? = some (.cells (gArr gq room vf vh) 43 (0, 0))
  lM : own M = 0
  fr : RowI (M + 1) w vf (g.sp.take room)
  hp : RowI (M + 1) w vh (g.sp.drop room)
  lf : Lb own 6 vf
  lh : Lb own 6 vh
  apart : Spl.Apart vf vh
  le60 : g.sp.length ≤ 60
  tk : RowI (M + 1) w gq.tk (upto hands g.task)
  ltk : Lb own 2 gq.tk
  wk : RowI (M + 1) w gq.wk (upto hands g.work)
  lwk : Lb own 3 gq.wk
  row : RowI (M + 1) w gq.rw g.zz
  lrw : Lb own 4 gq.rw
  zle : g.zz.length ≤ 6
  hs : gq.hs = .slice (some ⟨HB, 0, none⟩) hands hc
  hblt : HB < w.heap.size
  lHB : own HB = 1
  hcell : ∀ k, k < hands → w.cell? ⟨HB, k, none⟩ = some (.pointer (some ⟨Hk k, 0, none⟩))
  hand : ∀ k, k < hands → Hnd.Mh (Hk k) room (g.near k) (g.ring k) (vk k) w
  lH : ∀ k, k < hands → own (Hk k) = 10 + k ∧ Lb own (10 + k) (vk k)
  hMk : ∀ k, k < hands → M < Hk k
  dn : gq.dn = .slice (some ⟨DB, 0, none⟩) ts.length dc
  drow : w.rowIs DB 4 ts.length (fun k => .bool (g.S k))
  lDB : own DB = 5
  plan : PlanAt w0 gq.p ts
  base : w0.heap.size ≤ M
  far : ∀ k, Bd.X k → k < Bd.w1.heap.size ∧ own k = 9 ∧ w.heap[k]? = Bd.w1.heap[k]?
  w1le : Bd.w1.heap.size ≤ w.heap.size
  io : w.os = Bd.w1.os ∧ w.tape = Bd.w1.tape ∧ w.output = Bd.w1.output
  below : Below w0.heap.size w0 w
  lowL : ∀ k, k < w0.heap.size → own k = 9
variable {M room hands : Nat} {ts : List (Int × List Int)} {g : Gs} {own : Nat → Nat} {gq : Gq} {vf vh : Value} {HB hc DB dc : Nat} {Hk : Nat → Nat} {vk : Nat → Value} {Bd : Bs} {w0 w w' : World}
theorem Dg.ltM (h : Dg M room hands ts g own gq vf vh HB hc DB dc Hk vk Bd w0 w) : M < w.heap.size := (Array.getElem?_eq_some_iff.1 h.blk).1
theorem Dg.c (h : Dg M room hands ts g own gq vf vh HB hc DB dc Hk vk Bd w0 w) : w.cell? ⟨M, 0, none⟩ = some gq.p ∧ w.cell? ⟨M, 1, none⟩ = some gq.hs ∧ w.cell? ⟨M, 2, none⟩ = some gq.tk ∧ w.cell? ⟨M, 3, none⟩ = some gq.wk ∧ w.cell? ⟨M, 7, none⟩ = some gq.rw ∧ w.cell? ⟨M, 8, none⟩ = some gq.dn := by
  refine ⟨?_, ?_, ?_, ?_, ?_, ?_⟩ <;> simp [World.cell?, h.blk, gArr]
theorem Dg.fz (h : Dg M room hands ts g own gq vf vh HB hc DB dc Hk vk Bd w0 w) (j : Nat) : w.frozen? ⟨M, j, none⟩ = false := by simp [World.frozen?, h.blk]
theorem Dg.md (h : Dg M room hands ts g own gq vf vh HB hc DB dc Hk vk Bd w0 w) : Spl.Dsp.Md gq M room g.sp vf vh w := ⟨h.blk, h.fr, h.hp, h.apart, h.le60⟩
theorem Dg.later0 (h : Dg M room hands ts g own gq vf vh HB hc DB dc Hk vk Bd w0 w)  (K : Kc own (fun _ => False) w w') : Dg M room hands ts g (relabel own w.heap.size 9) gq vf vh HB hc DB dc Hk vk Bd w0 w' := by
  exact {
    blk := (K.block M h.ltM (by have := h.lM; first | omega | exact id)).trans h.blk
    lM := by rw [relabel_lt h.ltM]; exact h.lM
    fr := h.fr.kc h.lf (by simp) K
    hp := h.hp.kc h.lh (by simp) K
    lf := h.lf.re h.fr
    lh := h.lh.re h.hp
    apart := h.apart
    le60 := h.le60
    tk := h.tk.kc h.ltk (by simp) K
    ltk := h.ltk.re h.tk
    wk := h.wk.kc h.lwk (by simp) K
    lwk := h.lwk.re h.wk
    row := h.row.kc h.lrw (by simp) K
    lrw := h.lrw.re h.row
    zle := h.zle
    hs := h.hs
    hblt := Nat.lt_of_lt_of_le h.hblt K.size
    lHB := by rw [relabel_lt h.hblt]; exact h.lHB
    hcell := fun k hk => (World.cell?_of_block (a := ⟨HB, k, none⟩) (K.block HB h.hblt (by have := h.lHB; first | omega | exact id))).trans (h.hcell k hk)
    hand := fun k hk => (h.hand k hk).of_blocks (K.block _ (h.hand k hk).lt (by have := (h.lH k hk).1; first | omega | exact id)) (fun j e => K.block j ((h.hand k hk).row.low e).2 (by have := (h.lH k hk).2 j e; first | omega | exact id))
    lH := fun k hk => ⟨by rw [relabel_lt (h.hand k hk).lt]; exact (h.lH k hk).1, fun j e => by rw [relabel_lt ((h.hand k hk).row.low e).2]; exact (h.lH k hk).2 j e⟩
    hMk := h.hMk
    dn := h.dn
    drow := h.drow.of_block (K.block DB h.drow.lt (by have := h.lDB; first | omega | exact id))
    lDB := by rw [relabel_lt h.drow.lt]; exact h.lDB
    plan := h.plan
    base := h.base
    far := fun k hk => by
      have h1 := h.far k hk
      have h2 := h.w1le
      exact ⟨h1.1, by rw [relabel_lt (by omega)]; exact h1.2.1, (K.block k (by omega) (by have := h1.2.1; first | omega | exact id)).trans h1.2.2⟩
    w1le := Nat.le_trans h.w1le K.size
    io := ⟨K.os.trans h.io.1, K.tape.trans h.io.2.1, K.output.trans h.io.2.2⟩
    below := h.below.trans ⟨K.os, K.tape, K.output, K.size, fun k hk => K.block k (by have := h.ltM; have := h.base; omega) (by have := h.lowL k hk; first | omega | exact id)⟩
    lowL := fun k hk => by rw [relabel_lt (by have := h.ltM; have := h.base; omega)]; exact h.lowL k hk }
theorem Dg.later8 (h : Dg M room hands ts g own gq vf vh HB hc DB dc Hk vk Bd w0 w)  (K : Kc own (fun c => c = 8) w w') : Dg M room hands ts g (relabel own w.heap.size 8) gq vf vh HB hc DB dc Hk vk Bd w0 w' := by
  exact {
    blk := (K.block M h.ltM (by have := h.lM; first | omega | exact id)).trans h.blk
    lM := by rw [relabel_lt h.ltM]; exact h.lM
    fr := h.fr.kc h.lf (by simp) K
    hp := h.hp.kc h.lh (by simp) K
    lf := h.lf.re h.fr
    lh := h.lh.re h.hp
    apart := h.apart
    le60 := h.le60
    tk := h.tk.kc h.ltk (by simp) K
    ltk := h.ltk.re h.tk
    wk := h.wk.kc h.lwk (by simp) K
    lwk := h.lwk.re h.wk
    row := h.row.kc h.lrw (by simp) K
    lrw := h.lrw.re h.row
    zle := h.zle
    hs := h.hs
    hblt := Nat.lt_of_lt_of_le h.hblt K.size
    lHB := by rw [relabel_lt h.hblt]; exact h.lHB
    hcell := fun k hk => (World.cell?_of_block (a := ⟨HB, k, none⟩) (K.block HB h.hblt (by have := h.lHB; first | omega | exact id))).trans (h.hcell k hk)
    hand := fun k hk => (h.hand k hk).of_blocks (K.block _ (h.hand k hk).lt (by have := (h.lH k hk).1; first | omega | exact id)) (fun j e => K.block j ((h.hand k hk).row.low e).2 (by have := (h.lH k hk).2 j e; first | omega | exact id))
    lH := fun k hk => ⟨by rw [relabel_lt (h.hand k hk).lt]; exact (h.lH k hk).1, fun j e => by rw [relabel_lt ((h.hand k hk).row.low e).2]; exact (h.lH k hk).2 j e⟩
    hMk := h.hMk
    dn := h.dn
    drow := h.drow.of_block (K.block DB h.drow.lt (by have := h.lDB; first | omega | exact id))
    lDB := by rw [relabel_lt h.drow.lt]; exact h.lDB
    plan := h.plan
    base := h.base
    far := fun k hk => by
      have h1 := h.far k hk
      have h2 := h.w1le
      exact ⟨h1.1, by rw [relabel_lt (by omega)]; exact h1.2.1, (K.block k (by omega) (by have := h1.2.1; first | omega | exact id)).trans h1.2.2⟩
    w1le := Nat.le_trans h.w1le K.size
    io := ⟨K.os.trans h.io.1, K.tape.trans h.io.2.1, K.output.trans h.io.2.2⟩
    below := h.below.trans ⟨K.os, K.tape, K.output, K.size, fun k hk => K.block k (by have := h.ltM; have := h.base; omega) (by have := h.lowL k hk; first | omega | exact id)⟩
    lowL := fun k hk => by rw [relabel_lt (by have := h.ltM; have := h.base; omega)]; exact h.lowL k hk }
theorem Dg.setTask (h : Dg M room hands ts g own gq vf vh HB hc DB dc Hk vk Bd w0 w) (f : Nat → Int) (ht : RowI (M + 1) w' gq.tk (upto hands f)) (K : Kc own (fun c => c = 2) w w') : Dg M room hands ts { g with task := f } (relabel own w.heap.size 2) gq vf vh HB hc DB dc Hk vk Bd w0 w' := by
  exact {
    blk := (K.block M h.ltM (by have := h.lM; first | omega | exact id)).trans h.blk
    lM := by rw [relabel_lt h.ltM]; exact h.lM
    fr := h.fr.kc h.lf (by simp) K
    hp := h.hp.kc h.lh (by simp) K
    lf := h.lf.re h.fr
    lh := h.lh.re h.hp
    apart := h.apart
    le60 := h.le60
    tk := ht
    ltk := h.ltk.re h.tk
    wk := h.wk.kc h.lwk (by simp) K
    lwk := h.lwk.re h.wk
    row := h.row.kc h.lrw (by simp) K
    lrw := h.lrw.re h.row
    zle := h.zle
    hs := h.hs
    hblt := Nat.lt_of_lt_of_le h.hblt K.size
    lHB := by rw [relabel_lt h.hblt]; exact h.lHB
    hcell := fun k hk => (World.cell?_of_block (a := ⟨HB, k, none⟩) (K.block HB h.hblt (by have := h.lHB; first | omega | exact id))).trans (h.hcell k hk)
    hand := fun k hk => (h.hand k hk).of_blocks (K.block _ (h.hand k hk).lt (by have := (h.lH k hk).1; first | omega | exact id)) (fun j e => K.block j ((h.hand k hk).row.low e).2 (by have := (h.lH k hk).2 j e; first | omega | exact id))
    lH := fun k hk => ⟨by rw [relabel_lt (h.hand k hk).lt]; exact (h.lH k hk).1, fun j e => by rw [relabel_lt ((h.hand k hk).row.low e).2]; exact (h.lH k hk).2 j e⟩
    hMk := h.hMk
    dn := h.dn
    drow := h.drow.of_block (K.block DB h.drow.lt (by have := h.lDB; first | omega | exact id))
    lDB := by rw [relabel_lt h.drow.lt]; exact h.lDB
    plan := h.plan
    base := h.base
    far := fun k hk => by
      have h1 := h.far k hk
      have h2 := h.w1le
      exact ⟨h1.1, by rw [relabel_lt (by omega)]; exact h1.2.1, (K.block k (by omega) (by have := h1.2.1; first | omega | exact id)).trans h1.2.2⟩
    w1le := Nat.le_trans h.w1le K.size
    io := ⟨K.os.trans h.io.1, K.tape.trans h.io.2.1, K.output.trans h.io.2.2⟩
    below := h.below.trans ⟨K.os, K.tape, K.output, K.size, fun k hk => K.block k (by have := h.ltM; have := h.base; omega) (by have := h.lowL k hk; first | omega | exact id)⟩
    lowL := fun k hk => by rw [relabel_lt (by have := h.ltM; have := h.base; omega)]; exact h.lowL k hk }
theorem Dg.setWork (h : Dg M room hands ts g own gq vf vh HB hc DB dc Hk vk Bd w0 w) (f : Nat → Int) (ht : RowI (M + 1) w' gq.wk (upto hands f)) (K : Kc own (fun c => c = 3) w w') : Dg M room hands ts { g with work := f } (relabel own w.heap.size 3) gq vf vh HB hc DB dc Hk vk Bd w0 w' := by
  exact {
    blk := (K.block M h.ltM (by have := h.lM; first | omega | exact id)).trans h.blk
    lM := by rw [relabel_lt h.ltM]; exact h.lM
    fr := h.fr.kc h.lf (by simp) K
    hp := h.hp.kc h.lh (by simp) K
    lf := h.lf.re h.fr
    lh := h.lh.re h.hp
    apart := h.apart
    le60 := h.le60
    tk := h.tk.kc h.ltk (by simp) K
    ltk := h.ltk.re h.tk
    wk := ht
    lwk := h.lwk.re h.wk
    row := h.row.kc h.lrw (by simp) K
    lrw := h.lrw.re h.row
    zle := h.zle
    hs := h.hs
    hblt := Nat.lt_of_lt_of_le h.hblt K.size
    lHB := by rw [relabel_lt h.hblt]; exact h.lHB
    hcell := fun k hk => (World.cell?_of_block (a := ⟨HB, k, none⟩) (K.block HB h.hblt (by have := h.lHB; first | omega | exact id))).trans (h.hcell k hk)
    hand := fun k hk => (h.hand k hk).of_blocks (K.block _ (h.hand k hk).lt (by have := (h.lH k hk).1; first | omega | exact id)) (fun j e => K.block j ((h.hand k hk).row.low e).2 (by have := (h.lH k hk).2 j e; first | omega | exact id))
    lH := fun k hk => ⟨by rw [relabel_lt (h.hand k hk).lt]; exact (h.lH k hk).1, fun j e => by rw [relabel_lt ((h.hand k hk).row.low e).2]; exact (h.lH k hk).2 j e⟩
    hMk := h.hMk
    dn := h.dn
    drow := h.drow.of_block (K.block DB h.drow.lt (by have := h.lDB; first | omega | exact id))
    lDB := by rw [relabel_lt h.drow.lt]; exact h.lDB
    plan := h.plan
    base := h.base
    far := fun k hk => by
      have h1 := h.far k hk
      have h2 := h.w1le
      exact ⟨h1.1, by rw [relabel_lt (by omega)]; exact h1.2.1, (K.block k (by omega) (by have := h1.2.1; first | omega | exact id)).trans h1.2.2⟩
    w1le := Nat.le_trans h.w1le K.size
    io := ⟨K.os.trans h.io.1, K.tape.trans h.io.2.1, K.output.trans h.io.2.2⟩
    below := h.below.trans ⟨K.os, K.tape, K.output, K.size, fun k hk => K.block k (by have := h.ltM; have := h.base; omega) (by have := h.lowL k hk; first | omega | exact id)⟩
    lowL := fun k hk => by rw [relabel_lt (by have := h.ltM; have := h.base; omega)]; exact h.lowL k hk }
theorem Dg.setDone (h : Dg M room hands ts g own gq vf vh HB hc DB dc Hk vk Bd w0 w) (S : Nat → Bool) (ht : w'.rowIs DB 4 ts.length (fun k => .bool (S k))) (K : Kc own (fun c => c = 5) w w') : Dg M room hands ts { g with S := S } (relabel own w.heap.size 5) gq vf vh HB hc DB dc Hk vk Bd w0 w' := by
  exact {
    blk := (K.block M h.ltM (by have := h.lM; first | omega | exact id)).trans h.blk
    lM := by rw [relabel_lt h.ltM]; exact h.lM
    fr := h.fr.kc h.lf (by simp) K
    hp := h.hp.kc h.lh (by simp) K
    lf := h.lf.re h.fr
    lh := h.lh.re h.hp
    apart := h.apart
    le60 := h.le60
    tk := h.tk.kc h.ltk (by simp) K
    ltk := h.ltk.re h.tk
    wk := h.wk.kc h.lwk (by simp) K
    lwk := h.lwk.re h.wk
    row := h.row.kc h.lrw (by simp) K
    lrw := h.lrw.re h.row
    zle := h.zle
    hs := h.hs
    hblt := Nat.lt_of_lt_of_le h.hblt K.size
    lHB := by rw [relabel_lt h.hblt]; exact h.lHB
    hcell := fun k hk => (World.cell?_of_block (a := ⟨HB, k, none⟩) (K.block HB h.hblt (by have := h.lHB; first | omega | exact id))).trans (h.hcell k hk)
    hand := fun k hk => (h.hand k hk).of_blocks (K.block _ (h.hand k hk).lt (by have := (h.lH k hk).1; first | omega | exact id)) (fun j e => K.block j ((h.hand k hk).row.low e).2 (by have := (h.lH k hk).2 j e; first | omega | exact id))
    lH := fun k hk => ⟨by rw [relabel_lt (h.hand k hk).lt]; exact (h.lH k hk).1, fun j e => by rw [relabel_lt ((h.hand k hk).row.low e).2]; exact (h.lH k hk).2 j e⟩
    hMk := h.hMk
    dn := h.dn
    drow := ht
    lDB := by rw [relabel_lt h.drow.lt]; exact h.lDB
    plan := h.plan
    base := h.base
    far := fun k hk => by
      have h1 := h.far k hk
      have h2 := h.w1le
      exact ⟨h1.1, by rw [relabel_lt (by omega)]; exact h1.2.1, (K.block k (by omega) (by have := h1.2.1; first | omega | exact id)).trans h1.2.2⟩
    w1le := Nat.le_trans h.w1le K.size
    io := ⟨K.os.trans h.io.1, K.tape.trans h.io.2.1, K.output.trans h.io.2.2⟩
    below := h.below.trans ⟨K.os, K.tape, K.output, K.size, fun k hk => K.block k (by have := h.ltM; have := h.base; omega) (by have := h.lowL k hk; first | omega | exact id)⟩
    lowL := fun k hk => by rw [relabel_lt (by have := h.ltM; have := h.base; omega)]; exact h.lowL k hk }
theorem Dg.setRow (h : Dg M room hands ts g own gq vf vh HB hc DB dc Hk vk Bd w0 w) (z : List Int) (v : Value) (hz : RowI (M + 1) w' v z) (hzl : z.length ≤ 6) (hl : Lb (relabel own w.heap.size 4) 4 v) (hb : w'.heap[M]? = some (.cells (gArr { gq with rw := v } room vf vh) 43 (0, 0))) (K : Kc own (fun c => c = 0 ∨ c = 4) w w') : Dg M room hands ts { g with zz := z } (relabel own w.heap.size 4) { gq with rw := v } vf vh HB hc DB dc Hk vk Bd w0 w' := by
  exact {
    blk := hb
    lM := by rw [relabel_lt h.ltM]; exact h.lM
    fr := h.fr.kc h.lf (by simp) K
    hp := h.hp.kc h.lh (by simp) K
    lf := h.lf.re h.fr
    lh := h.lh.re h.hp
    apart := h.apart
    le60 := h.le60
    tk := h.tk.kc h.ltk (by simp) K
    ltk := h.ltk.re h.tk
    wk := h.wk.kc h.lwk (by simp) K
    lwk := h.lwk.re h.wk
    row := hz
    lrw := hl
    zle := hzl
    hs := h.hs
    hblt := Nat.lt_of_lt_of_le h.hblt K.size
    lHB := by rw [relabel_lt h.hblt]; exact h.lHB
    hcell := fun k hk => (World.cell?_of_block (a := ⟨HB, k, none⟩) (K.block HB h.hblt (by have := h.lHB; first | omega | exact id))).trans (h.hcell k hk)
    hand := fun k hk => (h.hand k hk).of_blocks (K.block _ (h.hand k hk).lt (by have := (h.lH k hk).1; first | omega | exact id)) (fun j e => K.block j ((h.hand k hk).row.low e).2 (by have := (h.lH k hk).2 j e; first | omega | exact id))
    lH := fun k hk => ⟨by rw [relabel_lt (h.hand k hk).lt]; exact (h.lH k hk).1, fun j e => by rw [relabel_lt ((h.hand k hk).row.low e).2]; exact (h.lH k hk).2 j e⟩
    hMk := h.hMk
    dn := h.dn
    drow := h.drow.of_block (K.block DB h.drow.lt (by have := h.lDB; first | omega | exact id))
    lDB := by rw [relabel_lt h.drow.lt]; exact h.lDB
    plan := h.plan
    base := h.base
    far := fun k hk => by
      have h1 := h.far k hk
      have h2 := h.w1le
      exact ⟨h1.1, by rw [relabel_lt (by omega)]; exact h1.2.1, (K.block k (by omega) (by have := h1.2.1; first | omega | exact id)).trans h1.2.2⟩
    w1le := Nat.le_trans h.w1le K.size
    io := ⟨K.os.trans h.io.1, K.tape.trans h.io.2.1, K.output.trans h.io.2.2⟩
    below := h.below.trans ⟨K.os, K.tape, K.output, K.size, fun k hk => K.block k (by have := h.ltM; have := h.base; omega) (by have := h.lowL k hk; first | omega | exact id)⟩
    lowL := fun k hk => by rw [relabel_lt (by have := h.ltM; have := h.base; omega)]; exact h.lowL k hk }
theorem Dg.setSp (h : Dg M room hands ts g own gq vf vh HB hc DB dc Hk vk Bd w0 w) (z : List Int) (vf' vh' : Value) (hm : Spl.Dsp.Md gq M room z vf' vh' w') (hlf : Lb (relabel own w.heap.size 6) 6 vf') (hlh : Lb (relabel own w.heap.size 6) 6 vh') (K : Kc own (fun c => c = 0 ∨ c = 6) w w') : Dg M room hands ts { g with sp := z } (relabel own w.heap.size 6) gq vf' vh' HB hc DB dc Hk vk Bd w0 w' := by
  exact {
    blk := hm.cells
    lM := by rw [relabel_lt h.ltM]; exact h.lM
    fr := hm.f
    hp := hm.h
    lf := hlf
    lh := hlh
    apart := hm.ap
    le60 := hm.le
    tk := h.tk.kc h.ltk (by simp) K
    ltk := h.ltk.re h.tk
    wk := h.wk.kc h.lwk (by simp) K
    lwk := h.lwk.re h.wk
    row := h.row.kc h.lrw (by simp) K
    lrw := h.lrw.re h.row
    zle := h.zle
    hs := h.hs
    hblt := Nat.lt_of_lt_of_le h.hblt K.size
    lHB := by rw [relabel_lt h.hblt]; exact h.lHB
    hcell := fun k hk => (World.cell?_of_block (a := ⟨HB, k, none⟩) (K.block HB h.hblt (by have := h.lHB; first | omega | exact id))).trans (h.hcell k hk)
    hand := fun k hk => (h.hand k hk).of_blocks (K.block _ (h.hand k hk).lt (by have := (h.lH k hk).1; first | omega | exact id)) (fun j e => K.block j ((h.hand k hk).row.low e).2 (by have := (h.lH k hk).2 j e; first | omega | exact id))
    lH := fun k hk => ⟨by rw [relabel_lt (h.hand k hk).lt]; exact (h.lH k hk).1, fun j e => by rw [relabel_lt ((h.hand k hk).row.low e).2]; exact (h.lH k hk).2 j e⟩
    hMk := h.hMk
    dn := h.dn
    drow := h.drow.of_block (K.block DB h.drow.lt (by have := h.lDB; first | omega | exact id))
    lDB := by rw [relabel_lt h.drow.lt]; exact h.lDB
    plan := h.plan
    base := h.base
    far := fun k hk => by
      have h1 := h.far k hk
      have h2 := h.w1le
      exact ⟨h1.1, by rw [relabel_lt (by omega)]; exact h1.2.1, (K.block k (by omega) (by have := h1.2.1; first | omega | exact id)).trans h1.2.2⟩
    w1le := Nat.le_trans h.w1le K.size
    io := ⟨K.os.trans h.io.1, K.tape.trans h.io.2.1, K.output.trans h.io.2.2⟩
    below := h.below.trans ⟨K.os, K.tape, K.output, K.size, fun k hk => K.block k (by have := h.ltM; have := h.base; omega) (by have := h.lowL k hk; first | omega | exact id)⟩
    lowL := fun k hk => by rw [relabel_lt (by have := h.ltM; have := h.base; omega)]; exact h.lowL k hk }
theorem Dg.setHand (h : Dg M room hands ts g own gq vf vh HB hc DB dc Hk vk Bd w0 w) (j : Nat) (hj : j < hands) (nr : Int) (xs : List Int) (v : Value) (hm : Hnd.Mh (Hk j) room nr xs v w') (hl : Lb (relabel own w.heap.size (10 + j)) (10 + j) v) (K : Kc own (fun c => c = 10 + j) w w') : Dg M room hands ts { g with near := upd g.near j nr, ring := upd g.ring j xs } (relabel own w.heap.size (10 + j)) gq vf vh HB hc DB dc Hk (upd vk j v) Bd w0 w' := by
  exact {
    blk := (K.block M h.ltM (by have := h.lM; first | omega | exact id)).trans h.blk
    lM := by rw [relabel_lt h.ltM]; exact h.lM
    fr := h.fr.kc h.lf (fun e => by have e2 : 6 = 10 + j := e; omega) K
    hp := h.hp.kc h.lh (fun e => by have e2 : 6 = 10 + j := e; omega) K
    lf := h.lf.re h.fr
    lh := h.lh.re h.hp
    apart := h.apart
    le60 := h.le60
    tk := h.tk.kc h.ltk (fun e => by have e2 : 2 = 10 + j := e; omega) K
    ltk := h.ltk.re h.tk
    wk := h.wk.kc h.lwk (fun e => by have e2 : 3 = 10 + j := e; omega) K
    lwk := h.lwk.re h.wk
    row := h.row.kc h.lrw (fun e => by have e2 : 4 = 10 + j := e; omega) K
    lrw := h.lrw.re h.row
    zle := h.zle
    hs := h.hs
    hblt := Nat.lt_of_lt_of_le h.hblt K.size
    lHB := by rw [relabel_lt h.hblt]; exact h.lHB
    hcell := fun k hk => (World.cell?_of_block (a := ⟨HB, k, none⟩) (K.block HB h.hblt (by have := h.lHB; first | omega | exact id))).trans (h.hcell k hk)
    hand := fun k hk => by
      by_cases e : k = j
      · subst e; simp only [upd_self]; exact hm
      · simp only [upd_ne _ _ e]; exact (h.hand k hk).of_blocks (K.block _ (h.hand k hk).lt (by rw [(h.lH k hk).1]; omega)) (fun i e2 => K.block i ((h.hand k hk).row.low e2).2 (by rw [(h.lH k hk).2 i e2]; omega))
    lH := fun k hk => by
      refine ⟨by rw [relabel_lt (h.hand k hk).lt]; exact (h.lH k hk).1, ?_⟩
      by_cases e : k = j
      · subst e; simp only [upd_self]; exact hl
      · simp only [upd_ne _ _ e]; exact fun i e2 => by rw [relabel_lt ((h.hand k hk).row.low e2).2]; exact (h.lH k hk).2 i e2
    hMk := h.hMk
    dn := h.dn
    drow := h.drow.of_block (K.block DB h.drow.lt (by have := h.lDB; first | omega | exact id))
    lDB := by rw [relabel_lt h.drow.lt]; exact h.lDB
    plan := h.plan
    base := h.base
    far := fun k hk => by
      have h1 := h.far k hk
      have h2 := h.w1le
      exact ⟨h1.1, by rw [relabel_lt (by omega)]; exact h1.2.1, (K.block k (by omega) (by have := h1.2.1; first | omega | exact id)).trans h1.2.2⟩
    w1le := Nat.le_trans h.w1le K.size
    io := ⟨K.os.trans h.io.1, K.tape.trans h.io.2.1, K.output.trans h.io.2.2⟩
    below := h.below.trans ⟨K.os, K.tape, K.output, K.size, fun k hk => K.block k (by have := h.ltM; have := h.base; omega) (by have := h.lowL k hk; first | omega | exact id)⟩
    lowL := fun k hk => by rw [relabel_lt (by have := h.ltM; have := h.base; omega)]; exact h.lowL k hk }
theorem Dg.away (h : Dg M room hands ts g own gq vf vh HB hc DB dc Hk vk Bd w0 w) (hb : Below w0.heap.size w0 w') (K : Kc own (fun c => c = 9) w w') : Dg M room hands ts g (relabel own w.heap.size 9) gq vf vh HB hc DB dc Hk vk ⟨fun _ => False, w'⟩ w0 w' := by
  exact {
    blk := (K.block M h.ltM (by have := h.lM; first | omega | exact id)).trans h.blk
    lM := by rw [relabel_lt h.ltM]; exact h.lM
    fr := h.fr.kc h.lf (by simp) K
    hp := h.hp.kc h.lh (by simp) K
    lf := h.lf.re h.fr
    lh := h.lh.re h.hp
    apart := h.apart
    le60 := h.le60
    tk := h.tk.kc h.ltk (by simp) K
    ltk := h.ltk.re h.tk
    wk := h.wk.kc h.lwk (by simp) K
    lwk := h.lwk.re h.wk
    row := h.row.kc h.lrw (by simp) K
    lrw := h.lrw.re h.row
    zle := h.zle
    hs := h.hs
    hblt := Nat.lt_of_lt_of_le h.hblt K.size
    lHB := by rw [relabel_lt h.hblt]; exact h.lHB
    hcell := fun k hk => (World.cell?_of_block (a := ⟨HB, k, none⟩) (K.block HB h.hblt (by have := h.lHB; first | omega | exact id))).trans (h.hcell k hk)
    hand := fun k hk => (h.hand k hk).of_blocks (K.block _ (h.hand k hk).lt (by have := (h.lH k hk).1; first | omega | exact id)) (fun j e => K.block j ((h.hand k hk).row.low e).2 (by have := (h.lH k hk).2 j e; first | omega | exact id))
    lH := fun k hk => ⟨by rw [relabel_lt (h.hand k hk).lt]; exact (h.lH k hk).1, fun j e => by rw [relabel_lt ((h.hand k hk).row.low e).2]; exact (h.lH k hk).2 j e⟩
    hMk := h.hMk
    dn := h.dn
    drow := h.drow.of_block (K.block DB h.drow.lt (by have := h.lDB; first | omega | exact id))
    lDB := by rw [relabel_lt h.drow.lt]; exact h.lDB
    plan := h.plan
    base := h.base
    far := fun _ hk => hk.elim
    w1le := Nat.le_refl _
    io := ⟨rfl, rfl, rfl⟩
    below := hb
    lowL := fun k hk => by rw [relabel_lt (by have := h.ltM; have := h.base; omega)]; exact h.lowL k hk }
/-- From here on. -/
theorem Dg.rebase (h : Dg M room hands ts g own gq vf vh HB hc DB dc Hk vk Bd w0 w) : Dg M room hands ts g own gq vf vh HB hc DB dc Hk vk ⟨fun k => k < w.heap.size ∧ own k = 9, w⟩ w0 w :=
  { h with far := fun _ hk => ⟨hk.1, hk.2, rfl⟩, w1le := Nat.le_refl _, io := ⟨rfl, rfl, rfl⟩ }
end Go.Proofs.YtchbncgifefegaaDoor
