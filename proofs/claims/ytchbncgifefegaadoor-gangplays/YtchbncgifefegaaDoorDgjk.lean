/- While the document's gang is made. The document's NewGang. -/
import Derived.Test.YtchbncgifefegaaDoorDgd
import Derived.Maps.AppendAt
import Derived.Test.YtchbncgifefegaaDoorPgb

namespace Go.Proofs.YtchbncgifefegaaDoor
open Go.RowKit Go.Deep
open Spl.Dsp (Gq gArr)

theorem hrow_of_blocks {b t n : Nat} {w w' : World} {v : Value} {xs : List Value} (h : w.ownsRow b t 1 v n xs) (hk : ∀ k, v.ownBlock = some k → w'.heap[k]? = w.heap[k]?) : w'.ownsRow b t 1 v n xs := by
  rcases h.2 with ⟨rfl, hn⟩ | ⟨g, cap, cur, rfl, hb, hh, hr⟩
  · exact ⟨h.1, Or.inl ⟨rfl, hn⟩⟩
  · exact ⟨h.1, Or.inr ⟨g, cap, cur, rfl, hb, (hk g rfl).trans hh, hr⟩⟩
/-- The document's gang while it is made: so many hands, tasks, works are laid. -/
structure NG (M room kh kt kw : Nat) (ts : List (Int × List Int)) (p : Value) (own : Nat → Nat) (gq : Gq) (DB : Nat) (Hk : Nat → Nat) (N0 : Nat) (wN w : World) : Prop where
  blk : w.heap[M]? = some (.cells (gArr gq room (.slice none 0 0) (.slice none 0 0)) 43 (0, 0))
  lM : own M = 0
  hrow : w.ownsRow (M + 1) 74 1 gq.hs kh ((List.range kh).map (fun j => .pointer (some ⟨Hk j, 0, none⟩)))
  lh : Lb own 1 gq.hs
  tk : RowI (M + 1) w gq.tk (upto kt (fun _ => -1))
  ltk : Lb own 2 gq.tk
  wk : RowI (M + 1) w gq.wk (upto kw (fun _ => 0))
  lwk : Lb own 3 gq.wk
  rw0 : gq.rw = .slice none 0 0
  hand : ∀ j, j < kh → Hnd.Mh (Hk j) room (-1) [] (.slice none 0 0) w
  lH : ∀ j, j < kh → own (Hk j) = 10 + j
  hMk : ∀ j, j < kh → M < Hk j
  dn : gq.dn = .slice (some ⟨DB, 0, none⟩) ts.length ts.length
  drow : w.rowIs DB 4 ts.length (fun _ => .bool false)
  lDB : own DB = 5
  hp : gq.p = p
  far : Below N0 wN w
  low : ∀ k, k < N0 → own k = 9
  n0 : N0 ≤ M ∧ M < w.heap.size
variable {M room kh kt kw : Nat} {ts : List (Int × List Int)} {p : Value} {own own' : Nat → Nat} {gq : Gq} {DB N0 : Nat} {Hk : Nat → Nat} {wN w w' : World}
theorem NG.ltM (h : NG M room kh kt kw ts p own gq DB Hk N0 wN w) : M < w.heap.size := (Array.getElem?_eq_some_iff.1 h.blk).1
theorem NG.hlt (h : NG M room kh kt kw ts p own gq DB Hk N0 wN w) {k : Nat} (e : gq.hs.ownBlock = some k) : k < w.heap.size := (World.ownsRow.lt h.hrow k e).2
theorem NG.pushT (h : NG M room kh kt kw ts p own gq DB Hk N0 wN w) (ho : ∀ k, k < w.heap.size → own' k = own k) (hs : w.heap.size ≤ w'.heap.size) (hio : w'.os = w.os ∧ w'.tape = w.tape ∧ w'.output = w.output) (K : ∀ k, k < w.heap.size → own k ≠ 2 → k ≠ M → w'.heap[k]? = w.heap[k]?) {v : Value} (hr : RowI (M + 1) w' v (upto (kt + 1) (fun _ => -1))) (hl : Lb own' 2 v) (hb : w'.heap[M]? = some (.cells (gArr { gq with tk := v } room (.slice none 0 0) (.slice none 0 0)) 43 (0, 0))) : NG M room kh (kt + 1) kw ts p own' { gq with tk := v } DB Hk N0 wN w' :=
  {
    blk := hb
    lM := (ho M h.ltM).trans h.lM
    hrow := hrow_of_blocks h.hrow (fun k e => K k (h.hlt e) (by rw [h.lh k e]; omega) (fun e2 => by have := h.lh k e; rw [e2, h.lM] at this; omega))
    lh := fun k e => (ho k (h.hlt e)).trans (h.lh k e)
    tk := hr
    ltk := hl
    wk := h.wk.of_blocks (fun k e => K k (h.wk.low e).2 (by rw [h.lwk k e]; omega) (fun e2 => by have := h.lwk k e; rw [e2, h.lM] at this; omega))
    lwk := fun k e => (ho k (h.wk.low e).2).trans (h.lwk k e)
    rw0 := h.rw0
    hand := fun j hj => (h.hand j hj).of_blocks (K _ (h.hand j hj).lt (by rw [h.lH j hj]; omega) (fun e2 => by have := h.lH j hj; rw [e2, h.lM] at this; omega)) (fun k e => by simp [Value.ownBlock] at e)
    lH := fun j hj => (ho _ (h.hand j hj).lt).trans (h.lH j hj)
    hMk := h.hMk
    dn := h.dn
    drow := h.drow.of_block (K DB h.drow.lt (by rw [h.lDB]; omega) (fun e2 => by have := h.lDB; rw [e2, h.lM] at this; omega))
    lDB := (ho DB h.drow.lt).trans h.lDB
    hp := h.hp
    far := ⟨hio.1.trans h.far.os, hio.2.1.trans h.far.tape, hio.2.2.trans h.far.output, Nat.le_trans h.far.size hs, fun k hk => (K k (by have := h.n0; omega) (by rw [h.low k hk]; omega) (by have := h.n0; omega)).trans (h.far.block k hk)⟩
    low := fun k hk => (ho k (by have := h.n0; have := h.ltM; omega)).trans (h.low k hk)
    n0 := ⟨h.n0.1, Nat.lt_of_lt_of_le h.n0.2 hs⟩ }
theorem NG.pushW (h : NG M room kh kt kw ts p own gq DB Hk N0 wN w) (ho : ∀ k, k < w.heap.size → own' k = own k) (hs : w.heap.size ≤ w'.heap.size) (hio : w'.os = w.os ∧ w'.tape = w.tape ∧ w'.output = w.output) (K : ∀ k, k < w.heap.size → own k ≠ 3 → k ≠ M → w'.heap[k]? = w.heap[k]?) {v : Value} (hr : RowI (M + 1) w' v (upto (kw + 1) (fun _ => 0))) (hl : Lb own' 3 v) (hb : w'.heap[M]? = some (.cells (gArr { gq with wk := v } room (.slice none 0 0) (.slice none 0 0)) 43 (0, 0))) : NG M room kh kt (kw + 1) ts p own' { gq with wk := v } DB Hk N0 wN w' :=
  {
    blk := hb
    lM := (ho M h.ltM).trans h.lM
    hrow := hrow_of_blocks h.hrow (fun k e => K k (h.hlt e) (by rw [h.lh k e]; omega) (fun e2 => by have := h.lh k e; rw [e2, h.lM] at this; omega))
    lh := fun k e => (ho k (h.hlt e)).trans (h.lh k e)
    tk := h.tk.of_blocks (fun k e => K k (h.tk.low e).2 (by rw [h.ltk k e]; omega) (fun e2 => by have := h.ltk k e; rw [e2, h.lM] at this; omega))
    ltk := fun k e => (ho k (h.tk.low e).2).trans (h.ltk k e)
    wk := hr
    lwk := hl
    rw0 := h.rw0
    hand := fun j hj => (h.hand j hj).of_blocks (K _ (h.hand j hj).lt (by rw [h.lH j hj]; omega) (fun e2 => by have := h.lH j hj; rw [e2, h.lM] at this; omega)) (fun k e => by simp [Value.ownBlock] at e)
    lH := fun j hj => (ho _ (h.hand j hj).lt).trans (h.lH j hj)
    hMk := h.hMk
    dn := h.dn
    drow := h.drow.of_block (K DB h.drow.lt (by rw [h.lDB]; omega) (fun e2 => by have := h.lDB; rw [e2, h.lM] at this; omega))
    lDB := (ho DB h.drow.lt).trans h.lDB
    hp := h.hp
    far := ⟨hio.1.trans h.far.os, hio.2.1.trans h.far.tape, hio.2.2.trans h.far.output, Nat.le_trans h.far.size hs, fun k hk => (K k (by have := h.n0; omega) (by rw [h.low k hk]; omega) (by have := h.n0; omega)).trans (h.far.block k hk)⟩
    low := fun k hk => (ho k (by have := h.n0; have := h.ltM; omega)).trans (h.low k hk)
    n0 := ⟨h.n0.1, Nat.lt_of_lt_of_le h.n0.2 hs⟩ }
theorem NG.pushH (h : NG M room kh kt kw ts p own gq DB Hk N0 wN w) (ho : ∀ k, k < w.heap.size → own' k = own k) (hs : w.heap.size ≤ w'.heap.size) (hio : w'.os = w.os ∧ w'.tape = w.tape ∧ w'.output = w.output) (K : ∀ k, k < w.heap.size → own k ≠ 1 → k ≠ M → w'.heap[k]? = w.heap[k]?) {v : Value} {Hk' : Nat → Nat} (hr : w'.ownsRow (M + 1) 74 1 v (kh + 1) ((List.range (kh + 1)).map (fun j => .pointer (some ⟨Hk' j, 0, none⟩)))) (hl : Lb own' 1 v) (hj : ∀ j, j < kh → Hk' j = Hk j) (hm : Hnd.Mh (Hk' kh) room (-1) [] (.slice none 0 0) w') (hlm : own' (Hk' kh) = 10 + kh) (hmm : M < Hk' kh) (hb : w'.heap[M]? = some (.cells (gArr { gq with hs := v } room (.slice none 0 0) (.slice none 0 0)) 43 (0, 0))) : NG M room (kh + 1) kt kw ts p own' { gq with hs := v } DB Hk' N0 wN w' :=
  {
    blk := hb
    lM := (ho M h.ltM).trans h.lM
    hrow := hr
    lh := hl
    tk := h.tk.of_blocks (fun k e => K k (h.tk.low e).2 (by rw [h.ltk k e]; omega) (fun e2 => by have := h.ltk k e; rw [e2, h.lM] at this; omega))
    ltk := fun k e => (ho k (h.tk.low e).2).trans (h.ltk k e)
    wk := h.wk.of_blocks (fun k e => K k (h.wk.low e).2 (by rw [h.lwk k e]; omega) (fun e2 => by have := h.lwk k e; rw [e2, h.lM] at this; omega))
    lwk := fun k e => (ho k (h.wk.low e).2).trans (h.lwk k e)
    rw0 := h.rw0
    hand := fun j hj2 => by
      by_cases e : j = kh
      · subst e; exact hm
      · rw [hj j (by omega)]; exact (h.hand j (by omega)).of_blocks (K _ (h.hand j (by omega)).lt (by rw [h.lH j (by omega)]; omega) (fun e2 => by have := h.lH j (by omega); rw [e2, h.lM] at this; omega)) (fun k e => by simp [Value.ownBlock] at e)
    lH := fun j hj2 => by
      by_cases e : j = kh
      · subst e; exact hlm
      · rw [hj j (by omega)]; exact (ho _ (h.hand j (by omega)).lt).trans (h.lH j (by omega))
    hMk := fun j hj2 => by
      by_cases e : j = kh
      · subst e; exact hmm
      · rw [hj j (by omega)]; exact h.hMk j (by omega)
    dn := h.dn
    drow := h.drow.of_block (K DB h.drow.lt (by rw [h.lDB]; omega) (fun e2 => by have := h.lDB; rw [e2, h.lM] at this; omega))
    lDB := (ho DB h.drow.lt).trans h.lDB
    hp := h.hp
    far := ⟨hio.1.trans h.far.os, hio.2.1.trans h.far.tape, hio.2.2.trans h.far.output, Nat.le_trans h.far.size hs, fun k hk => (K k (by have := h.n0; omega) (by rw [h.low k hk]; omega) (by have := h.n0; omega)).trans (h.far.block k hk)⟩
    low := fun k hk => (ho k (by have := h.n0; have := h.ltM; omega)).trans (h.low k hk)
    n0 := ⟨h.n0.1, Nat.lt_of_lt_of_le h.n0.2 hs⟩ }
end Go.Proofs.YtchbncgifefegaaDoor

namespace Go.Proofs.YtchbncgifefegaaDoor
open Go.RowKit Go.Deep
open Spl.Dsp (Gq gArr)

variable {M room k kt kw : Nat} {ts : List (Int × List Int)} {p : Value} {own : Nat → Nat} {gq : Gq} {DB N0 : Nat} {Hk : Nat → Nat} {wN w w2 : World}
theorem NG.c (h : NG M room k kt kw ts p own gq DB Hk N0 wN w) : w.cell? ⟨M, 0, none⟩ = some gq.p ∧ w.cell? ⟨M, 1, none⟩ = some gq.hs ∧ w.cell? ⟨M, 2, none⟩ = some gq.tk ∧ w.cell? ⟨M, 3, none⟩ = some gq.wk ∧ w.cell? ⟨M, 8, none⟩ = some gq.dn := by
  refine ⟨?_, ?_, ?_, ?_, ?_⟩ <;> simp [World.cell?, h.blk, gArr]
theorem NG.fz (h : NG M room k kt kw ts p own gq DB Hk N0 wN w) (j : Nat) : w.frozen? ⟨M, j, none⟩ = false := by simp [World.frozen?, h.blk]
/-- The cells that a hand is made of. -/
def handC (room : Nat) : Obj := .cells #[.int .i64 room, .int .i64 (-1), .slice none 0 0] 76
theorem NG.hand1 (h : NG M room k kt kw ts p own gq DB Hk N0 wN w) (h16 : room ≤ 16) {ob : Obj} {g2 c2 : Nat} (hgr : ((w.alloc (handC room)).alloc ob).grownBy w2 gq.hs.ownBlock) (hat : (some g2 : Option Nat) = gq.hs.ownBlock ∨ (some g2 : Option Nat) = some ((w.alloc (handC room)).alloc ob).heap.size)
    (hown : w2.ownsRow (M + 1) 74 1 (.slice (some ⟨g2, 0, none⟩) (k + 1) c2) (k + 1) ((List.range k).map (fun j => .pointer (some ⟨Hk j, 0, none⟩)) ++ [.pointer (some ⟨w.heap.size, 0, none⟩)])) :
    w2.heap[M]? = w.heap[M]? ∧ ∃ own' Hk', NG M room (k + 1) kt kw ts p own' { gq with hs := .slice (some ⟨g2, 0, none⟩) (k + 1) c2 } DB Hk' N0 wN (w2.setCell ⟨M, 1, none⟩ (.slice (some ⟨g2, 0, none⟩) (k + 1) c2)) := by
  have hM := h.ltM
  have hkeep : ∀ b, b < w.heap.size → own b ≠ 1 → w2.heap[b]? = w.heap[b]? := fun b hb hne => (hgr.block b (by simp; omega) (fun e => hne (h.lh b e.symm))).trans ((Below.heap_alloc _ _ _ (by simp; omega)).trans (Below.heap_alloc _ _ _ hb))
  have hM2 := hkeep M hM (by rw [h.lM]; omega)
  have hsz : w.heap.size + 2 ≤ w2.heap.size := by have := hgr.size; simp at this; omega
  have hg2 : g2 ≠ M ∧ (own g2 = 1 ∧ g2 < w.heap.size ∨ w.heap.size + 2 ≤ g2) := by
    rcases hat with e | e
    · have h1 := h.lh g2 e.symm
      have h2 := h.hlt e.symm
      refine ⟨fun e2 => ?_, Or.inl ⟨h1, h2⟩⟩
      rw [e2, h.lM] at h1; omega
    · have e2 := Option.some.inj e
      simp at e2
      exact ⟨by omega, Or.inr (by omega)⟩
  have hne : ∀ b, b ≠ M → (w2.setCell ⟨M, 1, none⟩ (.slice (some ⟨g2, 0, none⟩) (k + 1) c2)).heap[b]? = w2.heap[b]? := fun b hb => Below.heap_setCell _ _ _ _ (by show b ≠ M; exact hb)
  have hnewH : w2.heap[w.heap.size]? = some (handC room) := by
    refine (hgr.block w.heap.size (by simp; omega) (fun e => by have := h.hlt e.symm; omega)).trans ?_
    exact (Below.heap_alloc _ _ _ (by simp)).trans (heap_alloc_new w _)
  refine ⟨hM2, relabel (relabel own w.heap.size (10 + k)) (w.heap.size + 1) 1, upd Hk k w.heap.size, ?_⟩
  refine NG.pushH (own' := relabel (relabel own w.heap.size (10 + k)) (w.heap.size + 1) 1) (w' := w2.setCell ⟨M, 1, none⟩ (.slice (some ⟨g2, 0, none⟩) (k + 1) c2)) (Hk' := upd Hk k w.heap.size) h (fun b hb => by rw [relabel_lt (by omega), relabel_lt hb]) (by simp; omega) ⟨hgr.os, hgr.tape, hgr.output⟩ (fun b hb hn1 hn2 => (hne b hn2).trans (hkeep b hb hn1)) ?_ (fun b e => ?_) (fun j hj => upd_ne _ _ (by omega)) ?_ ?_ ?_ ?_
  · have e1 : (List.range (k + 1)).map (fun j => Value.pointer (some ⟨upd Hk k w.heap.size j, 0, none⟩)) = (List.range k).map (fun j => .pointer (some ⟨Hk j, 0, none⟩)) ++ [.pointer (some ⟨w.heap.size, 0, none⟩)] := by
      rw [List.range_succ, List.map_append]
      congr 1
      · exact List.map_congr_left (fun j hj => by rw [upd_ne _ _ (by have := List.mem_range.1 hj; omega)])
      · simp [upd_self]
    rw [e1]
    exact hrow_of_blocks hown (fun b e => hne b (by have e2 := Option.some.inj e; rw [← e2]; exact hg2.1))
  · have e2 : g2 = b := Option.some.inj e
    subst e2
    rcases hg2.2 with ⟨h1, h2⟩ | h1
    · rw [relabel_lt (by omega), relabel_lt h2]; exact h1
    · exact relabel_ge (by omega)
  · rw [upd_self]
    exact ⟨(hne _ (by omega)).trans hnewH, RowI.nil _ _, Or.inl rfl, by simp, h16⟩
  · rw [upd_self, relabel_lt (by omega), relabel_ge (Nat.le_refl _)]
  · rw [upd_self]; omega
  · have hMb := hM2.trans h.blk
    rw [setCell_eq_setRow w2 M 1 _ 43 (0, 0) _ hMb, setRow_heap w2 M _ _ 43 _ hMb]
    rfl
/-- One more task, none. -/
theorem NG.task1 (h : NG M room k kt kw ts p own gq DB Hk N0 wN w) {ob : Obj} {v : Value} (hgr : (w.alloc ob).grownBy w2 gq.tk.ownBlock) (hat : v.ownBlock = gq.tk.ownBlock ∨ v.ownBlock = some (w.alloc ob).heap.size)
    (hown : RowI (M + 1) w2 v (upto kt (fun _ => -1) ++ [-1])) : w2.heap[M]? = w.heap[M]? ∧ ∃ own', NG M room k (kt + 1) kw ts p own' { gq with tk := v } DB Hk N0 wN (w2.setCell ⟨M, 2, none⟩ v) := by
  have hM := h.ltM
  have hkeep : ∀ b, b < w.heap.size → own b ≠ 2 → w2.heap[b]? = w.heap[b]? := fun b hb hne => (hgr.block b (by simp; omega) (fun e => hne (h.ltk b e.symm))).trans (Below.heap_alloc _ _ _ hb)
  have hM2 := hkeep M hM (by rw [h.lM]; omega)
  have hsz : w.heap.size + 1 ≤ w2.heap.size := by have := hgr.size; simp at this; omega
  have hl2 : ∀ b, v.ownBlock = some b → relabel own w.heap.size 2 b = 2 := fun b e => by
    rcases hat with e2 | e2
    · have e3 := e2.symm.trans e
      rw [relabel_lt (h.tk.low e3).2]; exact h.ltk b e3
    · have e3 := Option.some.inj (e2.symm.trans e)
      simp at e3
      exact relabel_ge (by omega)
  have hne : ∀ b, b ≠ M → (w2.setCell ⟨M, 2, none⟩ v).heap[b]? = w2.heap[b]? := fun b hb => Below.heap_setCell _ _ _ _ (by show b ≠ M; exact hb)
  refine ⟨hM2, relabel own w.heap.size 2, ?_⟩
  refine NG.pushT (own' := relabel own w.heap.size 2) (w' := w2.setCell ⟨M, 2, none⟩ v) h (fun b hb => relabel_lt hb) (by simp; omega) ⟨hgr.os, hgr.tape, hgr.output⟩ (fun b hb hn1 hn2 => (hne b hn2).trans (hkeep b hb hn1)) ?_ hl2 ?_
  · have e1 : upto (kt + 1) (fun _ => -1) = upto kt (fun _ => -1) ++ [-1] := by unfold upto; rw [List.range_succ, List.map_append]; rfl
    rw [e1]
    exact hown.of_blocks (fun b e => hne b (fun e2 => by have h1 := hl2 b e; rw [e2, relabel_lt hM, h.lM] at h1; omega))
  · have hMb := hM2.trans h.blk
    rw [setCell_eq_setRow w2 M 2 _ 43 (0, 0) _ hMb, setRow_heap w2 M _ _ 43 _ hMb]
    rfl
/-- One more work, none. -/
theorem NG.work1 (h : NG M room k kt kw ts p own gq DB Hk N0 wN w) {ob : Obj} {v : Value} (hgr : (w.alloc ob).grownBy w2 gq.wk.ownBlock) (hat : v.ownBlock = gq.wk.ownBlock ∨ v.ownBlock = some (w.alloc ob).heap.size)
    (hown : RowI (M + 1) w2 v (upto kw (fun _ => 0) ++ [0])) : w2.heap[M]? = w.heap[M]? ∧ ∃ own', NG M room k kt (kw + 1) ts p own' { gq with wk := v } DB Hk N0 wN (w2.setCell ⟨M, 3, none⟩ v) := by
  have hM := h.ltM
  have hkeep : ∀ b, b < w.heap.size → own b ≠ 3 → w2.heap[b]? = w.heap[b]? := fun b hb hne => (hgr.block b (by simp; omega) (fun e => hne (h.lwk b e.symm))).trans (Below.heap_alloc _ _ _ hb)
  have hM2 := hkeep M hM (by rw [h.lM]; omega)
  have hsz : w.heap.size + 1 ≤ w2.heap.size := by have := hgr.size; simp at this; omega
  have hl2 : ∀ b, v.ownBlock = some b → relabel own w.heap.size 3 b = 3 := fun b e => by
    rcases hat with e2 | e2
    · have e3 := e2.symm.trans e
      rw [relabel_lt (h.wk.low e3).2]; exact h.lwk b e3
    · have e3 := Option.some.inj (e2.symm.trans e)
      simp at e3
      exact relabel_ge (by omega)
  have hne : ∀ b, b ≠ M → (w2.setCell ⟨M, 3, none⟩ v).heap[b]? = w2.heap[b]? := fun b hb => Below.heap_setCell _ _ _ _ (by show b ≠ M; exact hb)
  refine ⟨hM2, relabel own w.heap.size 3, ?_⟩
  refine NG.pushW (own' := relabel own w.heap.size 3) (w' := w2.setCell ⟨M, 3, none⟩ v) h (fun b hb => relabel_lt hb) (by simp; omega) ⟨hgr.os, hgr.tape, hgr.output⟩ (fun b hb hn1 hn2 => (hne b hn2).trans (hkeep b hb hn1)) ?_ hl2 ?_
  · have e1 : upto (kw + 1) (fun _ => 0) = upto kw (fun _ => 0) ++ [0] := by unfold upto; rw [List.range_succ, List.map_append]; rfl
    rw [e1]
    exact hown.of_blocks (fun b e => hne b (fun e2 => by have h1 := hl2 b e; rw [e2, relabel_lt hM, h.lM] at h1; omega))
  · have hMb := hM2.trans h.blk
    rw [setCell_eq_setRow w2 M 3 _ 43 (0, 0) _ hMb, setRow_heap w2 M _ _ 43 _ hMb]
    rfl
end Go.Proofs.YtchbncgifefegaaDoor
