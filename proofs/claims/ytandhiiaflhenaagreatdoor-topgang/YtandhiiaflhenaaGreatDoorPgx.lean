/- The program's gang in memory: its parts lie in blocks that are told apart by labels. The program's gang: begin; who has which task. The program's gang: it robs another hand. The program's gang: find, five ways. The program's gang: the last unit of a task is done. -/
import Derived.Test.YtandhiiaflhenaaGreatDoorDlb
import Derived.BigRegion
import Derived.Deep.RegionLaw

namespace Go.Proofs.YtandhiiaflhenaaGreatDoor
open Go.RowKit Go.Deep Go.Maps

/-- A join is as it was, where its blocks, and its lists, are. -/
theorem JnT.of_lists {J M A D C : Nat} {ts : List (Int × List Int)} {S : Nat → Bool} {w w' : World} (h : JnT J M A D C ts S w) (eJ : w'.heap[J]? = w.heap[J]?) (eM : w'.heap[M]? = w.heap[M]?) (eA : w'.heap[A]? = w.heap[A]?) (eD : w'.heap[D]? = w.heap[D]?)
    (hl : ∀ k v b, k < ts.length → w.cell? ⟨A, k, none⟩ = some v → v.ownBlock = some b → b < w.heap.size → w'.heap[b]? = w.heap[b]?) : JnT J M A D C ts S w' := by
  obtain ⟨av, ha⟩ := Jn.aft h
  exact ⟨(Jn.row h).of_block eJ, (Jn.miss h).of_block eM, ⟨av, ha.row.of_block eA, fun k hk => (ha.own k hk).of_blocks (fun b e => hl k (av k) b hk (ha.row.cell hk) e ((ha.own k hk).low e).2)⟩, (Jn.done h).of_block eD, Jn.lt h, Jn.ne h, Jn.le h⟩
/-- The lists of a join bear this label. -/
def LbA (own : Nat → Nat) (A n : Nat) (w : World) : Prop := ∀ k v b, k < n → w.cell? ⟨A, k, none⟩ = some v → v.ownBlock = some b → b < w.heap.size ∧ own b = 7
theorem LbA.kc {own : Nat → Nat} {C : Nat → Prop} {A n c : Nat} {w w' : World} (h : LbA own A n w) (K : Kc own C w w') (hA : w'.heap[A]? = w.heap[A]?) : LbA (relabel own w.heap.size c) A n w' := fun k v b hk hv hb => by
  have := h k v b hk ((World.cell?_of_block (a := ⟨A, k, none⟩) hA).symm.trans hv) hb
  exact ⟨Nat.lt_of_lt_of_le this.1 K.size, by rw [relabel_lt this.1]; exact this.2⟩
theorem LbA.sub {own : Nat → Nat} {C : Nat → Prop} {A n c : Nat} {w w' : World} (h : LbA own A n w) (K : Kc own C w w') (hs : SubA A w w') : LbA (relabel own w.heap.size c) A n w' := fun k v b hk hv hb => by
  rcases hs k v hv with e | e
  · subst e; simp [Value.ownBlock] at hb
  · have := h k v b hk e hb
    exact ⟨Nat.lt_of_lt_of_le this.1 K.size, by rw [relabel_lt this.1]; exact this.2⟩

/-- Who has which task, as a map. -/
def HasAt (w : World) (B hands : Nat) (task : Nat → Int) : Prop :=
  ∃ n D, w.ownsMap Tryz.prog 3 (plainElem (H := Unit) Tryz.prog 3) B n D ∧ Maps.size D = unseen (fun h => decide (task h < 0)) hands ∧ ∀ x : Nat, x < hands → Maps.has D (.int .i64 x) = decide (0 ≤ task x) ∧ (0 ≤ task x → ∀ z, D.atKey (.int .i64 x) z = .lit (.int .i64 (task x)))
theorem HasAt.of_block {w w' : World} {B hands : Nat} {task : Nat → Int} (h : HasAt w B hands task) (e : w'.heap[B]? = w.heap[B]?) : HasAt w' B hands task := by
  obtain ⟨n, D, ⟨es, clock, hb, r⟩, h1⟩ := h
  exact ⟨n, D, ⟨es, clock, e.trans hb, r⟩, h1⟩
theorem HasAt.lt {w : World} {B hands : Nat} {task : Nat → Int} (h : HasAt w B hands task) : B < w.heap.size := by
  obtain ⟨n, D, h, _⟩ := h
  exact h.lt
theorem ownsMap_exact {P : Program} {k : TypeId} {R : Value → Option (DataW Unit × List MemPlace)} {w : World} {b n : Nat} {D : DataW Unit} (h : w.ownsMap P k R b n D) : w.ownsMap P k R b (Maps.size D) D := by
  obtain ⟨es, clock, hb, F, hs, rfl⟩ := h
  exact ⟨es, clock, hb, F, by simp [Maps.size, length_sorted], rfl⟩
theorem HasAt.start (w : World) (hands : Nat) : HasAt (w.alloc (.map #[] 0)) w.heap.size hands (fun _ => -1) :=
  ⟨0, .map [], World.ownsMap_made _ _ _ _, by
    have : (fun _ : Nat => decide ((-1 : Int) < 0)) = fun _ => true := by funext; simp
    rw [this, unseen_zero _ _ (fun _ _ => rfl)]; rfl, fun x _ => ⟨by simp [Maps.has], fun h => by have h2 : (0 : Int) ≤ -1 := h; omega⟩⟩

structure Qp where
  J : Nat
  M : Nat
  A : Nat
  D : Nat
  C : Nat
  Sb : Nat
  vs : Value
  Kb : Nat
  vz : Value
  HB : Nat
  Hk : Nat → Nat
  Rk : Nat → Nat
  Mb : Nat
  WB : Nat
/-- The gang's own cells. -/
def gangRow (Q : Qp) (hands n : Nat) : Nat → Value := fun k => if k = 0 then .pointer (some ⟨Q.J, 0, none⟩) else if k = 1 then .pointer (some ⟨Q.Sb, 0, none⟩) else if k = 2 then .pointer (some ⟨Q.Kb, 0, none⟩) else if k = 3 then .slice (some ⟨Q.HB, 0, none⟩) hands hands else if k = 4 then .map (some Q.Mb) else .slice (some ⟨Q.WB, 0, none⟩) n n

/-- The gang lies in block G; labels: 0 G, 1 the row of its hands, 2 works, 3 who has which task, 4 the park, 6 the spill, 7 the join, 8 what is told, 9 all else, 10 and on its hands. -/
structure Pg (B : Bs) (G room hands : Nat) (ts : List (Int × List Int)) (g : Gs) (wk : Nat → Int) (own : Nat → Nat) (Q : Qp) (w : World) : Prop where
  row : w.rowIs G 73 6 (gangRow Q hands ts.length)
  lG : own G = 0
  jn : JnT Q.J Q.M Q.A Q.D Q.C ts g.S w
  lJ : own Q.J = 7 ∧ own Q.M = 7 ∧ own Q.A = 7 ∧ own Q.D = 7
  lA : LbA own Q.A ts.length w
  sp : Spl.Sp Q.Sb room g.sp Q.vs w
  lS : own Q.Sb = 6 ∧ Lb own 6 Q.vs
  pk : Prk.Pk Q.Kb hands g.zz Q.vz w
  lK : own Q.Kb = 4 ∧ Lb own 4 Q.vz
  hrow : w.rowIs Q.HB 114 hands (fun k => .pointer (some ⟨Q.Hk k, 0, none⟩))
  lHB : own Q.HB = 1
  hand : ∀ k, k < hands → Hnd.Hd (Q.Hk k) (Q.Rk k) room (g.near k) (g.ring k) w
  lH : ∀ k, k < hands → own (Q.Hk k) = 10 + k ∧ own (Q.Rk k) = 10 + k
  has : HasAt w Q.Mb hands g.task
  lM : own Q.Mb = 3
  wrow : w.rowIs Q.WB 3 ts.length (fun k => .int .i64 (wk k))
  lW : own Q.WB = 2
  far : ∀ k, B.X k → k < B.w1.heap.size ∧ own k = 9 ∧ w.heap[k]? = B.w1.heap[k]?
  w1le : B.w1.heap.size ≤ w.heap.size
  io : w.os = B.w1.os ∧ w.tape = B.w1.tape ∧ w.output = B.w1.output
variable {B B' : Bs} {G room hands : Nat} {ts : List (Int × List Int)} {g : Gs} {wk : Nat → Int} {own : Nat → Nat} {Q : Qp} {w w' : World}
theorem Pg.later0 (h : Pg B G room hands ts g wk own Q w)  (K : Kc own (fun _ => False) w w') : Pg B G room hands ts g wk (relabel own w.heap.size 9) Q w' := by
  exact {
    row := h.row.of_block (K.block G h.row.lt (by have := h.lG; first | omega | exact id))
    lG := by rw [relabel_lt h.row.lt]; exact h.lG
    jn := JnT.of_lists h.jn (K.block Q.J (Jn.row h.jn).lt (by have := h.lJ.1; first | omega | exact id)) (K.block Q.M (Jn.miss h.jn).lt (by have := h.lJ.2.1; first | omega | exact id)) (K.block Q.A (Jn.ltA h.jn) (by have := h.lJ.2.2.1; first | omega | exact id)) (K.block Q.D (Jn.done h.jn).lt (by have := h.lJ.2.2.2; first | omega | exact id)) (fun k v b hk hv hb hlt => K.block b hlt (by have := (h.lA k v b hk hv hb).2; first | omega | exact id))
    lJ := ⟨by rw [relabel_lt (Jn.row h.jn).lt]; exact h.lJ.1, by rw [relabel_lt (Jn.miss h.jn).lt]; exact h.lJ.2.1, by rw [relabel_lt (Jn.ltA h.jn)]; exact h.lJ.2.2.1, by rw [relabel_lt (Jn.done h.jn).lt]; exact h.lJ.2.2.2⟩
    lA := h.lA.kc K (K.block Q.A (Jn.ltA h.jn) (by have := h.lJ.2.2.1; first | omega | exact id))
    sp := h.sp.of_blocks (K.block Q.Sb h.sp.lt (by have := h.lS.1; first | omega | exact id)) (fun k e => K.block k (h.sp.row.low e).2 (by have := h.lS.2 k e; first | omega | exact id))
    lS := ⟨by rw [relabel_lt h.sp.lt]; exact h.lS.1, fun k e => by rw [relabel_lt (h.sp.row.low e).2]; exact h.lS.2 k e⟩
    pk := h.pk.of_blocks (K.block Q.Kb h.pk.lt (by have := h.lK.1; first | omega | exact id)) (fun k e => K.block k (h.pk.row.low e).2 (by have := h.lK.2 k e; first | omega | exact id))
    lK := ⟨by rw [relabel_lt h.pk.lt]; exact h.lK.1, fun k e => by rw [relabel_lt (h.pk.row.low e).2]; exact h.lK.2 k e⟩
    hrow := h.hrow.of_block (K.block Q.HB h.hrow.lt (by have := h.lHB; first | omega | exact id))
    lHB := by rw [relabel_lt h.hrow.lt]; exact h.lHB
    hand := fun k hk => (h.hand k hk).of_blocks (K.block _ (h.hand k hk).row.lt (by have := (h.lH k hk).1; first | omega | exact id)) (K.block _ (h.hand k hk).ring.lt (by have := (h.lH k hk).2; first | omega | exact id))
    lH := fun k hk => ⟨by rw [relabel_lt (h.hand k hk).row.lt]; exact (h.lH k hk).1, by rw [relabel_lt (h.hand k hk).ring.lt]; exact (h.lH k hk).2⟩
    has := h.has.of_block (K.block Q.Mb h.has.lt (by have := h.lM; first | omega | exact id))
    lM := by rw [relabel_lt h.has.lt]; exact h.lM
    wrow := h.wrow.of_block (K.block Q.WB h.wrow.lt (by have := h.lW; first | omega | exact id))
    lW := by rw [relabel_lt h.wrow.lt]; exact h.lW
    far := fun k hk => by
      have h1 := h.far k hk
      have h2 := h.w1le
      exact ⟨h1.1, by rw [relabel_lt (by omega)]; exact h1.2.1, (K.block k (by omega) (by have := h1.2.1; first | omega | exact id)).trans h1.2.2⟩
    w1le := Nat.le_trans h.w1le K.size
    io := ⟨K.os.trans h.io.1, K.tape.trans h.io.2.1, K.output.trans h.io.2.2⟩ }
theorem Pg.later8 (h : Pg B G room hands ts g wk own Q w)  (K : Kc own (fun c => c = 8) w w') : Pg B G room hands ts g wk (relabel own w.heap.size 8) Q w' := by
  exact {
    row := h.row.of_block (K.block G h.row.lt (by have := h.lG; first | omega | exact id))
    lG := by rw [relabel_lt h.row.lt]; exact h.lG
    jn := JnT.of_lists h.jn (K.block Q.J (Jn.row h.jn).lt (by have := h.lJ.1; first | omega | exact id)) (K.block Q.M (Jn.miss h.jn).lt (by have := h.lJ.2.1; first | omega | exact id)) (K.block Q.A (Jn.ltA h.jn) (by have := h.lJ.2.2.1; first | omega | exact id)) (K.block Q.D (Jn.done h.jn).lt (by have := h.lJ.2.2.2; first | omega | exact id)) (fun k v b hk hv hb hlt => K.block b hlt (by have := (h.lA k v b hk hv hb).2; first | omega | exact id))
    lJ := ⟨by rw [relabel_lt (Jn.row h.jn).lt]; exact h.lJ.1, by rw [relabel_lt (Jn.miss h.jn).lt]; exact h.lJ.2.1, by rw [relabel_lt (Jn.ltA h.jn)]; exact h.lJ.2.2.1, by rw [relabel_lt (Jn.done h.jn).lt]; exact h.lJ.2.2.2⟩
    lA := h.lA.kc K (K.block Q.A (Jn.ltA h.jn) (by have := h.lJ.2.2.1; first | omega | exact id))
    sp := h.sp.of_blocks (K.block Q.Sb h.sp.lt (by have := h.lS.1; first | omega | exact id)) (fun k e => K.block k (h.sp.row.low e).2 (by have := h.lS.2 k e; first | omega | exact id))
    lS := ⟨by rw [relabel_lt h.sp.lt]; exact h.lS.1, fun k e => by rw [relabel_lt (h.sp.row.low e).2]; exact h.lS.2 k e⟩
    pk := h.pk.of_blocks (K.block Q.Kb h.pk.lt (by have := h.lK.1; first | omega | exact id)) (fun k e => K.block k (h.pk.row.low e).2 (by have := h.lK.2 k e; first | omega | exact id))
    lK := ⟨by rw [relabel_lt h.pk.lt]; exact h.lK.1, fun k e => by rw [relabel_lt (h.pk.row.low e).2]; exact h.lK.2 k e⟩
    hrow := h.hrow.of_block (K.block Q.HB h.hrow.lt (by have := h.lHB; first | omega | exact id))
    lHB := by rw [relabel_lt h.hrow.lt]; exact h.lHB
    hand := fun k hk => (h.hand k hk).of_blocks (K.block _ (h.hand k hk).row.lt (by have := (h.lH k hk).1; first | omega | exact id)) (K.block _ (h.hand k hk).ring.lt (by have := (h.lH k hk).2; first | omega | exact id))
    lH := fun k hk => ⟨by rw [relabel_lt (h.hand k hk).row.lt]; exact (h.lH k hk).1, by rw [relabel_lt (h.hand k hk).ring.lt]; exact (h.lH k hk).2⟩
    has := h.has.of_block (K.block Q.Mb h.has.lt (by have := h.lM; first | omega | exact id))
    lM := by rw [relabel_lt h.has.lt]; exact h.lM
    wrow := h.wrow.of_block (K.block Q.WB h.wrow.lt (by have := h.lW; first | omega | exact id))
    lW := by rw [relabel_lt h.wrow.lt]; exact h.lW
    far := fun k hk => by
      have h1 := h.far k hk
      have h2 := h.w1le
      exact ⟨h1.1, by rw [relabel_lt (by omega)]; exact h1.2.1, (K.block k (by omega) (by have := h1.2.1; first | omega | exact id)).trans h1.2.2⟩
    w1le := Nat.le_trans h.w1le K.size
    io := ⟨K.os.trans h.io.1, K.tape.trans h.io.2.1, K.output.trans h.io.2.2⟩ }
theorem Pg.setWk (h : Pg B G room hands ts g wk own Q w) (f : Nat → Int) (hf : w'.rowIs Q.WB 3 ts.length (fun k => .int .i64 (f k))) (K : Kc own (fun c => c = 2) w w') : Pg B G room hands ts g f (relabel own w.heap.size 2) Q w' := by
  exact {
    row := h.row.of_block (K.block G h.row.lt (by have := h.lG; first | omega | exact id))
    lG := by rw [relabel_lt h.row.lt]; exact h.lG
    jn := JnT.of_lists h.jn (K.block Q.J (Jn.row h.jn).lt (by have := h.lJ.1; first | omega | exact id)) (K.block Q.M (Jn.miss h.jn).lt (by have := h.lJ.2.1; first | omega | exact id)) (K.block Q.A (Jn.ltA h.jn) (by have := h.lJ.2.2.1; first | omega | exact id)) (K.block Q.D (Jn.done h.jn).lt (by have := h.lJ.2.2.2; first | omega | exact id)) (fun k v b hk hv hb hlt => K.block b hlt (by have := (h.lA k v b hk hv hb).2; first | omega | exact id))
    lJ := ⟨by rw [relabel_lt (Jn.row h.jn).lt]; exact h.lJ.1, by rw [relabel_lt (Jn.miss h.jn).lt]; exact h.lJ.2.1, by rw [relabel_lt (Jn.ltA h.jn)]; exact h.lJ.2.2.1, by rw [relabel_lt (Jn.done h.jn).lt]; exact h.lJ.2.2.2⟩
    lA := h.lA.kc K (K.block Q.A (Jn.ltA h.jn) (by have := h.lJ.2.2.1; first | omega | exact id))
    sp := h.sp.of_blocks (K.block Q.Sb h.sp.lt (by have := h.lS.1; first | omega | exact id)) (fun k e => K.block k (h.sp.row.low e).2 (by have := h.lS.2 k e; first | omega | exact id))
    lS := ⟨by rw [relabel_lt h.sp.lt]; exact h.lS.1, fun k e => by rw [relabel_lt (h.sp.row.low e).2]; exact h.lS.2 k e⟩
    pk := h.pk.of_blocks (K.block Q.Kb h.pk.lt (by have := h.lK.1; first | omega | exact id)) (fun k e => K.block k (h.pk.row.low e).2 (by have := h.lK.2 k e; first | omega | exact id))
    lK := ⟨by rw [relabel_lt h.pk.lt]; exact h.lK.1, fun k e => by rw [relabel_lt (h.pk.row.low e).2]; exact h.lK.2 k e⟩
    hrow := h.hrow.of_block (K.block Q.HB h.hrow.lt (by have := h.lHB; first | omega | exact id))
    lHB := by rw [relabel_lt h.hrow.lt]; exact h.lHB
    hand := fun k hk => (h.hand k hk).of_blocks (K.block _ (h.hand k hk).row.lt (by have := (h.lH k hk).1; first | omega | exact id)) (K.block _ (h.hand k hk).ring.lt (by have := (h.lH k hk).2; first | omega | exact id))
    lH := fun k hk => ⟨by rw [relabel_lt (h.hand k hk).row.lt]; exact (h.lH k hk).1, by rw [relabel_lt (h.hand k hk).ring.lt]; exact (h.lH k hk).2⟩
    has := h.has.of_block (K.block Q.Mb h.has.lt (by have := h.lM; first | omega | exact id))
    lM := by rw [relabel_lt h.has.lt]; exact h.lM
    wrow := hf
    lW := by rw [relabel_lt h.wrow.lt]; exact h.lW
    far := fun k hk => by
      have h1 := h.far k hk
      have h2 := h.w1le
      exact ⟨h1.1, by rw [relabel_lt (by omega)]; exact h1.2.1, (K.block k (by omega) (by have := h1.2.1; first | omega | exact id)).trans h1.2.2⟩
    w1le := Nat.le_trans h.w1le K.size
    io := ⟨K.os.trans h.io.1, K.tape.trans h.io.2.1, K.output.trans h.io.2.2⟩ }
theorem Pg.setHas (h : Pg B G room hands ts g wk own Q w) (f : Nat → Int) (hf : HasAt w' Q.Mb hands f) (K : Kc own (fun c => c = 3) w w') : Pg B G room hands ts { g with task := f } wk (relabel own w.heap.size 3) Q w' := by
  exact {
    row := h.row.of_block (K.block G h.row.lt (by have := h.lG; first | omega | exact id))
    lG := by rw [relabel_lt h.row.lt]; exact h.lG
    jn := JnT.of_lists h.jn (K.block Q.J (Jn.row h.jn).lt (by have := h.lJ.1; first | omega | exact id)) (K.block Q.M (Jn.miss h.jn).lt (by have := h.lJ.2.1; first | omega | exact id)) (K.block Q.A (Jn.ltA h.jn) (by have := h.lJ.2.2.1; first | omega | exact id)) (K.block Q.D (Jn.done h.jn).lt (by have := h.lJ.2.2.2; first | omega | exact id)) (fun k v b hk hv hb hlt => K.block b hlt (by have := (h.lA k v b hk hv hb).2; first | omega | exact id))
    lJ := ⟨by rw [relabel_lt (Jn.row h.jn).lt]; exact h.lJ.1, by rw [relabel_lt (Jn.miss h.jn).lt]; exact h.lJ.2.1, by rw [relabel_lt (Jn.ltA h.jn)]; exact h.lJ.2.2.1, by rw [relabel_lt (Jn.done h.jn).lt]; exact h.lJ.2.2.2⟩
    lA := h.lA.kc K (K.block Q.A (Jn.ltA h.jn) (by have := h.lJ.2.2.1; first | omega | exact id))
    sp := h.sp.of_blocks (K.block Q.Sb h.sp.lt (by have := h.lS.1; first | omega | exact id)) (fun k e => K.block k (h.sp.row.low e).2 (by have := h.lS.2 k e; first | omega | exact id))
    lS := ⟨by rw [relabel_lt h.sp.lt]; exact h.lS.1, fun k e => by rw [relabel_lt (h.sp.row.low e).2]; exact h.lS.2 k e⟩
    pk := h.pk.of_blocks (K.block Q.Kb h.pk.lt (by have := h.lK.1; first | omega | exact id)) (fun k e => K.block k (h.pk.row.low e).2 (by have := h.lK.2 k e; first | omega | exact id))
    lK := ⟨by rw [relabel_lt h.pk.lt]; exact h.lK.1, fun k e => by rw [relabel_lt (h.pk.row.low e).2]; exact h.lK.2 k e⟩
    hrow := h.hrow.of_block (K.block Q.HB h.hrow.lt (by have := h.lHB; first | omega | exact id))
    lHB := by rw [relabel_lt h.hrow.lt]; exact h.lHB
    hand := fun k hk => (h.hand k hk).of_blocks (K.block _ (h.hand k hk).row.lt (by have := (h.lH k hk).1; first | omega | exact id)) (K.block _ (h.hand k hk).ring.lt (by have := (h.lH k hk).2; first | omega | exact id))
    lH := fun k hk => ⟨by rw [relabel_lt (h.hand k hk).row.lt]; exact (h.lH k hk).1, by rw [relabel_lt (h.hand k hk).ring.lt]; exact (h.lH k hk).2⟩
    has := hf
    lM := by rw [relabel_lt h.has.lt]; exact h.lM
    wrow := h.wrow.of_block (K.block Q.WB h.wrow.lt (by have := h.lW; first | omega | exact id))
    lW := by rw [relabel_lt h.wrow.lt]; exact h.lW
    far := fun k hk => by
      have h1 := h.far k hk
      have h2 := h.w1le
      exact ⟨h1.1, by rw [relabel_lt (by omega)]; exact h1.2.1, (K.block k (by omega) (by have := h1.2.1; first | omega | exact id)).trans h1.2.2⟩
    w1le := Nat.le_trans h.w1le K.size
    io := ⟨K.os.trans h.io.1, K.tape.trans h.io.2.1, K.output.trans h.io.2.2⟩ }
theorem Pg.setPark (h : Pg B G room hands ts g wk own Q w) (z : List Int) (v : Value) (hz : Prk.Pk Q.Kb hands z v w') (hl : Lb (relabel own w.heap.size 4) 4 v) (K : Kc own (fun c => c = 4) w w') : Pg B G room hands ts { g with zz := z } wk (relabel own w.heap.size 4) { Q with vz := v } w' := by
  exact {
    row := h.row.of_block (K.block G h.row.lt (by have := h.lG; first | omega | exact id))
    lG := by rw [relabel_lt h.row.lt]; exact h.lG
    jn := JnT.of_lists h.jn (K.block Q.J (Jn.row h.jn).lt (by have := h.lJ.1; first | omega | exact id)) (K.block Q.M (Jn.miss h.jn).lt (by have := h.lJ.2.1; first | omega | exact id)) (K.block Q.A (Jn.ltA h.jn) (by have := h.lJ.2.2.1; first | omega | exact id)) (K.block Q.D (Jn.done h.jn).lt (by have := h.lJ.2.2.2; first | omega | exact id)) (fun k v b hk hv hb hlt => K.block b hlt (by have := (h.lA k v b hk hv hb).2; first | omega | exact id))
    lJ := ⟨by rw [relabel_lt (Jn.row h.jn).lt]; exact h.lJ.1, by rw [relabel_lt (Jn.miss h.jn).lt]; exact h.lJ.2.1, by rw [relabel_lt (Jn.ltA h.jn)]; exact h.lJ.2.2.1, by rw [relabel_lt (Jn.done h.jn).lt]; exact h.lJ.2.2.2⟩
    lA := h.lA.kc K (K.block Q.A (Jn.ltA h.jn) (by have := h.lJ.2.2.1; first | omega | exact id))
    sp := h.sp.of_blocks (K.block Q.Sb h.sp.lt (by have := h.lS.1; first | omega | exact id)) (fun k e => K.block k (h.sp.row.low e).2 (by have := h.lS.2 k e; first | omega | exact id))
    lS := ⟨by rw [relabel_lt h.sp.lt]; exact h.lS.1, fun k e => by rw [relabel_lt (h.sp.row.low e).2]; exact h.lS.2 k e⟩
    pk := hz
    lK := ⟨by rw [relabel_lt h.pk.lt]; exact h.lK.1, hl⟩
    hrow := h.hrow.of_block (K.block Q.HB h.hrow.lt (by have := h.lHB; first | omega | exact id))
    lHB := by rw [relabel_lt h.hrow.lt]; exact h.lHB
    hand := fun k hk => (h.hand k hk).of_blocks (K.block _ (h.hand k hk).row.lt (by have := (h.lH k hk).1; first | omega | exact id)) (K.block _ (h.hand k hk).ring.lt (by have := (h.lH k hk).2; first | omega | exact id))
    lH := fun k hk => ⟨by rw [relabel_lt (h.hand k hk).row.lt]; exact (h.lH k hk).1, by rw [relabel_lt (h.hand k hk).ring.lt]; exact (h.lH k hk).2⟩
    has := h.has.of_block (K.block Q.Mb h.has.lt (by have := h.lM; first | omega | exact id))
    lM := by rw [relabel_lt h.has.lt]; exact h.lM
    wrow := h.wrow.of_block (K.block Q.WB h.wrow.lt (by have := h.lW; first | omega | exact id))
    lW := by rw [relabel_lt h.wrow.lt]; exact h.lW
    far := fun k hk => by
      have h1 := h.far k hk
      have h2 := h.w1le
      exact ⟨h1.1, by rw [relabel_lt (by omega)]; exact h1.2.1, (K.block k (by omega) (by have := h1.2.1; first | omega | exact id)).trans h1.2.2⟩
    w1le := Nat.le_trans h.w1le K.size
    io := ⟨K.os.trans h.io.1, K.tape.trans h.io.2.1, K.output.trans h.io.2.2⟩ }
theorem Pg.setSp (h : Pg B G room hands ts g wk own Q w) (z : List Int) (v : Value) (hz : Spl.Sp Q.Sb room z v w') (hl : Lb (relabel own w.heap.size 6) 6 v) (K : Kc own (fun c => c = 6) w w') : Pg B G room hands ts { g with sp := z } wk (relabel own w.heap.size 6) { Q with vs := v } w' := by
  exact {
    row := h.row.of_block (K.block G h.row.lt (by have := h.lG; first | omega | exact id))
    lG := by rw [relabel_lt h.row.lt]; exact h.lG
    jn := JnT.of_lists h.jn (K.block Q.J (Jn.row h.jn).lt (by have := h.lJ.1; first | omega | exact id)) (K.block Q.M (Jn.miss h.jn).lt (by have := h.lJ.2.1; first | omega | exact id)) (K.block Q.A (Jn.ltA h.jn) (by have := h.lJ.2.2.1; first | omega | exact id)) (K.block Q.D (Jn.done h.jn).lt (by have := h.lJ.2.2.2; first | omega | exact id)) (fun k v b hk hv hb hlt => K.block b hlt (by have := (h.lA k v b hk hv hb).2; first | omega | exact id))
    lJ := ⟨by rw [relabel_lt (Jn.row h.jn).lt]; exact h.lJ.1, by rw [relabel_lt (Jn.miss h.jn).lt]; exact h.lJ.2.1, by rw [relabel_lt (Jn.ltA h.jn)]; exact h.lJ.2.2.1, by rw [relabel_lt (Jn.done h.jn).lt]; exact h.lJ.2.2.2⟩
    lA := h.lA.kc K (K.block Q.A (Jn.ltA h.jn) (by have := h.lJ.2.2.1; first | omega | exact id))
    sp := hz
    lS := ⟨by rw [relabel_lt h.sp.lt]; exact h.lS.1, hl⟩
    pk := h.pk.of_blocks (K.block Q.Kb h.pk.lt (by have := h.lK.1; first | omega | exact id)) (fun k e => K.block k (h.pk.row.low e).2 (by have := h.lK.2 k e; first | omega | exact id))
    lK := ⟨by rw [relabel_lt h.pk.lt]; exact h.lK.1, fun k e => by rw [relabel_lt (h.pk.row.low e).2]; exact h.lK.2 k e⟩
    hrow := h.hrow.of_block (K.block Q.HB h.hrow.lt (by have := h.lHB; first | omega | exact id))
    lHB := by rw [relabel_lt h.hrow.lt]; exact h.lHB
    hand := fun k hk => (h.hand k hk).of_blocks (K.block _ (h.hand k hk).row.lt (by have := (h.lH k hk).1; first | omega | exact id)) (K.block _ (h.hand k hk).ring.lt (by have := (h.lH k hk).2; first | omega | exact id))
    lH := fun k hk => ⟨by rw [relabel_lt (h.hand k hk).row.lt]; exact (h.lH k hk).1, by rw [relabel_lt (h.hand k hk).ring.lt]; exact (h.lH k hk).2⟩
    has := h.has.of_block (K.block Q.Mb h.has.lt (by have := h.lM; first | omega | exact id))
    lM := by rw [relabel_lt h.has.lt]; exact h.lM
    wrow := h.wrow.of_block (K.block Q.WB h.wrow.lt (by have := h.lW; first | omega | exact id))
    lW := by rw [relabel_lt h.wrow.lt]; exact h.lW
    far := fun k hk => by
      have h1 := h.far k hk
      have h2 := h.w1le
      exact ⟨h1.1, by rw [relabel_lt (by omega)]; exact h1.2.1, (K.block k (by omega) (by have := h1.2.1; first | omega | exact id)).trans h1.2.2⟩
    w1le := Nat.le_trans h.w1le K.size
    io := ⟨K.os.trans h.io.1, K.tape.trans h.io.2.1, K.output.trans h.io.2.2⟩ }
theorem Pg.setJoin (h : Pg B G room hands ts g wk own Q w) (S : Nat → Bool) (hj : JnT Q.J Q.M Q.A Q.D Q.C ts S w') (hs : SubA Q.A w w') (K : Kc own (fun c => c = 7) w w') : Pg B G room hands ts { g with S := S } wk (relabel own w.heap.size 7) Q w' := by
  exact {
    row := h.row.of_block (K.block G h.row.lt (by have := h.lG; first | omega | exact id))
    lG := by rw [relabel_lt h.row.lt]; exact h.lG
    jn := hj
    lJ := ⟨by rw [relabel_lt (Jn.row h.jn).lt]; exact h.lJ.1, by rw [relabel_lt (Jn.miss h.jn).lt]; exact h.lJ.2.1, by rw [relabel_lt (Jn.ltA h.jn)]; exact h.lJ.2.2.1, by rw [relabel_lt (Jn.done h.jn).lt]; exact h.lJ.2.2.2⟩
    lA := h.lA.sub K hs
    sp := h.sp.of_blocks (K.block Q.Sb h.sp.lt (by have := h.lS.1; first | omega | exact id)) (fun k e => K.block k (h.sp.row.low e).2 (by have := h.lS.2 k e; first | omega | exact id))
    lS := ⟨by rw [relabel_lt h.sp.lt]; exact h.lS.1, fun k e => by rw [relabel_lt (h.sp.row.low e).2]; exact h.lS.2 k e⟩
    pk := h.pk.of_blocks (K.block Q.Kb h.pk.lt (by have := h.lK.1; first | omega | exact id)) (fun k e => K.block k (h.pk.row.low e).2 (by have := h.lK.2 k e; first | omega | exact id))
    lK := ⟨by rw [relabel_lt h.pk.lt]; exact h.lK.1, fun k e => by rw [relabel_lt (h.pk.row.low e).2]; exact h.lK.2 k e⟩
    hrow := h.hrow.of_block (K.block Q.HB h.hrow.lt (by have := h.lHB; first | omega | exact id))
    lHB := by rw [relabel_lt h.hrow.lt]; exact h.lHB
    hand := fun k hk => (h.hand k hk).of_blocks (K.block _ (h.hand k hk).row.lt (by have := (h.lH k hk).1; first | omega | exact id)) (K.block _ (h.hand k hk).ring.lt (by have := (h.lH k hk).2; first | omega | exact id))
    lH := fun k hk => ⟨by rw [relabel_lt (h.hand k hk).row.lt]; exact (h.lH k hk).1, by rw [relabel_lt (h.hand k hk).ring.lt]; exact (h.lH k hk).2⟩
    has := h.has.of_block (K.block Q.Mb h.has.lt (by have := h.lM; first | omega | exact id))
    lM := by rw [relabel_lt h.has.lt]; exact h.lM
    wrow := h.wrow.of_block (K.block Q.WB h.wrow.lt (by have := h.lW; first | omega | exact id))
    lW := by rw [relabel_lt h.wrow.lt]; exact h.lW
    far := fun k hk => by
      have h1 := h.far k hk
      have h2 := h.w1le
      exact ⟨h1.1, by rw [relabel_lt (by omega)]; exact h1.2.1, (K.block k (by omega) (by have := h1.2.1; first | omega | exact id)).trans h1.2.2⟩
    w1le := Nat.le_trans h.w1le K.size
    io := ⟨K.os.trans h.io.1, K.tape.trans h.io.2.1, K.output.trans h.io.2.2⟩ }
theorem Pg.setHand (h : Pg B G room hands ts g wk own Q w) (j : Nat) (nr : Int) (xs : List Int) (hm : Hnd.Hd (Q.Hk j) (Q.Rk j) room nr xs w') (K : Kc own (fun c => c = 10 + j) w w') : Pg B G room hands ts { g with near := updG g.near j nr, ring := updG g.ring j xs } wk (relabel own w.heap.size (10 + j)) Q w' := by
  exact {
    row := h.row.of_block (K.block G h.row.lt (by have := h.lG; first | omega | exact id))
    lG := by rw [relabel_lt h.row.lt]; exact h.lG
    jn := JnT.of_lists h.jn (K.block Q.J (Jn.row h.jn).lt (by have := h.lJ.1; first | omega | exact id)) (K.block Q.M (Jn.miss h.jn).lt (by have := h.lJ.2.1; first | omega | exact id)) (K.block Q.A (Jn.ltA h.jn) (by have := h.lJ.2.2.1; first | omega | exact id)) (K.block Q.D (Jn.done h.jn).lt (by have := h.lJ.2.2.2; first | omega | exact id)) (fun k v b hk hv hb hlt => K.block b hlt (by have := (h.lA k v b hk hv hb).2; first | omega | exact id))
    lJ := ⟨by rw [relabel_lt (Jn.row h.jn).lt]; exact h.lJ.1, by rw [relabel_lt (Jn.miss h.jn).lt]; exact h.lJ.2.1, by rw [relabel_lt (Jn.ltA h.jn)]; exact h.lJ.2.2.1, by rw [relabel_lt (Jn.done h.jn).lt]; exact h.lJ.2.2.2⟩
    lA := h.lA.kc K (K.block Q.A (Jn.ltA h.jn) (by have := h.lJ.2.2.1; first | omega | exact id))
    sp := h.sp.of_blocks (K.block Q.Sb h.sp.lt (by have := h.lS.1; first | omega | exact id)) (fun k e => K.block k (h.sp.row.low e).2 (by have := h.lS.2 k e; first | omega | exact id))
    lS := ⟨by rw [relabel_lt h.sp.lt]; exact h.lS.1, fun k e => by rw [relabel_lt (h.sp.row.low e).2]; exact h.lS.2 k e⟩
    pk := h.pk.of_blocks (K.block Q.Kb h.pk.lt (by have := h.lK.1; first | omega | exact id)) (fun k e => K.block k (h.pk.row.low e).2 (by have := h.lK.2 k e; first | omega | exact id))
    lK := ⟨by rw [relabel_lt h.pk.lt]; exact h.lK.1, fun k e => by rw [relabel_lt (h.pk.row.low e).2]; exact h.lK.2 k e⟩
    hrow := h.hrow.of_block (K.block Q.HB h.hrow.lt (by have := h.lHB; first | omega | exact id))
    lHB := by rw [relabel_lt h.hrow.lt]; exact h.lHB
    hand := fun k hk => by
      by_cases e : k = j
      · subst e; simp only [updG_self]; exact hm
      · simp only [updG_ne _ _ e]; exact (h.hand k hk).of_blocks (K.block _ (h.hand k hk).row.lt (by rw [(h.lH k hk).1]; omega)) (K.block _ (h.hand k hk).ring.lt (by rw [(h.lH k hk).2]; omega))
    lH := fun k hk => ⟨by rw [relabel_lt (h.hand k hk).row.lt]; exact (h.lH k hk).1, by rw [relabel_lt (h.hand k hk).ring.lt]; exact (h.lH k hk).2⟩
    has := h.has.of_block (K.block Q.Mb h.has.lt (by have := h.lM; first | omega | exact id))
    lM := by rw [relabel_lt h.has.lt]; exact h.lM
    wrow := h.wrow.of_block (K.block Q.WB h.wrow.lt (by have := h.lW; first | omega | exact id))
    lW := by rw [relabel_lt h.wrow.lt]; exact h.lW
    far := fun k hk => by
      have h1 := h.far k hk
      have h2 := h.w1le
      exact ⟨h1.1, by rw [relabel_lt (by omega)]; exact h1.2.1, (K.block k (by omega) (by have := h1.2.1; first | omega | exact id)).trans h1.2.2⟩
    w1le := Nat.le_trans h.w1le K.size
    io := ⟨K.os.trans h.io.1, K.tape.trans h.io.2.1, K.output.trans h.io.2.2⟩ }
theorem Pg.away (h : Pg B G room hands ts g wk own Q w)  (K : Kc own (fun c => c = 9) w w') : Pg ⟨fun _ => False, w'⟩ G room hands ts g wk (relabel own w.heap.size 9) Q w' := by
  exact {
    row := h.row.of_block (K.block G h.row.lt (by have := h.lG; first | omega | exact id))
    lG := by rw [relabel_lt h.row.lt]; exact h.lG
    jn := JnT.of_lists h.jn (K.block Q.J (Jn.row h.jn).lt (by have := h.lJ.1; first | omega | exact id)) (K.block Q.M (Jn.miss h.jn).lt (by have := h.lJ.2.1; first | omega | exact id)) (K.block Q.A (Jn.ltA h.jn) (by have := h.lJ.2.2.1; first | omega | exact id)) (K.block Q.D (Jn.done h.jn).lt (by have := h.lJ.2.2.2; first | omega | exact id)) (fun k v b hk hv hb hlt => K.block b hlt (by have := (h.lA k v b hk hv hb).2; first | omega | exact id))
    lJ := ⟨by rw [relabel_lt (Jn.row h.jn).lt]; exact h.lJ.1, by rw [relabel_lt (Jn.miss h.jn).lt]; exact h.lJ.2.1, by rw [relabel_lt (Jn.ltA h.jn)]; exact h.lJ.2.2.1, by rw [relabel_lt (Jn.done h.jn).lt]; exact h.lJ.2.2.2⟩
    lA := h.lA.kc K (K.block Q.A (Jn.ltA h.jn) (by have := h.lJ.2.2.1; first | omega | exact id))
    sp := h.sp.of_blocks (K.block Q.Sb h.sp.lt (by have := h.lS.1; first | omega | exact id)) (fun k e => K.block k (h.sp.row.low e).2 (by have := h.lS.2 k e; first | omega | exact id))
    lS := ⟨by rw [relabel_lt h.sp.lt]; exact h.lS.1, fun k e => by rw [relabel_lt (h.sp.row.low e).2]; exact h.lS.2 k e⟩
    pk := h.pk.of_blocks (K.block Q.Kb h.pk.lt (by have := h.lK.1; first | omega | exact id)) (fun k e => K.block k (h.pk.row.low e).2 (by have := h.lK.2 k e; first | omega | exact id))
    lK := ⟨by rw [relabel_lt h.pk.lt]; exact h.lK.1, fun k e => by rw [relabel_lt (h.pk.row.low e).2]; exact h.lK.2 k e⟩
    hrow := h.hrow.of_block (K.block Q.HB h.hrow.lt (by have := h.lHB; first | omega | exact id))
    lHB := by rw [relabel_lt h.hrow.lt]; exact h.lHB
    hand := fun k hk => (h.hand k hk).of_blocks (K.block _ (h.hand k hk).row.lt (by have := (h.lH k hk).1; first | omega | exact id)) (K.block _ (h.hand k hk).ring.lt (by have := (h.lH k hk).2; first | omega | exact id))
    lH := fun k hk => ⟨by rw [relabel_lt (h.hand k hk).row.lt]; exact (h.lH k hk).1, by rw [relabel_lt (h.hand k hk).ring.lt]; exact (h.lH k hk).2⟩
    has := h.has.of_block (K.block Q.Mb h.has.lt (by have := h.lM; first | omega | exact id))
    lM := by rw [relabel_lt h.has.lt]; exact h.lM
    wrow := h.wrow.of_block (K.block Q.WB h.wrow.lt (by have := h.lW; first | omega | exact id))
    lW := by rw [relabel_lt h.wrow.lt]; exact h.lW
    far := fun _ hk => hk.elim
    w1le := Nat.le_refl _
    io := ⟨rfl, rfl, rfl⟩ }
/-- From here on. -/
theorem Pg.rebase (h : Pg B G room hands ts g wk own Q w) : Pg ⟨fun k => k < w.heap.size ∧ own k = 9, w⟩ G room hands ts g wk own Q w :=
  { h with far := fun _ hk => ⟨hk.1, hk.2, rfl⟩, w1le := Nat.le_refl _, io := ⟨rfl, rfl, rfl⟩ }
/-- What the program's gang's calls may change of what was there, and how labels are told on. -/
structure Went (own own' : Nat → Nat) (w w' : World) : Prop where
  os : w'.os = w.os
  tape : w'.tape = w.tape
  output : w'.output = w.output
  size : w.heap.size ≤ w'.heap.size
  block : ∀ k, k < w.heap.size → own k = 9 → w'.heap[k]? = w.heap[k]? ∧ own' k = 9
theorem Pg.went {own' : Nat → Nat} (h : Pg ⟨fun k => k < w.heap.size ∧ own k = 9, w⟩ G room hands ts g wk own' Q w') : Went own own' w w' :=
  ⟨h.io.1, h.io.2.1, h.io.2.2, h.w1le, fun k hk ho => ⟨(h.far k ⟨hk, ho⟩).2.2, (h.far k ⟨hk, ho⟩).2.1⟩⟩
theorem Pg.c (h : Pg B G room hands ts g wk own Q w) : w.cell? ⟨G, 0, none⟩ = some (.pointer (some ⟨Q.J, 0, none⟩)) ∧ w.cell? ⟨G, 1, none⟩ = some (.pointer (some ⟨Q.Sb, 0, none⟩)) ∧ w.cell? ⟨G, 2, none⟩ = some (.pointer (some ⟨Q.Kb, 0, none⟩)) ∧ w.cell? ⟨G, 3, none⟩ = some (.slice (some ⟨Q.HB, 0, none⟩) hands hands) ∧ w.cell? ⟨G, 4, none⟩ = some (.map (some Q.Mb)) ∧ w.cell? ⟨G, 5, none⟩ = some (.slice (some ⟨Q.WB, 0, none⟩) ts.length ts.length) := by
  refine ⟨?_, ?_, ?_, ?_, ?_, ?_⟩
  · have := h.row.cell (i := 0) (by omega)
    simpa [gangRow] using this
  · have := h.row.cell (i := 1) (by omega)
    simpa [gangRow] using this
  · have := h.row.cell (i := 2) (by omega)
    simpa [gangRow] using this
  · have := h.row.cell (i := 3) (by omega)
    simpa [gangRow] using this
  · have := h.row.cell (i := 4) (by omega)
    simpa [gangRow] using this
  · have := h.row.cell (i := 5) (by omega)
    simpa [gangRow] using this
theorem Pg.hc (h : Pg B G room hands ts g wk own Q w) {k : Nat} (hk : k < hands) : w.cell? ⟨Q.HB, k, none⟩ = some (.pointer (some ⟨Q.Hk k, 0, none⟩)) := h.hrow.cell hk
/-- What its parts' calls keep. -/
theorem Pg.kh (h : Pg B G room hands ts g wk own Q w) {j : Nat} (hj : j < hands) (hk : Hnd.Kh (Q.Hk j) (Q.Rk j) w w') : Kc own (fun c => c = 10 + j) w w' :=
  ⟨hk.os, hk.tape, hk.output, hk.size, fun k hlt hne => hk.block k hlt (fun e => hne (by rw [e]; exact (h.lH j hj).1)) (fun e => hne (by rw [e]; exact (h.lH j hj).2))⟩
theorem Pg.ks (h : Pg B G room hands ts g wk own Q w) (hk : Spl.Ks Q.Sb Q.vs.ownBlock w w') : Kc own (fun c => c = 6) w w' :=
  ⟨hk.os, hk.tape, hk.output, hk.size, fun k hlt hne => hk.block k hlt (fun e => hne (by rw [e]; exact h.lS.1)) (fun e => hne (h.lS.2 k e))⟩
theorem Pg.kp (h : Pg B G room hands ts g wk own Q w) (hk : Prk.Ks Q.Kb Q.vz.ownBlock w w') : Kc own (fun c => c = 4) w w' :=
  ⟨hk.os, hk.tape, hk.output, hk.size, fun k hlt hne => hk.block k hlt (fun e => hne (by rw [e]; exact h.lK.1)) (fun e => hne (h.lK.2 k e))⟩
theorem Pg.kj (h : Pg B G room hands ts g wk own Q w) (hk : Kx (fun k => k = Q.M ∨ k = Q.A ∨ k = Q.D) w w') : Kc own (fun c => c = 7) w w' :=
  ⟨hk.os, hk.tape, hk.output, hk.size, fun k hlt hne => hk.block k hlt (by
    rintro (e | e | e) <;> subst e
    · exact hne h.lJ.2.1
    · exact hne h.lJ.2.2.1
    · exact hne h.lJ.2.2.2)⟩
theorem Pg.nearS (h : Pg B G room hands ts g wk own Q w) {v : Value} (hn : Spl.Near w.heap.size Q.vs v) : Lb (relabel own w.heap.size 6) 6 v := Lb.near h.lS.2 (fun _ e => (h.sp.row.low e).2) hn
theorem Pg.nearZ (h : Pg B G room hands ts g wk own Q w) {v : Value} (hn : Prk.Near w.heap.size Q.vz v) : Lb (relabel own w.heap.size 4) 4 v := Lb.near h.lK.2 (fun _ e => (h.pk.row.low e).2) hn
end Go.Proofs.YtandhiiaflhenaaGreatDoor

namespace Go.Proofs.YtandhiiaflhenaaGreatDoor
open Go.RowKit Go.Deep Go.Maps

theorem unseen_congr {S T : Nat → Bool} {n : Nat} (h : ∀ k, k < n → S k = T k) : unseen S n = unseen T n := by
  induction n with
  | zero => rfl
  | succ n ih =>
    unfold unseen
    rw [ih (fun k hk => h k (by omega)), h n (by omega)]
theorem HasAt.le {w : World} {B hands : Nat} {task : Nat → Int} (h : HasAt w B hands task) : ∃ n D, w.ownsMap Tryz.prog 3 (plainElem (H := Unit) Tryz.prog 3) B n D ∧ n ≤ hands ∧ Maps.size D = unseen (fun h => decide (task h < 0)) hands ∧ ∀ x : Nat, x < hands → Maps.has D (.int .i64 x) = decide (0 ≤ task x) ∧ (0 ≤ task x → ∀ z, D.atKey (.int .i64 x) z = .lit (.int .i64 (task x))) := by
  obtain ⟨n, D, h1, h2, h3⟩ := h
  exact ⟨_, D, ownsMap_exact h1, by rw [h2]; exact unseen_le _ _, h2, h3⟩
/-- One has a task. -/
theorem HasAt.put {w w' : World} {B hands n m : Nat} {task : Nat → Int} {D : DataW Unit} {h : Nat} {i : Nat} (hown : w.ownsMap Tryz.prog 3 (plainElem (H := Unit) Tryz.prog 3) B n D) (hs : Maps.size D = unseen (fun h => decide (task h < 0)) hands) (hD : ∀ x : Nat, x < hands → Maps.has D (.int .i64 x) = decide (0 ≤ task x) ∧ (0 ≤ task x → ∀ z, D.atKey (.int .i64 x) z = .lit (.int .i64 (task x))))
    (hh : h < hands) (ht : task h < 0) (hown1 : w'.ownsMap Tryz.prog 3 (plainElem (H := Unit) Tryz.prog 3) B m (D.put (.int .i64 h) (.lit (.int .i64 i)))) : HasAt w' B hands (updG task h (i : Int)) := by
  refine ⟨m, _, hown1, ?_, fun x hx => ?_⟩
  · have hno : Maps.has D (.int .i64 h) = false := by rw [(hD h hh).1]; simp; omega
    rw [Maps.size_put (hown.tidy keyed3), hno, hs]
    have h1 := unseen_mark (fun k => decide (updG task h (i : Int) k < 0)) hands h hh (by simp [updG_self])
    have h2 : unseen (mark (fun k => decide (updG task h (i : Int) k < 0)) h) hands = unseen (fun k => decide (task k < 0)) hands := unseen_congr (fun k _ => by
      by_cases e : k = h
      · subst e; simp [mark, ht]
      · simp [mark, e, updG_ne task _ e])
    simp only [Bool.false_eq_true, if_false]
    omega
  · by_cases e : x = h
    · subst e
      rw [Maps.has_put_same hown.isMap (by trivial), updG_self]
      exact ⟨by simp, fun _ z => Maps.atKey_put_same hown.isMap (by trivial) _ z⟩
    · rw [Maps.has_put_other (by intro h; injection h with _ h; omega), updG_ne task _ e]
      refine ⟨(hD x hx).1, fun h0 z => ?_⟩
      rw [Maps.atKey_put_other (by intro h; injection h with _ h; omega)]
      exact (hD x hx).2 h0 z
/-- One has none. -/
theorem HasAt.del {w w' : World} {B hands n m : Nat} {task : Nat → Int} {D : DataW Unit} {h : Nat} (hown : w.ownsMap Tryz.prog 3 (plainElem (H := Unit) Tryz.prog 3) B n D) (hs : Maps.size D = unseen (fun h => decide (task h < 0)) hands) (hD : ∀ x : Nat, x < hands → Maps.has D (.int .i64 x) = decide (0 ≤ task x) ∧ (0 ≤ task x → ∀ z, D.atKey (.int .i64 x) z = .lit (.int .i64 (task x))))
    (hh : h < hands) (ht : 0 ≤ task h) (hown1 : w'.ownsMap Tryz.prog 3 (plainElem (H := Unit) Tryz.prog 3) B m (D.del (.int .i64 h))) : HasAt w' B hands (updG task h (-1)) := by
  refine ⟨m, _, hown1, ?_, fun x hx => ?_⟩
  · have hno : Maps.has D (.int .i64 h) = true := by rw [(hD h hh).1]; simp [ht]
    have h0 := Maps.size_del (k := .int .i64 h) (hown.tidy keyed3)
    rw [hno, hs] at h0
    have h1 := unseen_mark (fun k => decide (task k < 0)) hands h hh (by simp; omega)
    have h2 : unseen (mark (fun k => decide (task k < 0)) h) hands = unseen (fun k => decide (updG task h (-1) k < 0)) hands := unseen_congr (fun k _ => by
      by_cases e : k = h
      · subst e; simp [mark, updG_self]
      · simp [mark, e, updG_ne task _ e])
    simp only [if_true] at h0
    omega
  · by_cases e : x = h
    · subst e
      rw [Maps.has_del_same, updG_self]
      exact ⟨by simp, fun h0 => by omega⟩
    · rw [Maps.has_del_other (by intro h; injection h with _ h; omega), updG_ne task _ e]
      refine ⟨(hD x hx).1, fun h0 z => ?_⟩
      rw [Maps.atKey_del_other (by intro h; injection h with _ h; omega)]
      exact (hD x hx).2 h0 z
variable {B : Bs} {G room hands : Nat} {ts : List (Int × List Int)} {g : Gs} {wk : Nat → Int} {own : Nat → Nat} {Q : Qp} {w w' : World}
/-- What a call keeps, and that labels stay. -/
structure Ok (own own' : Nat → Nat) (C : Nat → Prop) (w w' : World) : Prop where
  kc : Kc own C w w'
  lab : ∀ k, k < w.heap.size → own' k = own k
theorem Ok.re {own : Nat → Nat} {C : Nat → Prop} {w w' : World} (K : Kc own C w w') (c : Nat) : Ok own (relabel own w.heap.size c) C w w' := ⟨K, fun _ h => relabel_lt h⟩
theorem Ok.trans {own own1 own2 : Nat → Nat} {C : Nat → Prop} {w w1 w2 : World} (h : Ok own own1 C w w1) (k : Ok own1 own2 C w1 w2) : Ok own own2 C w w2 :=
  ⟨⟨k.kc.os.trans h.kc.os, k.kc.tape.trans h.kc.tape, k.kc.output.trans h.kc.output, Nat.le_trans h.kc.size k.kc.size, fun i hi hC => (k.kc.block i (Nat.lt_of_lt_of_le hi h.kc.size) (by rw [h.lab i hi]; exact hC)).trans (h.kc.block i hi hC)⟩,
   fun i hi => (k.lab i (Nat.lt_of_lt_of_le hi h.kc.size)).trans (h.lab i hi)⟩
theorem Ok.mono {own own' : Nat → Nat} {C C' : Nat → Prop} {w w' : World} (h : Ok own own' C w w') (hC : ∀ c, C c → C' c) : Ok own own' C' w w' :=
  ⟨⟨h.kc.os, h.kc.tape, h.kc.output, h.kc.size, fun i hi hn => h.kc.block i hi (fun e => hn (hC _ e))⟩, h.lab⟩
theorem Ok.drewN {own : Nat → Nat} {C : Nat → Prop} {w : World} (q : Nat) : Ok own (relabel own w.heap.size 9) C w (w.drewN q) := ⟨⟨rfl, rfl, rfl, Nat.le_refl _, fun _ _ _ => rfl⟩, fun _ h => relabel_lt h⟩
/-- A deed as a value. -/
def deedG (d : Deed) : Value := .agg #[.int .i64 d.1, .int .i64 d.2.1, .int .i64 d.2.2.1, .int .i64 d.2.2.2]
theorem blk_setCell_same (w : World) (g k : Nat) (cur : Array Value) (t : TypeId) (x : Value) (h : w.heap[g]? = some (.cells cur t (0, 0))) : (w.setCell ⟨g, k, none⟩ x).heap[g]? = some (.cells (cur.setIfInBounds k x) t (0, 0)) := by
  rw [setCell_eq_setRow w g k cur t (0, 0) x h, setRow_heap w g cur _ t _ h]
/-- A deed laid whole. -/
def setP (w : World) (b : Nat) (a1 a2 a3 a4 : Value) : World := (((w.setCell ⟨b, 0, none⟩ a1).setCell ⟨b, 1, none⟩ a2).setCell ⟨b, 2, none⟩ a3).setCell ⟨b, 3, none⟩ a4
theorem setP_block {w : World} {b : Nat} {t : TypeId} {o1 o2 o3 o4 : Value} (h : w.heap[b]? = some (.cells #[o1, o2, o3, o4] t (0, 0))) (a1 a2 a3 a4 : Value) : (setP w b a1 a2 a3 a4).heap[b]? = some (.cells #[a1, a2, a3, a4] t (0, 0)) := by
  have h1 := blk_setCell_same w b 0 _ t a1 h
  have h2 := blk_setCell_same _ b 1 _ t a2 h1
  have h3 := blk_setCell_same _ b 2 _ t a3 h2
  have h4 := blk_setCell_same _ b 3 _ t a4 h3
  simpa [setP] using h4
theorem Kc.setP {own : Nat → Nat} {C : Nat → Prop} {w : World} {b : Nat} (hb : C (own b)) (a1 a2 a3 a4 : Value) : Kc own C w (setP w b a1 a2 a3 a4) :=
  ⟨rfl, rfl, rfl, by simp [YtandhiiaflhenaaGreatDoor.setP], fun k _ hk => by
    have hne : k ≠ b := fun e => hk (by rw [e]; exact hb)
    unfold YtandhiiaflhenaaGreatDoor.setP
    rw [Below.heap_setCell _ _ _ _ (by exact hne), Below.heap_setCell _ _ _ _ (by exact hne), Below.heap_setCell _ _ _ _ (by exact hne), Below.heap_setCell _ _ _ _ (by exact hne)]⟩
/-- The block of a deed, read cell by cell. -/
theorem part_cells {w : World} {b : Nat} {t : TypeId} {a1 a2 a3 a4 : Value} (h : w.heap[b]? = some (.cells #[a1, a2, a3, a4] t (0, 0))) :
    w.cell? ⟨b, 0, none⟩ = some a1 ∧ w.cell? ⟨b, 1, none⟩ = some a2 ∧ w.cell? ⟨b, 2, none⟩ = some a3 ∧ w.cell? ⟨b, 3, none⟩ = some a4 ∧ ∀ j, w.frozen? ⟨b, j, none⟩ = false :=
  ⟨by simp [World.cell?, h], by simp [World.cell?, h], by simp [World.cell?, h], by simp [World.cell?, h], fun j => by simp [World.frozen?, h]⟩
/-- A function that returns a deed, which lies in a block of its own. -/
theorem part_ret {fn : Func} {Q : Ending → World → Prop} {a : Act} {w : World} {b s : Nat} {a1 a2 a3 a4 : Value} (hr : fn.results = #[ResultVar.cell s 43]) (h : w.heap[b]? = some (.cells #[a1, a2, a3, a4] 43 (0, 0))) (ht : a.tmps[s]? = some (.pointer (some ⟨b, 0, none⟩))) (hd : a.defers = []) (hq : Q (.returned (.agg #[a1, a2, a3, a4])) w) :
    bodyPost Tryz.prog fn Q Exit.ret a w := by
  obtain ⟨q0, q1, q2, q3, _⟩ := part_cells h
  refine bodyPost_ret (v := .agg #[a1, a2, a3, a4]) ?_ hd hq
  simp [results, hr, go_sem, ht, q0, q1, q2, q3]

set_option maxRecDepth 100000 in
set_option maxHeartbeats 2000000 in
theorem begin_any (hP : Pg B G room hands ts g wk own Q w) (a o : Int) (h i : Nat) (hh : h < hands) (h6 : hands ≤ 6) (hi : i < 1000) (ht : g.task h < 0) :
    Calls Tryz.prog 51 #[.pointer (some ⟨G, 0, none⟩), .agg #[.int .i64 a, .int .i64 h, .int .i64 i, .int .i64 o]] w fun e w' => e = .returned (.agg #[.int .i64 a, .int .i64 h, .int .i64 i, .int .i64 o]) ∧ ∃ own', Pg B G room hands ts { g with task := updG g.task h (i : Int) } wk own' Q w' ∧ Ok own own' (fun c => c = 3) w w' := by
  obtain ⟨W, hW⟩ : ∃ W, W = (w.alloc (.cells #[.int .i64 a, .int .i64 h, .int .i64 i, .int .i64 o] 43)).alloc (.cells #[.int .i64 0, .int .i64 0, .int .i64 0, .int .i64 0] 43) := ⟨_, rfl⟩
  have hbW : Below w.heap.size w W := by rw [hW]; exact ((Below.refl _ _).alloc (Nat.le_refl _) _).alloc (by simp) _
  have hPW := hP.later8 (Kc.of_below hbW)
  have c4 := hPW.c.2.2.2.2.1
  obtain ⟨n, D, hown, hn, hs, hD⟩ := hPW.has.le
  have hownD : W.drew.ownsMap Tryz.prog 3 (plainElem (H := Unit) Tryz.prog 3) Q.Mb n D := hown.drew
  have hkey := key_nat (y := h) (by omega)
  obtain ⟨w2, hmu, hown2, hgr2⟩ := hownD.update keyed3 Tryz.underlying70 (by unfold maxLen; omega) hkey (plainElem_int Tryz.underlying3 (wf_nat hi))
  have hh2 := HasAt.put hown hs hD hh ht hown2
  have hk2 : Kc (relabel own w.heap.size 8) (fun c => c = 3) W w2 := ⟨hgr2.os, hgr2.tape, hgr2.output, hgr2.size, fun k hk hC => hgr2.block k hk (fun e => hC (by rw [Option.some.inj e]; exact hPW.lM))⟩
  have HP2 : Hid (Pg B G room hands ts { g with task := updG g.task h (i : Int) } wk _ Q w2) := hPW.setHas _ hh2 hk2
  have hMb := hP.has.lt
  have hWs : w.heap.size + 2 = W.heap.size := by rw [hW]; simp
  have hx : ∀ j u, [Value.int .i64 a, .int .i64 h, .int .i64 i, .int .i64 o][j]? = some u → W.cell? ⟨w.heap.size, j, none⟩ = some u := fun j u hu => by
    have h1 := cell_four_new w w.heap.size rfl (.int .i64 a) (.int .i64 h) (.int .i64 i) (.int .i64 o) 43 j u hu
    rw [Addr.add_lit, Nat.zero_add] at h1
    rw [hW]
    exact (World.cell?_of_block (a := ⟨w.heap.size, j, none⟩) (Below.heap_alloc _ _ _ (by simp))).trans h1
  have hbk : w2.heap[w.heap.size]? = W.heap[w.heap.size]? := hgr2.block w.heap.size (by show w.heap.size < W.heap.size; rw [hW]; simp; omega) (fun e => by have := Option.some.inj e; omega)
  have d1 := hx 1 _ rfl
  have d2 := hx 2 _ rfl
  have e0 := (World.cell?_of_block (a := ⟨w.heap.size, 0, none⟩) hbk).trans (hx 0 _ rfl)
  have e1 := (World.cell?_of_block (a := ⟨w.heap.size, 1, none⟩) hbk).trans (hx 1 _ rfl)
  have e2 := (World.cell?_of_block (a := ⟨w.heap.size, 2, none⟩) hbk).trans (hx 2 _ rfl)
  have e3 := (World.cell?_of_block (a := ⟨w.heap.size, 3, none⟩) hbk).trans (hx 3 _ rfl)
  have hrs : w2.heap[w.heap.size + 1]? = some (.cells #[.int .i64 0, .int .i64 0, .int .i64 0, .int .i64 0] 43) := by
    refine (hgr2.block (w.heap.size + 1) (by show w.heap.size + 1 < W.heap.size; rw [hW]; simp) (fun e => by have := Option.some.inj e; omega)).trans ?_
    show W.heap[w.heap.size + 1]? = _
    rw [hW]
    have := heap_alloc_new (w.alloc (.cells #[.int .i64 a, .int .i64 h, .int .i64 i, .int .i64 o] 43)) (.cells #[.int .i64 0, .int .i64 0, .int .i64 0, .int .i64 0] 43)
    simpa using this
  have f0 : w2.cell? ⟨w.heap.size + 1, 0, none⟩ = some (.int .i64 0) := by simp [World.cell?, hrs]
  have f1 : w2.cell? ⟨w.heap.size + 1, 1, none⟩ = some (.int .i64 0) := by simp [World.cell?, hrs]
  have f2 : w2.cell? ⟨w.heap.size + 1, 2, none⟩ = some (.int .i64 0) := by simp [World.cell?, hrs]
  have f3 : w2.cell? ⟨w.heap.size + 1, 3, none⟩ = some (.int .i64 0) := by simp [World.cell?, hrs]
  have ff : ∀ j, w2.frozen? ⟨w.heap.size + 1, j, none⟩ = false := fun j => by simp [World.frozen?, hrs]
  have HOK : Hid (Ok own (relabel (relabel own w.heap.size 8) W.heap.size 3) (fun c => c = 3) w w2) := (Ok.re (Kc.of_below hbW) 8).trans (Ok.re hk2 3)
  have HW : Hid (W = (w.alloc (.cells #[.int .i64 a, .int .i64 h, .int .i64 i, .int .i64 o] 43)).alloc (.cells #[.int .i64 0, .int .i64 0, .int .i64 0, .int .i64 0] 43)) := hW
  clear hP hPW hown hD hs hownD hh2 hx hbk hW hown2 hgr2 hk2 hbW
  go_enter Tryz.func51, Tryz.ntmps51
  go_upto_region 1 with fail
  rw [← HW.out]
  clear HW
  have hl8 : relabel (relabel own w.heap.size 8) W.heap.size 3 (w.heap.size + 1) = 8 := by rw [relabel_lt (by rw [← hWs]; omega), relabel_ge (by omega)]
  go_region
  all_goals
    go_wp2
    refine part_ret Tryz.results51 (setP_block hrs _ _ _ _) rfl rfl ⟨rfl, _, HP2.out.later8 (Kc.setP (C := fun c => c = 8) hl8 _ _ _ _), ⟨⟨HOK.out.kc.os, HOK.out.kc.tape, HOK.out.kc.output, by simpa [YtandhiiaflhenaaGreatDoor.setP] using HOK.out.kc.size, fun k hk hC => (Kc.setP (own := fun b => b) (C := fun b => b = w.heap.size + 1) (w := w2) (b := w.heap.size + 1) rfl _ _ _ _).block k (Nat.lt_of_lt_of_le hk HOK.out.kc.size) (by show k ≠ w.heap.size + 1; omega) |>.trans (HOK.out.kc.block k hk hC)⟩, fun k hk => (relabel_lt (Nat.lt_of_lt_of_le hk HOK.out.kc.size)).trans (HOK.out.lab k hk)⟩⟩
end Go.Proofs.YtandhiiaflhenaaGreatDoor

namespace Go.Proofs.YtandhiiaflhenaaGreatDoor
open Go.RowKit Go.Deep

theorem Hnd.RowZ.rds {C : Nat} {w : World} {v : Value} {zs : List Int} (h : Hnd.RowZ C w v zs) : Rds (fun b => C ≤ b) w v zs := by
  obtain ⟨b, c, rfl, hcap, hb, hl, hc⟩ := h
  exact ⟨_, c, rfl, hcap, fun k hk => ⟨b, 0, rfl, hb, hl, by rw [Nat.zero_add]; exact hc k hk⟩⟩
theorem Hnd.OutZ.rds {C : Nat} {w : World} {v : Value} {zs : List Int} (h : Hnd.OutZ C w v zs) : Rds (fun b => C ≤ b) w v zs := by
  rcases h with ⟨rfl, rfl⟩ | h
  · exact ⟨none, 0, rfl, by simp, fun k hk => by simp at hk⟩
  · exact h.rds
/-- A list that bears a label stays. -/
theorem Rds.kc {own : Nat → Nat} {C : Nat → Prop} {c c' : Nat} {w w' : World} {v : Value} {xs : List Int} (h : Rds (fun b => own b = c) w v xs) (K : Kc own C w w') (hC : ¬ C c) : Rds (fun b => relabel own w.heap.size c' b = c) w' v xs := by
  obtain ⟨a, cc, hv, hl, h⟩ := h
  refine ⟨a, cc, hv, hl, fun k hk => ?_⟩
  obtain ⟨b, o, ha, hb, hw, hc⟩ := h k hk
  exact ⟨b, o, ha, (relabel_lt hw).trans hb, Nat.lt_of_lt_of_le hw K.size, (World.cell?_of_block (a := ⟨b, o + k, none⟩) (K.block b hw (by have h2 : own b = c := hb; rw [h2]; exact hC))).trans hc⟩
theorem int_snoc {l : List Int} {k : Nat} (hk : k < l.length) : l.take (k + 1) = l.take k ++ [l.getD k 0] := by
  rw [List.take_succ_eq_append_getElem hk, List.getD_eq_getElem?_getD, List.getElem?_eq_getElem hk]; rfl
theorem getD_mem_int {l : List Int} {k : Nat} (hk : k < l.length) : l.getD k 0 ∈ l := by
  rw [List.getD_eq_getElem?_getD, List.getElem?_eq_getElem hk]; exact List.getElem_mem hk
variable {B : Bs} {G room hands : Nat} {ts : List (Int × List Int)} {g : Gs} {wk : Nat → Int} {own : Nat → Nat} {Q : Qp} {w w' : World}
theorem Pg.drawn (h : Pg B G room hands ts g wk own Q w) (q : Nat) : Pg B G room hands ts g wk (relabel own w.heap.size 9) Q (w.drewN q) := h.later0 (Kc.of_below ⟨rfl, rfl, rfl, Nat.le_refl _, fun _ _ => rfl⟩)
/-- A hand of it is put one more. -/
theorem Pg.put (h : Pg B G room hands ts g wk own Q w) {j : Nat} (hj : j < hands) (n : Nat) :
    Calls Tryz.prog 88 #[.pointer (some ⟨Q.Hk j, 0, none⟩), .int .i64 n] w fun e w' => (∃ ov, e = .returned ov ∧ Rds (fun k => w.heap.size ≤ k) w' ov (putO room (g.near j) (g.ring j))) ∧ Pg B G room hands ts { g with near := updG g.near j (n : Int), ring := updG g.ring j (putR room (g.near j) (g.ring j)) } wk (relabel own w.heap.size (10 + j)) Q w' ∧ Kc own (fun c => c = 10 + j) w w' := by
  refine (Hnd.Put_any _ _ room _ _ n w (h.hand j hj)).mono ?_
  rintro e w' ⟨⟨v, rfl, hv⟩, hd, hk⟩
  exact ⟨⟨v, rfl, hv.rds⟩, h.setHand j (n : Int) _ hd (h.kh hj hk), h.kh hj hk⟩
theorem Pg.robbed (h : Pg B G room hands ts g wk own Q w) {j : Nat} (hj : j < hands) :
    Calls Tryz.prog 92 #[.pointer (some ⟨Q.Hk j, 0, none⟩)] w fun e w' => (∃ ov, e = .returned ov ∧ Rds (fun k => w.heap.size ≤ k) w' ov ((g.ring j).take (((g.ring j).length + 1) / 2))) ∧ Pg B G room hands ts { g with ring := updG g.ring j ((g.ring j).drop (((g.ring j).length + 1) / 2)) } wk (relabel own w.heap.size (10 + j)) Q w' ∧ Kc own (fun c => c = 10 + j) w w' := by
  refine (Hnd.Rob_any _ _ room _ _ w (h.hand j hj)).mono ?_
  rintro e w' ⟨⟨v, rfl, hv⟩, hd, hk⟩
  have := h.setHand j (g.near j) _ hd (h.kh hj hk)
  rw [upd_id g.near j] at this
  exact ⟨⟨v, rfl, hv.rds⟩, this, h.kh hj hk⟩
theorem rob_self (G h : Nat) (w : World) : Calls Tryz.prog 53 #[.pointer (some ⟨G, 0, none⟩), .int .i64 h, .int .i64 h] w fun e w' => e = .returned (.slice none 0 0) ∧ w' = w := by
  go_enter Tryz.func53, Tryz.ntmps53
  go_wp2
  go_ret
  exact ⟨rfl, rfl⟩
set_option maxRecDepth 100000 in
set_option maxHeartbeats 4000000 in
theorem rob_other (hP : Pg B G room hands ts g wk own Q w) (h o : Nat) (hh : h < hands) (ho : o < hands) (hne : o ≠ h) (_h6 : hands ≤ 6) (h16 : (g.ring o).length ≤ 16) (hpos : ∀ x, x ∈ g.ring o → 0 ≤ x) :
    Calls Tryz.prog 53 #[.pointer (some ⟨G, 0, none⟩), .int .i64 h, .int .i64 o] w fun e w' => ∃ v, e = .returned v ∧ ∃ own', Rds (fun b => own' b = 10 + o) w' v ((g.ring o).take (((g.ring o).length + 1) / 2)) ∧ Pg B G room hands ts (puts room { g with ring := updG g.ring o ((g.ring o).drop (((g.ring o).length + 1) / 2)) } h ((g.ring o).take (((g.ring o).length + 1) / 2)).tail) wk own' Q w' ∧ Ok own own' (fun c => c = 10 + h ∨ c = 10 + o) w w' := by
  have hrob := hP.robbed ho
  obtain ⟨-, -, -, c3, -, -⟩ := hP.c
  have co := hP.hc ho
  have hne2 : ((o : Int) == (h : Int)) = false := by simp; omega
  obtain ⟨l, hl⟩ : ∃ l, l = (g.ring o).take (((g.ring o).length + 1) / 2) := ⟨_, rfl⟩
  have hlp : ∀ x, x ∈ l → 0 ≤ x := fun x hx => hpos x (List.mem_of_mem_take (hl ▸ hx))
  have hl16 : l.length ≤ 16 := by rw [hl]; simp; omega
  obtain ⟨g1, hg1⟩ : ∃ g1 : Gs, g1 = { g with ring := updG g.ring o ((g.ring o).drop (((g.ring o).length + 1) / 2)) } := ⟨_, rfl⟩
  rw [← hl, ← hg1] at hrob ⊢
  have HLP : Hid (∀ x, x ∈ l → 0 ≤ x) := hlp
  have HNE : Hid (o ≠ h) := hne
  clear hP hl hg1 hpos h16 hlp hne
  have hhi : (h : Int) < (hands : Int) := by omega
  have hoi : (o : Int) < (hands : Int) := by omega
  go_enter Tryz.func53, Tryz.ntmps53
  go_wp2_with (first | (go_at_call 92; refine hrob.mono ?_; clear hrob; rintro e w1 ⟨⟨v, rfl, hv⟩, hP1, hk1⟩; obtain ⟨a, c, rfl⟩ := hv.shape))
  have HV : Hid (Rds (fun b => relabel own w.heap.size (10 + o) b = 10 + o) w1 (.slice a l.length c) l) := hv.mono (fun b hb => relabel_ge hb)
  have HP1 : Hid (Pg B G room hands ts (puts room g1 h ((l.drop 1).take 0)) wk (relabel own w.heap.size (10 + o)) Q w1) := by rw [List.take_zero, puts_nil]; exact hP1
  have HO1 : Hid (Ok own (relabel own w.heap.size (10 + o)) (fun c => c = 10 + h ∨ c = 10 + o) w w1) := (Ok.re hk1 _).mono (fun c e => Or.inr e)
  clear hv hP1 c3 co hk1
  go_loopw [8] (fun s8 wr => ∃ (k : Nat) (own' : Nat → Nat), s8 = .int .i64 (k + 1 : Nat) ∧ (k + 1 ≤ l.length ∨ k = 0) ∧ Hid (Rds (fun b => own' b = 10 + o) wr (.slice a l.length c) l) ∧ Hid (Pg B G room hands ts (puts room g1 h ((l.drop 1).take k)) wk own' Q wr) ∧ Hid (Ok own own' (fun c => c = 10 + h ∨ c = 10 + o) w wr)) (fun s8 _ => 20 - (intOf s8).toNat)
  case atStart => exact ⟨0, _, rfl, Or.inr rfl, HV, HP1, HO1⟩
  case round =>
    clear HV HP1 HO1
    obtain ⟨k, own', rfl, hk, hV, hPk, hO⟩ := hrel
    by_cases hkl : k + 1 < l.length
    · obtain ⟨b, ob, rfl, hbo, hbl, hcx⟩ : ∃ b ob, a = some ⟨b, ob, none⟩ ∧ own' b = 10 + o ∧ b < wr.heap.size ∧ wr.cell? ⟨b, ob + (k + 1), none⟩ = some (.int .i64 (l.getD (k + 1) 0)) := by
        obtain ⟨a', c', hv, hlc, hcl⟩ := hV.out
        simp only [Value.slice.injEq, true_and] at hv
        obtain ⟨rfl, rfl⟩ := hv
        exact hcl (k + 1) hkl
      obtain ⟨j, hj⟩ : ∃ j : Nat, l.getD (k + 1) 0 = (j : Int) := ⟨(l.getD (k + 1) 0).toNat, (Int.toNat_of_nonneg (HLP.out _ (getD_mem_int hkl))).symm⟩
      rw [hj] at hcx
      have HSN : Hid ((l.drop 1).take (k + 1) = (l.drop 1).take k ++ [((j : Nat) : Int)]) := by
        show _ = _
        rw [int_snoc (by simp; omega), ← hj]
        simp [List.getD_eq_getElem?_getD]
      have hput := (hPk.out.drawn 1).put hh j
      have d3 := hPk.out.c.2.2.2.1
      have dh := hPk.out.hc hh
      have hkl' : ((k + 1 : Nat) : Int) < (l.length : Int) := by omega
      have hlc : l.length ≤ c := by obtain ⟨a', c', hv, hlc, -⟩ := hV.out; simp only [Value.slice.injEq, true_and] at hv; obtain ⟨-, rfl⟩ := hv; exact hlc
      clear hj hk
      obtain ⟨k1, hk1⟩ : ∃ k1, k1 = k + 1 := ⟨_, rfl⟩
      have HK1 : Hid (k1 = k + 1) := hk1
      rw [← hk1] at hcx hkl hkl' HSN ⊢
      obtain ⟨gk, hgk⟩ : ∃ gk, gk = puts room g1 h ((l.drop 1).take k) := ⟨_, rfl⟩
      have HGK : Hid ({ gk with near := updG gk.near h (j : Int), ring := updG gk.ring h (putR room (gk.near h) (gk.ring h)) } = puts room g1 h ((l.drop 1).take k1)) := by
        show _ = _
        rw [HSN.out, puts_snoc, hgk]
      rw [← hgk] at hput
      have hl9 := hV.out.kc (c' := 9) (Kc.of_below (C := fun c => c = 10 + h) (own := own') (w := wr) (w' := wr.drewN 1) ⟨rfl, rfl, rfl, Nat.le_refl _, fun _ _ => rfl⟩) (by have := HNE.out; omega)
      have HV9 : Hid (Rds (fun b => relabel own' wr.heap.size 9 b = 10 + o) (wr.drewN 1) (.slice (some ⟨b, ob, none⟩) l.length c) l) := hl9
      clear hl9 hk1 hgk HSN hPk hV
      go_upto_region 7 with fail
      go_region_with (first | (go_at_call 88; refine hput.mono ?_; clear hput; rintro e w9 ⟨⟨ov, rfl, -⟩, hP9, hk9⟩; rw [HGK.out] at hP9; have HP9 : Hid (Pg B G room hands ts (puts room g1 h ((l.drop 1).take k1)) wk (relabel (relabel own' wr.heap.size 9) (wr.drewN 1).heap.size (10 + h)) Q w9) := hP9; have HR9 : Hid (Rds (fun b => relabel (relabel own' wr.heap.size 9) (wr.drewN 1).heap.size (10 + h) b = 10 + o) w9 (.slice (some ⟨b, ob, none⟩) l.length c) l) := HV9.out.kc hk9 (by have := HNE.out; omega); have HO9 : Hid (Ok own (relabel (relabel own' wr.heap.size 9) (wr.drewN 1).heap.size (10 + h)) (fun c => c = 10 + h ∨ c = 10 + o) w w9) := (hO.out.trans (Ok.drewN 1)).trans ((Ok.re hk9 _).mono (fun c e => Or.inl e)); clear hP9 hk9))
      all_goals
        go_wp2
        go_roundw
        case rel => exact ⟨k1, _, by have := HK1.out; go_num, Or.inl (by omega), HR9, HP9, HO9⟩
        case measure => simp [intOf]; omega
    · have hkl' : ¬ ((k + 1 : Nat) : Int) < (l.length : Int) := by omega
      have HE : Hid (Pg B G room hands ts (puts room g1 h l.tail) wk own' Q wr) := by
        have := hPk.out
        rw [List.take_of_length_le (by simp; omega), List.drop_one] at this
        exact this
      go_wp2
      go_ret
      exact ⟨_, rfl, own', hV.out, HE.out, hO.out⟩
end Go.Proofs.YtandhiiaflhenaaGreatDoor

namespace Go.Proofs.YtandhiiaflhenaaGreatDoor
open Go.RowKit Go.Deep

variable {B : Bs} {G room hands : Nat} {ts : List (Int × List Int)} {g : Gs} {wk : Nat → Int} {own : Nat → Nat} {Q : Qp} {w w' : World}
theorem Pg.takeNear (h : Pg B G room hands ts g wk own Q w) {j : Nat} (hj : j < hands) (hn : g.near j ≠ -1) :
    Calls Tryz.prog 50 #[.pointer (some ⟨Q.Hk j, 0, none⟩)] w fun e w' => e = .returned (.tuple #[.int .i64 (g.near j), .nilIface]) ∧ ∃ own', Pg B G room hands ts { g with near := updG g.near j (-1) } wk own' Q w' ∧ Ok own own' (fun c => c = 10 + j) w w' := by
  refine (Hnd.Take_near _ _ _ _ _ _ (h.hand j hj) hn).mono ?_
  rintro e w' ⟨rfl, hm, hk⟩
  have := h.setHand j (-1) (g.ring j) hm (h.kh hj hk)
  rw [upd_id g.ring j] at this
  exact ⟨rfl, _, this, Ok.re (h.kh hj hk) _⟩
theorem Pg.takeRing (h : Pg B G room hands ts g wk own Q w) {j : Nat} (hj : j < hands) (hn : g.near j = -1) (hr : g.ring j ≠ []) :
    Calls Tryz.prog 50 #[.pointer (some ⟨Q.Hk j, 0, none⟩)] w fun e w' => e = .returned (.tuple #[.int .i64 ((g.ring j).getLastD 0), .nilIface]) ∧ ∃ own', Pg B G room hands ts { g with ring := updG g.ring j (g.ring j).dropLast } wk own' Q w' ∧ Ok own own' (fun c => c = 10 + j) w w' := by
  have hm := h.hand j hj
  rw [hn, last_split hr] at hm
  refine (Hnd.Take_one _ _ _ _ _ _ hm).mono ?_
  rintro e w' ⟨rfl, hm', hk⟩
  have := h.setHand j (-1) (g.ring j).dropLast hm' (h.kh hj hk)
  have e : updG g.near j (-1) = g.near := by rw [← hn]; exact upd_id g.near j
  rw [e] at this
  exact ⟨rfl, _, this, Ok.re (h.kh hj hk) _⟩
theorem Pg.takeNone (h : Pg B G room hands ts g wk own Q w) {j : Nat} (hj : j < hands) (hn : g.near j = -1) (hr : g.ring j = []) :
    Calls Tryz.prog 50 #[.pointer (some ⟨Q.Hk j, 0, none⟩)] w fun e w' => e = .returned (.tuple #[.int .i64 0, .iface 80 (.int .i64 5)]) ∧ w' = w := by
  have hm := h.hand j hj
  rw [hn, hr] at hm
  exact Hnd.Take_none _ _ _ _ hm
theorem Pg.get1 (h : Pg B G room hands ts g wk own Q w) :
    Calls Tryz.prog 52 #[.pointer (some ⟨Q.Sb, 0, none⟩), .int .i64 1] w fun e w' => ∃ lv, e = .returned (.tuple #[lv, .nilIface]) ∧ RowI w.heap.size w' lv (g.sp.take 1) ∧ ∃ own' Q', Q'.Kb = Q.Kb ∧ Q'.HB = Q.HB ∧ Q'.Hk = Q.Hk ∧ Pg B G room hands ts { g with sp := g.sp.tail } wk own' Q' w' ∧ Ok own own' (fun c => c = 6) w w' := by
  refine (Spl.Get_good Q.Sb room 1 g.sp Q.vs w h.sp (by omega) (by omega)).mono ?_
  rintro e w' ⟨lv, v', rfl, hl, hs, hk, hn, -⟩
  rw [List.drop_one] at hs
  exact ⟨lv, rfl, hl, _, { Q with vs := v' }, rfl, rfl, rfl, h.setSp _ v' hs (h.nearS hn) (h.ks hk), Ok.re (h.ks hk) _⟩
theorem Pg.sleep (h : Pg B G room hands ts g wk own Q w) {j : Nat} (hj : j < hands) (hz : (j : Int) ∉ g.zz) :
    Calls Tryz.prog 54 #[.pointer (some ⟨Q.Kb, 0, none⟩), .int .i64 j] w fun e w' => e = .returned .nilIface ∧ ∃ own' Q', Pg B G room hands ts { g with zz := g.zz ++ [(j : Int)] } wk own' Q' w' ∧ Ok own own' (fun c => c = 4) w w' := by
  refine (Prk.Sleep_good Q.Kb hands g.zz Q.vz (j : Int) w h.pk (by omega) (by omega) hz).mono ?_
  rintro e w' ⟨rfl, v', hs, hk, hn⟩
  exact ⟨rfl, _, { Q with vz := v' }, h.setPark _ v' hs (h.nearZ hn) (h.kp hk), Ok.re (h.kp hk) _⟩
/-- Nothing is robbed. -/
theorem rob_none (hP : Pg B G room hands ts g wk own Q w) (h o : Nat) (hh : h < hands) (ho : o < hands) (h6 : hands ≤ 6) (hno : o = h ∨ g.ring o = []) :
    Calls Tryz.prog 53 #[.pointer (some ⟨G, 0, none⟩), .int .i64 h, .int .i64 o] w fun e w' => ∃ a c, e = .returned (.slice a 0 c) ∧ ∃ own', Pg B G room hands ts g wk own' Q w' ∧ Ok own own' (fun c => c = 10 + h ∨ c = 10 + o) w w' := by
  by_cases e : o = h
  · subst e
    refine (rob_self G o w).mono ?_
    rintro e w' ⟨rfl, rfl⟩
    exact ⟨_, _, rfl, own, hP, ⟨⟨rfl, rfl, rfl, Nat.le_refl _, fun _ _ _ => rfl⟩, fun _ _ => rfl⟩⟩
  · have hr : g.ring o = [] := hno.resolve_left e
    refine (rob_other hP h o hh ho e h6 (by rw [hr]; simp) (by rw [hr]; simp)).mono ?_
    rintro e w' ⟨v, rfl, own', hv, hP', hO⟩
    rw [hr] at hv hP'
    obtain ⟨a, c, rfl⟩ := hv.shape
    refine ⟨a, c, rfl, own', ?_, hO⟩
    have e2 : ({ g with ring := updG g.ring o [] } : Gs) = g := by
      rw [← hr, upd_id]
    simp only [List.take_nil, List.tail_nil, puts_nil, List.drop_nil] at hP'
    rw [e2] at hP'
    exact hP'

set_option maxRecDepth 100000 in
set_option maxHeartbeats 4000000 in
theorem find_took (hP : Pg B G room hands ts g wk own Q w) (h i : Nat) (o : Int) (hh : h < hands) (h6 : hands ≤ 6) (hi : i < 1000) (g1 : Gs) (ht : g1.task h < 0)
    (htk : ∀ own1 W, Pg B G room hands ts g wk own1 Q W → Calls Tryz.prog 50 #[.pointer (some ⟨Q.Hk h, 0, none⟩)] W fun e w' => e = .returned (.tuple #[.int .i64 i, .nilIface]) ∧ ∃ own', Pg B G room hands ts g1 wk own' Q w' ∧ Ok own1 own' (fun c => c = 10 + h) W w') :
    Calls Tryz.prog 30 #[.pointer (some ⟨G, 0, none⟩), .int .i64 h, .int .i64 o] w fun e w' => e = .returned (.agg #[.int .i64 1, .int .i64 h, .int .i64 i, .int .i64 0]) ∧ ∃ own' Q', Pg B G room hands ts { g1 with task := updG g1.task h (i : Int) } wk own' Q' w' := by
  obtain ⟨W, hW⟩ : ∃ W, W = w.alloc (.cells #[.int .i64 0, .int .i64 0, .int .i64 0, .int .i64 0] 43) := ⟨_, rfl⟩
  have hbW : Below w.heap.size w W := by rw [hW]; exact (Below.refl _ _).alloc (Nat.le_refl _) _
  have hPW := hP.later8 (Kc.of_below hbW)
  have hRW : W.heap[w.heap.size]? = some (.cells #[.int .i64 0, .int .i64 0, .int .i64 0, .int .i64 0] 43 (0, 0)) := by rw [hW]; exact heap_alloc_new w _
  have hRl : w.heap.size < W.heap.size := by rw [hW]; simp
  have htake := htk _ W hPW
  obtain ⟨-, -, -, c3, -, -⟩ := hPW.c
  have ch := hPW.hc hh
  have hhi : (h : Int) < (hands : Int) := by omega
  have HW : Hid (W = w.alloc (.cells #[.int .i64 0, .int .i64 0, .int .i64 0, .int .i64 0] 43)) := hW
  have HB : Hid (∀ w1 own2, Pg B G room hands ts g1 wk own2 Q w1 → Calls Tryz.prog 51 #[.pointer (some ⟨G, 0, none⟩), .agg #[.int .i64 1, .int .i64 h, .int .i64 i, .int .i64 0]] w1 fun e w' => e = .returned (.agg #[.int .i64 1, .int .i64 h, .int .i64 i, .int .i64 0]) ∧ ∃ own', Pg B G room hands ts { g1 with task := updG g1.task h (i : Int) } wk own' Q w' ∧ Ok own2 own' (fun c => c = 3) w1 w') := fun w1 own2 h1 => begin_any h1 1 0 h i hh h6 hi ht
  have HR : Hid (W.heap[w.heap.size]? = some (.cells #[.int .i64 0, .int .i64 0, .int .i64 0, .int .i64 0] 43 (0, 0)) ∧ relabel own w.heap.size 8 w.heap.size = 8) := ⟨hRW, relabel_ge (Nat.le_refl _)⟩
  clear hP hPW hbW hRW hW htk
  go_enter Tryz.func30, Tryz.ntmps30
  go_upto_region 1 with fail
  rw [← HW.out]
  clear HW
  go_wp2_with (first | (go_at_call 50; refine htake.mono ?_; clear htake; rintro e w1 ⟨rfl, own2, hP2, hO2⟩; have hb := HB.out w1 own2 hP2; have HO2 : Hid (Ok (relabel own w.heap.size 8) own2 (fun c => c = 10 + h) W w1) := hO2; clear hP2 hO2 HB) | (go_at_call 51; refine hb.mono ?_; clear hb; rintro e w3 ⟨rfl, own3, hP3, hO3⟩; have h8 : own2 w.heap.size = 8 := (HO2.out.lab _ hRl).trans HR.out.2; have hl3 : own3 w.heap.size = 8 := (hO3.lab _ (Nat.lt_of_lt_of_le hRl HO2.out.kc.size)).trans h8; have hR3 := ((hO3.kc.block w.heap.size (Nat.lt_of_lt_of_le hRl HO2.out.kc.size) (by rw [h8]; omega)).trans (HO2.out.kc.block _ hRl (by rw [HR.out.2]; omega))).trans HR.out.1; obtain ⟨f0, f1, f2, f3, ff⟩ := part_cells hR3; have HP3 : Hid (Pg B G room hands ts { g1 with task := updG g1.task h (i : Int) } wk own3 Q w3) := hP3; clear hP3 hO3 h8))
  refine part_ret Tryz.results30 (setP_block hR3 _ _ _ _) rfl rfl ⟨rfl, _, _, HP3.out.later8 (Kc.setP (C := fun c => c = 8) hl3 _ _ _ _)⟩

set_option maxRecDepth 100000 in
set_option maxHeartbeats 4000000 in
theorem find_fetched (hP : Pg B G room hands ts g wk own Q w) (h i : Nat) (o : Int) (hh : h < hands) (h6 : hands ≤ 6) (hi : i < 1000) (ht : g.task h < 0) (hn : g.near h = -1) (hr : g.ring h = []) (rest : List Int) (hsp : g.sp = (i : Int) :: rest) :
    Calls Tryz.prog 30 #[.pointer (some ⟨G, 0, none⟩), .int .i64 h, .int .i64 o] w fun e w' => e = .returned (.agg #[.int .i64 3, .int .i64 h, .int .i64 i, .int .i64 0]) ∧ ∃ own' Q', Pg B G room hands ts { g with sp := g.sp.tail, task := updG g.task h (i : Int) } wk own' Q' w' := by
  obtain ⟨W, hW⟩ : ∃ W, W = w.alloc (.cells #[.int .i64 0, .int .i64 0, .int .i64 0, .int .i64 0] 43) := ⟨_, rfl⟩
  have hbW : Below w.heap.size w W := by rw [hW]; exact (Below.refl _ _).alloc (Nat.le_refl _) _
  have hPW := hP.later8 (Kc.of_below hbW)
  have hRW : W.heap[w.heap.size]? = some (.cells #[.int .i64 0, .int .i64 0, .int .i64 0, .int .i64 0] 43 (0, 0)) := by rw [hW]; exact heap_alloc_new w _
  have hRl : w.heap.size < W.heap.size := by rw [hW]; simp
  have htake := hPW.takeNone hh hn hr
  have hget := hPW.get1
  obtain ⟨-, c1, -, c3, -, -⟩ := hPW.c
  have ch := hPW.hc hh
  have hhi : (h : Int) < (hands : Int) := by omega
  have HW : Hid (W = w.alloc (.cells #[.int .i64 0, .int .i64 0, .int .i64 0, .int .i64 0] 43)) := hW
  have HR : Hid (W.heap[w.heap.size]? = some (.cells #[.int .i64 0, .int .i64 0, .int .i64 0, .int .i64 0] 43 (0, 0)) ∧ relabel own w.heap.size 8 w.heap.size = 8) := ⟨hRW, relabel_ge (Nat.le_refl _)⟩
  have e1 : g.sp.take 1 = [(i : Int)] := by rw [hsp]; rfl
  rw [e1] at hget
  obtain ⟨g1, hg1⟩ : ∃ g1 : Gs, g1 = { g with sp := g.sp.tail } := ⟨_, rfl⟩
  rw [← hg1] at hget
  have HG1 : Hid ({ g1 with task := updG g1.task h (i : Int) } = { g with sp := g.sp.tail, task := updG g.task h (i : Int) }) := by rw [hg1]; exact rfl
  have HB : Hid (∀ w1 own2 Q2, Pg B G room hands ts g1 wk own2 Q2 w1 → Calls Tryz.prog 51 #[.pointer (some ⟨G, 0, none⟩), .agg #[.int .i64 3, .int .i64 h, .int .i64 i, .int .i64 0]] w1 fun e w' => e = .returned (.agg #[.int .i64 3, .int .i64 h, .int .i64 i, .int .i64 0]) ∧ ∃ own', Pg B G room hands ts { g1 with task := updG g1.task h (i : Int) } wk own' Q2 w' ∧ Ok own2 own' (fun c => c = 3) w1 w') := fun w1 own2 Q2 h1 => begin_any h1 3 0 h i hh h6 hi (by rw [hg1]; exact ht)
  rw [← HG1.out]
  clear hP hPW hbW hRW hW hg1 hsp hn hr ht e1 HG1
  go_enter Tryz.func30, Tryz.ntmps30
  go_upto_region 1 with fail
  rw [← HW.out]
  clear HW
  go_wp2_with (first | (go_at_call 50; refine htake.mono ?_; clear htake; rintro e W ⟨rfl, rfl⟩) | (go_at_call 52; refine hget.mono ?_; clear hget; rintro e w1 ⟨lv, rfl, hl, own2, Q2, -, -, -, hP2, hO2⟩; obtain ⟨lb, lc, rfl, -, hlb, hlc, -⟩ := hl.full (by simp); have hc0 := hl.cell (k := 0) (by simp); replace hc0 : w1.cell? ⟨lb, 0, none⟩ = some (.int .i64 (i : Int)) := hc0; have hb := HB.out w1 own2 Q2 hP2; have HO2 : Hid (Ok (relabel own w.heap.size 8) own2 (fun c => c = 6) W w1) := hO2; clear hP2 hO2 HB hl) | (go_at_call 51; refine hb.mono ?_; clear hb; rintro e w3 ⟨rfl, own3, hP3, hO3⟩; have h8 : own2 w.heap.size = 8 := (HO2.out.lab _ hRl).trans HR.out.2; have hl3 : own3 w.heap.size = 8 := (hO3.lab _ (Nat.lt_of_lt_of_le hRl HO2.out.kc.size)).trans h8; have hR3 := ((hO3.kc.block w.heap.size (Nat.lt_of_lt_of_le hRl HO2.out.kc.size) (by rw [h8]; omega)).trans (HO2.out.kc.block _ hRl (by rw [HR.out.2]; omega))).trans HR.out.1; obtain ⟨f0, f1, f2, f3, ff⟩ := part_cells hR3; have HP3 : Hid (Pg B G room hands ts { g1 with task := updG g1.task h (i : Int) } wk own3 Q2 w3) := hP3; clear hP3 hO3 h8))
  refine part_ret Tryz.results30 (setP_block hR3 _ _ _ _) rfl rfl ⟨rfl, _, _, HP3.out.later8 (Kc.setP (C := fun c => c = 8) hl3 _ _ _ _)⟩

set_option maxRecDepth 100000 in
set_option maxHeartbeats 4000000 in
theorem find_stole (hP : Pg B G room hands ts g wk own Q w) (h i o : Nat) (hh : h < hands) (ho : o < hands) (hne : o ≠ h) (h6 : hands ≤ 6) (hi : i < 1000) (ht : g.task h < 0) (hn : g.near h = -1) (hr : g.ring h = []) (hsp : g.sp = []) (h16 : (g.ring o).length ≤ 16) (hpos : ∀ x, x ∈ g.ring o → 0 ≤ x) (rest : List Int) (hro : (g.ring o).take (((g.ring o).length + 1) / 2) = (i : Int) :: rest) :
    Calls Tryz.prog 30 #[.pointer (some ⟨G, 0, none⟩), .int .i64 h, .int .i64 o] w fun e w' => e = .returned (.agg #[.int .i64 2, .int .i64 h, .int .i64 i, .int .i64 o]) ∧ ∃ own' Q', Pg B G room hands ts { puts room { g with ring := updG g.ring o ((g.ring o).drop (((g.ring o).length + 1) / 2)) } h rest with task := updG g.task h (i : Int) } wk own' Q' w' := by
  obtain ⟨W, hW⟩ : ∃ W, W = w.alloc (.cells #[.int .i64 0, .int .i64 0, .int .i64 0, .int .i64 0] 43) := ⟨_, rfl⟩
  have hbW : Below w.heap.size w W := by rw [hW]; exact (Below.refl _ _).alloc (Nat.le_refl _) _
  have hPW := hP.later8 (Kc.of_below hbW)
  have hRW : W.heap[w.heap.size]? = some (.cells #[.int .i64 0, .int .i64 0, .int .i64 0, .int .i64 0] 43 (0, 0)) := by rw [hW]; exact heap_alloc_new w _
  have hRl : w.heap.size < W.heap.size := by rw [hW]; simp
  have htake := hPW.takeNone hh hn hr
  have hget := hPW.get1
  obtain ⟨-, c1, -, c3, -, -⟩ := hPW.c
  have ch := hPW.hc hh
  have hhi : (h : Int) < (hands : Int) := by omega
  have HW : Hid (W = w.alloc (.cells #[.int .i64 0, .int .i64 0, .int .i64 0, .int .i64 0] 43)) := hW
  have HR : Hid (W.heap[w.heap.size]? = some (.cells #[.int .i64 0, .int .i64 0, .int .i64 0, .int .i64 0] 43 (0, 0)) ∧ relabel own w.heap.size 8 w.heap.size = 8) := ⟨hRW, relabel_ge (Nat.le_refl _)⟩
  have e1 : g.sp.take 1 = [] := by rw [hsp]; rfl
  have e2 : ({ g with sp := g.sp.tail } : Gs) = g := by rw [hsp]; show Gs.mk _ _ _ _ _ [] _ = _; rw [← hsp]
  rw [e1, e2] at hget
  have HRB : Hid (∀ w1 own2 Q2, Pg B G room hands ts g wk own2 Q2 w1 → Calls Tryz.prog 53 #[.pointer (some ⟨G, 0, none⟩), .int .i64 h, .int .i64 o] w1 fun e w' => ∃ v, e = .returned v ∧ ∃ own', Rds (fun b => own' b = 10 + o) w' v ((i : Int) :: rest) ∧ Pg B G room hands ts (puts room { g with ring := updG g.ring o ((g.ring o).drop (((g.ring o).length + 1) / 2)) } h rest) wk own' Q2 w' ∧ Ok own2 own' (fun c => c = 10 + h ∨ c = 10 + o) w1 w') := fun w1 own2 Q2 h1 => by
    have := rob_other h1 h o hh ho hne h6 h16 hpos
    rw [hro] at this
    exact this
  obtain ⟨g1, hg1⟩ : ∃ g1 : Gs, g1 = puts room { g with ring := updG g.ring o ((g.ring o).drop (((g.ring o).length + 1) / 2)) } h rest := ⟨_, rfl⟩
  have hg1t : g1.task = g.task := by rw [hg1]; rfl
  rw [← hg1] at HRB ⊢
  rw [← hg1t]
  have HB : Hid (∀ w1 own2 Q2, Pg B G room hands ts g1 wk own2 Q2 w1 → Calls Tryz.prog 51 #[.pointer (some ⟨G, 0, none⟩), .agg #[.int .i64 2, .int .i64 h, .int .i64 i, .int .i64 o]] w1 fun e w' => e = .returned (.agg #[.int .i64 2, .int .i64 h, .int .i64 i, .int .i64 o]) ∧ ∃ own', Pg B G room hands ts { g1 with task := updG g1.task h (i : Int) } wk own' Q2 w' ∧ Ok own2 own' (fun c => c = 3) w1 w') := fun w1 own2 Q2 h1 => begin_any h1 2 o h i hh h6 hi (by rw [hg1t]; exact ht)
  clear hP hPW hbW hRW hW hg1 hsp hn hr ht e1 e2 hg1t hro hpos h16
  go_enter Tryz.func30, Tryz.ntmps30
  go_upto_region 1 with fail
  rw [← HW.out]
  clear HW
  go_wp2_with (first | (go_at_call 50; refine htake.mono ?_; clear htake; rintro e W ⟨rfl, rfl⟩) | (go_at_call 52; refine hget.mono ?_; clear hget; rintro e w1 ⟨lv, rfl, hl, own2, Q2, -, -, -, hP2, hO2⟩; obtain ⟨la, lc, rfl⟩ := hl.shape; have hrob := HRB.out w1 own2 Q2 hP2; have HO2 : Hid (Ok (relabel own w.heap.size 8) own2 (fun c => c = 6) W w1) := hO2; clear hP2 hO2 HRB hl) | (go_at_call 53; refine hrob.mono ?_; clear hrob; rintro e w2 ⟨rv, rfl, own3, hl3, hP3, hO3⟩; obtain ⟨ra, rc, rfl, hrl, hrc⟩ := hl3; obtain ⟨rb, ro, rfl, -, hrb, hc0⟩ := hrc 0 (by simp); replace hc0 : w2.cell? ⟨rb, ro, none⟩ = some (.int .i64 (i : Int)) := hc0; have hb := HB.out w2 own3 Q2 hP3; have HO3 : Hid (Ok own2 own3 (fun c => c = 10 + h ∨ c = 10 + o) w1 w2) := hO3; clear hP3 hO3 HB hrc) | (go_at_call 51; refine hb.mono ?_; clear hb; rintro e w3 ⟨rfl, own4, hP4, hO4⟩; have s1 := Nat.lt_of_lt_of_le hRl HO2.out.kc.size; have s2 := Nat.lt_of_lt_of_le s1 HO3.out.kc.size; have h8 : own2 w.heap.size = 8 := (HO2.out.lab _ hRl).trans HR.out.2; have h83 : own3 w.heap.size = 8 := (HO3.out.lab _ s1).trans h8; have hl3 : own4 w.heap.size = 8 := (hO4.lab _ s2).trans h83; have hR3 := (((hO4.kc.block w.heap.size s2 (by rw [h83]; omega)).trans (HO3.out.kc.block _ s1 (by rw [h8]; omega))).trans (HO2.out.kc.block _ hRl (by rw [HR.out.2]; omega))).trans HR.out.1; obtain ⟨f0, f1, f2, f3, ff⟩ := part_cells hR3; have HP3 : Hid (Pg B G room hands ts { g1 with task := updG g1.task h (i : Int) } wk own4 Q2 w3) := hP4; clear hP4 hO4 h8 h83))
  refine part_ret Tryz.results30 (setP_block hR3 _ _ _ _) rfl rfl ⟨rfl, _, _, HP3.out.later8 (Kc.setP (C := fun c => c = 8) hl3 _ _ _ _)⟩

set_option maxRecDepth 100000 in
set_option maxHeartbeats 4000000 in
theorem find_slept (hP : Pg B G room hands ts g wk own Q w) (h o : Nat) (hh : h < hands) (ho : o < hands) (h6 : hands ≤ 6) (hn : g.near h = -1) (hr : g.ring h = []) (hsp : g.sp = []) (hz : (h : Int) ∉ g.zz) (hno : o = h ∨ g.ring o = []) :
    Calls Tryz.prog 30 #[.pointer (some ⟨G, 0, none⟩), .int .i64 h, .int .i64 o] w fun e w' => e = .returned (.agg #[.int .i64 5, .int .i64 h, .int .i64 0, .int .i64 0]) ∧ ∃ own' Q', Pg B G room hands ts { g with zz := g.zz ++ [(h : Int)] } wk own' Q' w' := by
  obtain ⟨W, hW⟩ : ∃ W, W = w.alloc (.cells #[.int .i64 0, .int .i64 0, .int .i64 0, .int .i64 0] 43) := ⟨_, rfl⟩
  have hbW : Below w.heap.size w W := by rw [hW]; exact (Below.refl _ _).alloc (Nat.le_refl _) _
  have hPW := hP.later8 (Kc.of_below hbW)
  have hRW : W.heap[w.heap.size]? = some (.cells #[.int .i64 0, .int .i64 0, .int .i64 0, .int .i64 0] 43 (0, 0)) := by rw [hW]; exact heap_alloc_new w _
  have hRl : w.heap.size < W.heap.size := by rw [hW]; simp
  have htake := hPW.takeNone hh hn hr
  have hget := hPW.get1
  obtain ⟨-, c1, -, c3, -, -⟩ := hPW.c
  have ch := hPW.hc hh
  have hhi : (h : Int) < (hands : Int) := by omega
  have HW : Hid (W = w.alloc (.cells #[.int .i64 0, .int .i64 0, .int .i64 0, .int .i64 0] 43)) := hW
  have HR : Hid (W.heap[w.heap.size]? = some (.cells #[.int .i64 0, .int .i64 0, .int .i64 0, .int .i64 0] 43 (0, 0)) ∧ relabel own w.heap.size 8 w.heap.size = 8) := ⟨hRW, relabel_ge (Nat.le_refl _)⟩
  have e1 : g.sp.take 1 = [] := by rw [hsp]; rfl
  have e2 : ({ g with sp := g.sp.tail } : Gs) = g := by rw [hsp]; show Gs.mk _ _ _ _ _ [] _ = _; rw [← hsp]
  rw [e1, e2] at hget
  have HRB : Hid (∀ w1 own2 Q2, Pg B G room hands ts g wk own2 Q2 w1 → Calls Tryz.prog 53 #[.pointer (some ⟨G, 0, none⟩), .int .i64 h, .int .i64 o] w1 fun e w' => ∃ a c, e = .returned (.slice a 0 c) ∧ ∃ own', Pg B G room hands ts g wk own' Q2 w' ∧ Ok own2 own' (fun c => c = 10 + h ∨ c = 10 + o) w1 w') := fun w1 own2 Q2 h1 => rob_none h1 h o hh ho h6 hno
  have HB : Hid (∀ w1 own2 Q2, Pg B G room hands ts g wk own2 Q2 w1 → Calls Tryz.prog 54 #[.pointer (some ⟨Q2.Kb, 0, none⟩), .int .i64 h] w1 fun e w' => e = .returned .nilIface ∧ ∃ own' Q', Pg B G room hands ts { g with zz := g.zz ++ [(h : Int)] } wk own' Q' w' ∧ Ok own2 own' (fun c => c = 4) w1 w') := fun w1 own2 Q2 h1 => h1.sleep hh hz
  clear hP hPW hbW hRW hW hsp hn hr e1 e2 hno hz
  go_enter Tryz.func30, Tryz.ntmps30
  go_upto_region 1 with fail
  rw [← HW.out]
  clear HW
  go_wp2_with (first | (go_at_call 50; refine htake.mono ?_; clear htake; rintro e W ⟨rfl, rfl⟩) | (go_at_call 52; refine hget.mono ?_; clear hget; rintro e w1 ⟨lv, rfl, hl, own2, Q2, -, -, -, hP2, hO2⟩; obtain ⟨la, lc, rfl⟩ := hl.shape; have hrob := HRB.out w1 own2 Q2 hP2; have HO2 : Hid (Ok (relabel own w.heap.size 8) own2 (fun c => c = 6) W w1) := hO2; clear hP2 hO2 HRB hl) | (go_at_call 53; refine hrob.mono ?_; clear hrob; rintro e w2 ⟨ra, rc, rfl, own3, hP3, hO3⟩; have hb := HB.out w2 own3 Q2 hP3; have c2 := hP3.c.2.2.1; have HO3 : Hid (Ok own2 own3 (fun c => c = 10 + h ∨ c = 10 + o) w1 w2) := hO3; clear hP3 hO3 HB) | (go_at_call 54; refine hb.mono ?_; clear hb; rintro e w3 ⟨rfl, own4, Q4, hP4, hO4⟩; have s1 := Nat.lt_of_lt_of_le hRl HO2.out.kc.size; have s2 := Nat.lt_of_lt_of_le s1 HO3.out.kc.size; have h8 : own2 w.heap.size = 8 := (HO2.out.lab _ hRl).trans HR.out.2; have h83 : own3 w.heap.size = 8 := (HO3.out.lab _ s1).trans h8; have hl3 : own4 w.heap.size = 8 := (hO4.lab _ s2).trans h83; have hR3 := (((hO4.kc.block w.heap.size s2 (by rw [h83]; omega)).trans (HO3.out.kc.block _ s1 (by rw [h8]; omega))).trans (HO2.out.kc.block _ hRl (by rw [HR.out.2]; omega))).trans HR.out.1; obtain ⟨f0, f1, f2, f3, ff⟩ := part_cells hR3; have HP3 : Hid (Pg B G room hands ts { g with zz := g.zz ++ [(h : Int)] } wk own4 Q4 w3) := hP4; clear hP4 hO4 h8 h83))
  refine part_ret Tryz.results30 (setP_block hR3 _ _ _ _) rfl rfl ⟨rfl, _, _, HP3.out.later8 (Kc.setP (C := fun c => c = 8) hl3 _ _ _ _)⟩
end Go.Proofs.YtandhiiaflhenaaGreatDoor

namespace Go.Proofs.YtandhiiaflhenaaGreatDoor
open Go.RowKit Go.Deep Go.Maps

variable {B : Bs} {G room hands : Nat} {ts : List (Int × List Int)} {g : Gs} {wk : Nat → Int} {own : Nat → Nat} {Q : Qp} {w w' : World}
theorem Pg.sameWork (h : Pg B G room hands ts g wk own Q w) (f : Nat → Int) : Pg B G room hands ts { g with work := f } wk own Q w :=
  ⟨h.row, h.lG, h.jn, h.lJ, h.lA, h.sp, h.lS, h.pk, h.lK, h.hrow, h.lHB, h.hand, h.lH, h.has, h.lM, h.wrow, h.lW, h.far, h.w1le, h.io⟩
theorem mapTurned_block {w w' : World} {b k : Nat} (h : w.mapTurned w' b) (hk : k ≠ b) : w'.heap[k]? = w.heap[k]? := by
  obtain ⟨es, cl, es', cl', hb, rfl⟩ := h
  show (w.heap.setIfInBounds b _)[k]? = _
  rw [Array.getElem?_setIfInBounds_ne (Ne.symm hk)]
theorem mapTurned_io {w w' : World} {b : Nat} (h : w.mapTurned w' b) : w'.os = w.os ∧ w'.tape = w.tape ∧ w'.output = w.output ∧ w'.heap.size = w.heap.size := by
  obtain ⟨es, cl, es', cl', hb, rfl⟩ := h
  exact ⟨rfl, rfl, rfl, by show (w.heap.setIfInBounds b _).size = _; simp⟩
theorem Pg.turned (h : Pg B G room hands ts g wk own Q w) (ht : w.mapTurned w' Q.Mb) : Kc own (fun c => c = 3) w w' :=
  ⟨(mapTurned_io ht).1, (mapTurned_io ht).2.1, (mapTurned_io ht).2.2.1, by rw [(mapTurned_io ht).2.2.2]; exact Nat.le_refl _, fun k _ hC => mapTurned_block ht (fun e => hC (by rw [e]; exact h.lM))⟩
theorem Pg.done (h : Pg B G room hands ts g wk own Q w) (hg : Good ts) (i : Nat) (hi : i < ts.length) (hr : readyB ts g.S i = true) :
    Calls Tryz.prog 87 #[.pointer (some ⟨Q.J, 0, none⟩), .int .i64 i] w fun e w' => (∃ v, e = .returned (.tuple #[v, .nilIface]) ∧ RowI w.heap.size w' v (intsOf (newL ts g.S i))) ∧ Pg B G room hands ts { g with S := mark g.S i } wk (relabel own w.heap.size 7) Q w' ∧ Kc own (fun c => c = 7) w w' := by
  refine (done_good Q.J Q.M Q.A Q.D Q.C ts hg g.S i w h.jn hi hr).mono ?_
  rintro e w' ⟨hv, hj, hk, hs⟩
  exact ⟨hv, h.setJoin _ hj hs (h.kj hk), h.kj hk⟩
theorem Pg.sput (h : Pg B G room hands ts g wk own Q w) {A : Nat → Prop} {lv : Value} {ys : List Int} (hl : Rds A w lv ys) (hle : g.sp.length + ys.length ≤ 60) :
    Calls Tryz.prog 21 #[.pointer (some ⟨Q.Sb, 0, none⟩), lv] w fun e w' => e = .returned .nilIface ∧ ∃ v', Pg B G room hands ts { g with sp := g.sp ++ ys } wk (relabel own w.heap.size 6) { Q with vs := v' } w' ∧ Kc own (fun c => c = 6) w w' := by
  refine (Spl.Put_good Q.Sb room g.sp ys Q.vs lv A w h.sp hl hle).mono ?_
  rintro e w' ⟨rfl, v', hs, hk, hn⟩
  exact ⟨rfl, v', h.setSp _ v' hs (h.nearS hn) (h.ks hk), h.ks hk⟩
theorem Pg.wake (h : Pg B G room hands ts g wk own Q w) (m : Nat) :
    Calls Tryz.prog 89 #[.pointer (some ⟨Q.Kb, 0, none⟩), .int .i64 m] w fun e w' => ∃ lv v', e = .returned (.tuple #[lv, .nilIface]) ∧ RowI w.heap.size w' lv (g.zz.take m) ∧ Pg B G room hands ts { g with zz := g.zz.drop m } wk (relabel own w.heap.size 4) { Q with vz := v' } w' ∧ Kc own (fun c => c = 4) w w' := by
  refine (Prk.Wake_good Q.Kb hands m g.zz Q.vz w h.pk).mono ?_
  rintro e w' ⟨lv, v', rfl, hl, hs, hk, hn, -⟩
  exact ⟨lv, v', rfl, hl, h.setPark _ v' hs (h.nearZ hn) (h.kp hk), h.kp hk⟩

/-- While the last unit is done: the gang, a list of numbers under a label, what is told. -/
structure Fh (B : Bs) (G room hands : Nat) (ts : List (Int × List Int)) (g : Gs) (wk : Nat → Int) (own : Nat → Nat) (Q : Qp) (N0 c : Nat) (nv dv : Value) (now : List Int) (ds : List Deed) (w : World) : Prop where
  pg : Pg B G room hands ts g wk own Q w
  now : RowI N0 w nv now
  out : RowD N0 w dv ds
  ln : Lb own c nv
  ld : Lb own 8 dv
  n0 : N0 ≤ w.heap.size
variable {g' : Gs} {Q' : Qp} {N0 c d : Nat} {nv dv : Value} {now : List Int} {ds : List Deed}
theorem Fh.to (h : Fh B G room hands ts g wk own Q N0 c nv dv now ds w) {C : Nat → Prop} (K : Kc own C w w') (h8 : ¬ C 8) (hc : ¬ C c) (hp : Pg B G room hands ts g' wk (relabel own w.heap.size d) Q' w') : Fh B G room hands ts g' wk (relabel own w.heap.size d) Q' N0 c nv dv now ds w' :=
  ⟨hp, h.now.kc h.ln hc K, h.out.kc h.ld h8 K, h.ln.re h.now, h.ld.reD h.out, Nat.le_trans h.n0 K.size⟩
theorem Fh.put (h : Fh B G room hands ts g wk own Q N0 7 nv dv now ds w) {j : Nat} (hj : j < hands) (n q : Nat) :
    Calls Tryz.prog 88 #[.pointer (some ⟨Q.Hk j, 0, none⟩), .int .i64 n] (w.drewN q) fun e w' => ∃ lv, e = .returned lv ∧ ∃ own5, Fh B G room hands ts { g with near := updG g.near j (n : Int), ring := updG g.ring j (putR room (g.near j) (g.ring j)) } wk own5 Q N0 7 nv dv now ds w' ∧ Rds (fun _ => True) w' lv (putO room (g.near j) (g.ring j)) := by
  have hq : Fh B G room hands ts g wk (relabel own w.heap.size 9) Q N0 7 nv dv now ds (w.drewN q) := h.to (C := fun _ => False) ⟨rfl, rfl, rfl, Nat.le_refl _, fun _ _ _ => rfl⟩ id id (h.pg.drawn q)
  refine (hq.pg.put hj n).mono ?_
  rintro e w' ⟨⟨lv, rfl, hl⟩, hp, hk⟩
  exact ⟨lv, rfl, _, hq.to hk (by omega) (by omega) hp, hl.mono (fun _ _ => trivial)⟩
theorem Fh.sput (h : Fh B G room hands ts g wk own Q N0 7 nv dv now ds w) {lv : Value} {ys : List Int} (hl : Rds (fun _ => True) w lv ys) (hle : g.sp.length + ys.length ≤ 60) :
    Calls Tryz.prog 21 #[.pointer (some ⟨Q.Sb, 0, none⟩), lv] w fun e w' => e = .returned .nilIface ∧ ∃ own9 Q9, Q9.HB = Q.HB ∧ Q9.Hk = Q.Hk ∧ Q9.Kb = Q.Kb ∧ Q9.Sb = Q.Sb ∧ Fh B G room hands ts { g with sp := g.sp ++ ys } wk own9 Q9 N0 7 nv dv now ds w' := by
  refine (h.pg.sput hl hle).mono ?_
  rintro e w' ⟨rfl, v', hp, hk⟩
  exact ⟨rfl, _, { Q with vs := v' }, rfl, rfl, rfl, rfl, h.to (Q' := { Q with vs := v' }) hk (by omega) (by omega) hp⟩

/-- One more is told. -/
theorem Fh.told (h : Fh B G room hands ts g wk own Q N0 4 nv dv now ds w) {ob : Obj} {v2 : Value} {x : Deed} (hg : (w.alloc ob).grownBy w' dv.ownBlock) (hat : v2.ownBlock = dv.ownBlock ∨ v2.ownBlock = some (w.alloc ob).heap.size) (ho : RowD N0 w' v2 (ds ++ [x])) :
    Fh B G room hands ts g wk (relabel own w.heap.size 8) Q N0 4 nv v2 now (ds ++ [x]) w' := by
  have K : Kc own (fun c => c = 8) w w' := ⟨hg.os, hg.tape, hg.output, by have := hg.size; simp at this; omega, fun k hk hC => (hg.block k (by simp; omega) (fun e => hC (h.ld k e.symm))).trans (Below.heap_alloc _ _ _ hk)⟩
  refine ⟨h.pg.later8 K, h.now.kc h.ln (by omega) K, ho, h.ln.re h.now, Lb.near h.ld (fun k e => (h.out.low e).2) (fun k e => ?_), Nat.le_trans h.n0 K.size⟩
  rcases hat with e2 | e2
  · exact Or.inl (e2.symm.trans e)
  · have e3 := e2.symm.trans e
    simp at e3
    exact Or.inr (by omega)

set_option maxRecDepth 100000 in
set_option maxHeartbeats 8000000 in
theorem finish_any (hP : Pg B G room hands ts g wk own Q w) (hg : Good ts) (h i : Nat) (hh : h < hands) (h6 : hands ≤ 6) (hi : i < ts.length) (ht : g.task h = (i : Int)) (hrd : readyB ts g.S i = true) (hdn : Down ts g.S) (hsp : g.sp.length + (allH (g.near h) (g.ring h)).length ≤ 30) :
    Calls Tryz.prog 49 #[.pointer (some ⟨G, 0, none⟩), .int .i64 h, .int .i64 i] w fun e w' => ∃ v, e = .returned v ∧ RowD w.heap.size w' v (endsD ts g h) ∧ ∃ own' Q', Pg B G room hands ts (ends ts room g h) wk own' Q' w' := by
  have h30 := hg.le
  obtain ⟨-, -, -, -, c4, -⟩ := hP.c
  obtain ⟨n, D, hown, hn, hs, hD⟩ := hP.has.le
  have hkey := key_nat (y := h) (by omega)
  have HH : Hid (Pg B G room hands ts g wk own Q w ∧ Good ts ∧ readyB ts g.S i = true ∧ Down ts g.S ∧ g.sp.length + (allH (g.near h) (g.ring h)).length ≤ 30 ∧ g.task h = (i : Int) ∧ Maps.size D = unseen (fun h => decide (g.task h < 0)) hands ∧ ∀ x : Nat, x < hands → Maps.has D (.int .i64 x) = decide (0 ≤ g.task x) ∧ (0 ≤ g.task x → ∀ z, D.atKey (.int .i64 x) z = .lit (.int .i64 (g.task x)))) := ⟨hP, hg, hrd, hdn, hsp, ht, hs, hD⟩
  have hhi : (h : Int) < (hands : Int) := by omega
  clear hP hg hrd hdn hsp ht hs hD
  go_enter Tryz.func49, Tryz.ntmps49
  go_upto_region 2 with (first | (at_delete; refine wpList_delete_own _ rfl _ _ 70 3 rfl 3 keyed3 Tryz.underlying70 _ Q.Mb n D rfl hown _ _ rfl hkey ?_; intro w1 hown1 hturn1))
  have hP1 := HH.out.1.setHas _ (HasAt.del hown HH.out.2.2.2.2.2.2.1 HH.out.2.2.2.2.2.2.2 hh (by rw [HH.out.2.2.2.2.2.1]; omega) hown1) (HH.out.1.turned hturn1)
  have hs1 := (mapTurned_io hturn1).2.2.2
  obtain ⟨W2, hW2⟩ : ∃ W2, W2 = w1.alloc (.cells #[.int .i64 4, .int .i64 h, .int .i64 i, .int .i64 0] 43) := ⟨_, rfl⟩
  have hb2 : Below w1.heap.size w1 W2 := by rw [hW2]; exact (Below.refl _ _).alloc (Nat.le_refl _) _
  have hP2 := hP1.later8 (Kc.of_below hb2)
  have hO2 : RowD w1.heap.size W2 (.slice (some ⟨w1.heap.size, 0, none⟩) 1 1) [(4, (h : Int), (i : Int), 0)] := by rw [hW2]; exact RowD.one w1 (4, (h : Int), (i : Int), 0)
  have hdone := hP2.done HH.out.2.1 i hi HH.out.2.2.1
  have c0 := hP2.c.1
  have HL2 : Hid (Lb (relabel (relabel own w.heap.size 3) w1.heap.size 8) 8 (.slice (some ⟨w1.heap.size, 0, none⟩) 1 1)) := fun k e => relabel_ge (hO2.low e).1
  have HO2 : Hid (RowD w1.heap.size W2 (.slice (some ⟨w1.heap.size, 0, none⟩) 1 1) [(4, (h : Int), (i : Int), 0)]) := hO2
  have HW2 : Hid (W2 = w1.alloc (.cells #[.int .i64 4, .int .i64 h, .int .i64 i, .int .i64 0] 43)) := hW2
  clear hown hown1 hturn1 hP1 hP2 hO2 hW2 hb2 c4 hkey
  go_upto_region 3 with fail
  rw [← HW2.out]
  clear HW2
  obtain ⟨L, hL⟩ : ∃ L, L = intsOf (newL ts g.S i) := ⟨_, rfl⟩
  have HL : Hid (L = intsOf (newL ts g.S i) ∧ L.length ≤ 30 ∧ ∀ x, x ∈ L → ∃ j : Nat, x = ((j : Nat) : Int)) := ⟨hL, by rw [hL, intsOf_length]; exact Nat.le_trans (newL_len _ _ _) h30, fun x hx => by rw [hL] at hx; obtain ⟨j, -, rfl⟩ := mem_intsOf.1 hx; exact ⟨j, rfl⟩⟩
  rw [← hL] at hdone
  clear hL
  obtain ⟨g3, hg3⟩ : ∃ g3 : Gs, g3 = { g with task := updG g.task h (-1), S := mark g.S i } := ⟨_, rfl⟩
  have HG3 : Hid (g3 = { g with task := updG g.task h (-1), S := mark g.S i }) := hg3
  rw [← hg3] at hdone
  clear hg3
  go_wp2_with (first | (go_at_call 87; refine hdone.mono ?_; clear hdone; rintro e w3 ⟨⟨nv, rfl, hn3⟩, hP3, hk3⟩; obtain ⟨na, nc, rfl⟩ := hn3.shape))
  have HF3 : Hid (∃ own8 Q8, Fh B G room hands ts (gput room g3 h (L.take 0)) wk own8 Q8 w1.heap.size 7 (.slice na L.length nc) (.slice (some ⟨w1.heap.size, 0, none⟩) 1 1) L [(4, (h : Int), (i : Int), 0)] w3) := by
    refine ⟨relabel (relabel (relabel own w.heap.size 3) w1.heap.size 8) W2.heap.size 7, Q, ?_, hn3.mono (by have := (HO2.out.low (k := w1.heap.size) rfl).2; omega), HO2.out.kc HL2.out (by omega) hk3, fun k e => relabel_ge (hn3.low e).1, HL2.out.reD HO2.out, Nat.le_trans (Nat.le_of_lt (HO2.out.low (k := w1.heap.size) rfl).2) hk3.size⟩
    rw [List.take_zero, gput_nil]
    exact hP3
  clear hn3 hP3 hk3 HO2 HL2
  have hL30 := HL.out.2.1
  go_loopw [36] (fun s36 wr => ∃ (k : Nat), s36 = .int .i64 k ∧ k ≤ L.length ∧ Hid (∃ own8 Q8, Fh B G room hands ts (gput room g3 h (L.take k)) wk own8 Q8 w1.heap.size 7 (.slice na L.length nc) (.slice (some ⟨w1.heap.size, 0, none⟩) 1 1) L [(4, (h : Int), (i : Int), 0)] wr)) (fun s36 _ => L.length - (intOf s36).toNat)
  case atStart => exact ⟨0, rfl, Nat.zero_le _, HF3⟩
  case round =>
    clear HF3
    obtain ⟨k, rfl, hk, hF⟩ := hrel
    obtain ⟨own8, Q8, h8⟩ := hF.out
    by_cases hkl : k < L.length
    · have hkl' : (k : Int) < (L.length : Int) := by omega
      obtain ⟨gb, gc, hv, -, hglt, -⟩ := h8.now.full (by omega)
      simp only [Value.slice.injEq] at hv
      obtain ⟨rfl, -, rfl⟩ := hv
      have hcx := h8.now.cell hkl
      obtain ⟨j, hj⟩ := HL.out.2.2 _ (getD_mem_int hkl)
      have HSN : Hid (L.take (k + 1) = L.take k ++ [((j : Nat) : Int)]) := by show _ = _; rw [int_snoc hkl, hj]
      rw [hj] at hcx
      obtain ⟨gk, hgk⟩ : ∃ gk, gk = gput room g3 h (L.take k) := ⟨_, rfl⟩
      have HGK : Hid ({ gk with near := updG gk.near h (j : Int), ring := updG gk.ring h (putR room (gk.near h) (gk.ring h)), sp := gk.sp ++ putO room (gk.near h) (gk.ring h) } = gput room g3 h (L.take (k + 1))) := by
        show _ = _
        rw [HSN.out, gput_snoc, hgk]
      have HLEN : Hid (gk.sp.length + (putO room (gk.near h) (gk.ring h)).length ≤ 60) := by
        show _ ≤ _
        have h1 := gput_len room g3 h (L.take (k + 1)) (fun n hn => by
          obtain ⟨jj, rfl⟩ := HL.out.2.2 n (List.mem_of_mem_take hn)
          omega)
        rw [← HGK.out] at h1
        simp only [List.length_append] at h1
        have h2 : (L.take (k + 1)).length ≤ 30 := by simp; omega
        have h3 : g3.sp.length + (allH (g3.near h) (g3.ring h)).length ≤ 30 := by rw [HG3.out]; exact HH.out.2.2.2.2.1
        omega
      rw [← hgk] at h8
      have c1 := h8.pg.c.2.1
      have c3 := h8.pg.c.2.2.2.1
      have ch := h8.pg.hc hh
      have hput := fun q => h8.put hh j q
      clear h8 hF hgk hj HSN
      go_upto_region 7 with fail
      go_region_with (first | (go_at_call 88; refine (hput 1).mono ?_; clear hput; rintro e w9 ⟨lv, rfl, own9, hF9, hl9⟩; have hsp9 := hF9.sput hl9 HLEN.out; have c19 := hF9.pg.c.2.1; clear hF9 hl9) | (go_at_call 21; refine hsp9.mono ?_; clear hsp9; rintro e w10 ⟨rfl, own10, Q10, -, -, -, -, hF10⟩; rw [HGK.out] at hF10; have HF10 : Hid (∃ own8 Q8, Fh B G room hands ts (gput room g3 h (L.take (k + 1))) wk own8 Q8 w1.heap.size 7 (.slice (some ⟨gb, 0, none⟩) L.length nc) (.slice (some ⟨w1.heap.size, 0, none⟩) 1 1) L [(4, (h : Int), (i : Int), 0)] w10) := ⟨own10, Q10, hF10⟩; clear hF10))
      all_goals
        go_wp2
        go_roundw
        case rel => exact ⟨k + 1, by go_num, by omega, HF10⟩
        case measure => simp [intOf]; omega
    · have hkl' : ¬ (k : Int) < (L.length : Int) := by omega
      obtain rfl : k = L.length := by omega
      rw [List.take_length] at h8
      have c2 := h8.pg.c.2.2.1
      have hwake := h8.pg.wake L.length
      obtain ⟨A, hA⟩ : ∃ A, A = (gput room g3 h L).zz.take L.length := ⟨_, rfl⟩
      rw [← hA] at hwake
      have hA6 : A.length ≤ 6 := by
        have := h8.pg.pk.le
        rw [hA]
        simp only [List.length_take]
        omega
      have HA : Hid (A = (gput room g3 h L).zz.take L.length) := hA
      obtain ⟨gE, hgE⟩ : ∃ gE : Gs, gE = { gput room g3 h L with zz := (gput room g3 h L).zz.drop L.length } := ⟨_, rfl⟩
      rw [← hgE] at hwake
      have HGE : Hid (gE = { gput room g3 h L with zz := (gput room g3 h L).zz.drop L.length }) := hgE
      have H8 : Hid (Fh B G room hands ts (gput room g3 h L) wk own8 Q8 w.heap.size 7 (.slice na L.length nc) (.slice (some ⟨w.heap.size, 0, none⟩) 1 1) L [(4, (h : Int), (i : Int), 0)] wr) := by rw [hs1] at h8; exact h8
      clear h8 hF hA hgE
      go_upto_region 10 with (first | (go_at_call 89; refine hwake.mono ?_; clear hwake; rintro e wA ⟨av, v', rfl, hra, hPA, hkA⟩; obtain ⟨aa, ac, rfl⟩ := hra.shape))
      have HFA : Hid (∃ own9 Q9, Fh B G room hands ts gE wk own9 Q9 w.heap.size 4 (.slice aa A.length ac) (.slice (some ⟨w.heap.size, 0, none⟩) 1 1) A ((4, (h : Int), (i : Int), 0) :: (A.take 0).map wokeD) wA) :=
        ⟨relabel own8 wr.heap.size 4, { Q8 with vz := v' }, hPA, hra.mono H8.out.n0, H8.out.out.kc H8.out.ld (by omega) hkA, fun k e => relabel_ge (hra.low e).1, H8.out.ld.reD H8.out.out, Nat.le_trans H8.out.n0 hkA.size⟩
      clear hra hPA hkA H8 c2
      obtain ⟨iD, hiD, hz0, hz1, hz2⟩ := info_parts Tryz.infoDeed
      go_wp2
      go_loopw [7, 67] (fun s7 s67 wx => ∃ (k : Nat) (own9 : Nat → Nat) (Q9 : Qp), s67 = .int .i64 k ∧ k ≤ A.length ∧ Hid (Fh B G room hands ts gE wk own9 Q9 w.heap.size 4 (.slice aa A.length ac) s7 A ((4, (h : Int), (i : Int), 0) :: (A.take k).map wokeD) wx)) (fun _ s67 _ => A.length - (intOf s67).toNat)
      case atStart =>
        obtain ⟨own9, Q9, h9⟩ := HFA.out
        exact ⟨0, own9, Q9, rfl, Nat.zero_le _, h9⟩
      case round =>
        clear HFA
        obtain ⟨k, own9, Q9, rfl, hk, hF⟩ := hrel
        obtain ⟨da, dc, hdv⟩ := hF.out.out.shape
        subst hdv
        by_cases hkl : k < A.length
        · have hkl' : (k : Int) < (A.length : Int) := by omega
          obtain ⟨gb, gc, hv, -, hglt, -⟩ := hF.out.now.full (by omega)
          simp only [Value.slice.injEq] at hv
          obtain ⟨rfl, -, rfl⟩ := hv
          have hcx := hF.out.now.cell hkl
          have HTS : Hid (A.take (k + 1) = A.take k ++ [A.getD k 0]) := int_snoc hkl
          generalize A.getD k 0 = x at hcx HTS
          have hdl : ((4, (h : Int), (i : Int), 0) :: (A.take k).map wokeD : List Deed).length ≤ 7 := by simp; omega
          have HDS : Hid (((4, (h : Int), (i : Int), 0) :: (A.take (k + 1)).map wokeD : List Deed) = ((4, (h : Int), (i : Int), 0) :: (A.take k).map wokeD) ++ [wokeD x]) := by show _ = _; rw [HTS.out]; simp
          generalize ((4, (h : Int), (i : Int), 0) :: (A.take k).map wokeD : List Deed) = ds at *
          have h1c : ∀ u ∈ [Value.int .i64 6, .int .i64 x, .int .i64 0, .int .i64 0], u.oneCell' = true := by intro u hu; simp at hu; rcases hu with rfl | rfl | rfl | rfl <;> rfl
          have HOR : Hid (RowD w.heap.size (wr.alloc (.cells #[.int .i64 6, .int .i64 x, .int .i64 0, .int .i64 0] 43)) (.slice da ds.length dc) ds) := hF.out.out.later ((Below.refl _ _).alloc (Nat.le_refl _) _)
          have hsw := hF.out.n0
          go_wp2_with (first | (at_builtin; go_loud (refine wpList_append_own_at _ rfl (.tmp 71) (.tmp 74) 38 rfl w.heap.size 43 iD (.agg #[.int .i64 0, .int .i64 0, .int .i64 0, .int .i64 0]) 4 32 Tryz.underlying38 hiD hz0 hz1 hz2 rfl (by decide) _ ds.length (flat4 ds) rfl HOR.out ⟨wr.heap.size, 0, none⟩ 1 1 [.int .i64 6, .int .i64 x, .int .i64 0, .int .i64 0] rfl rfl (cell_four_new _ _ rfl _ _ _ _ _) h1c (by unfold maxLen; omega) (by omega) (by simp; omega) ?_; intro v2 w2b hown hgr _ hat)))
          refine ⟨⟨k + 1, relabel own9 wr.heap.size 8, Q9, by go_num, by omega, ?_⟩, by simp [intOf]; omega⟩
          rw [HDS.out]
          refine hF.out.told hgr hat ?_
          unfold RowD
          rw [List.length_append, flat4_append, flat4_one]
          exact hown
        · have hkl' : ¬ (k : Int) < (A.length : Int) := by omega
          obtain rfl : k = A.length := by omega
          have HE : Hid (((4, (h : Int), (i : Int), 0) :: (A.take A.length).map wokeD : List Deed) = endsD ts g h) := by
            show _ = _
            have hti := HH.out.2.2.2.2.2.1
            have hLl : (newL ts g.S i).length = L.length := by rw [HL.out.1, intsOf_length]
            unfold endsD
            rw [List.take_length, HA.out, HG3.out, hti, Int.toNat_natCast, hLl]
            rfl
          have HGF : Hid ({ gE with work := updG g.work h (g.work h - 1) } = ends ts room g h) := by
            show _ = _
            have hti := HH.out.2.2.2.2.2.1
            have hLl : (newL ts g.S i).length = L.length := by rw [HL.out.1, intsOf_length]
            unfold ends
            dsimp only
            rw [hti, Int.toNat_natCast, hLl, ← HL.out.1, HGE.out, HG3.out]
            rfl
          go_wp2
          go_ret
          rw [← HE.out, ← HGF.out]
          have h1 := hF.out.out
          have he1 : ((4, (h : Int), (i : Int), 0) :: (A.take A.length).map wokeD : List Deed).length = A.length + 1 := by simp
          rw [he1] at h1
          have h2 := hF.out.pg.sameWork (updG g.work h (g.work h - 1))
          exact ⟨_, rfl, h1, own9, Q9, h2⟩
end Go.Proofs.YtandhiiaflhenaaGreatDoor
