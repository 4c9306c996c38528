/- The program's gang in memory: its parts lie in blocks that are told apart by labels. -/
import Derived.Test.YtlfbdjeojgbniaaGreatDoorRcm30

namespace Go.Proofs.YtlfbdjeojgbniaaGreatDoor
open Go.RowKit Go.Deep Go.Maps

/-- A join is as it was, where its blocks, and its lists, are. -/
theorem JnT.of_lists {J M A D C : Nat} {ts : List (Int × List Int)} {S : Nat → Bool} {w w' : World} (h : JnT J M A D C ts S w) (eJ : w'.heap[J]? = w.heap[J]?) (eM : w'.heap[M]? = w.heap[M]?) (eA : w'.heap[A]? = w.heap[A]?) (eD : w'.heap[D]? = w.heap[D]?)
    (hl : ∀ k v b, k < ts.length → w.cell? ⟨A, k, none⟩ = some v → v.ownBlock = some b → b < w.heap.size → w'.heap[b]? = w.heap[b]?) : JnT J M A D C ts S w' := by
  obtain ⟨av, ha⟩ := Jn.aft h
  exact ⟨(Jn.row h).of_block eJ, (Jn.miss h).of_block eM, ⟨av, ha.row.of_block eA, fun k hk => (ha.own k hk).of_blocks (fun b e => hl k (av k) b hk (ha.row.cell hk) e ((ha.own k hk).low e).2)⟩, (Jn.done h).of_block eD, Jn.lt h, Jn.ne h, Jn.le h⟩
/-- The lists of a join bear this label. -/
def LbA (own : Nat → Nat) (A n : Nat) (w : World) : Prop := ∀ k v b, k < n → w.cell? ⟨A, k, none⟩ = some v → v.ownBlock = some b → b < w.heap.size ∧ own b = 7
theorem LbA.kc {own : Nat → Nat} {C : Nat → Prop} {A n c : Nat} {w w' : World} (h : LbA own A n w) (K : Kc own C w w') (hA : w'.heap[A]? = w.heap[A]?) : LbA (relabel own w.heap.size c) A n w' := fun k v b hk hv hb => by
  have := h k v b hk ((World.cell?_of_block (a := ⟨A, k, none⟩) hA).symm.trans hv) hb
  exact ⟨Nat.lt_of_lt_of_le this.1 K.size, by rw [relabel_lt this.1]; exact this.2⟩
theorem LbA.sub {own : Nat → Nat} {C : Nat → Prop} {A n c : Nat} {w w' : World} (h : LbA own A n w) (K : Kc own C w w') (hs : SubA A w w') : LbA (relabel own w.heap.size c) A n w' := fun k v b hk hv hb => by
  rcases hs k v hv with e | e
  · subst e; simp [Value.ownBlock] at hb
  · have := h k v b hk e hb
    exact ⟨Nat.lt_of_lt_of_le this.1 K.size, by rw [relabel_lt this.1]; exact this.2⟩

/-- Who has which task, as a map. -/
def HasAt (w : World) (B hands : Nat) (task : Nat → Int) : Prop :=
  ∃ n D, w.ownsMap Tryz.prog 3 (plainElem (H := Unit) Tryz.prog 3) B n D ∧ Maps.size D = unseen (fun h => decide (task h < 0)) hands ∧ ∀ x : Nat, x < hands → Maps.has D (.int .i64 x) = decide (0 ≤ task x) ∧ (0 ≤ task x → ∀ z, D.atKey (.int .i64 x) z = .lit (.int .i64 (task x)))
theorem HasAt.of_block {w w' : World} {B hands : Nat} {task : Nat → Int} (h : HasAt w B hands task) (e : w'.heap[B]? = w.heap[B]?) : HasAt w' B hands task := by
  obtain ⟨n, D, ⟨es, clock, hb, r⟩, h1⟩ := h
  exact ⟨n, D, ⟨es, clock, e.trans hb, r⟩, h1⟩
theorem HasAt.lt {w : World} {B hands : Nat} {task : Nat → Int} (h : HasAt w B hands task) : B < w.heap.size := by
  obtain ⟨n, D, h, _⟩ := h
  exact h.lt
theorem ownsMap_exact {P : Program} {k : TypeId} {R : Value → Option (DataW Unit × List MemPlace)} {w : World} {b n : Nat} {D : DataW Unit} (h : w.ownsMap P k R b n D) : w.ownsMap P k R b (Maps.size D) D := by
  obtain ⟨es, clock, hb, F, hs, rfl⟩ := h
  exact ⟨es, clock, hb, F, by simp [Maps.size, length_sorted], rfl⟩
theorem HasAt.start (w : World) (hands : Nat) : HasAt (w.alloc (.map #[] 0)) w.heap.size hands (fun _ => -1) :=
  ⟨0, .map [], World.ownsMap_made _ _ _ _, by
    have : (fun _ : Nat => decide ((-1 : Int) < 0)) = fun _ => true := by funext; simp
    rw [this, unseen_zero _ _ (fun _ _ => rfl)]; rfl, fun x _ => ⟨by simp [Maps.has], fun h => by have h2 : (0 : Int) ≤ -1 := h; omega⟩⟩

structure Qp where
  J : Nat
  M : Nat
  A : Nat
  D : Nat
  C : Nat
  Sb : Nat
  vs : Value
  Kb : Nat
  vz : Value
  HB : Nat
  Hk : Nat → Nat
  Rk : Nat → Nat
  Mb : Nat
  WB : Nat
/-- The gang's own cells. -/
def gangRow (Q : Qp) (hands n : Nat) : Nat → Value := fun k => if k = 0 then .pointer (some ⟨Q.J, 0, none⟩) else if k = 1 then .pointer (some ⟨Q.Sb, 0, none⟩) else if k = 2 then .pointer (some ⟨Q.Kb, 0, none⟩) else if k = 3 then .slice (some ⟨Q.HB, 0, none⟩) hands hands else if k = 4 then .map (some Q.Mb) else .slice (some ⟨Q.WB, 0, none⟩) n n

/-- The gang lies in block G; labels: 0 G, 1 the row of its hands, 2 works, 3 who has which task, 4 the park, 6 the spill, 7 the join, 8 what is told, 9 all else, 10 and on its hands. -/
structure Pg (B : Bs) (G room hands : Nat) (ts : List (Int × List Int)) (g : Gs) (wk : Nat → Int) (own : Nat → Nat) (Q : Qp) (w : World) : Prop where
  row : w.rowIs G 121 6 (gangRow Q hands ts.length)
  lG : own G = 0
  jn : JnT Q.J Q.M Q.A Q.D Q.C ts g.S w
  lJ : own Q.J = 7 ∧ own Q.M = 7 ∧ own Q.A = 7 ∧ own Q.D = 7
  lA : LbA own Q.A ts.length w
  sp : Spl.Sp Q.Sb room g.sp Q.vs w
  lS : own Q.Sb = 6 ∧ Lb own 6 Q.vs
  pk : Prk.Pk Q.Kb hands g.zz Q.vz w
  lK : own Q.Kb = 4 ∧ Lb own 4 Q.vz
  hrow : w.rowIs Q.HB 162 hands (fun k => .pointer (some ⟨Q.Hk k, 0, none⟩))
  lHB : own Q.HB = 1
  hand : ∀ k, k < hands → Hnd.Hd (Q.Hk k) (Q.Rk k) room (g.near k) (g.ring k) w
  lH : ∀ k, k < hands → own (Q.Hk k) = 10 + k ∧ own (Q.Rk k) = 10 + k
  has : HasAt w Q.Mb hands g.task
  lM : own Q.Mb = 3
  wrow : w.rowIs Q.WB 3 ts.length (fun k => .int .i64 (wk k))
  lW : own Q.WB = 2
  far : ∀ k, B.X k → k < B.w1.heap.size ∧ own k = 9 ∧ w.heap[k]? = B.w1.heap[k]?
  w1le : B.w1.heap.size ≤ w.heap.size
  io : w.os = B.w1.os ∧ w.tape = B.w1.tape ∧ w.output = B.w1.output
variable {B B' : Bs} {G room hands : Nat} {ts : List (Int × List Int)} {g : Gs} {wk : Nat → Int} {own : Nat → Nat} {Q : Qp} {w w' : World}
theorem Pg.later0 (h : Pg B G room hands ts g wk own Q w)  (K : Kc own (fun _ => False) w w') : Pg B G room hands ts g wk (relabel own w.heap.size 9) Q w' := by
  exact {
    row := h.row.of_block (K.block G h.row.lt (by have := h.lG; first | omega | exact id))
    lG := by rw [relabel_lt h.row.lt]; exact h.lG
    jn := JnT.of_lists h.jn (K.block Q.J (Jn.row h.jn).lt (by have := h.lJ.1; first | omega | exact id)) (K.block Q.M (Jn.miss h.jn).lt (by have := h.lJ.2.1; first | omega | exact id)) (K.block Q.A (Jn.ltA h.jn) (by have := h.lJ.2.2.1; first | omega | exact id)) (K.block Q.D (Jn.done h.jn).lt (by have := h.lJ.2.2.2; first | omega | exact id)) (fun k v b hk hv hb hlt => K.block b hlt (by have := (h.lA k v b hk hv hb).2; first | omega | exact id))
    lJ := ⟨by rw [relabel_lt (Jn.row h.jn).lt]; exact h.lJ.1, by rw [relabel_lt (Jn.miss h.jn).lt]; exact h.lJ.2.1, by rw [relabel_lt (Jn.ltA h.jn)]; exact h.lJ.2.2.1, by rw [relabel_lt (Jn.done h.jn).lt]; exact h.lJ.2.2.2⟩
    lA := h.lA.kc K (K.block Q.A (Jn.ltA h.jn) (by have := h.lJ.2.2.1; first | omega | exact id))
    sp := h.sp.of_blocks (K.block Q.Sb h.sp.lt (by have := h.lS.1; first | omega | exact id)) (fun k e => K.block k (h.sp.row.low e).2 (by have := h.lS.2 k e; first | omega | exact id))
    lS := ⟨by rw [relabel_lt h.sp.lt]; exact h.lS.1, fun k e => by rw [relabel_lt (h.sp.row.low e).2]; exact h.lS.2 k e⟩
    pk := h.pk.of_blocks (K.block Q.Kb h.pk.lt (by have := h.lK.1; first | omega | exact id)) (fun k e => K.block k (h.pk.row.low e).2 (by have := h.lK.2 k e; first | omega | exact id))
    lK := ⟨by rw [relabel_lt h.pk.lt]; exact h.lK.1, fun k e => by rw [relabel_lt (h.pk.row.low e).2]; exact h.lK.2 k e⟩
    hrow := h.hrow.of_block (K.block Q.HB h.hrow.lt (by have := h.lHB; first | omega | exact id))
    lHB := by rw [relabel_lt h.hrow.lt]; exact h.lHB
    hand := fun k hk => (h.hand k hk).of_blocks (K.block _ (h.hand k hk).row.lt (by have := (h.lH k hk).1; first | omega | exact id)) (K.block _ (h.hand k hk).ring.lt (by have := (h.lH k hk).2; first | omega | exact id))
    lH := fun k hk => ⟨by rw [relabel_lt (h.hand k hk).row.lt]; exact (h.lH k hk).1, by rw [relabel_lt (h.hand k hk).ring.lt]; exact (h.lH k hk).2⟩
    has := h.has.of_block (K.block Q.Mb h.has.lt (by have := h.lM; first | omega | exact id))
    lM := by rw [relabel_lt h.has.lt]; exact h.lM
    wrow := h.wrow.of_block (K.block Q.WB h.wrow.lt (by have := h.lW; first | omega | exact id))
    lW := by rw [relabel_lt h.wrow.lt]; exact h.lW
    far := fun k hk => by
      have h1 := h.far k hk
      have h2 := h.w1le
      exact ⟨h1.1, by rw [relabel_lt (by omega)]; exact h1.2.1, (K.block k (by omega) (by have := h1.2.1; first | omega | exact id)).trans h1.2.2⟩
    w1le := Nat.le_trans h.w1le K.size
    io := ⟨K.os.trans h.io.1, K.tape.trans h.io.2.1, K.output.trans h.io.2.2⟩ }
theorem Pg.later8 (h : Pg B G room hands ts g wk own Q w)  (K : Kc own (fun c => c = 8) w w') : Pg B G room hands ts g wk (relabel own w.heap.size 8) Q w' := by
  exact {
    row := h.row.of_block (K.block G h.row.lt (by have := h.lG; first | omega | exact id))
    lG := by rw [relabel_lt h.row.lt]; exact h.lG
    jn := JnT.of_lists h.jn (K.block Q.J (Jn.row h.jn).lt (by have := h.lJ.1; first | omega | exact id)) (K.block Q.M (Jn.miss h.jn).lt (by have := h.lJ.2.1; first | omega | exact id)) (K.block Q.A (Jn.ltA h.jn) (by have := h.lJ.2.2.1; first | omega | exact id)) (K.block Q.D (Jn.done h.jn).lt (by have := h.lJ.2.2.2; first | omega | exact id)) (fun k v b hk hv hb hlt => K.block b hlt (by have := (h.lA k v b hk hv hb).2; first | omega | exact id))
    lJ := ⟨by rw [relabel_lt (Jn.row h.jn).lt]; exact h.lJ.1, by rw [relabel_lt (Jn.miss h.jn).lt]; exact h.lJ.2.1, by rw [relabel_lt (Jn.ltA h.jn)]; exact h.lJ.2.2.1, by rw [relabel_lt (Jn.done h.jn).lt]; exact h.lJ.2.2.2⟩
    lA := h.lA.kc K (K.block Q.A (Jn.ltA h.jn) (by have := h.lJ.2.2.1; first | omega | exact id))
    sp := h.sp.of_blocks (K.block Q.Sb h.sp.lt (by have := h.lS.1; first | omega | exact id)) (fun k e => K.block k (h.sp.row.low e).2 (by have := h.lS.2 k e; first | omega | exact id))
    lS := ⟨by rw [relabel_lt h.sp.lt]; exact h.lS.1, fun k e => by rw [relabel_lt (h.sp.row.low e).2]; exact h.lS.2 k e⟩
    pk := h.pk.of_blocks (K.block Q.Kb h.pk.lt (by have := h.lK.1; first | omega | exact id)) (fun k e => K.block k (h.pk.row.low e).2 (by have := h.lK.2 k e; first | omega | exact id))
    lK := ⟨by rw [relabel_lt h.pk.lt]; exact h.lK.1, fun k e => by rw [relabel_lt (h.pk.row.low e).2]; exact h.lK.2 k e⟩
    hrow := h.hrow.of_block (K.block Q.HB h.hrow.lt (by have := h.lHB; first | omega | exact id))
    lHB := by rw [relabel_lt h.hrow.lt]; exact h.lHB
    hand := fun k hk => (h.hand k hk).of_blocks (K.block _ (h.hand k hk).row.lt (by have := (h.lH k hk).1; first | omega | exact id)) (K.block _ (h.hand k hk).ring.lt (by have := (h.lH k hk).2; first | omega | exact id))
    lH := fun k hk => ⟨by rw [relabel_lt (h.hand k hk).row.lt]; exact (h.lH k hk).1, by rw [relabel_lt (h.hand k hk).ring.lt]; exact (h.lH k hk).2⟩
    has := h.has.of_block (K.block Q.Mb h.has.lt (by have := h.lM; first | omega | exact id))
    lM := by rw [relabel_lt h.has.lt]; exact h.lM
    wrow := h.wrow.of_block (K.block Q.WB h.wrow.lt (by have := h.lW; first | omega | exact id))
    lW := by rw [relabel_lt h.wrow.lt]; exact h.lW
    far := fun k hk => by
      have h1 := h.far k hk
      have h2 := h.w1le
      exact ⟨h1.1, by rw [relabel_lt (by omega)]; exact h1.2.1, (K.block k (by omega) (by have := h1.2.1; first | omega | exact id)).trans h1.2.2⟩
    w1le := Nat.le_trans h.w1le K.size
    io := ⟨K.os.trans h.io.1, K.tape.trans h.io.2.1, K.output.trans h.io.2.2⟩ }
theorem Pg.setWk (h : Pg B G room hands ts g wk own Q w) (f : Nat → Int) (hf : w'.rowIs Q.WB 3 ts.length (fun k => .int .i64 (f k))) (K : Kc own (fun c => c = 2) w w') : Pg B G room hands ts g f (relabel own w.heap.size 2) Q w' := by
  exact {
    row := h.row.of_block (K.block G h.row.lt (by have := h.lG; first | omega | exact id))
    lG := by rw [relabel_lt h.row.lt]; exact h.lG
    jn := JnT.of_lists h.jn (K.block Q.J (Jn.row h.jn).lt (by have := h.lJ.1; first | omega | exact id)) (K.block Q.M (Jn.miss h.jn).lt (by have := h.lJ.2.1; first | omega | exact id)) (K.block Q.A (Jn.ltA h.jn) (by have := h.lJ.2.2.1; first | omega | exact id)) (K.block Q.D (Jn.done h.jn).lt (by have := h.lJ.2.2.2; first | omega | exact id)) (fun k v b hk hv hb hlt => K.block b hlt (by have := (h.lA k v b hk hv hb).2; first | omega | exact id))
    lJ := ⟨by rw [relabel_lt (Jn.row h.jn).lt]; exact h.lJ.1, by rw [relabel_lt (Jn.miss h.jn).lt]; exact h.lJ.2.1, by rw [relabel_lt (Jn.ltA h.jn)]; exact h.lJ.2.2.1, by rw [relabel_lt (Jn.done h.jn).lt]; exact h.lJ.2.2.2⟩
    lA := h.lA.kc K (K.block Q.A (Jn.ltA h.jn) (by have := h.lJ.2.2.1; first | omega | exact id))
    sp := h.sp.of_blocks (K.block Q.Sb h.sp.lt (by have := h.lS.1; first | omega | exact id)) (fun k e => K.block k (h.sp.row.low e).2 (by have := h.lS.2 k e; first | omega | exact id))
    lS := ⟨by rw [relabel_lt h.sp.lt]; exact h.lS.1, fun k e => by rw [relabel_lt (h.sp.row.low e).2]; exact h.lS.2 k e⟩
    pk := h.pk.of_blocks (K.block Q.Kb h.pk.lt (by have := h.lK.1; first | omega | exact id)) (fun k e => K.block k (h.pk.row.low e).2 (by have := h.lK.2 k e; first | omega | exact id))
    lK := ⟨by rw [relabel_lt h.pk.lt]; exact h.lK.1, fun k e => by rw [relabel_lt (h.pk.row.low e).2]; exact h.lK.2 k e⟩
    hrow := h.hrow.of_block (K.block Q.HB h.hrow.lt (by have := h.lHB; first | omega | exact id))
    lHB := by rw [relabel_lt h.hrow.lt]; exact h.lHB
    hand := fun k hk => (h.hand k hk).of_blocks (K.block _ (h.hand k hk).row.lt (by have := (h.lH k hk).1; first | omega | exact id)) (K.block _ (h.hand k hk).ring.lt (by have := (h.lH k hk).2; first | omega | exact id))
    lH := fun k hk => ⟨by rw [relabel_lt (h.hand k hk).row.lt]; exact (h.lH k hk).1, by rw [relabel_lt (h.hand k hk).ring.lt]; exact (h.lH k hk).2⟩
    has := h.has.of_block (K.block Q.Mb h.has.lt (by have := h.lM; first | omega | exact id))
    lM := by rw [relabel_lt h.has.lt]; exact h.lM
    wrow := hf
    lW := by rw [relabel_lt h.wrow.lt]; exact h.lW
    far := fun k hk => by
      have h1 := h.far k hk
      have h2 := h.w1le
      exact ⟨h1.1, by rw [relabel_lt (by omega)]; exact h1.2.1, (K.block k (by omega) (by have := h1.2.1; first | omega | exact id)).trans h1.2.2⟩
    w1le := Nat.le_trans h.w1le K.size
    io := ⟨K.os.trans h.io.1, K.tape.trans h.io.2.1, K.output.trans h.io.2.2⟩ }
theorem Pg.setHas (h : Pg B G room hands ts g wk own Q w) (f : Nat → Int) (hf : HasAt w' Q.Mb hands f) (K : Kc own (fun c => c = 3) w w') : Pg B G room hands ts { g with task := f } wk (relabel own w.heap.size 3) Q w' := by
  exact {
    row := h.row.of_block (K.block G h.row.lt (by have := h.lG; first | omega | exact id))
    lG := by rw [relabel_lt h.row.lt]; exact h.lG
    jn := JnT.of_lists h.jn (K.block Q.J (Jn.row h.jn).lt (by have := h.lJ.1; first | omega | exact id)) (K.block Q.M (Jn.miss h.jn).lt (by have := h.lJ.2.1; first | omega | exact id)) (K.block Q.A (Jn.ltA h.jn) (by have := h.lJ.2.2.1; first | omega | exact id)) (K.block Q.D (Jn.done h.jn).lt (by have := h.lJ.2.2.2; first | omega | exact id)) (fun k v b hk hv hb hlt => K.block b hlt (by have := (h.lA k v b hk hv hb).2; first | omega | exact id))
    lJ := ⟨by rw [relabel_lt (Jn.row h.jn).lt]; exact h.lJ.1, by rw [relabel_lt (Jn.miss h.jn).lt]; exact h.lJ.2.1, by rw [relabel_lt (Jn.ltA h.jn)]; exact h.lJ.2.2.1, by rw [relabel_lt (Jn.done h.jn).lt]; exact h.lJ.2.2.2⟩
    lA := h.lA.kc K (K.block Q.A (Jn.ltA h.jn) (by have := h.lJ.2.2.1; first | omega | exact id))
    sp := h.sp.of_blocks (K.block Q.Sb h.sp.lt (by have := h.lS.1; first | omega | exact id)) (fun k e => K.block k (h.sp.row.low e).2 (by have := h.lS.2 k e; first | omega | exact id))
    lS := ⟨by rw [relabel_lt h.sp.lt]; exact h.lS.1, fun k e => by rw [relabel_lt (h.sp.row.low e).2]; exact h.lS.2 k e⟩
    pk := h.pk.of_blocks (K.block Q.Kb h.pk.lt (by have := h.lK.1; first | omega | exact id)) (fun k e => K.block k (h.pk.row.low e).2 (by have := h.lK.2 k e; first | omega | exact id))
    lK := ⟨by rw [relabel_lt h.pk.lt]; exact h.lK.1, fun k e => by rw [relabel_lt (h.pk.row.low e).2]; exact h.lK.2 k e⟩
    hrow := h.hrow.of_block (K.block Q.HB h.hrow.lt (by have := h.lHB; first | omega | exact id))
    lHB := by rw [relabel_lt h.hrow.lt]; exact h.lHB
    hand := fun k hk => (h.hand k hk).of_blocks (K.block _ (h.hand k hk).row.lt (by have := (h.lH k hk).1; first | omega | exact id)) (K.block _ (h.hand k hk).ring.lt (by have := (h.lH k hk).2; first | omega | exact id))
    lH := fun k hk => ⟨by rw [relabel_lt (h.hand k hk).row.lt]; exact (h.lH k hk).1, by rw [relabel_lt (h.hand k hk).ring.lt]; exact (h.lH k hk).2⟩
    has := hf
    lM := by rw [relabel_lt h.has.lt]; exact h.lM
    wrow := h.wrow.of_block (K.block Q.WB h.wrow.lt (by have := h.lW; first | omega | exact id))
    lW := by rw [relabel_lt h.wrow.lt]; exact h.lW
    far := fun k hk => by
      have h1 := h.far k hk
      have h2 := h.w1le
      exact ⟨h1.1, by rw [relabel_lt (by omega)]; exact h1.2.1, (K.block k (by omega) (by have := h1.2.1; first | omega | exact id)).trans h1.2.2⟩
    w1le := Nat.le_trans h.w1le K.size
    io := ⟨K.os.trans h.io.1, K.tape.trans h.io.2.1, K.output.trans h.io.2.2⟩ }
theorem Pg.setPark (h : Pg B G room hands ts g wk own Q w) (z : List Int) (v : Value) (hz : Prk.Pk Q.Kb hands z v w') (hl : Lb (relabel own w.heap.size 4) 4 v) (K : Kc own (fun c => c = 4) w w') : Pg B G room hands ts { g with zz := z } wk (relabel own w.heap.size 4) { Q with vz := v } w' := by
  exact {
    row := h.row.of_block (K.block G h.row.lt (by have := h.lG; first | omega | exact id))
    lG := by rw [relabel_lt h.row.lt]; exact h.lG
    jn := JnT.of_lists h.jn (K.block Q.J (Jn.row h.jn).lt (by have := h.lJ.1; first | omega | exact id)) (K.block Q.M (Jn.miss h.jn).lt (by have := h.lJ.2.1; first | omega | exact id)) (K.block Q.A (Jn.ltA h.jn) (by have := h.lJ.2.2.1; first | omega | exact id)) (K.block Q.D (Jn.done h.jn).lt (by have := h.lJ.2.2.2; first | omega | exact id)) (fun k v b hk hv hb hlt => K.block b hlt (by have := (h.lA k v b hk hv hb).2; first | omega | exact id))
    lJ := ⟨by rw [relabel_lt (Jn.row h.jn).lt]; exact h.lJ.1, by rw [relabel_lt (Jn.miss h.jn).lt]; exact h.lJ.2.1, by rw [relabel_lt (Jn.ltA h.jn)]; exact h.lJ.2.2.1, by rw [relabel_lt (Jn.done h.jn).lt]; exact h.lJ.2.2.2⟩
    lA := h.lA.kc K (K.block Q.A (Jn.ltA h.jn) (by have := h.lJ.2.2.1; first | omega | exact id))
    sp := h.sp.of_blocks (K.block Q.Sb h.sp.lt (by have := h.lS.1; first | omega | exact id)) (fun k e => K.block k (h.sp.row.low e).2 (by have := h.lS.2 k e; first | omega | exact id))
    lS := ⟨by rw [relabel_lt h.sp.lt]; exact h.lS.1, fun k e => by rw [relabel_lt (h.sp.row.low e).2]; exact h.lS.2 k e⟩
    pk := hz
    lK := ⟨by rw [relabel_lt h.pk.lt]; exact h.lK.1, hl⟩
    hrow := h.hrow.of_block (K.block Q.HB h.hrow.lt (by have := h.lHB; first | omega | exact id))
    lHB := by rw [relabel_lt h.hrow.lt]; exact h.lHB
    hand := fun k hk => (h.hand k hk).of_blocks (K.block _ (h.hand k hk).row.lt (by have := (h.lH k hk).1; first | omega | exact id)) (K.block _ (h.hand k hk).ring.lt (by have := (h.lH k hk).2; first | omega | exact id))
    lH := fun k hk => ⟨by rw [relabel_lt (h.hand k hk).row.lt]; exact (h.lH k hk).1, by rw [relabel_lt (h.hand k hk).ring.lt]; exact (h.lH k hk).2⟩
    has := h.has.of_block (K.block Q.Mb h.has.lt (by have := h.lM; first | omega | exact id))
    lM := by rw [relabel_lt h.has.lt]; exact h.lM
    wrow := h.wrow.of_block (K.block Q.WB h.wrow.lt (by have := h.lW; first | omega | exact id))
    lW := by rw [relabel_lt h.wrow.lt]; exact h.lW
    far := fun k hk => by
      have h1 := h.far k hk
      have h2 := h.w1le
      exact ⟨h1.1, by rw [relabel_lt (by omega)]; exact h1.2.1, (K.block k (by omega) (by have := h1.2.1; first | omega | exact id)).trans h1.2.2⟩
    w1le := Nat.le_trans h.w1le K.size
    io := ⟨K.os.trans h.io.1, K.tape.trans h.io.2.1, K.output.trans h.io.2.2⟩ }
theorem Pg.setSp (h : Pg B G room hands ts g wk own Q w) (z : List Int) (v : Value) (hz : Spl.Sp Q.Sb room z v w') (hl : Lb (relabel own w.heap.size 6) 6 v) (K : Kc own (fun c => c = 6) w w') : Pg B G room hands ts { g with sp := z } wk (relabel own w.heap.size 6) { Q with vs := v } w' := by
  exact {
    row := h.row.of_block (K.block G h.row.lt (by have := h.lG; first | omega | exact id))
    lG := by rw [relabel_lt h.row.lt]; exact h.lG
    jn := JnT.of_lists h.jn (K.block Q.J (Jn.row h.jn).lt (by have := h.lJ.1; first | omega | exact id)) (K.block Q.M (Jn.miss h.jn).lt (by have := h.lJ.2.1; first | omega | exact id)) (K.block Q.A (Jn.ltA h.jn) (by have := h.lJ.2.2.1; first | omega | exact id)) (K.block Q.D (Jn.done h.jn).lt (by have := h.lJ.2.2.2; first | omega | exact id)) (fun k v b hk hv hb hlt => K.block b hlt (by have := (h.lA k v b hk hv hb).2; first | omega | exact id))
    lJ := ⟨by rw [relabel_lt (Jn.row h.jn).lt]; exact h.lJ.1, by rw [relabel_lt (Jn.miss h.jn).lt]; exact h.lJ.2.1, by rw [relabel_lt (Jn.ltA h.jn)]; exact h.lJ.2.2.1, by rw [relabel_lt (Jn.done h.jn).lt]; exact h.lJ.2.2.2⟩
    lA := h.lA.kc K (K.block Q.A (Jn.ltA h.jn) (by have := h.lJ.2.2.1; first | omega | exact id))
    sp := hz
    lS := ⟨by rw [relabel_lt h.sp.lt]; exact h.lS.1, hl⟩
    pk := h.pk.of_blocks (K.block Q.Kb h.pk.lt (by have := h.lK.1; first | omega | exact id)) (fun k e => K.block k (h.pk.row.low e).2 (by have := h.lK.2 k e; first | omega | exact id))
    lK := ⟨by rw [relabel_lt h.pk.lt]; exact h.lK.1, fun k e => by rw [relabel_lt (h.pk.row.low e).2]; exact h.lK.2 k e⟩
    hrow := h.hrow.of_block (K.block Q.HB h.hrow.lt (by have := h.lHB; first | omega | exact id))
    lHB := by rw [relabel_lt h.hrow.lt]; exact h.lHB
    hand := fun k hk => (h.hand k hk).of_blocks (K.block _ (h.hand k hk).row.lt (by have := (h.lH k hk).1; first | omega | exact id)) (K.block _ (h.hand k hk).ring.lt (by have := (h.lH k hk).2; first | omega | exact id))
    lH := fun k hk => ⟨by rw [relabel_lt (h.hand k hk).row.lt]; exact (h.lH k hk).1, by rw [relabel_lt (h.hand k hk).ring.lt]; exact (h.lH k hk).2⟩
    has := h.has.of_block (K.block Q.Mb h.has.lt (by have := h.lM; first | omega | exact id))
    lM := by rw [relabel_lt h.has.lt]; exact h.lM
    wrow := h.wrow.of_block (K.block Q.WB h.wrow.lt (by have := h.lW; first | omega | exact id))
    lW := by rw [relabel_lt h.wrow.lt]; exact h.lW
    far := fun k hk => by
      have h1 := h.far k hk
      have h2 := h.w1le
      exact ⟨h1.1, by rw [relabel_lt (by omega)]; exact h1.2.1, (K.block k (by omega) (by have := h1.2.1; first | omega | exact id)).trans h1.2.2⟩
    w1le := Nat.le_trans h.w1le K.size
    io := ⟨K.os.trans h.io.1, K.tape.trans h.io.2.1, K.output.trans h.io.2.2⟩ }
theorem Pg.setJoin (h : Pg B G room hands ts g wk own Q w) (S : Nat → Bool) (hj : JnT Q.J Q.M Q.A Q.D Q.C ts S w') (hs : SubA Q.A w w') (K : Kc own (fun c => c = 7) w w') : Pg B G room hands ts { g with S := S } wk (relabel own w.heap.size 7) Q w' := by
  exact {
    row := h.row.of_block (K.block G h.row.lt (by have := h.lG; first | omega | exact id))
    lG := by rw [relabel_lt h.row.lt]; exact h.lG
    jn := hj
    lJ := ⟨by rw [relabel_lt (Jn.row h.jn).lt]; exact h.lJ.1, by rw [relabel_lt (Jn.miss h.jn).lt]; exact h.lJ.2.1, by rw [relabel_lt (Jn.ltA h.jn)]; exact h.lJ.2.2.1, by rw [relabel_lt (Jn.done h.jn).lt]; exact h.lJ.2.2.2⟩
    lA := h.lA.sub K hs
    sp := h.sp.of_blocks (K.block Q.Sb h.sp.lt (by have := h.lS.1; first | omega | exact id)) (fun k e => K.block k (h.sp.row.low e).2 (by have := h.lS.2 k e; first | omega | exact id))
    lS := ⟨by rw [relabel_lt h.sp.lt]; exact h.lS.1, fun k e => by rw [relabel_lt (h.sp.row.low e).2]; exact h.lS.2 k e⟩
    pk := h.pk.of_blocks (K.block Q.Kb h.pk.lt (by have := h.lK.1; first | omega | exact id)) (fun k e => K.block k (h.pk.row.low e).2 (by have := h.lK.2 k e; first | omega | exact id))
    lK := ⟨by rw [relabel_lt h.pk.lt]; exact h.lK.1, fun k e => by rw [relabel_lt (h.pk.row.low e).2]; exact h.lK.2 k e⟩
    hrow := h.hrow.of_block (K.block Q.HB h.hrow.lt (by have := h.lHB; first | omega | exact id))
    lHB := by rw [relabel_lt h.hrow.lt]; exact h.lHB
    hand := fun k hk => (h.hand k hk).of_blocks (K.block _ (h.hand k hk).row.lt (by have := (h.lH k hk).1; first | omega | exact id)) (K.block _ (h.hand k hk).ring.lt (by have := (h.lH k hk).2; first | omega | exact id))
    lH := fun k hk => ⟨by rw [relabel_lt (h.hand k hk).row.lt]; exact (h.lH k hk).1, by rw [relabel_lt (h.hand k hk).ring.lt]; exact (h.lH k hk).2⟩
    has := h.has.of_block (K.block Q.Mb h.has.lt (by have := h.lM; first | omega | exact id))
    lM := by rw [relabel_lt h.has.lt]; exact h.lM
    wrow := h.wrow.of_block (K.block Q.WB h.wrow.lt (by have := h.lW; first | omega | exact id))
    lW := by rw [relabel_lt h.wrow.lt]; exact h.lW
    far := fun k hk => by
      have h1 := h.far k hk
      have h2 := h.w1le
      exact ⟨h1.1, by rw [relabel_lt (by omega)]; exact h1.2.1, (K.block k (by omega) (by have := h1.2.1; first | omega | exact id)).trans h1.2.2⟩
    w1le := Nat.le_trans h.w1le K.size
    io := ⟨K.os.trans h.io.1, K.tape.trans h.io.2.1, K.output.trans h.io.2.2⟩ }
theorem Pg.setHand (h : Pg B G room hands ts g wk own Q w) (j : Nat) (nr : Int) (xs : List Int) (hm : Hnd.Hd (Q.Hk j) (Q.Rk j) room nr xs w') (K : Kc own (fun c => c = 10 + j) w w') : Pg B G room hands ts { g with near := updG g.near j nr, ring := updG g.ring j xs } wk (relabel own w.heap.size (10 + j)) Q w' := by
  exact {
    row := h.row.of_block (K.block G h.row.lt (by have := h.lG; first | omega | exact id))
    lG := by rw [relabel_lt h.row.lt]; exact h.lG
    jn := JnT.of_lists h.jn (K.block Q.J (Jn.row h.jn).lt (by have := h.lJ.1; first | omega | exact id)) (K.block Q.M (Jn.miss h.jn).lt (by have := h.lJ.2.1; first | omega | exact id)) (K.block Q.A (Jn.ltA h.jn) (by have := h.lJ.2.2.1; first | omega | exact id)) (K.block Q.D (Jn.done h.jn).lt (by have := h.lJ.2.2.2; first | omega | exact id)) (fun k v b hk hv hb hlt => K.block b hlt (by have := (h.lA k v b hk hv hb).2; first | omega | exact id))
    lJ := ⟨by rw [relabel_lt (Jn.row h.jn).lt]; exact h.lJ.1, by rw [relabel_lt (Jn.miss h.jn).lt]; exact h.lJ.2.1, by rw [relabel_lt (Jn.ltA h.jn)]; exact h.lJ.2.2.1, by rw [relabel_lt (Jn.done h.jn).lt]; exact h.lJ.2.2.2⟩
    lA := h.lA.kc K (K.block Q.A (Jn.ltA h.jn) (by have := h.lJ.2.2.1; first | omega | exact id))
    sp := h.sp.of_blocks (K.block Q.Sb h.sp.lt (by have := h.lS.1; first | omega | exact id)) (fun k e => K.block k (h.sp.row.low e).2 (by have := h.lS.2 k e; first | omega | exact id))
    lS := ⟨by rw [relabel_lt h.sp.lt]; exact h.lS.1, fun k e => by rw [relabel_lt (h.sp.row.low e).2]; exact h.lS.2 k e⟩
    pk := h.pk.of_blocks (K.block Q.Kb h.pk.lt (by have := h.lK.1; first | omega | exact id)) (fun k e => K.block k (h.pk.row.low e).2 (by have := h.lK.2 k e; first | omega | exact id))
    lK := ⟨by rw [relabel_lt h.pk.lt]; exact h.lK.1, fun k e => by rw [relabel_lt (h.pk.row.low e).2]; exact h.lK.2 k e⟩
    hrow := h.hrow.of_block (K.block Q.HB h.hrow.lt (by have := h.lHB; first | omega | exact id))
    lHB := by rw [relabel_lt h.hrow.lt]; exact h.lHB
    hand := fun k hk => by
      by_cases e : k = j
      · subst e; simp only [updG_self]; exact hm
      · simp only [updG_ne _ _ e]; exact (h.hand k hk).of_blocks (K.block _ (h.hand k hk).row.lt (by rw [(h.lH k hk).1]; omega)) (K.block _ (h.hand k hk).ring.lt (by rw [(h.lH k hk).2]; omega))
    lH := fun k hk => ⟨by rw [relabel_lt (h.hand k hk).row.lt]; exact (h.lH k hk).1, by rw [relabel_lt (h.hand k hk).ring.lt]; exact (h.lH k hk).2⟩
    has := h.has.of_block (K.block Q.Mb h.has.lt (by have := h.lM; first | omega | exact id))
    lM := by rw [relabel_lt h.has.lt]; exact h.lM
    wrow := h.wrow.of_block (K.block Q.WB h.wrow.lt (by have := h.lW; first | omega | exact id))
    lW := by rw [relabel_lt h.wrow.lt]; exact h.lW
    far := fun k hk => by
      have h1 := h.far k hk
      have h2 := h.w1le
      exact ⟨h1.1, by rw [relabel_lt (by omega)]; exact h1.2.1, (K.block k (by omega) (by have := h1.2.1; first | omega | exact id)).trans h1.2.2⟩
    w1le := Nat.le_trans h.w1le K.size
    io := ⟨K.os.trans h.io.1, K.tape.trans h.io.2.1, K.output.trans h.io.2.2⟩ }
theorem Pg.away (h : Pg B G room hands ts g wk own Q w)  (K : Kc own (fun c => c = 9) w w') : Pg ⟨fun _ => False, w'⟩ G room hands ts g wk (relabel own w.heap.size 9) Q w' := by
  exact {
    row := h.row.of_block (K.block G h.row.lt (by have := h.lG; first | omega | exact id))
    lG := by rw [relabel_lt h.row.lt]; exact h.lG
    jn := JnT.of_lists h.jn (K.block Q.J (Jn.row h.jn).lt (by have := h.lJ.1; first | omega | exact id)) (K.block Q.M (Jn.miss h.jn).lt (by have := h.lJ.2.1; first | omega | exact id)) (K.block Q.A (Jn.ltA h.jn) (by have := h.lJ.2.2.1; first | omega | exact id)) (K.block Q.D (Jn.done h.jn).lt (by have := h.lJ.2.2.2; first | omega | exact id)) (fun k v b hk hv hb hlt => K.block b hlt (by have := (h.lA k v b hk hv hb).2; first | omega | exact id))
    lJ := ⟨by rw [relabel_lt (Jn.row h.jn).lt]; exact h.lJ.1, by rw [relabel_lt (Jn.miss h.jn).lt]; exact h.lJ.2.1, by rw [relabel_lt (Jn.ltA h.jn)]; exact h.lJ.2.2.1, by rw [relabel_lt (Jn.done h.jn).lt]; exact h.lJ.2.2.2⟩
    lA := h.lA.kc K (K.block Q.A (Jn.ltA h.jn) (by have := h.lJ.2.2.1; first | omega | exact id))
    sp := h.sp.of_blocks (K.block Q.Sb h.sp.lt (by have := h.lS.1; first | omega | exact id)) (fun k e => K.block k (h.sp.row.low e).2 (by have := h.lS.2 k e; first | omega | exact id))
    lS := ⟨by rw [relabel_lt h.sp.lt]; exact h.lS.1, fun k e => by rw [relabel_lt (h.sp.row.low e).2]; exact h.lS.2 k e⟩
    pk := h.pk.of_blocks (K.block Q.Kb h.pk.lt (by have := h.lK.1; first | omega | exact id)) (fun k e => K.block k (h.pk.row.low e).2 (by have := h.lK.2 k e; first | omega | exact id))
    lK := ⟨by rw [relabel_lt h.pk.lt]; exact h.lK.1, fun k e => by rw [relabel_lt (h.pk.row.low e).2]; exact h.lK.2 k e⟩
    hrow := h.hrow.of_block (K.block Q.HB h.hrow.lt (by have := h.lHB; first | omega | exact id))
    lHB := by rw [relabel_lt h.hrow.lt]; exact h.lHB
    hand := fun k hk => (h.hand k hk).of_blocks (K.block _ (h.hand k hk).row.lt (by have := (h.lH k hk).1; first | omega | exact id)) (K.block _ (h.hand k hk).ring.lt (by have := (h.lH k hk).2; first | omega | exact id))
    lH := fun k hk => ⟨by rw [relabel_lt (h.hand k hk).row.lt]; exact (h.lH k hk).1, by rw [relabel_lt (h.hand k hk).ring.lt]; exact (h.lH k hk).2⟩
    has := h.has.of_block (K.block Q.Mb h.has.lt (by have := h.lM; first | omega | exact id))
    lM := by rw [relabel_lt h.has.lt]; exact h.lM
    wrow := h.wrow.of_block (K.block Q.WB h.wrow.lt (by have := h.lW; first | omega | exact id))
    lW := by rw [relabel_lt h.wrow.lt]; exact h.lW
    far := fun _ hk => hk.elim
    w1le := Nat.le_refl _
    io := ⟨rfl, rfl, rfl⟩ }
/-- From here on. -/
theorem Pg.rebase (h : Pg B G room hands ts g wk own Q w) : Pg ⟨fun k => k < w.heap.size ∧ own k = 9, w⟩ G room hands ts g wk own Q w :=
  { h with far := fun _ hk => ⟨hk.1, hk.2, rfl⟩, w1le := Nat.le_refl _, io := ⟨rfl, rfl, rfl⟩ }
/-- What the program's gang's calls may change of what was there, and how labels are told on. -/
structure Went (own own' : Nat → Nat) (w w' : World) : Prop where
  os : w'.os = w.os
  tape : w'.tape = w.tape
  output : w'.output = w.output
  size : w.heap.size ≤ w'.heap.size
  block : ∀ k, k < w.heap.size → own k = 9 → w'.heap[k]? = w.heap[k]? ∧ own' k = 9
theorem Pg.went {own' : Nat → Nat} (h : Pg ⟨fun k => k < w.heap.size ∧ own k = 9, w⟩ G room hands ts g wk own' Q w') : Went own own' w w' :=
  ⟨h.io.1, h.io.2.1, h.io.2.2, h.w1le, fun k hk ho => ⟨(h.far k ⟨hk, ho⟩).2.2, (h.far k ⟨hk, ho⟩).2.1⟩⟩
theorem Pg.c (h : Pg B G room hands ts g wk own Q w) : w.cell? ⟨G, 0, none⟩ = some (.pointer (some ⟨Q.J, 0, none⟩)) ∧ w.cell? ⟨G, 1, none⟩ = some (.pointer (some ⟨Q.Sb, 0, none⟩)) ∧ w.cell? ⟨G, 2, none⟩ = some (.pointer (some ⟨Q.Kb, 0, none⟩)) ∧ w.cell? ⟨G, 3, none⟩ = some (.slice (some ⟨Q.HB, 0, none⟩) hands hands) ∧ w.cell? ⟨G, 4, none⟩ = some (.map (some Q.Mb)) ∧ w.cell? ⟨G, 5, none⟩ = some (.slice (some ⟨Q.WB, 0, none⟩) ts.length ts.length) := by
  refine ⟨?_, ?_, ?_, ?_, ?_, ?_⟩
  · have := h.row.cell (i := 0) (by omega)
    simpa [gangRow] using this
  · have := h.row.cell (i := 1) (by omega)
    simpa [gangRow] using this
  · have := h.row.cell (i := 2) (by omega)
    simpa [gangRow] using this
  · have := h.row.cell (i := 3) (by omega)
    simpa [gangRow] using this
  · have := h.row.cell (i := 4) (by omega)
    simpa [gangRow] using this
  · have := h.row.cell (i := 5) (by omega)
    simpa [gangRow] using this
theorem Pg.hc (h : Pg B G room hands ts g wk own Q w) {k : Nat} (hk : k < hands) : w.cell? ⟨Q.HB, k, none⟩ = some (.pointer (some ⟨Q.Hk k, 0, none⟩)) := h.hrow.cell hk
/-- What its parts' calls keep. -/
theorem Pg.kh (h : Pg B G room hands ts g wk own Q w) {j : Nat} (hj : j < hands) (hk : Hnd.Kh (Q.Hk j) (Q.Rk j) w w') : Kc own (fun c => c = 10 + j) w w' :=
  ⟨hk.os, hk.tape, hk.output, hk.size, fun k hlt hne => hk.block k hlt (fun e => hne (by rw [e]; exact (h.lH j hj).1)) (fun e => hne (by rw [e]; exact (h.lH j hj).2))⟩
theorem Pg.ks (h : Pg B G room hands ts g wk own Q w) (hk : Spl.Ks Q.Sb Q.vs.ownBlock w w') : Kc own (fun c => c = 6) w w' :=
  ⟨hk.os, hk.tape, hk.output, hk.size, fun k hlt hne => hk.block k hlt (fun e => hne (by rw [e]; exact h.lS.1)) (fun e => hne (h.lS.2 k e))⟩
theorem Pg.kp (h : Pg B G room hands ts g wk own Q w) (hk : Prk.Ks Q.Kb Q.vz.ownBlock w w') : Kc own (fun c => c = 4) w w' :=
  ⟨hk.os, hk.tape, hk.output, hk.size, fun k hlt hne => hk.block k hlt (fun e => hne (by rw [e]; exact h.lK.1)) (fun e => hne (h.lK.2 k e))⟩
theorem Pg.kj (h : Pg B G room hands ts g wk own Q w) (hk : Kx (fun k => k = Q.M ∨ k = Q.A ∨ k = Q.D) w w') : Kc own (fun c => c = 7) w w' :=
  ⟨hk.os, hk.tape, hk.output, hk.size, fun k hlt hne => hk.block k hlt (by
    rintro (e | e | e) <;> subst e
    · exact hne h.lJ.2.1
    · exact hne h.lJ.2.2.1
    · exact hne h.lJ.2.2.2)⟩
theorem Pg.nearS (h : Pg B G room hands ts g wk own Q w) {v : Value} (hn : Spl.Near w.heap.size Q.vs v) : Lb (relabel own w.heap.size 6) 6 v := Lb.near h.lS.2 (fun _ e => (h.sp.row.low e).2) hn
theorem Pg.nearZ (h : Pg B G room hands ts g wk own Q w) {v : Value} (hn : Prk.Near w.heap.size Q.vz v) : Lb (relabel own w.heap.size 4) 4 v := Lb.near h.lK.2 (fun _ e => (h.pk.row.low e).2) hn
end Go.Proofs.YtlfbdjeojgbniaaGreatDoor
