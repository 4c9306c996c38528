/- Between two steps of SpillPlays: the program's spill and the document's have the same. -/
import Derived.Test.YtpmmnkacbebfhaaDoorK
import Derived.Test.YtpmmnkacbebfhaaDoorF
namespace Go.Proofs.YtpmmnkacbebfhaaDoor
open Go.RowKit Go.Deep

theorem Rds.later {A : Nat → Prop} {w w' : World} {v : Value} {xs : List Int} (h : Rds A w v xs) (hb : Below w.heap.size w w') : Rds A w' v xs := h.of_blocks hb.size (fun b _ hw => hb.block b hw)

structure PM (S M room : Nat) (xs : List Int) (v vf vh : Value) (w wr : World) : Prop where
  sp : Sp S room xs v wr
  md : Md M room xs vf vh wr
  notM : v.ownBlock ≠ some M
  apf : Apart v vf
  aph : Apart v vh
  SM : S < M
  wS : w.heap.size ≤ S
  below : Below w.heap.size w wr
theorem PM.later {S M room : Nat} {xs : List Int} {v vf vh : Value} {w wr w' : World} (h : PM S M room xs v vf vh w wr) (hb : Below wr.heap.size wr w') : PM S M room xs v vf vh w w' :=
  ⟨h.sp.later hb, h.md.later hb, h.notM, h.apf, h.aph, h.SM, h.wS, h.below.trans (hb.mono h.below.size)⟩
theorem Apart.near {n n' : Nat} {v v' vf vf' : Value} {wr : World} {b : Nat} {xs : List Int} (h : Apart v vf) (hv : RowI b wr v xs) (hn : n = wr.heap.size) (h1 : Near n vf vf') (hf' : ∀ k, vf'.ownBlock = some k → k < n') (h2 : Near n' v v') : Apart v' vf' := by
  intro k e1 e2
  rcases h2 k e1 with h3 | h3
  · rcases h1 k e2 with h4 | h4
    · exact h k h3 h4
    · have := (hv.low h3).2
      omega
  · have := hf' k e2
    omega
/-- Both are asked for the first ones. -/
theorem PM.got {S M room n : Nat} {xs : List Int} {v vf vh v' vf' vh' ov : Value} {w wr w1 w2 : World} (h : PM S M room xs v vf vh w wr) (hmd : Md M room (xs.drop n) vf' vh' w1) (hk : Kx (fun k => k = M) wr w1) (nf : Near wr.heap.size vf vf') (nh : Near wr.heap.size vh vh')
    (ho : Rds (fun b => wr.heap.size ≤ b) w1 ov (xs.take n)) (hsp : Sp S room (xs.drop n) v' w2) (hk2 : Ks S v.ownBlock w1 w2) (nv : Near w1.heap.size v v') : PM S M room (xs.drop n) v' vf' vh' w w2 ∧ Rds (fun b => wr.heap.size ≤ b) w2 ov (xs.take n) := by
  have hlt : ∀ k, v.ownBlock = some k → k < wr.heap.size := fun k e => (h.sp.row.low e).2
  have hMl := h.md.lt
  have hsz := hk.size
  have hSM := h.SM
  have hwS := h.wS
  have hSl := h.sp.lt
  have hf : ∀ k, vf'.ownBlock = some k → v.ownBlock ≠ some k := fun k e e2 => by
    rcases nf k e with h1 | h1
    · exact h.apf k e2 h1
    · have := hlt k e2; omega
  have hh : ∀ k, vh'.ownBlock = some k → v.ownBlock ≠ some k := fun k e e2 => by
    rcases nh k e with h1 | h1
    · exact h.aph k e2 h1
    · have := hlt k e2; omega
  refine ⟨⟨hsp, hmd.of_blocks (hk2.block M hmd.lt (by omega) h.notM) (fun k e => hk2.block k (hmd.f.low e).2 (by have := (hmd.f.low e).1; omega) (hf k e)) (fun k e => hk2.block k (hmd.h.low e).2 (by have := (hmd.h.low e).1; omega) (hh k e)), fun e => ?_, h.apf.near h.sp.row rfl nf (fun k e => (hmd.f.low e).2) nv, h.aph.near h.sp.row rfl nh (fun k e => (hmd.h.low e).2) nv, hSM, hwS, ?_⟩, ?_⟩
  · rcases nv M e with h1 | h1
    · exact h.notM h1
    · omega
  · have b1 : Below w.heap.size wr w1 := hk.below (fun j e => by omega) (by omega)
    have b2 : Below w.heap.size w1 w2 := hk2.below hwS (fun j e => by have := (h.sp.row.low e).1; omega) (by omega)
    exact (h.below.trans b1).trans b2
  · exact ho.of_blocks hk2.size (fun b hb hw => hk2.block b hw (by omega) (fun e => by have := hlt b e; omega))
/-- A list is put into both. -/
theorem PM.put {S M room : Nat} {xs ys : List Int} {v vf vh v' vf' vh' : Value} {w wr w1 w2 : World} (h : PM S M room xs v vf vh w wr) (hp : PutM M room ys.length xs ys vf vh wr vf' vh' w1) (hsp : Sp S room (xs ++ ys) v' w2) (hk2 : Ks S v.ownBlock w1 w2) (nv : Near w1.heap.size v v') : PM S M room (xs ++ ys) v' vf' vh' w w2 := by
  have hlt : ∀ k, v.ownBlock = some k → k < wr.heap.size := fun k e => (h.sp.row.low e).2
  have hMl := h.md.lt
  have hsz := hp.kx.size
  have hSM := h.SM
  have hwS := h.wS
  have hSl := h.sp.lt
  have hmd := hp.md
  rw [List.take_length] at hmd
  have hf : ∀ k, vf'.ownBlock = some k → v.ownBlock ≠ some k := fun k e e2 => by
    rcases hp.nf k e with h1 | h1
    · exact h.apf k e2 h1
    · have := hlt k e2; omega
  have hh : ∀ k, vh'.ownBlock = some k → v.ownBlock ≠ some k := fun k e e2 => by
    rcases hp.nh k e with h1 | h1
    · exact h.aph k e2 h1
    · have := hlt k e2; omega
  refine ⟨hsp, hmd.of_blocks (hk2.block M hmd.lt (by omega) h.notM) (fun k e => hk2.block k (hmd.f.low e).2 (by have := (hmd.f.low e).1; omega) (hf k e)) (fun k e => hk2.block k (hmd.h.low e).2 (by have := (hmd.h.low e).1; omega) (hh k e)), fun e => ?_, h.apf.near h.sp.row rfl hp.nf (fun k e => (hmd.f.low e).2) nv, h.aph.near h.sp.row rfl hp.nh (fun k e => (hmd.h.low e).2) nv, hSM, hwS, ?_⟩
  · rcases nv M e with h1 | h1
    · exact h.notM h1
    · omega
  · have b1 : Below w.heap.size wr w1 := hp.kx.below (fun j e => by
      rcases e with e | e | e
      · omega
      · have := (h.md.f.low e).1; omega
      · have := (h.md.h.low e).1; omega) (by omega)
    have b2 : Below w.heap.size w1 w2 := hk2.below hwS (fun j e => by have := (h.sp.row.low e).1; omega) (by omega)
    exact (h.below.trans b1).trans b2
theorem PM.spGet {S M room : Nat} {xs : List Int} {v vf vh : Value} {w wr w1 : World} (h : PM S M room xs v vf vh w wr) (hk : Kx (fun k => k = M) wr w1) : Sp S room xs v w1 :=
  h.sp.of_blocks (hk.block S h.sp.lt (by have := h.SM; omega)) (fun k e => hk.block k (h.sp.row.low e).2 (fun e2 => h.notM (by rw [← e2]; exact e)))
theorem PM.spPut {S M room : Nat} {xs : List Int} {v vf vh : Value} {w wr w1 : World} (h : PM S M room xs v vf vh w wr) (hk : Kx (fun j => j = M ∨ vf.ownBlock = some j ∨ vh.ownBlock = some j) wr w1) : Sp S room xs v w1 := by
  have hSM := h.SM
  refine h.sp.of_blocks (hk.block S h.sp.lt ?_) (fun k e => hk.block k (h.sp.row.low e).2 ?_)
  · rintro (e | e | e)
    · omega
    · have := (h.md.f.low e).1; omega
    · have := (h.md.h.low e).1; omega
  · rintro (e2 | e2 | e2)
    · exact h.notM (by rw [← e2]; exact e)
    · exact h.apf k e e2
    · exact h.aph k e e2
end Go.Proofs.YtpmmnkacbebfhaaDoor
