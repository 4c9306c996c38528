/- Both hands between two steps: the program's and the document's. -/
import Derived.Test.YtiiaocjknpbenaaDoorL
import Derived.Test.YtiiaocjknpbenaaDoorI
namespace Go.Proofs.YtiiaocjknpbenaaDoor
open Go.RowKit Go.Deep

/-- Between two steps: both hands have the same. -/
structure PM (H R M room : Nat) (nr : Int) (xs : List Int) (v : Value) (w wr : World) : Prop where
  hand : Hd H R room nr xs wr
  doc : Mh M room nr xs v wr
  below : Below w.heap.size w wr
  bH : w.heap.size ≤ H
  bR : w.heap.size ≤ R
  hM : H < M
  rM : R < M
section
variable {H R M room : Nat} {nr nr' : Int} {xs xs' : List Int} {v v' : Value} {w wr w1 w2 : World}
theorem PM.hand1 (h : PM H R M room nr xs v w wr) (hb : Below M wr w1) : Hd H R room nr xs w1 := h.hand.of_blocks (hb.block _ h.hM) (hb.block _ h.rM)
theorem PM.below1 (h : PM H R M room nr xs v w wr) (hb : Below M wr w1) : Below w.heap.size w w1 := h.below.trans (hb.mono (by have := h.bH; have := h.hM; omega))
theorem PM.step (h : PM H R M room nr xs v w wr) (hb : Below M wr w1) (hd : Mh M room nr' xs' v' w1) (hh : Hd H R room nr' xs' w2) (hk : Kh H R w1 w2) : PM H R M room nr' xs' v' w w2 := by
  have h1 := h.hM
  have h2 := h.rM
  have hs := (h.below1 hb).size
  exact ⟨hh, hd.of_blocks (hk.block M hd.lt (by omega) (by omega)) (fun k e => by have := hd.row.low e; exact hk.block k this.2 (by omega) (by omega)), (h.below1 hb).trans (hk.below h.bH h.bR hs), h.bH, h.bR, h1, h2⟩
theorem PM.later (h : PM H R M room nr xs v w wr) (hb : Below wr.heap.size wr w1) : PM H R M room nr xs v w w1 :=
  ⟨h.hand.of_blocks (hb.block _ h.hand.row.lt) (hb.block _ h.hand.ring.lt), h.doc.later hb, h.below.trans (hb.mono h.below.size), h.bH, h.bR, h.hM, h.rM⟩
theorem PM.want (h : PM H R M room nr xs v w wr) {ov : Value} {o : List Int} (hr : Rds (fun k => M < k) w1 ov o) (hk : Kh H R w1 w2) : Rds (fun k => M < k) w2 ov o :=
  hr.of_blocks hk.size (fun b hb hl => by have := h.hM; have := h.rM; exact hk.block b hl (by omega) (by omega))
end
theorem RowZ.rds {B : Nat} {w : World} {v : Value} {xs : List Int} (h : RowZ B w v xs) : Rds (fun _ => True) w v xs := by
  obtain ⟨b, c, hv, hcap, hb, hl, hc⟩ := h
  exact ⟨_, c, hv, hcap, fun k hk => ⟨b, 0, rfl, trivial, hl, by rw [Nat.zero_add]; exact hc k hk⟩⟩
theorem OutZ.rds {B : Nat} {w : World} {v : Value} {xs : List Int} (h : OutZ B w v xs) : Rds (fun _ => True) w v xs := by
  rcases h with ⟨rfl, rfl⟩ | h
  · exact Rds.nil _ _
  · exact h.rds

theorem err_ok (w : World) (hg : Typed w) : Calls Tryd.prog 5 #[.nilIface, .int .i64 0] w fun ev w' => ev = .returned (.bool true) ∧ Below w.heap.size w w' := error_any 0 0 w hg
theorem err_is (q : Int) (hq : q ≠ 0) (w : World) (hg : Typed w) : Calls Tryd.prog 5 #[errV q, .int .i64 q] w fun ev w' => ev = .returned (.bool true) ∧ Below w.heap.size w w' := by
  have := error_any q q w hg
  rw [errQ_some hq] at this
  simpa [errV] using this
theorem nil_or_snoc (xs : List Int) : xs = [] ∨ ∃ ys x, xs = ys ++ [x] := by
  rcases List.eq_nil_or_concat xs with h | ⟨ys, x, h⟩
  · exact Or.inl h
  · exact Or.inr ⟨ys, x, by rw [h]; simp⟩
theorem putO_le {room : Nat} {nr : Int} {xs : List Int} (h : xs.length ≤ 16) : (putO room nr xs).length ≤ 100 := by
  unfold putO
  split
  · simp
  · simp; omega
end Go.Proofs.YtiiaocjknpbenaaDoor
