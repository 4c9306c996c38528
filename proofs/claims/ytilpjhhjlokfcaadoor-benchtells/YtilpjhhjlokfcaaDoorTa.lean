/- The document's own Work; and a row that is filled while all else stays. -/
import Derived.Test.YtilpjhhjlokfcaaDoorDg
import Derived.Test.YtilpjhhjlokfcaaDoorRa
namespace Go.Proofs.YtilpjhhjlokfcaaDoor
open Go.RowKit Go.Deep

/-- A row of numbers in block N; every other block that was there stays as it was. -/
structure RMem (N n : Nat) (w1 wr : World) (f : Nat → Int) : Prop where
  row : wr.rowIs N 3 n (intRow f)
  below : Below N w1 wr
  blk : ∀ k, k < w1.heap.size → k ≠ N → wr.heap[k]? = w1.heap[k]?
theorem RMem.cell {N n : Nat} {w1 wr : World} {f : Nat → Int} (h : RMem N n w1 wr f) {p : Addr} (hp : p.block < w1.heap.size) (hN : p.block ≠ N) : wr.cell? p = w1.cell? p := World.cell?_of_block (h.blk p.block hp hN)
theorem RMem.trans {N n : Nat} {w1 w2 wr : World} {f g : Nat → Int} (h : RMem N n w1 w2 f) (k : RMem N n w2 wr g) : RMem N n w1 wr g :=
  ⟨k.row, h.below.trans k.below, fun j hj hN => (k.blk j (Nat.lt_of_lt_of_le hj h.below.size) hN).trans (h.blk j hj hN)⟩
theorem RMem.start {N n : Nat} {w : World} {f : Nat → Int} (h : w.rowIs N 3 n (intRow f)) : RMem N n w w f := ⟨h, Below.refl _ _, fun _ _ _ => rfl⟩
theorem RMem.alloc {N n : Nat} {w1 wr : World} {f : Nat → Int} (h : RMem N n w1 wr f) (o : Obj) : RMem N n w1 (wr.alloc o) f :=
  ⟨h.row.alloc o, h.below.alloc (Nat.le_of_lt h.row.lt) o, fun k hk hN => (blk_alloc_lt _ _ _ (Nat.lt_of_lt_of_le hk h.below.size)).trans (h.blk k hk hN)⟩
theorem RMem.set {N n x : Nat} {w1 wr : World} {f : Nat → Int} (h : RMem N n w1 wr f) (v : Int) : RMem N n w1 (wr.setCell ⟨N, x, none⟩ (.int .i64 v)) (upd f x v) :=
  ⟨row_upd h.row, h.below.setCell (p := ⟨N, x, none⟩) (Nat.le_refl _) _, fun k hk hN => (Below.heap_setCell wr ⟨N, x, none⟩ (.int .i64 v) k (by show k ≠ N; exact hN)).trans (h.blk k hk hN)⟩
theorem RMem.drew {N n : Nat} {w1 wr : World} {f : Nat → Int} (h : RMem N n w1 wr f) : RMem N n w1 wr.drew f := ⟨h.row.drew, h.below.drew, h.blk⟩
theorem RMem.drewN {N n : Nat} {w1 wr : World} {f : Nat → Int} (h : RMem N n w1 wr f) (q : Nat) : RMem N n w1 (wr.drewN q) f := ⟨h.row.of_block rfl, below_drewN h.below q, h.blk⟩

set_option maxRecDepth 100000 in
set_option maxHeartbeats 2000000 in
theorem workR_any (v : Value) (ts : List (Int × List Int)) (w : World) (hp : PlanAt w v ts) (hck : CheckIs ts 0 0) :
    Calls Tryd.prog 12 #[v] w fun e w' => e = .returned (.int .i64 (workTo ts ts.length)) ∧ Below w.heap.size w w' := by
  obtain ⟨hl, a, c, rfl, hpc⟩ := hp
  obtain ⟨-, h30, herr, _⟩ := hck.ok rfl
  have HW : Hid (∀ x, x < ts.length → 1 ≤ wkOf ts x ∧ wkOf ts x ≤ 20) := fun x hx => wkOf_right (herr x hx)
  clear herr hck
  go_enter Tryd.func12, Tryd.ntmps12
  go_wp2
  go_loopw [3, 4] (fun s3 s4 wr => ∃ k : Nat, k ≤ ts.length ∧ s4 = .int .i64 k ∧ s3 = .int .i64 (workTo ts k) ∧ Below w.heap.size w wr) (fun _ s4 _ => ts.length - (intOf s4).toNat)
  case atStart => exact ⟨0, Nat.zero_le _, rfl, rfl, Below.refl _ _⟩
  case round =>
    obtain ⟨k, hk, rfl, rfl, hB⟩ := hrel
    by_cases hkl : k < ts.length
    · rcases hpc with rfl | ⟨b, o, rfl, hbl, hc⟩
      · simp at hkl
      have hc1' := (hB.cell (p := ⟨b, o + k * 2, none⟩) hbl).trans (hc k hkl).1
      have hbd := workTo_bound HW.out k hk
      have hwk := HW.out k hkl
      have HE : Hid (workTo ts (k + 1) = workTo ts k + (ts.getD k (0, [])).1) := rfl
      unfold wkOf at hwk
      clear hc
      generalize workTo ts k = sm at *
      generalize (ts.getD k (0, [])).1 = wk at *
      go_wp2
      go_roundw
      case rel => exact ⟨k + 1, by omega, by go_num, by rw [HE.out], hB⟩
      case measure => simp [intOf]; omega
    · have hke : k = ts.length := by omega
      subst hke
      clear hpc
      go_wp2
      go_ret
      exact ⟨rfl, hB⟩
end Go.Proofs.YtilpjhhjlokfcaaDoor
