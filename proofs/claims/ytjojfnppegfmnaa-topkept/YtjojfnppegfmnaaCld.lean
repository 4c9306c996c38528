/- The contracts of slices.IndexFunc at cells, of first, and of do. -/
import Derived.Test.YtjojfnppegfmnaaClc
namespace Go.Proofs.Ytjojfnppegfmnaa
open Go.RowKit Go.Deep

/-- The first cell that is no fault. -/
def FirstIs (cs : List Cl) (r : Int) : Prop :=
  (∃ k : Nat, r = k ∧ k < cs.length ∧ fltC cs k = false ∧ ∀ j, j < k → fltC cs j = true) ∨ (r = -1 ∧ ∀ j, j < cs.length → fltC cs j = true)
theorem firstC_hit (n : Int) : ∀ (cs : List Cl) (k : Nat), k < cs.length → fltC cs k = false → (∀ j, j < k → fltC cs j = true) → firstC n cs = (numC cs k, false) := by
  intro cs
  induction cs with
  | nil => intro k hk; simp at hk
  | cons c r ih =>
    intro k hk hf hj
    rw [firstC]
    cases k with
    | zero =>
      have hc : c.2 = false := hf
      rw [hc, if_neg (by simp)]
      exact Prod.ext rfl hc
    | succ k =>
      have hc : c.2 = true := hj 0 (by omega)
      rw [if_pos hc]
      exact ih k (by simpa using hk) hf (fun j h => hj (j + 1) (by omega))
theorem firstC_miss (n : Int) : ∀ (cs : List Cl), (∀ j, j < cs.length → fltC cs j = true) → firstC n cs = (n, false) := by
  intro cs
  induction cs with
  | nil => intro _; rfl
  | cons c r ih =>
    intro hj
    have hc : c.2 = true := hj 0 (by simp)
    rw [firstC, if_pos hc]
    exact ih (fun j h => hj (j + 1) (by simpa using h))

theorem entersF : ∀ args w, (callFunc 60 args).run Try.prog w = .ok (.enter 60 args) w := enters_of Try.func60 (by kernel_rfl) rfl
theorem noFault_any (n : Int) (f : Bool) (w : World) : Calls Try.prog 60 #[.agg #[.int .i64 n, .bool f]] w fun e w' => e = .returned (.bool (!f)) ∧ Below w.heap.size w w' := by
  have HB : Hid (Below w.heap.size w (w.alloc (.cells #[.int .i64 n, .bool f] 64))) := (Below.refl _ _).alloc (Nat.le_refl _) _
  go_enter Try.func60, Try.ntmps60
  go_wp2
  go_ret
  exact ⟨rfl, HB.out⟩

set_option maxRecDepth 100000 in
set_option maxHeartbeats 1000000 in
theorem indexC_any (v : Value) (cs : List Cl) (w : World) (hc : CellsAt w v cs) :
    Calls Try.prog 59 #[v, .func (.func 60) #[] #[]] w fun e w' => (∃ r, e = .returned (.int .i64 r) ∧ FirstIs cs r) ∧ Below w.heap.size w w' := by
  obtain ⟨hl, a, c, rfl, hc⟩ := hc
  have ef := entersF
  go_enter Try.func59, Try.ntmps59
  go_wp2
  go_loopw [8] (fun s8 wr => ∃ k : Nat, k ≤ cs.length ∧ s8 = .int .i64 k ∧ Hid (∀ j, j < k → fltC cs j = true) ∧ Below w.heap.size w wr) (fun s8 _ => cs.length - (intOf s8).toNat)
  case atStart => exact ⟨0, Nat.zero_le _, rfl, fun j hj => by omega, Below.refl _ _⟩
  case round =>
    obtain ⟨k, hk, rfl, hno, hb⟩ := hrel
    by_cases hkl : k < cs.length
    · rcases hc with rfl | ⟨b, o, rfl, hbl, hc⟩
      · simp at hkl
      obtain ⟨hc1, hc2⟩ := hc k hkl
      have hc1' := (hb.cell (p := ⟨b, o + k * 2, none⟩) hbl).trans hc1
      have hc2' := (hb.cell (p := ⟨b, o + k * 2 + 1, none⟩) hbl).trans hc2
      clear hc hc1 hc2
      have hcall := noFault_any (numC cs k) (fltC cs k) wr
      generalize numC cs k = x at *
      cases hf : fltC cs k
      · have HF : Hid (FirstIs cs k) := Or.inl ⟨k, rfl, hkl, hf, hno.out⟩
        rw [hf] at hcall hc2'
        clear hf hno
        go_wp2_with (go_at_fn 60; refine hcall.mono ?_; rintro e w2 ⟨rfl, hb2⟩)
        go_ret
        exact ⟨⟨_, rfl, HF.out⟩, hb.trans (hb2.mono hb.size)⟩
      · have HF : Hid (∀ j, j < k + 1 → fltC cs j = true) := fun j hj => by
          by_cases e : j = k
          · rw [e]; exact hf
          · exact hno.out j (by omega)
        rw [hf] at hcall hc2'
        clear hf hno
        go_wp2_with (go_at_fn 60; refine hcall.mono ?_; rintro e w2 ⟨rfl, hb2⟩)
        go_roundw
        case rel => exact ⟨k + 1, by omega, by go_num, HF, hb.trans (hb2.mono hb.size)⟩
        case measure => simp [intOf]; omega
    · clear hc
      have HF : Hid (FirstIs cs (-1)) := Or.inr ⟨rfl, fun j hj => hno.out j (by omega)⟩
      go_wp2
      go_ret
      exact ⟨⟨_, rfl, HF.out⟩, hb⟩

set_option maxRecDepth 100000 in
set_option maxHeartbeats 1000000 in
theorem first_any (n : Int) (v : Value) (cs : List Cl) (w : World) (hc : CellsAt w v cs) :
    Calls Try.prog 48 #[.int .i64 n, v] w fun e w' => e = .returned (clV (firstC n cs)) ∧ Below w.heap.size w w' := by
  have hb0 : Below w.heap.size w (w.alloc (.cells #[.int .i64 0, .bool false] 64)) := (Below.refl _ _).alloc (Nat.le_refl _) _
  have hix := indexC_any v cs _ (hc.later hb0)
  have HC : Hid (CellsAt w v cs) := hc
  have HB : Hid (Below w.heap.size w (w.alloc (.cells #[.int .i64 0, .bool false] 64))) := hb0
  have HK : Hid ((w.alloc (.cells #[.int .i64 0, .bool false] 64)).heap[w.heap.size]? = some (.cells #[.int .i64 0, .bool false] 64 (0, 0))) := new_pair w _ _ _
  obtain ⟨hl, a, c, rfl, hc⟩ := hc
  clear hc hb0
  go_enter Try.func48, Try.ntmps48
  go_wp2_with fail
  refine hix.mono ?_
  rintro e w1 ⟨⟨r, rfl, hF⟩, hb1⟩
  have hsz : w.heap.size < w1.heap.size := by have := hb1.size; simp at this; omega
  have hblk : w1.heap[w.heap.size]? = some (.cells #[.int .i64 0, .bool false] 64 (0, 0)) := (hb1.block _ (by simp)).trans HK.out
  obtain ⟨q0, q1, qf⟩ := pair_cells hblk
  have qf0 := qf 0
  have qf1 := qf 1
  have hbw : Below w.heap.size w w1 := HB.out.trans (hb1.mono (by simp))
  have HBW : Hid (Below w.heap.size w w1) := hbw
  have HK1 : Hid (w1.heap[w.heap.size]? = some (.cells #[.int .i64 0, .bool false] 64 (0, 0))) := hblk
  clear hix hb1 hblk qf HK HB
  rcases hF with ⟨k, rfl, hk, hf, hj⟩ | ⟨rfl, hj⟩
  · have HE : Hid (firstC n cs = (numC cs k, false)) := firstC_hit n cs k hk hf hj
    obtain ⟨_, _, _, hva, hcc⟩ := HC.out.later hbw
    cases hva
    rcases hcc with rfl | ⟨b, o, rfl, hbl, hcc⟩
    · simp at hk
    obtain ⟨hc1, hc2⟩ := hcc k hk
    rw [hf] at hc2
    clear hcc HC hf hj hbw
    generalize numC cs k = x at *
    go_wp2
    obtain ⟨r0, r1, _⟩ := pair_cells (setP_block HK1.out (.int .i64 x) (.bool false))
    refine cell_ret rfl r0 r1 rfl rfl ⟨?_, (HBW.out.setCell (p := ⟨w.heap.size, 0, none⟩) (Nat.le_refl _) _).setCell (p := ⟨w.heap.size, 1, none⟩) (Nat.le_refl _) _⟩
    rw [HE.out]; rfl
  · have HE : Hid (firstC n cs = (n, false)) := firstC_miss n cs hj
    clear hj HC hbw
    go_wp2
    obtain ⟨r0, r1, _⟩ := pair_cells (setP_block HK1.out (.int .i64 n) (.bool false))
    refine cell_ret rfl r0 r1 rfl rfl ⟨?_, (HBW.out.setCell (p := ⟨w.heap.size, 0, none⟩) (Nat.le_refl _) _).setCell (p := ⟨w.heap.size, 1, none⟩) (Nat.le_refl _) _⟩
    rw [HE.out]; rfl
end Go.Proofs.Ytjojfnppegfmnaa
