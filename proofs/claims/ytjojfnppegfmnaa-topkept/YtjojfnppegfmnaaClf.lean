/- The contracts of checkOps and of Do. -/
import Derived.Test.YtjojfnppegfmnaaCle
namespace Go.Proofs.Ytjojfnppegfmnaa
open Go.RowKit Go.Deep

theorem firstBad_at {α : Type} (f : α → Int) (d : α) : ∀ (l : List α) (k : Nat), k < l.length → (∀ j, j < k → f (l.getD j d) = 0) → f (l.getD k d) ≠ 0 → firstBad f l = f (l.getD k d) := by
  intro l
  induction l with
  | nil => intro k hk; simp at hk
  | cons a r ih =>
    intro k hk hj hf
    rw [firstBad]
    cases k with
    | zero => exact if_neg hf
    | succ k =>
      have h0 : f a = 0 := hj 0 (by omega)
      rw [if_pos h0]
      exact ih k (by simpa using hk) (fun j h => hj (j + 1) (by omega)) hf
theorem firstBad_none {α : Type} (f : α → Int) (d : α) (l : List α) (h : ∀ j, j < l.length → f (l.getD j d) = 0) : firstBad f l = 0 := by
  refine firstBad_zero.2 fun x hx => ?_
  obtain ⟨j, hj, rfl⟩ := List.getElem_of_mem hx
  have := h j hj
  rw [List.getD_eq_getElem?_getD, List.getElem?_eq_getElem hj] at this
  exact this
/-- What is wrong with the ops of so many tasks. -/
def opsErr (n : Nat) (os : List Opn) : Int := if os.length = n then firstBad opErr os else 3

set_option maxRecDepth 100000 in
set_option maxHeartbeats 1000000 in
theorem checkOps_any (pv ov : Value) (ts : List (Int × List Int)) (os : List Opn) (w : World) (hp : PlanAt w pv ts) (ho : OpsAt w ov os) :
    Calls Try.prog 18 #[pv, ov] w fun e w' => e = .returned (errV (opsErr ts.length os)) ∧ Below w.heap.size w w' := by
  obtain ⟨hpl, pa, pc, rfl, _⟩ := hp
  obtain ⟨hl, a, c, rfl, ho⟩ := ho
  generalize ts.length = m at *
  by_cases hn : os.length = m
  · subst hn
    have HN : Hid (opsErr os.length os = firstBad opErr os) := by show _ = _; unfold opsErr; rw [if_pos rfl]
    go_enter Try.func18, Try.ntmps18
    go_wp2
    go_loopw [16] (fun s16 wr => ∃ k : Nat, k ≤ os.length ∧ s16 = .int .i64 k ∧ Below w.heap.size w wr ∧ Hid (∀ j, j < k → opErr (os.getD j (0, 0)) = 0)) (fun s16 _ => os.length - (intOf s16).toNat)
    case atStart => exact ⟨0, Nat.zero_le _, rfl, Below.refl _ _, fun j hj => by omega⟩
    case round =>
      obtain ⟨k, hk, rfl, hb, hno⟩ := hrel
      by_cases hkl : k < os.length
      · rcases ho with rfl | ⟨b, o, rfl, hbl, hc⟩
        · simp at hkl
        obtain ⟨hc1, hc2⟩ := hc k hkl
        have hc1' := (hb.cell (p := ⟨b, o + k * 2, none⟩) hbl).trans hc1
        have hc2' := (hb.cell (p := ⟨b, o + k * 2 + 1, none⟩) hbl).trans hc2
        clear hc hc1 hc2
        have hck := checkOp_any (whtO os k) (numO os k) (wr.alloc (.cells #[.int .i64 (whtO os k), .int .i64 (numO os k)] 78))
        have hbA : Below w.heap.size w (wr.alloc (.cells #[.int .i64 (whtO os k), .int .i64 (numO os k)] 78)) := hb.alloc hb.size _
        have HO : Hid (opErr (os.getD k (0, 0)) = opErr (whtO os k, numO os k)) := rfl
        have hbz : (wr.alloc (.cells #[.int .i64 (whtO os k), .int .i64 (numO os k)] 78)).heap.size = wr.heap.size + 1 := by simp
        generalize whtO os k = x at *
        generalize numO os k = y at *
        by_cases hq : opErr (x, y) = 0
        · have HF : Hid (∀ j, j < k + 1 → opErr (os.getD j (0, 0)) = 0) := fun j hj => by
            by_cases e : j = k
            · rw [e, HO.out]; exact hq
            · exact hno.out j (by omega)
          rw [hq, errV_zero] at hck
          clear hq hno HO
          go_wp2_with (go_at_call 32; refine hck.mono ?_; rintro e w2 ⟨rfl, hb2⟩)
          go_roundw
          case rel => exact ⟨k + 1, by omega, by go_num, hbA.trans (hb2.mono hbA.size), HF⟩
          case measure => simp [intOf]; omega
        · have HF : Hid (∀ u, u = errV (opErr (x, y)) → u = errV (opsErr os.length os)) := fun u hu => by
            rw [hu, HN.out, firstBad_at opErr (0, 0) os k hkl hno.out (by rw [HO.out]; exact hq), HO.out]
          rw [errV_some hq] at hck HF
          clear hq hno HO
          generalize opErr (x, y) = q at *
          go_wp2_with (go_at_call 32; refine hck.mono ?_; rintro e w2 ⟨rfl, hb2⟩)
          go_ret
          exact ⟨by rw [← HF.out _ rfl]; rfl, hbA.trans (hb2.mono hbA.size)⟩
      · clear ho
        have HF : Hid (opsErr os.length os = 0) := HN.out.trans (firstBad_none opErr (0, 0) os (fun j hj => hno.out j (by omega)))
        go_wp2
        go_ret
        exact ⟨by rw [HF.out]; rfl, hb⟩
  · have HN : Hid (opsErr m os = 3) := by show _ = _; unfold opsErr; rw [if_neg hn]
    have hni : ((os.length : Int) == (m : Int)) = false := by simp; omega
    clear ho hn
    go_enter Try.func18, Try.ntmps18
    go_wp2
    go_ret
    exact ⟨by rw [HN.out]; rfl, Below.refl _ _⟩
end Go.Proofs.Ytjojfnppegfmnaa
