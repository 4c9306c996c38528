/- The contracts of greedy.Long and greedy.Bound. -/
import Derived.Test.YtkcpimbhfmhjgaaPd
import Derived.Test.YtkcpimbhfmhjgaaDepb
namespace Go.Proofs.Ytkcpimbhfmhjgaa
open Go.RowKit Go.Deep

/-- What Long hands back. -/
def LongOut (ts : List (Int × List Int)) (hands : Int) (e : Ending) : Prop :=
  (∃ p q, CheckIs ts p q ∧ gErr q hands ≠ 0 ∧ e = .returned (.tuple #[.int .i64 0, errV (gErr q hands)])) ∨
  (CheckIs ts 0 0 ∧ 1 ≤ hands ∧ hands ≤ 6 ∧ ∃ s : Nat, Stops ts hands.toNat s ∧ e = .returned (.tuple #[.int .i64 s, .nilIface]))

set_option maxRecDepth 100000 in
set_option maxHeartbeats 2000000 in
theorem long_any (v : Value) (ts : List (Int × List Int)) (hands : Int) (w : World) (hp : PlanAt w v ts) :
    Calls Try.prog 13 #[v, .int .i64 hands] w fun e w' => LongOut ts hands e ∧ Below w.heap.size w w' := by
  have hrun := run_any v ts hands w hp
  obtain ⟨hl, a, c, rfl, hp⟩ := hp
  clear hp
  go_enter Try.func13, Try.ntmps13
  go_wp2_with fail
  refine hrun.mono ?_
  clear hrun
  rintro e w1 ⟨h, hb1⟩
  rcases h with ⟨p, q, hc, hq, rfl⟩ | ⟨hc, h1, h6, s, bv, hs, rfl, hB⟩
  · have hev := errV_some hq
    have HF : Hid (∀ u, u = errV (gErr q hands) → LongOut ts hands (.returned (.tuple #[.int .i64 0, u]))) := fun u hu => Or.inl ⟨p, q, hc, hq, by rw [hu]⟩
    rw [hev] at HF ⊢
    clear hev hq hc
    generalize gErr q hands = g at *
    go_wp2
    go_ret2
    exact ⟨HF.out _ rfl, hb1⟩
  · have HF : Hid (∀ k : Nat, k = s → LongOut ts hands (.returned (.tuple #[.int .i64 k, .nilIface]))) := fun k hk => Or.inr ⟨hc, h1, h6, s, hs, by rw [hk]⟩
    have hpos : 1 ≤ hands.toNat := by omega
    have h600 := bits_len hc.works.1 hands.toNat s
    have hsl := hs.le hc.works.1 hpos
    by_cases hz : (bitsTo ts hands.toNat s).length = 0
    · have hs0 := hs.1.none hpos hz
      have HF2 := HF.out 0 hs0.symm
      have HF3 : Hid (LongOut ts hands (.returned (.tuple #[.int .i64 0, .nilIface]))) := HF2
      obtain ⟨ba, bc, rfl⟩ := hB.shape
      rw [hz]
      clear hB hs hc HF HF2 hz hs0
      go_wp2
      go_ret2
      exact ⟨HF3.out, hb1⟩
    · have hlast := hs.1.last hpos (by omega)
      obtain ⟨g, bc, rfl, hg1, hg2, hbc, hcells⟩ := hB.full (by omega)
      have hcl := (hcells ((bitsTo ts hands.toNat s).length - 1) (by omega)).1
      clear hcells hB hs hc
      generalize ((bitsTo ts hands.toNat s).getD ((bitsTo ts hands.toNat s).length - 1) (0, 0, 0)).1 = t at *
      generalize (bitsTo ts hands.toNat s).length = bl at *
      obtain ⟨n, rfl⟩ : ∃ n, bl = n + 1 := ⟨bl - 1, by omega⟩
      rw [show n + 1 - 1 = n by omega] at hcl
      have HF3 : Hid (LongOut ts hands (.returned (.tuple #[.int .i64 ((t : Int) + 1), .nilIface]))) := HF.out (t + 1) hlast
      have hne : (((n + 1 : Nat) : Int) == 0) = false := by rw [beq_eq_false_iff_ne]; omega
      have ht : t ≤ 600 := by omega
      clear HF hlast hz hsl
      go_wp2
      go_ret2
      exact ⟨HF3.out, hb1⟩

/-- What Bound hands back. -/
def BoundOut (ts : List (Int × List Int)) (hands : Int) (e : Ending) : Prop :=
  (∃ p q, CheckIs ts p q ∧ gErr q hands ≠ 0 ∧ e = .returned (.tuple #[.int .i64 0, errV (gErr q hands)])) ∨
  (CheckIs ts 0 0 ∧ 1 ≤ hands ∧ hands ≤ 6 ∧ ∃ ord, OrdIs ts ord ∧ e = .returned (.tuple #[.int .i64 ((workTo ts ts.length + (hands - 1) * maxTo (tailsOf ts ord) ts.length) / hands), .nilIface]))

theorem span_bound {ts : List (Int × List Int)} {ord : List Nat} (hc : CheckIs ts 0 0) (ho : OrdIs ts ord) : 0 ≤ maxTo (tailsOf ts ord) ts.length ∧ maxTo (tailsOf ts ord) ts.length ≤ 600 := by
  have hd := (Ready.of hc ho).deep
  exact ⟨maxTo_nonneg _ _, maxTo_le _ _ _ (by omega) (fun x _ => (hd.tlow x).2)⟩
theorem hands_mul {hands sp : Int} (h1 : 1 ≤ hands) (h6 : hands ≤ 6) (h0 : 0 ≤ sp) (hs : sp ≤ 600) : 0 ≤ (hands - 1) * sp ∧ (hands - 1) * sp ≤ 3000 := by
  have : hands = 1 ∨ hands = 2 ∨ hands = 3 ∨ hands = 4 ∨ hands = 5 ∨ hands = 6 := by omega
  rcases this with rfl | rfl | rfl | rfl | rfl | rfl <;> omega

end Go.Proofs.Ytkcpimbhfmhjgaa
