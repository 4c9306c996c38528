/- The contracts of judge.Bits and judge.Ends. -/
import Derived.Test.YtkcpimbhfmhjgaaJr
namespace Go.Proofs.Ytkcpimbhfmhjgaa
open Go.RowKit Go.Deep Go.Maps

/-- What Bits hands back: the error by its number. -/
def BitsOut (ts : List (Int × List Int)) (hands : Int) (l : List BitZ) (e : Ending) : Prop :=
  (∃ p q, CheckIs ts p q ∧ jErr q hands ≠ 0 ∧ e = .returned (errV (jErr q hands))) ∨ (CheckIs ts 0 0 ∧ 1 ≤ hands ∧ hands ≤ 6 ∧ e = .returned (errV (bitsErr ts hands.toNat l)))

set_option maxRecDepth 100000 in
set_option maxHeartbeats 2000000 in
theorem bits_any (v lv : Value) (ts : List (Int × List Int)) (l : List BitZ) (hands : Int) (w : World) (hp : PlanAt w v ts) (hl : BitsAt w lv l) :
    Calls Try.prog 11 #[v, .int .i64 hands, lv] w fun e w' => BitsOut ts hands l e ∧ Below w.heap.size w w' := by
  have hof := ofBits_any v lv ts l hands w hp hl
  obtain ⟨hl0, a, c, rfl, hp⟩ := hp
  obtain ⟨hl1, la, lc, rfl, hl⟩ := hl
  clear hp hl
  go_enter Try.func11, Try.ntmps11
  go_wp2_with fail
  refine hof.mono ?_
  clear hof
  rintro e w1 ⟨ho, hb1⟩
  rcases ho with ⟨p, q, hc, hne, rfl⟩ | ⟨hc, h1, h6, mv, rfl, _⟩
  · have HF : Hid (∀ u, u = errV (jErr q hands) → BitsOut ts hands l (.returned u)) := fun u hu => Or.inl ⟨p, q, hc, hne, by rw [hu]⟩
    clear hc hne
    generalize errV (jErr q hands) = ev at *
    go_wp2
    go_ret
    exact ⟨HF.out _ rfl, hb1⟩
  · have HF : Hid (∀ u, u = errV (bitsErr ts hands.toNat l) → BitsOut ts hands l (.returned u)) := fun u hu => Or.inr ⟨hc, h1, h6, by rw [hu]⟩
    clear hc h1 h6
    generalize errV (bitsErr ts hands.toNat l) = ev at *
    go_wp2
    go_ret
    exact ⟨HF.out _ rfl, hb1⟩

end Go.Proofs.Ytkcpimbhfmhjgaa
