/- The document's own Span and Longest. -/
import Derived.Test.YtjdghkmkocpppaaDoorTc
namespace Go.Proofs.YtjdghkmkocpppaaDoor
open Go.RowKit Go.Deep

set_option maxRecDepth 100000 in
set_option maxHeartbeats 2000000 in
theorem spanR_any (v : Value) (ts : List (Int × List Int)) (w : World) (hp : PlanAt w v ts) (hck : CheckIs ts 0 0) :
    Calls Tryd.prog 8 #[v] w fun e w' => (∃ ord, OrdIs ts ord ∧ e = .returned (.int .i64 (maxTo (tailsOf ts ord) ts.length))) ∧ Below w.heap.size w w' := by
  have ht := tailsR_any v ts w hp hck
  obtain ⟨hl, a, c, rfl, hp⟩ := hp
  clear hp
  go_enter Tryd.func8, Tryd.ntmps8
  go_wp2_with fail
  refine ht.mono ?_
  rintro e w1 ⟨⟨ord, rv, ho, rfl, hi⟩, hb1⟩
  clear ht
  have HO : Hid (OrdIs ts ord) := ho
  clear ho
  obtain ⟨T, hT⟩ : ∃ T, tailsOf ts ord = T := ⟨_, rfl⟩
  have HT : Hid (tailsOf ts ord = T) := hT
  rw [hT] at hi
  clear hT
  obtain ⟨hl2, ra, rc, rfl, hrc⟩ := hi
  rw [listOf_length] at hl2 hrc ⊢
  have HC : Hid (∀ k, k < ts.length → ∃ b o, ra = some ⟨b, o, none⟩ ∧ w1.cell? ⟨b, o + k, none⟩ = some (.int .i64 (T k))) := fun k hk => by
    rcases hrc with h | ⟨b, o, h1, _, h3⟩
    · have := congrArg List.length h
      rw [listOf_length, List.length_nil] at this
      omega
    · exact ⟨b, o, h1, by have := h3 k hk; rwa [listOf_getD T hk] at this⟩
  clear hrc
  go_wp2
  go_loopw [4, 5] (fun s4 s5 wr => ∃ k : Nat, k ≤ ts.length ∧ s5 = .int .i64 k ∧ s4 = .int .i64 (maxTo T k) ∧ wr = w1) (fun _ s5 _ => ts.length - (intOf s5).toNat)
  case atStart => exact ⟨0, Nat.zero_le _, rfl, rfl, rfl⟩
  case round =>
    obtain ⟨k, hk, rfl, rfl, rfl⟩ := hrel
    by_cases hkl : k < ts.length
    · obtain ⟨b, o, rfl, hc⟩ := HC.out k hkl
      have HE : Hid (maxTo T (k + 1) = max (maxTo T k) (T k)) := rfl
      generalize maxTo T k = mk at *
      generalize T k = tk at *
      by_cases hgt : mk < tk
      · have HMX : Hid (max mk tk = tk) := Int.max_eq_right (by omega)
        go_wp2
        go_roundw
        case rel => exact ⟨k + 1, by omega, by go_num, by rw [HE.out, HMX.out], trivial⟩
        case measure => simp [intOf]; omega
      · have HMX : Hid (max mk tk = mk) := Int.max_eq_left (by omega)
        go_wp2
        go_roundw
        case rel => exact ⟨k + 1, by omega, by go_num, by rw [HE.out, HMX.out], trivial⟩
        case measure => simp [intOf]; omega
    · have hke : k = ts.length := by omega
      subst hke
      go_wp2
      go_ret
      exact ⟨⟨ord, HO.out, by rw [HT.out]; rfl⟩, hb1⟩

def lastI : Option Nat → Int
  | none => -1
  | some x => (x : Nat)
def okB (ts : List (Int × List Int)) : Option Nat → Nat → Bool
  | none, _ => true
  | some x, k => memB (needsOf ts k) x
theorem goesOn_ok (ts : List (Int × List Int)) (T : Nat → Int) (o : Option Nat) (k : Nat) : goesOn ts T o k = (okB ts o k && decide (T k = leftOf ts T o)) := by
  cases o with
  | none => rw [Bool.eq_iff_iff]; simp [goesOn, okB, leftOf]; exact ⟨fun h => decide_eq_true h, fun h => of_decide_eq_true h⟩
  | some x => rw [Bool.eq_iff_iff]; simp [goesOn, okB, leftOf, memB, and_comm]; exact fun _ => ⟨fun h => decide_eq_true h, fun h => of_decide_eq_true h⟩

end Go.Proofs.YtjdghkmkocpppaaDoor
