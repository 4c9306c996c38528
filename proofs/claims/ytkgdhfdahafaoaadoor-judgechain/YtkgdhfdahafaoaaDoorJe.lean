/- Plain: along a chain each may begin when the one ahead has ended, not a step sooner. No word of the program. -/
import Derived.Test.YtkgdhfdahafaoaaDoorJb
import Derived.Test.YtkgdhfdahafaoaaDoorDu
namespace Go.Proofs.YtkgdhfdahafaoaaDoor

/-- The i-th stay along a chain, by two hands in turn; so much sooner. -/
def chainSt (work : Int) (i : Nat) (sooner : Int) : StyZ := (((i % 2 : Nat) : Int), (i : Int), (i : Int) * work - sooner, ((i : Int) + 1) * work - sooner)
theorem times_next (work : Int) (i : Nat) : ((i : Int) + 1) * work = (i : Int) * work + work := by rw [Int.add_mul, Int.one_mul]
theorem times_mono {work : Int} (h : 1 ≤ work) {i j : Nat} (hij : i < j) : (i : Int) * work + work ≤ (j : Int) * work := by
  rw [← times_next]
  exact Int.mul_le_mul_of_nonneg_right (by omega) (by omega)
theorem times_bound {work : Int} (h1 : 1 ≤ work) (h2 : work ≤ 20) {i : Nat} (hi : i ≤ 30) : 0 ≤ (i : Int) * work ∧ (i : Int) * work ≤ 600 := by
  refine ⟨Int.mul_nonneg (by omega) (by omega), ?_⟩
  have h3 : (i : Int) * work ≤ 30 * work := Int.mul_le_mul_of_nonneg_right (by omega) (by omega)
  omega

section
variable {work : Int} {n : Nat}
/-- One along the chain that begins so much sooner (0: none), 0 or 1 steps. -/
def soon (e : Nat) (d : Int) (i : Nat) : Int := if i = e then d else 0
def chainL (work : Int) (n e : Nat) (d : Int) : List StyZ := (List.range n).map (fun i => chainSt work i (soon e d i))
theorem chainL_length (work : Int) (n e : Nat) (d : Int) : (chainL work n e d).length = n := by simp [chainL]
theorem soon_low {e i : Nat} {d : Int} (hd : 0 ≤ d ∧ d ≤ 1) : 0 ≤ soon e d i ∧ soon e d i ≤ 1 := by unfold soon; split <;> omega
/-- One by one there is no fault: nobody's hand, nobody's task had one ahead. -/
theorem chain_first (h1 : 1 ≤ work) (h2 : work ≤ 20) (hn : n ≤ 30) {e : Nat} (he : 1 ≤ e) {d : Int} (hd : 0 ≤ d ∧ d ≤ 1) : firstErr (stayErr (chainTs work n) 2) [] (chainL work n e d) = 0 := by
  rw [firstErr_zero]
  intro k hk
  rw [List.nil_append]
  rw [chainL_length] at hk
  have ek : (chainL work n e d)[k]'(by rw [chainL_length]; exact hk) = chainSt work k (soon e d k) := by simp [chainL]
  rw [ek]
  have hs := soon_low (e := e) (i := k) hd
  have h3 := times_bound h1 h2 (i := k) (by omega)
  have h4 := times_bound h1 h2 (i := k + 1) (by omega)
  have h5 := times_next work k
  have hcast : ((k + 1 : Nat) : Int) = (k : Int) + 1 := rfl
  rw [hcast] at h4
  have hz : k = 0 → soon e d k = 0 := fun e0 => by unfold soon; rw [if_neg (by omega)]
  have hpos : 0 ≤ (k : Int) * work - soon e d k := by
    by_cases e0 : k = 0
    · rw [hz e0]; omega
    · have := times_mono h1 (i := 0) (j := k) (by omega)
      simp only [Int.natCast_zero, Int.zero_mul] at this
      omega
  refine stayErr_zero.2 ⟨outS_false.2 ?_, ?_, fun a ha => ?_⟩
  · rw [chainTs_length]
    unfold chainSt
    dsimp only
    omega
  · unfold chainSt
    dsimp only
    rw [Int.toNat_natCast, chain_wk _ _ _ hk]
    omega
  · rw [List.mem_take_iff_getElem] at ha
    obtain ⟨i, hi, rfl⟩ := ha
    rw [chainL_length] at hi
    have ei : (chainL work n e d)[i]'(by rw [chainL_length]; omega) = chainSt work i (soon e d i) := by simp [chainL]
    rw [ei]
    have hsi := soon_low (e := e) (i := i) hd
    refine hitS_false.2 ⟨by unfold chainSt; dsimp only; omega, fun eh => Or.inr ?_⟩
    have eh' : ((i % 2 : Nat) : Int) = ((k % 2 : Nat) : Int) := eh
    have hik : i + 1 < k := by omega
    have h6 := times_mono h1 (i := i + 1) (j := k) hik
    have h7 := times_next work i
    have hc2 : ((i + 1 : Nat) : Int) = (i : Int) + 1 := rfl
    rw [hc2] at h6
    unfold chainSt
    dsimp only
    omega
/-- Each when the one ahead has ended. -/
theorem chain_right (h1 : 1 ≤ work) (h2 : work ≤ 20) (hn : n ≤ 30) : staysErr (chainTs work n) 2 (chainL work n 1 0) = 0 := by
  have h0 := chain_first (e := 1) h1 h2 hn (Nat.le_refl _) (d := 0) (by omega)
  unfold staysErr
  have hearly : earlyS (chainTs work n) (chainL work n 1 0) = false := by
    unfold earlyS
    rw [List.any_eq_false]
    intro s hs
    have : (chainL work n 1 0).any (fun a => decide (a.2.1 ∈ needsOf (chainTs work n) s.2.1.toNat) && decide (s.2.2.1 < a.2.2.2)) = false := by
      rw [List.any_eq_false]
      intro a ha
      unfold chainL at hs ha
      obtain ⟨k, hk, rfl⟩ := List.mem_map.1 hs
      obtain ⟨i, hi, rfl⟩ := List.mem_map.1 ha
      have hk := List.mem_range.1 hk
      unfold chainSt
      dsimp only
      rw [Int.toNat_natCast, chain_needs _ _ _ hk]
      have hsk : soon 1 0 k = 0 := by unfold soon; split <;> rfl
      have hsi : soon 1 0 i = 0 := by unfold soon; split <;> rfl
      rw [hsk, hsi]
      by_cases e0 : k = 0
      · simp [e0]
      · rw [if_neg e0]
        by_cases e1 : (i : Int) = (k : Int) - 1
        · have h3 := times_mono h1 (i := i) (j := k) (by omega)
          have h4 := times_next work i
          simp [e1]
        · simp [e1]
    simpa using this
  rw [if_pos h0, if_neg (by rw [chainL_length, chainTs_length]; omega), hearly]
  simp
/-- Not a step sooner. -/
theorem chain_soon (h1 : 1 ≤ work) (h2 : work ≤ 20) (hn : n ≤ 30) {e : Nat} (he : 1 ≤ e) (hen : e < n) : staysErr (chainTs work n) 2 (chainL work n e 1) = 6 := by
  have h0 := chain_first (e := e) h1 h2 hn he (d := 1) (by omega)
  unfold staysErr
  have hearly : earlyS (chainTs work n) (chainL work n e 1) = true := by
    unfold earlyS
    refine List.any_eq_true.2 ⟨chainSt work e (soon e 1 e), List.mem_map.2 ⟨e, List.mem_range.2 hen, rfl⟩, List.any_eq_true.2 ⟨chainSt work (e - 1) (soon e 1 (e - 1)), List.mem_map.2 ⟨e - 1, List.mem_range.2 (by omega), rfl⟩, ?_⟩⟩
    have hse : soon e 1 e = 1 := by unfold soon; rw [if_pos rfl]
    have hsp : soon e 1 (e - 1) = 0 := by unfold soon; rw [if_neg (by omega)]
    rw [hse, hsp]
    unfold chainSt
    dsimp only
    rw [Int.toNat_natCast, chain_needs _ _ _ hen, if_neg (by omega)]
    have hc : ((e - 1 : Nat) : Int) = (e : Int) - 1 := by omega
    rw [hc]
    have : ((e : Int) - 1 + 1) * work = (e : Int) * work := by rw [Int.sub_add_cancel]
    rw [this]
    simp
    omega
  rw [if_pos h0, if_neg (by rw [chainL_length, chainTs_length]; omega), hearly]
  simp
end
end Go.Proofs.YtkgdhfdahafaoaaDoor
