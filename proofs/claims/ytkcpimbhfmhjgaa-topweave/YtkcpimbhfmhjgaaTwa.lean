/- Plain, for TopWeave: what greedy.Run tells is right for bench, and what is wasted of it; an order by urgency names each once. -/
import Derived.Test.YtkcpimbhfmhjgaaBnx
import Derived.Test.YtkcpimbhfmhjgaaBl0
import Derived.Test.YtkcpimbhfmhjgaaUrg
import Derived.Test.YtkcpimbhfmhjgaaWkmn
import Derived.Test.YtkcpimbhfmhjgaaTone
namespace Go.Proofs.Ytkcpimbhfmhjgaa
open Go.RowKit Go.Deep

theorem map_bit {bs : List (Nat × Nat × Nat)} {k : Nat} (hk : k < bs.length) : bitA (bs.map bitZ) k = bitZ (bs.getD k (0, 0, 0)) := by
  unfold bitA
  simp [List.getD_eq_getElem?_getD, hk]
theorem stepsZ_map (bs : List (Nat × Nat × Nat)) : ∀ k, k ≤ bs.length → stepsZ (bs.map bitZ) k = stepsOf (bs.take k) := by
  intro k
  induction k with
  | zero => intro _; rfl
  | succ k ih =>
    intro hk
    show max (stepsZ (bs.map bitZ) k) ((bitA (bs.map bitZ) k).1 + 1).toNat = _
    rw [ih (by omega), map_bit (by omega), List.take_succ_eq_append_getElem (by omega), stepsOf_snoc, List.getD_eq_getElem?_getD, List.getElem?_eq_getElem (by omega)]
    show max _ (((bs[k].1 : Nat) : Int) + 1).toNat = _
    have : (((bs[k].1 : Nat) : Int) + 1).toNat = bs[k].1 + 1 := by omega
    rw [this]
theorem bits_right {ts : List (Int × List Int)} {hands : Int} {s : Nat} (hc : CheckIs ts 0 0) (h1 : 1 ≤ hands) (h6 : hands ≤ 6) (hs : Stops ts hands.toNat s) : bnErr ((bitsTo ts hands.toNat s).map bitZ) hands = 0 := by
  obtain ⟨hw, hr, hno⟩ := hc.worksJ
  have hb := greedy_bits hw hr hno (by omega) hs
  have hl := bits_len hw hands.toNat s
  have h30 := hw.1
  rw [bnErr_any (by rw [List.length_map]; omega) (by omega), anyB_miss (fun k hk => ?_)]
  · rfl
  · have hm : bitA ((bitsTo ts hands.toNat s).map bitZ) k ∈ (bitsTo ts hands.toNat s).map bitZ := by
      unfold bitA
      rw [List.getD_eq_getElem?_getD, List.getElem?_eq_getElem hk]
      exact List.getElem_mem hk
    have := hb.rng _ hm
    generalize bitA ((bitsTo ts hands.toNat s).map bitZ) k = b at *
    unfold badBit belowB
    simp
    omega
theorem waste_is {ts : List (Int × List Int)} {hands : Int} {s : Nat} (hc : CheckIs ts 0 0) (h1 : 1 ≤ hands) (h6 : hands ≤ 6) (hs : Stops ts hands.toNat s) : wasteZ ((bitsTo ts hands.toNat s).map bitZ) hands = hands * (s : Int) - ((bitsTo ts hands.toNat s).length : Int) := by
  unfold wasteZ
  rw [if_pos (bits_right hc h1 h6 hs), stepsZ_map _ _ (by rw [List.length_map]; exact Nat.le_refl _), List.length_map, List.take_length, hs.1.steps (by omega)]
theorem UrgIs.each {T : Nat → Int} {n : Nat} {l : List Nat} (h : UrgIs T n l) : EachZ n (intsOf l) ∧ ∀ x, x ∈ intsOf l → 0 ≤ x ∧ x < (n : Int) := by
  have h2 : ∀ x, x ∈ intsOf l → 0 ≤ x ∧ x < (n : Int) := fun x hx => by
    unfold intsOf at hx
    obtain ⟨y, hy, rfl⟩ := List.mem_map.1 hx
    have := h.lt hy
    show (0 : Int) ≤ (y : Int) ∧ (y : Int) < _
    omega
  refine ⟨⟨by rw [intsOf_length]; exact h.length, ?_, h2⟩, h2⟩
  unfold intsOf
  refine List.pairwise_map.2 (List.Pairwise.imp (fun {a b} hne e => hne ?_) h.nodup)
  have : (a : Int) = (b : Int) := e
  omega
theorem urg_ints {B n : Nat} {l : List Nat} {w : World} (hl : l.length = n) (hn : n ≤ 30) (h : w.rowIs B 3 n (intRow (fun k => (l.getD k 0 : Nat)))) : IntsAt w (.slice (some ⟨B, 0, none⟩) n n) (intsOf l) := by
  subst hl
  refine ⟨by rw [intsOf_length]; omega, _, l.length, by rw [intsOf_length], Or.inr ⟨B, 0, rfl, h.lt, fun k hk => ?_⟩⟩
  rw [intsOf_length] at hk
  rw [Nat.zero_add, h.cell hk, intsOf_getD]
  rfl
end Go.Proofs.Ytkcpimbhfmhjgaa
