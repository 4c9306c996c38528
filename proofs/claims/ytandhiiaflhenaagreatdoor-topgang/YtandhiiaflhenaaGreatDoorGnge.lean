/- Plain: what is left of each task, told by hands or by tasks. No word of the program. -/
import Derived.Test.YtandhiiaflhenaaGreatDoorGnp
namespace Go.Proofs.YtandhiiaflhenaaGreatDoor

/-- What is left of each task: of one that a hand has what the hand has left, of one that nobody has begun all of it. -/
def WkOk (ts : List (Int × List Int)) (hands : Nat) (g : Gs) (wk : Nat → Int) : Prop :=
  (∀ h, h < hands → 0 ≤ g.task h → wk (g.task h).toNat = g.work h) ∧ (∀ t, t < ts.length → g.S t = false → (∀ h, h < hands → g.task h ≠ ((t : Nat) : Int)) → wk t = workOf ts t)
variable {ts : List (Int × List Int)} {room hands : Nat} {g : Gs} {wk : Nat → Int}
theorem WkOk.new (ts : List (Int × List Int)) (hands : Nat) : WkOk ts hands (gnew ts) (workOf ts) :=
  ⟨fun h _ ht => by simp [gnew] at ht, fun t _ _ _ => rfl⟩
theorem WkOk.takes (hK : WkOk ts hands g wk) {g1 : Gs} (hS : g1.S = g.S) (ht1 : g1.task = g.task) (hw1 : g1.work = g.work) {h i : Nat} (hh : h < hands) (ht : g.task h < 0) (hi : i < ts.length) (hSi : g.S i = false) (hno : ∀ k, k < hands → g.task k ≠ ((i : Nat) : Int)) : WkOk ts hands (YtandhiiaflhenaaGreatDoor.takes ts g1 h (i : Int)) wk := by
  refine ⟨fun k hk h0 => ?_, fun t htl hSt hnt => ?_⟩
  · show wk (updG g1.task h (i : Int) k).toNat = updG g1.work h (workOf ts (i : Int).toNat) k
    have h0' : 0 ≤ updG g1.task h (i : Int) k := h0
    by_cases e : k = h
    · subst e
      rw [updG_self, updG_self, Int.toNat_natCast]
      exact hK.2 i hi hSi hno
    · rw [updG_ne _ _ e] at h0' ⊢
      rw [updG_ne _ _ e, ht1, hw1]
      rw [ht1] at h0'
      exact hK.1 k hk h0'
  · have hSt' : g.S t = false := by rw [← hS]; exact hSt
    refine hK.2 t htl hSt' fun k hk => ?_
    have h1 : updG g1.task h (i : Int) k ≠ ((t : Nat) : Int) := hnt k hk
    by_cases e : k = h
    · subst e; omega
    · rw [updG_ne _ _ e, ht1] at h1
      exact h1
theorem WkOk.works (hK : WkOk ts hands g wk) (hI : Inv ts room hands g) {h i : Nat} (hh : h < hands) (ht : g.task h = (i : Int)) : WkOk ts hands { g with work := updG g.work h (g.work h - 1) } (updG wk i (wk i - 1)) := by
  have hi : (g.task h).toNat = i := by omega
  refine ⟨fun k hk h0 => ?_, fun t htl hSt hnt => ?_⟩
  · show updG wk i (wk i - 1) (g.task k).toNat = updG g.work h (g.work h - 1) k
    have h0' : 0 ≤ g.task k := h0
    by_cases e : k = h
    · subst e
      rw [updG_self, hi, updG_self, ← hK.1 k hk h0', hi]
    · have : g.task k ≠ g.task h := fun e2 => e (hI.oneHas hh hk (by omega) e2)
      rw [updG_ne _ _ e, updG_ne _ _ (by omega)]
      exact hK.1 k hk h0'
  · have hne : t ≠ i := fun e => hnt h hh (by rw [e]; exact ht)
    rw [updG_ne _ _ hne]
    exact hK.2 t htl hSt hnt
theorem WkOk.ends (hK : WkOk ts hands g wk) (hI : Inv ts room hands g) {h i : Nat} (hh : h < hands) (ht : g.task h = (i : Int)) (x : Int) : WkOk ts hands (YtandhiiaflhenaaGreatDoor.ends ts room g h) (updG wk i x) := by
  have hi : (g.task h).toNat = i := by omega
  refine ⟨fun k hk h0 => ?_, fun t htl hSt hnt => ?_⟩
  · have h0' : 0 ≤ updG g.task h (-1) k := h0
    show updG wk i x (updG g.task h (-1) k).toNat = updG g.work h (g.work h - 1) k
    by_cases e : k = h
    · subst e; rw [updG_self] at h0'; omega
    · rw [updG_ne _ _ e] at h0' ⊢
      have : g.task k ≠ g.task h := fun e2 => e (hI.oneHas hh hk (by omega) e2)
      rw [updG_ne _ _ (by omega), updG_ne _ _ e]
      exact hK.1 k hk h0'
  · have hSt' : mark g.S (g.task h).toNat t = false := hSt
    rw [hi] at hSt'
    have hne : t ≠ i := fun e => by subst e; simp [mark] at hSt'
    rw [mark_ne hne] at hSt'
    rw [updG_ne _ _ hne]
    refine hK.2 t htl hSt' fun k hk => ?_
    have h1 : updG g.task h (-1) k ≠ ((t : Nat) : Int) := hnt k hk
    by_cases e : k = h
    · subst e; rw [ht]; omega
    · rw [updG_ne _ _ e] at h1; exact h1
end Go.Proofs.YtandhiiaflhenaaGreatDoor
