/- The contracts of slices.IndexFunc and slices.ContainsFunc at []int, handed a function that may change memory. -/
import Derived.Test.YtiekhigjllbalaaGreatDoorC
namespace Go.Proofs.YtiekhigjllbalaaGreatDoor
open Go.RowKit Go.Deep

set_option maxHeartbeats 800000 in
theorem cfIndex (v : Value) (zs : List Int) (g : Nat) (lb : Array Value) (J : Nat → World → Prop) (Qt : World → Prop) (w : World) (hz : IntsAt w v zs) (eg : ∀ args w, (callFunc g args).run Tryz.prog w = .ok (.enter g args) w) (h0 : J 0 w)
    (hJ : ∀ k w', J k w' → IntsAt w' v zs)
    (hs : ∀ k w', k < zs.length → J k w' → Calls Tryz.prog g (#[.int .i64 (zs.getD k 0)] ++ lb) w' fun e w'' => (e = .returned (.bool true) ∧ Qt w'') ∨ (e = .returned (.bool false) ∧ J (k + 1) w'')) :
    Calls Tryz.prog 70 #[v, .func (.func g) #[] lb] w fun e w' => (∃ r : Nat, e = .returned (.int .i64 r) ∧ Qt w') ∨ (e = .returned (.int .i64 (-1)) ∧ J zs.length w') := by
  have HJ : Hid (∀ k w', J k w' → IntsAt w' v zs) := hJ
  have HS : Hid (∀ k w', k < zs.length → J k w' → Calls Tryz.prog g (#[.int .i64 (zs.getD k 0)] ++ lb) w' fun e w'' => (e = .returned (.bool true) ∧ Qt w'') ∨ (e = .returned (.bool false) ∧ J (k + 1) w'')) := hs
  have H0 : Hid (J 0 w) := h0
  clear hJ hs h0
  obtain ⟨hl, a, c, rfl, hz⟩ := hz
  clear hz
  go_enter Tryz.func70, Tryz.ntmps70
  go_wp2
  go_loopw [8] (fun i wr => ∃ k : Nat, k ≤ zs.length ∧ i = .int .i64 k ∧ Hid (J k wr)) (fun i _ => zs.length - (intOf i).toNat)
  case atStart => exact ⟨0, Nat.zero_le _, rfl, H0⟩
  case round =>
    obtain ⟨k, hk, rfl, hj⟩ := hrel
    by_cases hlt : k < zs.length
    · obtain ⟨_, a', c', he, hz⟩ := HJ.out k wr hj.out
      simp only [Value.slice.injEq] at he
      obtain ⟨rfl, _, rfl⟩ := he
      have hcall := HS.out k wr hlt hj.out
      rcases hz with rfl | ⟨b, o, rfl, hbl, hc⟩
      · simp at hlt
      have hck := hc k hlt
      clear hc
      generalize zs.getD k 0 = y at *
      go_wp2_with (fail)
      refine hcall.mono ?_
      rintro e w' (⟨rfl, hq⟩ | ⟨rfl, hj'⟩)
      · go_wp2
        go_ret
        exact Or.inl ⟨k, rfl, hq⟩
      · have HJ' : Hid (J (k + 1) w') := hj'
        clear hj'
        go_wp2
        go_roundw
        case rel => exact ⟨k + 1, by omega, by go_num, HJ'⟩
        case measure => simp [intOf]; omega
    · have hke : k = zs.length := by omega
      subst hke
      go_wp2
      go_ret
      exact Or.inr ⟨rfl, hj.out⟩

theorem cfState (v : Value) (zs : List Int) (g : Nat) (lb : Array Value) (J : Nat → World → Prop) (Qt : World → Prop) (w : World) (hz : IntsAt w v zs) (eg : ∀ args w, (callFunc g args).run Tryz.prog w = .ok (.enter g args) w) (h0 : J 0 w)
    (hJ : ∀ k w', J k w' → IntsAt w' v zs)
    (hs : ∀ k w', k < zs.length → J k w' → Calls Tryz.prog g (#[.int .i64 (zs.getD k 0)] ++ lb) w' fun e w'' => (e = .returned (.bool true) ∧ Qt w'') ∨ (e = .returned (.bool false) ∧ J (k + 1) w'')) :
    Calls Tryz.prog 53 #[v, .func (.func g) #[] lb] w fun e w' => (e = .returned (.bool true) ∧ Qt w') ∨ (e = .returned (.bool false) ∧ J zs.length w') := by
  have hcall := cfIndex v zs g lb J Qt w hz eg h0 hJ hs
  clear hs hJ h0 hz
  go_enter Tryz.func53, Tryz.ntmps53
  go_wp2_with fail
  refine hcall.mono ?_
  rintro e w' (⟨r, rfl, hq⟩ | ⟨rfl, hj⟩)
  · have hr : (0 : Int) ≤ (r : Int) := by omega
    go_wp2
    go_ret
    exact Or.inl ⟨ret_bool (by simp), hq⟩
  · go_wp2
    go_ret
    exact Or.inr ⟨rfl, hj⟩
/-- ContainsFunc with a function that only reads, and may draw. -/
theorem cfReads (v : Value) (zs : List Int) (g : Nat) (lb : Array Value) (p : Int → Bool) (w : World) (hz : IntsAt w v zs) (eg : ∀ args w, (callFunc g args).run Tryz.prog w = .ok (.enter g args) w)
    (hp : ∀ x, x ∈ zs → ∀ w', Below w.heap.size w w' → Calls Tryz.prog g (#[.int .i64 x] ++ lb) w' fun e w2 => e = .returned (.bool (p x)) ∧ Below w'.heap.size w' w2) :
    Calls Tryz.prog 53 #[v, .func (.func g) #[] lb] w fun e w' => e = .returned (.bool (zs.any p)) ∧ Below w.heap.size w w' := by
  refine (cfState v zs g lb (fun j w' => (∀ x, x ∈ zs.take j → p x = false) ∧ Below w.heap.size w w') (fun w' => zs.any p = true ∧ Below w.heap.size w w') w hz eg ⟨fun x hx => by simp at hx, Below.refl _ _⟩ (fun k w' h => hz.later h.2) (fun k w' hk h => ?_)).mono ?_
  · have hm : zs.getD k 0 ∈ zs := by rw [List.getD_eq_getElem?_getD, List.getElem?_eq_getElem hk]; exact List.getElem_mem hk
    refine (hp _ hm w' h.2).mono ?_
    rintro e w2 ⟨rfl, hb⟩
    have hb2 := h.2.trans (hb.mono h.2.size)
    cases hq : p (zs.getD k 0)
    · exact Or.inr ⟨rfl, take_succ_all p zs k hk h.1 hq, hb2⟩
    · exact Or.inl ⟨rfl, List.any_eq_true.2 ⟨_, hm, hq⟩, hb2⟩
  · rintro e w' (⟨rfl, h1, h2⟩ | ⟨rfl, h1, h2⟩)
    · exact ⟨by rw [h1], h2⟩
    · refine ⟨ret_bool (Eq.symm ?_), h2⟩
      rw [List.any_eq_false]
      intro x hx
      have := h1 x (by rw [List.take_of_length_le (Nat.le_refl _)]; exact hx)
      simp [this]

end Go.Proofs.YtiekhigjllbalaaGreatDoor
