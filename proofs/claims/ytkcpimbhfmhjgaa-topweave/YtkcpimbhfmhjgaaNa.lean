/- The contracts of slices.IndexFunc and slices.ContainsFunc at []int, handed a function that may change memory. -/
import Derived.Test.YtkcpimbhfmhjgaaPln
namespace Go.Proofs.Ytkcpimbhfmhjgaa
open Go.RowKit Go.Deep

set_option maxHeartbeats 800000 in
theorem indexFunc_state (v : Value) (zs : List Int) (g : Nat) (lb : Array Value) (J : Nat → World → Prop) (Qt : World → Prop) (w : World) (hz : IntsAt w v zs) (eg : ∀ args w, (callFunc g args).run Try.prog w = .ok (.enter g args) w) (h0 : J 0 w)
    (hJ : ∀ k w', J k w' → IntsAt w' v zs)
    (hs : ∀ k w', k < zs.length → J k w' → Calls Try.prog g (#[.int .i64 (zs.getD k 0)] ++ lb) w' fun e w'' => (e = .returned (.bool true) ∧ Qt w'') ∨ (e = .returned (.bool false) ∧ J (k + 1) w'')) :
    Calls Try.prog 55 #[v, .func (.func g) #[] lb] w fun e w' => (∃ r : Nat, e = .returned (.int .i64 r) ∧ Qt w') ∨ (e = .returned (.int .i64 (-1)) ∧ J zs.length w') := by
  have HJ : Hid (∀ k w', J k w' → IntsAt w' v zs) := hJ
  have HS : Hid (∀ k w', k < zs.length → J k w' → Calls Try.prog g (#[.int .i64 (zs.getD k 0)] ++ lb) w' fun e w'' => (e = .returned (.bool true) ∧ Qt w'') ∨ (e = .returned (.bool false) ∧ J (k + 1) w'')) := hs
  have H0 : Hid (J 0 w) := h0
  clear hJ hs h0
  obtain ⟨hl, a, c, rfl, hz⟩ := hz
  clear hz
  go_enter Try.func55, Try.ntmps55
  go_wp2
  go_loopw [8] (fun i wr => ∃ k : Nat, k ≤ zs.length ∧ i = .int .i64 k ∧ Hid (J k wr)) (fun i _ => zs.length - (intOf i).toNat)
  case atStart => exact ⟨0, Nat.zero_le _, rfl, H0⟩
  case round =>
    obtain ⟨k, hk, rfl, hj⟩ := hrel
    by_cases hlt : k < zs.length
    · obtain ⟨_, a', c', he, hz⟩ := HJ.out k wr hj.out
      simp only [Value.slice.injEq] at he
      obtain ⟨rfl, _, rfl⟩ := he
      have hcall := HS.out k wr hlt hj.out
      rcases hz with rfl | ⟨b, o, rfl, hbl, hc⟩
      · simp at hlt
      have hck := hc k hlt
      clear hc
      generalize zs.getD k 0 = y at *
      go_wp2_with (fail)
      refine hcall.mono ?_
      rintro e w' (⟨rfl, hq⟩ | ⟨rfl, hj'⟩)
      · go_wp2
        go_ret
        exact Or.inl ⟨k, rfl, hq⟩
      · have HJ' : Hid (J (k + 1) w') := hj'
        clear hj'
        go_wp2
        go_roundw
        case rel => exact ⟨k + 1, by omega, by go_num, HJ'⟩
        case measure => simp [intOf]; omega
    · have hke : k = zs.length := by omega
      subst hke
      go_wp2
      go_ret
      exact Or.inr ⟨rfl, hj.out⟩

theorem containsFunc_state (v : Value) (zs : List Int) (g : Nat) (lb : Array Value) (J : Nat → World → Prop) (Qt : World → Prop) (w : World) (hz : IntsAt w v zs) (eg : ∀ args w, (callFunc g args).run Try.prog w = .ok (.enter g args) w) (h0 : J 0 w)
    (hJ : ∀ k w', J k w' → IntsAt w' v zs)
    (hs : ∀ k w', k < zs.length → J k w' → Calls Try.prog g (#[.int .i64 (zs.getD k 0)] ++ lb) w' fun e w'' => (e = .returned (.bool true) ∧ Qt w'') ∨ (e = .returned (.bool false) ∧ J (k + 1) w'')) :
    Calls Try.prog 37 #[v, .func (.func g) #[] lb] w fun e w' => (e = .returned (.bool true) ∧ Qt w') ∨ (e = .returned (.bool false) ∧ J zs.length w') := by
  have hcall := indexFunc_state v zs g lb J Qt w hz eg h0 hJ hs
  clear hs hJ h0 hz
  go_enter Try.func37, Try.ntmps37
  go_wp2_with fail
  refine hcall.mono ?_
  rintro e w' (⟨r, rfl, hq⟩ | ⟨rfl, hj⟩)
  · have hr : (0 : Int) ≤ (r : Int) := by omega
    go_wp2
    go_ret
    exact Or.inl ⟨ret_bool (by simp), hq⟩
  · go_wp2
    go_ret
    exact Or.inr ⟨rfl, hj⟩
theorem cell_box (w : World) (v : Value) (t : TypeId) : (w.alloc (.cells #[v] t)).cell? ⟨w.heap.size, 0, none⟩ = some v := by
  unfold World.cell?
  dsimp only
  rw [blk_alloc_new]
  rfl
end Go.Proofs.Ytkcpimbhfmhjgaa
