/- The contracts of yardsame.Ints and yardref1.In. -/
import Derived.Test.YtiekhigjllbalaaGreatDoorP
namespace Go.Proofs.YtiekhigjllbalaaGreatDoor
open Go.RowKit Go.Deep

set_option maxHeartbeats 800000 in
theorem sameInts_any (v u : Value) (xs ys : List Int) (w : World) (hx : IntsAt w v xs) (hy : IntsAt w u ys) :
    Calls Tryz.prog 12 #[v, u] w fun e w' => e = .returned (.bool (decide (xs = ys))) ∧ ∃ n, w' = w.drewN n := by
  obtain ⟨hl, a, c, rfl, hx⟩ := hx
  obtain ⟨hl2, a2, c2, rfl, hy⟩ := hy
  by_cases hlen : xs.length = ys.length
  · have hne : ((xs.length : Int) != (ys.length : Int)) = false := by simp [hlen]
    rcases hx with rfl | ⟨b, o, rfl, hbl, hc⟩
    · have hyn : ys = [] := List.eq_nil_of_length_eq_zero hlen.symm
      subst hyn
      clear hy
      go_enter Tryz.func12, Tryz.ntmps12
      go_wp2
      refine wp_loop_rounds 1 ?_
      rw [rounds_succ]
      go_wp2
      go_ret
      exact ⟨rfl, 0, rfl⟩
    have HL : Hid (xs.length = ys.length) := hlen
    clear hlen
    go_enter Tryz.func12, Tryz.ntmps12
    go_wp2
    go_loopw [5] (fun i wr => ∃ k n : Nat, k ≤ xs.length ∧ i = .int .i64 k ∧ wr = w.drewN n ∧ Hid (∀ j, j < k → xs.getD j 0 = ys.getD j 0)) (fun i _ => xs.length - (intOf i).toNat)
    case atStart => exact ⟨0, 0, Nat.zero_le _, rfl, rfl, fun j hj => by omega⟩
    case round =>
      obtain ⟨k, n, hk, rfl, rfl, hno⟩ := hrel
      by_cases hkl : k < xs.length
      · rcases hy with rfl | ⟨b2, o2, rfl, hbl2, hc2⟩
        · have := HL.out; simp at this; subst this; simp at hkl
        have hkl2 : k < ys.length := by have := HL.out; omega
        have hck := hc k hkl
        have hck2 := hc2 k hkl2
        clear hc hc2
        generalize hyx : xs.getD k 0 = x at hck
        generalize hyy : ys.getD k 0 = y at hck2
        have HX : Hid (xs.getD k 0 = x) := hyx
        have HY : Hid (ys.getD k 0 = y) := hyy
        clear hyx hyy hk
        by_cases e : x = y
        · have he : (x != y) = false := by simp [e]
          have HE : Hid (x = y) := e
          clear e
          go_wp2
          go_quiet (fail)
          go_wp2
          go_roundw
          case rel =>
            refine ⟨k + 1, _, by omega, by go_num, rfl, fun j hj => ?_⟩
            by_cases ej : j = k
            · subst ej; rw [HX.out, HY.out]; exact HE.out
            · exact hno.out j (by omega)
          case measure => simp [intOf]; omega
        · have he : (x != y) = true := by simp [e]
          have HE : Hid (x ≠ y) := e
          clear e
          go_wp2
          go_quiet (fail)
          go_wp2
          go_ret
          refine ⟨ret_bool ?_, _, World.drewN_drewN _ _ _⟩
          symm
          rw [decide_eq_false_iff_not]
          intro h
          exact HE.out (by rw [← HX.out, ← HY.out, h])
      · go_wp2
        go_ret
        refine ⟨ret_bool ?_, _, rfl⟩
        symm
        rw [decide_eq_true_iff]
        refine List.ext_getElem HL.out fun j h1 h2 => ?_
        have := hno.out j (by omega)
        rwa [List.getD_eq_getElem?_getD, List.getElem?_eq_getElem h1, List.getD_eq_getElem?_getD, List.getElem?_eq_getElem h2] at this
  · have hne : ((xs.length : Int) != (ys.length : Int)) = true := by simp; omega
    have HL : Hid (xs.length ≠ ys.length) := hlen
    clear hlen hx hy
    go_enter Tryz.func12, Tryz.ntmps12
    go_wp2
    go_ret
    refine ⟨ret_bool ?_, 0, rfl⟩
    symm
    rw [decide_eq_false_iff_not]
    intro h
    exact HL.out (by rw [h])

theorem take_succ_none (x : Int) (zs : List Int) (k : Nat) (hlt : k < zs.length) (hno : x ∉ zs.take k) (h : zs.getD k 0 ≠ x) : x ∉ zs.take (k + 1) := by
  intro hx
  rw [List.take_succ_eq_append_getElem hlt] at hx
  have he : zs.getD k 0 = zs[k] := by rw [List.getD_eq_getElem?_getD, List.getElem?_eq_getElem hlt]; rfl
  rcases List.mem_append.1 hx with hx | hx
  · exact hno hx
  · exact h (by rw [he]; exact (List.mem_singleton.1 hx).symm)
theorem mem_at {x : Int} {zs : List Int} {k : Nat} (hlt : k < zs.length) (h : zs.getD k 0 = x) : x ∈ zs := by
  rw [List.getD_eq_getElem?_getD, List.getElem?_eq_getElem hlt] at h
  rw [← h]; exact List.getElem_mem hlt

def memB (zs : List Int) (x : Int) : Bool := decide (x ∈ zs)

end Go.Proofs.YtiekhigjllbalaaGreatDoor
