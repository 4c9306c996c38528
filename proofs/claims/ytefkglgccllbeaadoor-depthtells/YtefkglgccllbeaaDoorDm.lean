/- The contracts of yardref1.In, slices.Index and slices.Contains at []int, and depth.greatest. -/
import Derived.Test.YtefkglgccllbeaaDoorK
import Derived.Test.YtefkglgccllbeaaDoorDa
namespace Go.Proofs.YtefkglgccllbeaaDoor
open Go.RowKit Go.Deep

theorem take_succ_none (x : Int) (zs : List Int) (k : Nat) (hlt : k < zs.length) (hno : x ∉ zs.take k) (h : zs.getD k 0 ≠ x) : x ∉ zs.take (k + 1) := by
  intro hx
  rw [List.take_succ_eq_append_getElem hlt] at hx
  have he : zs.getD k 0 = zs[k] := by rw [List.getD_eq_getElem?_getD, List.getElem?_eq_getElem hlt]; rfl
  rcases List.mem_append.1 hx with hx | hx
  · exact hno hx
  · exact h (by rw [he]; exact (List.mem_singleton.1 hx).symm)
theorem mem_at {x : Int} {zs : List Int} {k : Nat} (hlt : k < zs.length) (h : zs.getD k 0 = x) : x ∈ zs := by
  rw [List.getD_eq_getElem?_getD, List.getElem?_eq_getElem hlt] at h
  rw [← h]; exact List.getElem_mem hlt

def memB (zs : List Int) (x : Int) : Bool := decide (x ∈ zs)

set_option maxHeartbeats 800000 in
theorem in_any (v : Value) (zs : List Int) (x : Int) (w : World) (hz : IntsAt w v zs) :
    Calls Tryd.prog 12 #[v, .int .i64 x] w fun e w' => e = .returned (.bool (memB zs x)) ∧ w' = w := by
  obtain ⟨hl, a, c, rfl, hz⟩ := hz
  rcases hz with rfl | ⟨b, o, rfl, hbl, hc⟩
  · go_enter Tryd.func12, Tryd.ntmps12
    go_wp2
    refine wp_loop_rounds 1 ?_
    rw [rounds_succ]
    go_wp2
    go_ret
    exact ⟨rfl, rfl⟩
  · go_enter Tryd.func12, Tryd.ntmps12
    go_wp2
    go_loop [5] (fun i => ∃ k : Nat, k ≤ zs.length ∧ i = .int .i64 k ∧ Hid (x ∉ zs.take k)) (fun i => zs.length - (intOf i).toNat)
    case atStart => exact ⟨0, Nat.zero_le _, rfl, by simp [Hid]⟩
    case round =>
      obtain ⟨k, hk, rfl, hno⟩ := hrel
      by_cases hkl : k < zs.length
      · have hck := hc k hkl
        clear hc
        generalize hy : zs.getD k 0 = y at hck
        have HY : Hid (zs.getD k 0 = y) := hy
        clear hy
        by_cases e : y = x
        · have he : (y == x) = true := by simp [e]
          have HM : Hid (x ∈ zs) := mem_at hkl (HY.out.trans e)
          clear e
          go_wp2
          go_ret
          exact ⟨ret_bool (by simp [memB, HM.out]), rfl⟩
        · have he : (y == x) = false := by simp [e]
          have HM : Hid (x ∉ zs.take (k + 1)) := take_succ_none x zs k hkl hno.out (by rw [HY.out]; exact e)
          clear e
          go_wp2
          go_round
          case rel => exact ⟨k + 1, by omega, by go_num, HM⟩
          case measure => simp [intOf]; omega
      · have HM : Hid (x ∉ zs) := by have := hno.out; rwa [List.take_of_length_le (by omega)] at this
        go_wp2
        go_ret
        exact ⟨ret_bool (by simp [memB, HM.out]), rfl⟩

/-- Where x stands first; -1, if nowhere. -/
def firstOf (zs : List Int) (x : Int) (r : Int) : Prop := LeastIs zs.length (fun k => decide (zs.getD k 0 = x)) r
theorem firstOf_mem {zs : List Int} {x r : Int} (h : firstOf zs x r) : decide (0 ≤ r) = memB zs x := by
  rcases h with ⟨k, h1, _, h3, rfl⟩ | ⟨h, rfl⟩
  · have : x ∈ zs := mem_at h1 (by simpa using h3)
    simp [memB, this]
  · have : x ∉ zs := fun hx => by
      obtain ⟨j, hj, he⟩ := List.getElem_of_mem hx
      have := h j hj
      simp [hj, he] at this
    simp [memB, this]

set_option maxHeartbeats 800000 in
theorem index_any (v : Value) (zs : List Int) (x : Int) (w : World) (hz : IntsAt w v zs) :
    Calls Tryd.prog 44 #[v, .int .i64 x] w fun e w' => (∃ r, e = .returned (.int .i64 r) ∧ firstOf zs x r) ∧ w' = w := by
  obtain ⟨hl, a, c, rfl, hz⟩ := hz
  rcases hz with rfl | ⟨b, o, rfl, hbl, hc⟩
  · go_enter Tryd.func44, Tryd.ntmps44
    go_wp2
    refine wp_loop_rounds 1 ?_
    rw [rounds_succ]
    go_wp2
    go_ret
    exact ⟨⟨_, rfl, Or.inr ⟨fun j hj => by simp at hj, rfl⟩⟩, rfl⟩
  · go_enter Tryd.func44, Tryd.ntmps44
    go_wp2
    go_loop [8] (fun i => ∃ k : Nat, k ≤ zs.length ∧ i = .int .i64 k ∧ Hid (∀ j, j < k → zs.getD j 0 ≠ x)) (fun i => zs.length - (intOf i).toNat)
    case atStart => exact ⟨0, Nat.zero_le _, rfl, fun j hj => by omega⟩
    case round =>
      obtain ⟨k, hk, rfl, hno⟩ := hrel
      by_cases hkl : k < zs.length
      · have hck := hc k hkl
        clear hc
        generalize hy : zs.getD k 0 = y at hck
        have HY : Hid (zs.getD k 0 = y) := hy
        clear hy
        by_cases e : x = y
        · have he : (x == y) = true := by simp [e]
          have HM : Hid (zs.getD k 0 = x) := HY.out.trans e.symm
          clear e
          go_wp2
          go_ret
          exact ⟨⟨_, rfl, Or.inl ⟨k, hkl, fun j hj => decide_eq_false (hno.out j hj), decide_eq_true HM.out, rfl⟩⟩, rfl⟩
        · have he : (x == y) = false := by simp [e]
          have HM : Hid (zs.getD k 0 ≠ x) := by show zs.getD k 0 ≠ x; rw [HY.out]; exact fun h => e h.symm
          clear e
          go_wp2
          go_round
          case rel =>
            refine ⟨k + 1, by omega, by go_num, fun j hj => ?_⟩
            by_cases ej : j = k
            · subst ej; exact HM.out
            · exact hno.out j (by omega)
          case measure => simp [intOf]; omega
      · go_wp2
        go_ret
        exact ⟨⟨_, rfl, Or.inr ⟨fun j hj => decide_eq_false (hno.out j (by omega)), rfl⟩⟩, rfl⟩

theorem contains_any (v : Value) (zs : List Int) (x : Int) (w : World) (hz : IntsAt w v zs) :
    Calls Tryd.prog 38 #[v, .int .i64 x] w fun e w' => e = .returned (.bool (memB zs x)) ∧ w' = w := by
  have hcall := (index_any v zs x w hz).mono (R' := fun e w' => (∃ r, e = .returned (.int .i64 r) ∧ decide (0 ≤ r) = memB zs x) ∧ w' = w) (fun e w' ⟨⟨r, h1, h2⟩, h3⟩ => ⟨⟨r, h1, firstOf_mem h2⟩, h3⟩)
  generalize memB zs x = m at hcall ⊢
  go_enter Tryd.func38, Tryd.ntmps38
  go_wp2_with fail
  refine hcall.mono ?_
  rintro e w' ⟨⟨r, rfl, hr⟩, rfl⟩
  by_cases h : 0 ≤ r
  · have hm : m = true := by rw [← hr]; simp [h]
    clear hcall hr
    go_wp2
    go_ret
    exact ⟨ret_bool hm.symm, rfl⟩
  · have hm : m = false := by rw [← hr]; simp; omega
    clear hcall hr
    go_wp2
    go_ret
    exact ⟨ret_bool (by rw [hm]; simp; omega), rfl⟩


theorem max_if (m t : Int) : (if m < t then t else m) = max m t := by
  split <;> omega

/-- The list of the first n values of a function. -/
def listOf (T : Nat → Int) (n : Nat) : List Int := (List.range n).map T
theorem listOf_length (T : Nat → Int) (n : Nat) : (listOf T n).length = n := by simp [listOf]
theorem listOf_getD (T : Nat → Int) {n k : Nat} (h : k < n) : (listOf T n).getD k 0 = T k := by simp [listOf, h]

set_option maxHeartbeats 800000 in
theorem greatest_any (v : Value) (T : Nat → Int) (n : Nat) (w : World) (hz : IntsAt w v (listOf T n)) :
    Calls Tryd.prog 42 #[v] w fun e w' => e = .returned (.int .i64 (maxTo T n)) ∧ w' = w := by
  obtain ⟨hl, a, c, rfl, hz⟩ := hz
  rw [listOf_length] at hl hz ⊢
  go_enter Tryd.func42, Tryd.ntmps42
  go_wp2
  go_loop [3, 8] (fun m i => ∃ k : Nat, k ≤ n ∧ i = .int .i64 k ∧ m = .int .i64 (maxTo T k)) (fun _ i => n - (intOf i).toNat)
  case atStart => exact ⟨0, Nat.zero_le _, rfl, rfl⟩
  case round =>
    obtain ⟨k, hk, rfl, rfl⟩ := hrel
    by_cases hkl : k < n
    · rcases hz with hz | ⟨b, o, rfl, hbl, hc⟩
      · have := congrArg List.length hz
        rw [listOf_length] at this
        simp at this; omega
      have hck := hc k hkl
      rw [listOf_getD T hkl] at hck
      clear hc
      have HE : Hid (maxTo T (k + 1) = max (maxTo T k) (T k)) := rfl
      generalize maxTo T k = m at *
      generalize T k = t at *
      go_wp2
      go_round
      case rel => exact ⟨k + 1, by omega, by go_num, by rw [HE.out, max_if]⟩
      case measure => simp [intOf]; omega
    · clear hz
      go_wp2
      go_ret
      have : k = n := by omega
      subst this
      exact ⟨rfl, rfl⟩
end Go.Proofs.YtefkglgccllbeaaDoor
