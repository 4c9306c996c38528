/- Words on memory, and the contracts of isTask, the closure of checkTask, slices.IndexFunc and ContainsFunc at []int. -/
import Derived.Test.YtilpjhhjlokfcaaDoorProg
import Derived.WalkKit
import Derived.WalkSpells
import Derived.Deep.LoopGhost
import Derived.Deep.Light
import Derived.Shelf.Abstract
namespace Go.Proofs.YtilpjhhjlokfcaaDoor
open Go.RowKit

/-- A slice value whose elements are the numbers zs, in the world w. -/
def IntsAt (w : World) (v : Value) (zs : List Int) : Prop :=
  zs.length * 8 ≤ 140737488351232 ∧ ∃ a c, v = .slice a zs.length c ∧ (zs = [] ∨ ∃ b o, a = some ⟨b, o, none⟩ ∧ b < w.heap.size ∧ ∀ k, k < zs.length → w.cell? ⟨b, o + k, none⟩ = some (.int .i64 (zs.getD k 0)))

theorem IntsAt.later {w w' : World} {v : Value} {zs : List Int} (h : IntsAt w v zs) (hb : Below w.heap.size w w') : IntsAt w' v zs := by
  obtain ⟨hl, a, c, hv, h⟩ := h
  refine ⟨hl, a, c, hv, ?_⟩
  rcases h with h | ⟨b, o, ha, hlt, hc⟩
  · exact Or.inl h
  · exact Or.inr ⟨b, o, ha, Nat.lt_of_lt_of_le hlt hb.size, fun k hk => (hb.cell (p := ⟨b, o + k, none⟩) hlt).trans (hc k hk)⟩

def inRange (n count : Int) : Bool := decide (0 ≤ n) && decide (n < count)

theorem isTask_any (n count : Int) (w : World) : Calls Tryd.prog 49 #[.int .i64 n, .int .i64 count] w fun e w' => e = .returned (.bool (inRange n count)) ∧ w' = w := by
  by_cases h1 : 0 ≤ n
  · by_cases h2 : n < count
    · go_enter Tryd.func49, Tryd.ntmps49
      go_wp2
      go_ret
      exact ⟨by simp [inRange, h1, h2], rfl⟩
    · go_enter Tryd.func49, Tryd.ntmps49
      go_wp2
      go_ret
      exact ⟨by simp [inRange, h1, h2], rfl⟩
  · go_enter Tryd.func49, Tryd.ntmps49
    go_wp2
    go_ret
    exact ⟨by rw [show inRange n count = false by simp [inRange]; omega]; rfl, rfl⟩

theorem closure_check (n count : Int) (a : Addr) (w : World) (hc : w.cell? a = some (.int .i64 count)) :
    Calls Tryd.prog 48 (#[.int .i64 n] ++ #[.pointer (some a)]) w fun e w' => e = .returned (.bool (!inRange n count)) ∧ w' = w := by
  show Calls Tryd.prog 48 #[.int .i64 n, .pointer (some a)] w _
  cases hr : inRange n count
  all_goals
    have HR : Hid (inRange n count = _) := hr
    clear hr
    go_enter Tryd.func48, Tryd.ntmps48
    go_wp2_with (go_at_call 49; refine (isTask_any _ _ _).mono ?_; rw [HR.out]; rintro e w' ⟨rfl, rfl⟩)
    go_ret
    exact ⟨rfl, rfl⟩

/-- What is asked of a predicate that slices.IndexFunc is handed: in this world, of each of the numbers. -/
def PredIn (g : Nat) (lb : Array Value) (p : Int → Bool) (zs : List Int) (w : World) : Prop :=
  (∀ args w, (callFunc g args).run Tryd.prog w = .ok (.enter g args) w) ∧ ∀ x, x ∈ zs → Calls Tryd.prog g (#[.int .i64 x] ++ lb) w fun e w' => e = .returned (.bool (p x)) ∧ w' = w

def idx (p : Int → Bool) (zs : List Int) : Int := if zs.any p then (zs.findIdx p : Int) else -1

theorem idx_hit (p : Int → Bool) (zs : List Int) (k : Nat) (hlt : k < zs.length) (hno : ∀ x, x ∈ zs.take k → p x = false) (h : p (zs.getD k 0) = true) : idx p zs = k := by
  have he : zs.getD k 0 = zs[k] := by rw [List.getD_eq_getElem?_getD, List.getElem?_eq_getElem hlt]; rfl
  rw [he] at h
  have ha : zs.any p = true := List.any_eq_true.2 ⟨_, List.getElem_mem hlt, h⟩
  have hf : zs.findIdx p = k := by
    rw [List.findIdx_eq hlt]
    refine ⟨h, fun j hj => ?_⟩
    have := hno zs[j] (by rw [List.mem_take_iff_getElem]; exact ⟨j, by omega, rfl⟩)
    simp [this]
  simp [idx, ha, hf]

theorem idx_miss (p : Int → Bool) (zs : List Int) (hno : ∀ x, x ∈ zs → p x = false) : idx p zs = -1 := by
  have ha : zs.any p = false := List.any_eq_false.2 fun x hx => by simp [hno x hx]
  simp [idx, ha]

theorem idx_sign (p : Int → Bool) (zs : List Int) : decide (0 ≤ idx p zs) = zs.any p := by
  unfold idx
  cases zs.any p <;> simp

theorem ret_int {k : IntKind} {a b : Int} (h : a = b) : Ending.returned (.int k a) = .returned (.int k b) := by rw [h]
theorem ret_bool {a b : Bool} (h : a = b) : Ending.returned (.bool a) = .returned (.bool b) := by rw [h]

theorem take_succ_all (p : Int → Bool) (zs : List Int) (k : Nat) (hlt : k < zs.length) (hno : ∀ x, x ∈ zs.take k → p x = false) (h : p (zs.getD k 0) = false) : ∀ x, x ∈ zs.take (k + 1) → p x = false := by
  intro x hx
  rw [List.take_succ_eq_append_getElem hlt] at hx
  rcases List.mem_append.1 hx with hx | hx
  · exact hno x hx
  · have he : zs.getD k 0 = zs[k] := by rw [List.getD_eq_getElem?_getD, List.getElem?_eq_getElem hlt]; rfl
    rw [List.mem_singleton.1 hx, ← he]; exact h

set_option maxHeartbeats 800000 in
theorem indexFunc_any (v : Value) (zs : List Int) (g : Nat) (lb : Array Value) (p : Int → Bool) (w : World) (hz : IntsAt w v zs) (hp : PredIn g lb p zs w) :
    Calls Tryd.prog 47 #[v, .func (.func g) #[] lb] w fun e w' => e = .returned (.int .i64 (idx p zs)) ∧ w' = w := by
  obtain ⟨hl, a, c, rfl, hz⟩ := hz
  obtain ⟨eg, hp⟩ := hp
  have HP : Hid (∀ x, x ∈ zs → Calls Tryd.prog g (#[.int .i64 x] ++ lb) w fun e w' => e = .returned (.bool (p x)) ∧ w' = w) := hp
  clear hp
  rcases hz with rfl | ⟨b, o, rfl, hbl, hc⟩
  · go_enter Tryd.func47, Tryd.ntmps47
    go_wp2
    refine wp_loop_rounds 1 ?_
    rw [rounds_succ]
    go_wp2
    go_ret
    exact ⟨by simp [idx], rfl⟩
  · go_enter Tryd.func47, Tryd.ntmps47
    go_wp2
    go_loop [8] (fun i => ∃ k : Nat, k ≤ zs.length ∧ i = .int .i64 k ∧ Hid (∀ x, x ∈ zs.take k → p x = false)) (fun i => zs.length - (intOf i).toNat)
    case atStart => exact ⟨0, Nat.zero_le _, rfl, fun x hx => by simp at hx⟩
    case round =>
      obtain ⟨k, hk, rfl, hno⟩ := hrel
      by_cases hlt : k < zs.length
      · have hck := hc k hlt
        clear hc
        have hm : zs.getD k 0 ∈ zs := by rw [List.getD_eq_getElem?_getD, List.getElem?_eq_getElem hlt]; exact List.getElem_mem hlt
        generalize hy : zs.getD k 0 = y at hck hm
        have HY : Hid (zs.getD k 0 = y) := hy
        clear hy
        have hcall := HP.out y hm
        cases hq : p y
        · rw [hq] at hcall
          go_wp2_with (go_at_fn g; refine hcall.mono ?_; rintro e w' ⟨rfl, rfl⟩)
          go_round
          case rel => exact ⟨k + 1, by omega, by go_num, take_succ_all p zs k hlt hno.out (by rw [HY.out]; exact hq)⟩
          case measure => simp [intOf]; omega
        · rw [hq] at hcall
          go_wp2_with (go_at_fn g; refine hcall.mono ?_; rintro e w' ⟨rfl, rfl⟩)
          go_ret
          exact ⟨ret_int (idx_hit p zs k hlt hno.out (by rw [HY.out]; exact hq)).symm, rfl⟩
      · go_wp2
        go_ret
        exact ⟨ret_int (idx_miss p zs (fun x hx => hno.out x (by rw [List.take_of_length_le (by omega)]; exact hx))).symm, rfl⟩

theorem containsFunc_any (v : Value) (zs : List Int) (g : Nat) (lb : Array Value) (p : Int → Bool) (w : World) (hz : IntsAt w v zs) (hp : PredIn g lb p zs w) :
    Calls Tryd.prog 44 #[v, .func (.func g) #[] lb] w fun e w' => e = .returned (.bool (zs.any p)) ∧ w' = w := by
  have hcall := indexFunc_any v zs g lb p w hz hp
  rw [← idx_sign p zs]
  generalize idx p zs = r at hcall ⊢
  by_cases hr : 0 ≤ r
  all_goals
    go_enter Tryd.func44, Tryd.ntmps44
    go_wp2_with (go_at_call 47; refine hcall.mono ?_; rintro e w' ⟨rfl, rfl⟩)
    go_ret
    exact ⟨ret_bool (by simp; try omega), rfl⟩
end Go.Proofs.YtilpjhhjlokfcaaDoor
