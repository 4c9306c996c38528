/- Words on memory, and the contracts of isTask, the closure of checkTask, slices.IndexFunc and ContainsFunc at []int. The contracts of rises and checkTask. Plain: tasks as lists, who needs whom, and what a search from a task sees. No word of the program. The contract of inRing: whether a task reaches itself. A plan that the call itself makes: tasks appended one by one; chain. -/
import Derived.Test.YtlfbdjeojgbniaaGreatDoorProg
import Derived.WalkKit
import Derived.WalkSpells
import Derived.Deep.LoopGhost
import Derived.Deep.Light
import Derived.Shelf.Abstract
import Derived.Deep.QuietTactic
import Derived.BigQuiet
import Derived.Deep.OwnRows
import Derived.WalkSmall

namespace Go.Proofs.YtlfbdjeojgbniaaGreatDoor
open Go.RowKit

/-- A slice value whose elements are the numbers zs, in the world w. -/
def IntsAt (w : World) (v : Value) (zs : List Int) : Prop :=
  zs.length * 8 ≤ 140737488351232 ∧ ∃ a c, v = .slice a zs.length c ∧ (zs = [] ∨ ∃ b o, a = some ⟨b, o, none⟩ ∧ b < w.heap.size ∧ ∀ k, k < zs.length → w.cell? ⟨b, o + k, none⟩ = some (.int .i64 (zs.getD k 0)))

theorem IntsAt.later {w w' : World} {v : Value} {zs : List Int} (h : IntsAt w v zs) (hb : Below w.heap.size w w') : IntsAt w' v zs := by
  obtain ⟨hl, a, c, hv, h⟩ := h
  refine ⟨hl, a, c, hv, ?_⟩
  rcases h with h | ⟨b, o, ha, hlt, hc⟩
  · exact Or.inl h
  · exact Or.inr ⟨b, o, ha, Nat.lt_of_lt_of_le hlt hb.size, fun k hk => (hb.cell (p := ⟨b, o + k, none⟩) hlt).trans (hc k hk)⟩

def inRange (n count : Int) : Bool := decide (0 ≤ n) && decide (n < count)

theorem isTask_any (n count : Int) (w : World) : Calls Tryz.prog 113 #[.int .i64 n, .int .i64 count] w fun e w' => e = .returned (.bool (inRange n count)) ∧ w' = w := by
  by_cases h1 : 0 ≤ n
  · by_cases h2 : n < count
    · go_enter Tryz.func113, Tryz.ntmps113
      go_wp2
      go_ret
      exact ⟨by simp [inRange, h1, h2], rfl⟩
    · go_enter Tryz.func113, Tryz.ntmps113
      go_wp2
      go_ret
      exact ⟨by simp [inRange, h1, h2], rfl⟩
  · go_enter Tryz.func113, Tryz.ntmps113
    go_wp2
    go_ret
    exact ⟨by rw [show inRange n count = false by simp [inRange]; omega]; rfl, rfl⟩

theorem closure_check (n count : Int) (a : Addr) (w : World) (hc : w.cell? a = some (.int .i64 count)) :
    Calls Tryz.prog 112 (#[.int .i64 n] ++ #[.pointer (some a)]) w fun e w' => e = .returned (.bool (!inRange n count)) ∧ w' = w := by
  show Calls Tryz.prog 112 #[.int .i64 n, .pointer (some a)] w _
  cases hr : inRange n count
  all_goals
    have HR : Hid (inRange n count = _) := hr
    clear hr
    go_enter Tryz.func112, Tryz.ntmps112
    go_wp2_with (go_at_call 113; refine (isTask_any _ _ _).mono ?_; rw [HR.out]; rintro e w' ⟨rfl, rfl⟩)
    go_ret
    exact ⟨rfl, rfl⟩

/-- What is asked of a predicate that slices.IndexFunc is handed: in this world, of each of the numbers. -/
def PredIn (g : Nat) (lb : Array Value) (p : Int → Bool) (zs : List Int) (w : World) : Prop :=
  (∀ args w, (callFunc g args).run Tryz.prog w = .ok (.enter g args) w) ∧ ∀ x, x ∈ zs → Calls Tryz.prog g (#[.int .i64 x] ++ lb) w fun e w' => e = .returned (.bool (p x)) ∧ w' = w

def idx (p : Int → Bool) (zs : List Int) : Int := if zs.any p then (zs.findIdx p : Int) else -1

theorem idx_hit (p : Int → Bool) (zs : List Int) (k : Nat) (hlt : k < zs.length) (hno : ∀ x, x ∈ zs.take k → p x = false) (h : p (zs.getD k 0) = true) : idx p zs = k := by
  have he : zs.getD k 0 = zs[k] := by rw [List.getD_eq_getElem?_getD, List.getElem?_eq_getElem hlt]; rfl
  rw [he] at h
  have ha : zs.any p = true := List.any_eq_true.2 ⟨_, List.getElem_mem hlt, h⟩
  have hf : zs.findIdx p = k := by
    rw [List.findIdx_eq hlt]
    refine ⟨h, fun j hj => ?_⟩
    have := hno zs[j] (by rw [List.mem_take_iff_getElem]; exact ⟨j, by omega, rfl⟩)
    simp [this]
  simp [idx, ha, hf]

theorem idx_miss (p : Int → Bool) (zs : List Int) (hno : ∀ x, x ∈ zs → p x = false) : idx p zs = -1 := by
  have ha : zs.any p = false := List.any_eq_false.2 fun x hx => by simp [hno x hx]
  simp [idx, ha]

theorem idx_sign (p : Int → Bool) (zs : List Int) : decide (0 ≤ idx p zs) = zs.any p := by
  unfold idx
  cases zs.any p <;> simp

theorem ret_int {k : IntKind} {a b : Int} (h : a = b) : Ending.returned (.int k a) = .returned (.int k b) := by rw [h]
theorem ret_bool {a b : Bool} (h : a = b) : Ending.returned (.bool a) = .returned (.bool b) := by rw [h]

theorem take_succ_all (p : Int → Bool) (zs : List Int) (k : Nat) (hlt : k < zs.length) (hno : ∀ x, x ∈ zs.take k → p x = false) (h : p (zs.getD k 0) = false) : ∀ x, x ∈ zs.take (k + 1) → p x = false := by
  intro x hx
  rw [List.take_succ_eq_append_getElem hlt] at hx
  rcases List.mem_append.1 hx with hx | hx
  · exact hno x hx
  · have he : zs.getD k 0 = zs[k] := by rw [List.getD_eq_getElem?_getD, List.getElem?_eq_getElem hlt]; rfl
    rw [List.mem_singleton.1 hx, ← he]; exact h

set_option maxHeartbeats 800000 in
theorem indexFunc_any (v : Value) (zs : List Int) (g : Nat) (lb : Array Value) (p : Int → Bool) (w : World) (hz : IntsAt w v zs) (hp : PredIn g lb p zs w) :
    Calls Tryz.prog 147 #[v, .func (.func g) #[] lb] w fun e w' => e = .returned (.int .i64 (idx p zs)) ∧ w' = w := by
  obtain ⟨hl, a, c, rfl, hz⟩ := hz
  obtain ⟨eg, hp⟩ := hp
  have HP : Hid (∀ x, x ∈ zs → Calls Tryz.prog g (#[.int .i64 x] ++ lb) w fun e w' => e = .returned (.bool (p x)) ∧ w' = w) := hp
  clear hp
  rcases hz with rfl | ⟨b, o, rfl, hbl, hc⟩
  · go_enter Tryz.func147, Tryz.ntmps147
    go_wp2
    refine wp_loop_rounds 1 ?_
    rw [rounds_succ]
    go_wp2
    go_ret
    exact ⟨by simp [idx], rfl⟩
  · go_enter Tryz.func147, Tryz.ntmps147
    go_wp2
    go_loop [8] (fun i => ∃ k : Nat, k ≤ zs.length ∧ i = .int .i64 k ∧ Hid (∀ x, x ∈ zs.take k → p x = false)) (fun i => zs.length - (intOf i).toNat)
    case atStart => exact ⟨0, Nat.zero_le _, rfl, fun x hx => by simp at hx⟩
    case round =>
      obtain ⟨k, hk, rfl, hno⟩ := hrel
      by_cases hlt : k < zs.length
      · have hck := hc k hlt
        clear hc
        have hm : zs.getD k 0 ∈ zs := by rw [List.getD_eq_getElem?_getD, List.getElem?_eq_getElem hlt]; exact List.getElem_mem hlt
        generalize hy : zs.getD k 0 = y at hck hm
        have HY : Hid (zs.getD k 0 = y) := hy
        clear hy
        have hcall := HP.out y hm
        cases hq : p y
        · rw [hq] at hcall
          go_wp2_with (go_at_fn g; refine hcall.mono ?_; rintro e w' ⟨rfl, rfl⟩)
          go_round
          case rel => exact ⟨k + 1, by omega, by go_num, take_succ_all p zs k hlt hno.out (by rw [HY.out]; exact hq)⟩
          case measure => simp [intOf]; omega
        · rw [hq] at hcall
          go_wp2_with (go_at_fn g; refine hcall.mono ?_; rintro e w' ⟨rfl, rfl⟩)
          go_ret
          exact ⟨ret_int (idx_hit p zs k hlt hno.out (by rw [HY.out]; exact hq)).symm, rfl⟩
      · go_wp2
        go_ret
        exact ⟨ret_int (idx_miss p zs (fun x hx => hno.out x (by rw [List.take_of_length_le (by omega)]; exact hx))).symm, rfl⟩

theorem containsFunc_any (v : Value) (zs : List Int) (g : Nat) (lb : Array Value) (p : Int → Bool) (w : World) (hz : IntsAt w v zs) (hp : PredIn g lb p zs w) :
    Calls Tryz.prog 111 #[v, .func (.func g) #[] lb] w fun e w' => e = .returned (.bool (zs.any p)) ∧ w' = w := by
  have hcall := indexFunc_any v zs g lb p w hz hp
  rw [← idx_sign p zs]
  generalize idx p zs = r at hcall ⊢
  by_cases hr : 0 ≤ r
  all_goals
    go_enter Tryz.func111, Tryz.ntmps111
    go_wp2_with (go_at_call 147; refine hcall.mono ?_; rintro e w' ⟨rfl, rfl⟩)
    go_ret
    exact ⟨ret_bool (by simp; try omega), rfl⟩
end Go.Proofs.YtlfbdjeojgbniaaGreatDoor

namespace Go.Proofs.YtlfbdjeojgbniaaGreatDoor
open Go.RowKit

/-- Each number is above the one ahead of it. -/
def rising : List Int → Bool
  | a :: b :: r => decide (a < b) && rising (b :: r)
  | _ => true

theorem rising_iff (zs : List Int) : rising zs = true ↔ ∀ k, k + 1 < zs.length → zs.getD k 0 < zs.getD (k + 1) 0 := by
  induction zs with
  | nil => simp [rising]
  | cons a r ih =>
    cases r with
    | nil => simp [rising]
    | cons b r =>
      simp only [rising, Bool.and_eq_true, decide_eq_true_eq, ih]
      constructor
      · rintro ⟨h1, h2⟩ k hk
        cases k with
        | zero => simpa using h1
        | succ k => have := h2 k (by simp at hk ⊢; omega); simpa using this
      · intro h
        refine ⟨by have := h 0 (by simp); simpa using this, fun k hk => ?_⟩
        have := h (k + 1) (by simp at hk ⊢; omega)
        simpa using this

theorem rising_false (zs : List Int) (k : Nat) (h1 : 1 ≤ k) (hk : k < zs.length) (h : zs.getD k 0 ≤ zs.getD (k - 1) 0) : rising zs = false := by
  cases hr : rising zs with
  | false => rfl
  | true =>
    have := (rising_iff zs).1 hr (k - 1) (by omega)
    rw [show k - 1 + 1 = k by omega] at this
    omega

set_option maxHeartbeats 800000 in
theorem rises_any (v : Value) (zs : List Int) (w : World) (hz : IntsAt w v zs) :
    Calls Tryz.prog 114 #[v] w fun e w' => e = .returned (.bool (rising zs)) ∧ ∃ n, w' = w.drewN n := by
  obtain ⟨hl, a, c, rfl, hz⟩ := hz
  rcases hz with rfl | ⟨b, o, rfl, hbl, hc⟩
  · go_enter Tryz.func114, Tryz.ntmps114
    go_wp2
    refine wp_loop_rounds 1 ?_
    rw [rounds_succ]
    go_wp2
    go_ret
    exact ⟨rfl, 0, rfl⟩
  · go_enter Tryz.func114, Tryz.ntmps114
    go_wp2
    go_loopw [3] (fun i wr => ∃ k n : Nat, 1 ≤ k ∧ (k ≤ zs.length ∨ k = 1) ∧ i = .int .i64 k ∧ wr = w.drewN n ∧ Hid (∀ j, j + 1 < k → zs.getD j 0 < zs.getD (j + 1) 0)) (fun i _ => zs.length - (intOf i).toNat)
    case atStart => exact ⟨1, 0, Nat.le_refl _, Or.inr rfl, rfl, rfl, fun j hj => by omega⟩
    case round =>
      obtain ⟨k, n, h1, hk, rfl, rfl, hno⟩ := hrel
      by_cases hkl : k < zs.length
      · have hc1 := hc k hkl
        have hc2 := hc (k - 1) (by omega)
        clear hc
        generalize hy : zs.getD k 0 = y at hc1
        generalize hx : zs.getD (k - 1) 0 = x at hc2
        have HY : Hid (zs.getD k 0 = y) := hy
        have HX : Hid (zs.getD (k - 1) 0 = x) := hx
        clear hy hx hk
        go_wp2
        go_quiet (fail)
        go_wp2
        · go_ret
          exact ⟨ret_bool (rising_false zs k h1 hkl (by rw [HY.out, HX.out]; assumption)).symm, _, World.drewN_drewN _ _ _⟩
        · go_roundw
          case rel =>
            have hxy : x < y := by assumption
            refine ⟨k + 1, _, by omega, Or.inl (by omega), by go_num, rfl, fun j hj => ?_⟩
            by_cases e : j + 1 = k
            · subst e; rw [HY.out, show zs.getD j 0 = x from HX.out]; exact hxy
            · exact hno.out j (by omega)
          case measure => simp [intOf]; omega
      · go_wp2
        go_ret
        exact ⟨ret_bool ((rising_iff zs).2 (fun j hj => hno.out j (by omega))).symm, _, rfl⟩

/-- An error of the program: nil, or a number of api.Errno. -/
def errV (n : Int) : Value := if n = 0 then .nilIface else .iface 97 (.int .i64 n)

/-- What is wrong with a task by itself, in a plan of so many. -/
def taskErr (wk : Int) (needs : List Int) (count : Int) : Int :=
  if wk < 1 ∨ 20 < wk then 1 else if needs.any (fun n => !inRange n count) then 1 else if rising needs then 0 else 7

theorem enters34 : ∀ args w, (callFunc 112 args).run Tryz.prog w = .ok (.enter 112 args) w := enters_of Tryz.func112 (by kernel_rfl) rfl

set_option maxHeartbeats 1600000 in
theorem checkTask_any (wk : Int) (nv : Value) (needs : List Int) (count : Int) (w : World) (hz : IntsAt w nv needs) :
    Calls Tryz.prog 78 #[.agg #[.int .i64 wk, nv], .int .i64 count] w fun e w' => e = .returned (errV (taskErr wk needs count)) ∧ Below w.heap.size w w' := by
  by_cases h1 : wk < 1
  · go_enter Tryz.func78, Tryz.ntmps78
    go_wp2
    go_ret
    exact ⟨by simp [taskErr, h1, errV], ((Below.refl _ _).alloc (Nat.le_refl _) _).alloc (by simp) _⟩
  by_cases h2 : 20 < wk
  · go_enter Tryz.func78, Tryz.ntmps78
    go_wp2
    go_ret
    exact ⟨by simp [taskErr, h2, errV], ((Below.refl _ _).alloc (Nat.le_refl _) _).alloc (by simp) _⟩
  have hB : Below w.heap.size w ((w.alloc (.cells #[.int .i64 wk, nv] 94)).alloc (.cells #[.int .i64 count] 3)) := ((Below.refl _ _).alloc (Nat.le_refl _) _).alloc (by simp) _
  have hp : PredIn 112 #[.pointer (some ⟨w.heap.size + 1, 0, none⟩)] (fun n => !inRange n count) needs ((w.alloc (.cells #[.int .i64 wk, nv] 94)).alloc (.cells #[.int .i64 count] 3)) :=
    ⟨enters34, fun x _ => closure_check x count _ _ (by simp)⟩
  have hz' := hz.later hB
  have hcon := containsFunc_any nv needs 112 _ _ _ hz' hp
  cases ha : needs.any (fun n => !inRange n count)
  · rw [ha] at hcon
    have hr := rises_any nv needs _ hz'
    cases hri : rising needs
    all_goals
      rw [hri] at hr
      have HT : Hid (taskErr wk needs count = if rising needs then 0 else 7) := by unfold taskErr; rw [if_neg (by omega), ha]; rfl
      rw [hri] at HT
      clear ha hri hp hz hz'
      go_enter Tryz.func78, Tryz.ntmps78
      go_wp2_with (first | (go_at_call 111; refine hcon.mono ?_; rintro e w' ⟨rfl, rfl⟩) | (go_at_call 114; refine hr.mono ?_; rintro e w' ⟨rfl, n, rfl⟩))
      go_ret
      exact ⟨by rw [HT.out]; rfl, ⟨hB.os, hB.tape, hB.output, hB.size, hB.block⟩⟩
  · rw [ha] at hcon
    have HT : Hid (taskErr wk needs count = 1) := by unfold taskErr; rw [if_neg (by omega), ha]; rfl
    clear ha hp hz hz'
    go_enter Tryz.func78, Tryz.ntmps78
    go_wp2_with (go_at_call 111; refine hcon.mono ?_; rintro e w' ⟨rfl, rfl⟩)
    go_ret
    exact ⟨by rw [HT.out]; rfl, hB⟩
end Go.Proofs.YtlfbdjeojgbniaaGreatDoor

namespace Go.Proofs.YtlfbdjeojgbniaaGreatDoor

/-- What the x-th task needs. -/
def needsOf (ts : List (Int × List Int)) (x : Nat) : List Int := (ts.getD x (0, [])).2
def Need (ts : List (Int × List Int)) (x y : Nat) : Prop := (y : Int) ∈ needsOf ts x
/-- y is needed by x, or by what x needs, and so on: over so many tasks between. -/
def ReachN (ts : List (Int × List Int)) : Nat → Nat → Nat → Prop
  | 0, x, y => Need ts x y
  | n + 1, x, z => ∃ y, ReachN ts n x y ∧ Need ts y z
def Reach (ts : List (Int × List Int)) (x y : Nat) : Prop := ∃ n, ReachN ts n x y
theorem Reach.one {ts : List (Int × List Int)} {x y : Nat} (h : Need ts x y) : Reach ts x y := ⟨0, h⟩
theorem Reach.more {ts : List (Int × List Int)} {x y z : Nat} (h : Reach ts x y) (hn : Need ts y z) : Reach ts x z := by
  obtain ⟨n, hr⟩ := h
  exact ⟨n + 1, y, hr, hn⟩
theorem Reach.ind {ts : List (Int × List Int)} {x : Nat} {motive : ∀ y, Reach ts x y → Prop} (one : ∀ {y : Nat} (h : Need ts x y), motive y (Reach.one h))
    (more : ∀ {y z : Nat} (h : Reach ts x y) (hn : Need ts y z), motive y h → motive z (Reach.more h hn)) {y : Nat} (h : Reach ts x y) : motive y h := by
  obtain ⟨n, hr⟩ := h
  induction n generalizing y with
  | zero => exact one hr
  | succ n ih =>
    obtain ⟨u, hu, hn⟩ := hr
    exact more ⟨n, hu⟩ hn (ih hu)

/-- All that tasks need are tasks. -/
def InRange (ts : List (Int × List Int)) : Prop := ∀ x, x < ts.length → ∀ y, y ∈ needsOf ts x → 0 ≤ y ∧ y < ts.length

def mark (S : Nat → Bool) (y : Nat) : Nat → Bool := fun x => if x = y then true else S x
def unseen (S : Nat → Bool) : Nat → Nat
  | 0 => 0
  | n + 1 => unseen S n + if S n then 0 else 1

theorem unseen_le (S : Nat → Bool) (n : Nat) : unseen S n ≤ n := by
  induction n with
  | zero => exact Nat.le_refl _
  | succ n ih => unfold unseen; split <;> omega

theorem unseen_past (S : Nat → Bool) (n y : Nat) (h : n ≤ y) : unseen (mark S y) n = unseen S n := by
  induction n with
  | zero => rfl
  | succ n ih =>
    unfold unseen
    rw [ih (by omega), show mark S y n = S n by unfold mark; rw [if_neg (by omega)]]

theorem unseen_mark (S : Nat → Bool) (n y : Nat) (hy : y < n) (h : S y = false) : unseen (mark S y) n + 1 = unseen S n := by
  induction n with
  | zero => omega
  | succ n ih =>
    unfold unseen
    by_cases e : n = y
    · subst e
      rw [unseen_past S n n (Nat.le_refl _), show mark S n n = true by simp [mark], h]
      simp
    · have := ih (by omega)
      rw [show mark S y n = S n by unfold mark; rw [if_neg e]]
      omega

/-- A search from i: what was seen, what is still to be looked at. -/
structure Dfs (ts : List (Int × List Int)) (i : Nat) (S : Nat → Bool) (st : List Nat) : Prop where
  lt : ∀ x, x ∈ st → x < ts.length
  seen : ∀ x, S x = true → x < ts.length ∧ Reach ts i x
  stk : ∀ x, x ∈ st → x = i ∨ S x = true
  closed : ∀ x, (x = i ∨ S x = true) → x ∉ st → ∀ y, Need ts x y → S y = true

/-- While the needs of x are gone over: k of them are done. -/
structure DfsIn (ts : List (Int × List Int)) (i x k : Nat) (S : Nat → Bool) (st : List Nat) : Prop where
  xlt : x < ts.length
  own : x = i ∨ S x = true
  lt : ∀ x, x ∈ st → x < ts.length
  seen : ∀ x, S x = true → x < ts.length ∧ Reach ts i x
  stk : ∀ x, x ∈ st → x = i ∨ S x = true
  closed : ∀ z, z ≠ x → (z = i ∨ S z = true) → z ∉ st → ∀ y, Need ts z y → S y = true
  done : ∀ j, j < k → S ((needsOf ts x).getD j 0).toNat = true

theorem Dfs.start (ts : List (Int × List Int)) (i : Nat) (h : i < ts.length) : Dfs ts i (fun _ => false) [i] := {
  lt := fun x hx => by rw [List.mem_singleton.1 hx]; exact h
  seen := fun x hx => by simp at hx
  stk := fun x hx => Or.inl (List.mem_singleton.1 hx)
  closed := fun x hx hn => by rcases hx with rfl | hx <;> simp_all
  }

theorem Dfs.pop {ts : List (Int × List Int)} {i : Nat} {S : Nat → Bool} {st : List Nat} {x : Nat} (h : Dfs ts i S (st ++ [x])) : DfsIn ts i x 0 S st := {
  xlt := h.lt x (by simp)
  own := h.stk x (by simp)
  lt := fun y hy => h.lt y (by simp [hy])
  seen := h.seen
  stk := fun y hy => h.stk y (by simp [hy])
  closed := fun z hz ho hn => h.closed z ho (by simp [hn, hz])
  done := fun j hj => by omega
  }

theorem need_at {ts : List (Int × List Int)} {x k : Nat} (hr : InRange ts) (hx : x < ts.length) (hk : k < (needsOf ts x).length) :
    ((needsOf ts x).getD k 0).toNat < ts.length ∧ Need ts x ((needsOf ts x).getD k 0).toNat ∧ 0 ≤ (needsOf ts x).getD k 0 := by
  have he : (needsOf ts x).getD k 0 = (needsOf ts x)[k] := by rw [List.getD_eq_getElem?_getD, List.getElem?_eq_getElem hk]; rfl
  have hm : (needsOf ts x)[k] ∈ needsOf ts x := List.getElem_mem hk
  have hb := hr x hx _ hm
  rw [he]
  exact ⟨by omega, by unfold Need; rw [Int.toNat_of_nonneg hb.1]; exact hm, hb.1⟩

theorem DfsIn.skip {ts : List (Int × List Int)} {i x k : Nat} {S : Nat → Bool} {st : List Nat} (h : DfsIn ts i x k S st) (hy : S ((needsOf ts x).getD k 0).toNat = true) : DfsIn ts i x (k + 1) S st :=
  ⟨h.xlt, h.own, h.lt, h.seen, h.stk, h.closed, fun j hj => by
    by_cases e : j = k
    · subst e; exact hy
    · exact h.done j (by omega)⟩

theorem DfsIn.push {ts : List (Int × List Int)} {i x k : Nat} {S : Nat → Bool} {st : List Nat} (hr : InRange ts) (h : DfsIn ts i x k S st) (hk : k < (needsOf ts x).length) :
    DfsIn ts i x (k + 1) (mark S ((needsOf ts x).getD k 0).toNat) (st ++ [((needsOf ts x).getD k 0).toNat]) := by
  obtain ⟨hlt, hneed, _⟩ := need_at hr h.xlt hk
  generalize hyy : ((needsOf ts x).getD k 0).toNat = y at *
  have mono : ∀ z, S z = true → mark S y z = true := fun z hz => by unfold mark; split <;> simp [hz]
  have hself : mark S y y = true := by simp [mark]
  refine ⟨h.xlt, h.own.imp id (mono _), ?_, ?_, ?_, ?_, ?_⟩
  · intro z hz
    rcases List.mem_append.1 hz with hz | hz
    · exact h.lt z hz
    · rw [List.mem_singleton.1 hz]; exact hlt
  · intro z hz
    by_cases e : z = y
    · subst e
      refine ⟨hlt, ?_⟩
      rcases h.own with ho | ho
      · subst ho; exact Reach.one hneed
      · exact Reach.more (h.seen _ ho).2 hneed
    · refine h.seen z ?_
      unfold mark at hz
      rwa [if_neg e] at hz
  · intro z hz
    rcases List.mem_append.1 hz with hz | hz
    · exact (h.stk z hz).imp id (mono _)
    · rw [List.mem_singleton.1 hz]; exact Or.inr hself
  · intro z hzx ho hn y' hy'
    simp only [List.mem_append, List.mem_singleton, not_or] at hn
    refine mono _ (h.closed z hzx (ho.imp id fun hz => ?_) hn.1 y' hy')
    unfold mark at hz
    rwa [if_neg hn.2] at hz
  · intro j hj
    by_cases e : j = k
    · subst e; rw [hyy]; exact hself
    · exact mono _ (h.done j (by omega))

theorem DfsIn.finish {ts : List (Int × List Int)} {i x : Nat} {S : Nat → Bool} {st : List Nat} (h : DfsIn ts i x (needsOf ts x).length S st) : Dfs ts i S st := {
  lt := h.lt
  seen := h.seen
  stk := h.stk
  closed := fun z ho hn y hy => by
    by_cases e : z = x
    · subst e
      obtain ⟨j, hj, he⟩ := List.getElem_of_mem hy
      have hd := h.done j hj
      rw [List.getD_eq_getElem?_getD, List.getElem?_eq_getElem hj] at hd
      simp only [Option.getD_some, he, Int.toNat_natCast] at hd
      exact hd
    · exact h.closed z e ho hn y hy
  }

theorem Dfs.ends {ts : List (Int × List Int)} {i : Nat} {S : Nat → Bool} (h : Dfs ts i S []) (x : Nat) : S x = true ↔ Reach ts i x := by
  constructor
  · exact fun hx => (h.seen x hx).2
  · intro hx
    induction hx using Reach.ind with
    | one hn => exact h.closed _ (Or.inl rfl) (by simp) _ hn
    | more _ hn ih => exact h.closed _ (Or.inr ih) (by simp) _ hn
end Go.Proofs.YtlfbdjeojgbniaaGreatDoor

namespace Go.Proofs.YtlfbdjeojgbniaaGreatDoor
open Go.RowKit

/-- A slice value whose elements are the tasks ts, in the world w. -/
def PlanAt (w : World) (v : Value) (ts : List (Int × List Int)) : Prop :=
  ts.length * 32 ≤ 140737488351232 ∧ ∃ a c, v = .slice a ts.length c ∧ (ts = [] ∨ ∃ b o, a = some ⟨b, o, none⟩ ∧ b < w.heap.size ∧
    ∀ k, k < ts.length → w.cell? ⟨b, o + k * 2, none⟩ = some (.int .i64 (ts.getD k (0, [])).1) ∧ ∃ nv, w.cell? ⟨b, o + k * 2 + 1, none⟩ = some nv ∧ IntsAt w nv (needsOf ts k))

theorem PlanAt.later {w w' : World} {v : Value} {ts : List (Int × List Int)} (h : PlanAt w v ts) (hb : Below w.heap.size w w') : PlanAt w' v ts := by
  obtain ⟨hl, a, c, hv, h⟩ := h
  refine ⟨hl, a, c, hv, ?_⟩
  rcases h with h | ⟨b, o, ha, hlt, hc⟩
  · exact Or.inl h
  · refine Or.inr ⟨b, o, ha, Nat.lt_of_lt_of_le hlt hb.size, fun k hk => ?_⟩
    obtain ⟨h1, nv, h2, h3⟩ := hc k hk
    exact ⟨(hb.cell (p := ⟨b, o + k * 2, none⟩) hlt).trans h1, nv, (hb.cell (p := ⟨b, o + k * 2 + 1, none⟩) hlt).trans h2, h3.later hb⟩

theorem Tryz.info3 : (Tryz.prog.info? 3).map (fun i => (i.zero, i.size, i.bytes)) = some (some (.int .i64 0), 1, 8) := by kernel_rfl
theorem Tryz.info4 : (Tryz.prog.info? 4).map (fun i => (i.zero, i.size, i.bytes)) = some (some (.bool false), 1, 1) := by kernel_rfl

def natV (x : Nat) : Value := .int .i64 x

/-- What the search's memory is: the row 'seen' in block N, the stack from block N + 1 on. -/
structure DfsMem (N n : Nat) (w wr : World) (s6 : Value) (S : Nat → Bool) (st : List Nat) : Prop where
  own : wr.ownsRow (N + 1) 3 1 s6 st.length (st.map natV)
  shape : ∃ g cap, s6 = .slice (some ⟨g, 0, none⟩) st.length cap
  row : wr.rowIs N 4 n (fun k => .bool (S k))
  below : Below N w wr

theorem DfsMem.start (w : World) (n i : Nat) : DfsMem w.heap.size n w ((w.alloc (.cells (madeCells #[.bool false] n) 4)).alloc (.cells #[.int .i64 i] 3)) (.slice (some ⟨w.heap.size + 1, 0, none⟩) 1 1) (fun _ => false) [i] := {
  own := by
    have h := World.ownsRow_lit (base := w.heap.size + 1) (e := 3) (size := 1) (w.alloc (.cells (madeCells #[.bool false] n) 4)) #[.int .i64 i] 1 (by simp) (by unfold maxLen; omega) rfl
    simpa [natV] using h
  shape := ⟨_, _, rfl⟩
  row := (World.rowIs_made w (.bool false) n 4).alloc _
  below := ((Below.refl _ _).alloc (Nat.le_refl _) _).alloc (by simp) _
  }

theorem DfsMem.top {N n : Nat} {w wr : World} {g cap : Nat} {S : Nat → Bool} {st : List Nat} {x : Nat} (h : DfsMem N n w wr (.slice (some ⟨g, 0, none⟩) (st ++ [x]).length cap) S (st ++ [x])) :
    wr.cell? ⟨g, st.length, none⟩ = some (.int .i64 x) := by
  have := h.own.cellAt st.length (by simp)
  rw [this]
  simp [natV]

theorem DfsMem.pop {N n : Nat} {w wr : World} {g cap : Nat} {S : Nat → Bool} {st : List Nat} {x : Nat} (h : DfsMem N n w wr (.slice (some ⟨g, 0, none⟩) (st ++ [x]).length cap) S (st ++ [x])) :
    DfsMem N n w wr (.slice (some ⟨g, 0, none⟩) st.length cap) S st := {
  own := by
    have := h.own
    rw [List.length_append, List.map_append] at this
    exact ownsRow_pop (n := st.length) (by simp) this
  shape := ⟨_, _, rfl⟩
  row := h.row
  below := h.below
  }

theorem shape_of_owns {w : World} {base : Nat} {v : Value} {n : Nat} {xs : List Value} (h : w.ownsRow base 3 1 v n xs) (hn : 0 < n) : ∃ g cap, v = .slice (some ⟨g, 0, none⟩) n cap := by
  rcases h.2 with ⟨_, h0⟩ | ⟨g, cap, _, hv, _⟩
  · omega
  · exact ⟨g, cap, hv⟩

theorem DfsMem.seenSet {N n : Nat} {w wr : World} {s6 : Value} {S : Nat → Bool} {st : List Nat} (h : DfsMem N n w wr s6 S st) (y : Nat) :
    DfsMem N n w (wr.setCell ⟨N, y, none⟩ (.bool true)) s6 (mark S y) st := {
  own := ownsRow_setCell_below h.own (by show N < N + 1; omega) _
  shape := h.shape
  row := (h.row.set y (.bool true)).congr (fun k _ => by unfold mark; split <;> simp_all)
  below := h.below.setCell (Nat.le_refl _) _
  }

theorem DfsMem.alloc {N n : Nat} {w wr : World} {s6 : Value} {S : Nat → Bool} {st : List Nat} (h : DfsMem N n w wr s6 S st) (o : Obj) : DfsMem N n w (wr.alloc o) s6 S st := {
  own := h.own.alloc o
  shape := h.shape
  row := h.row.alloc o
  below := h.below.alloc (Nat.le_of_lt h.row.lt) o
  }

theorem DfsMem.pushed {N n : Nat} {w wr w1 : World} {s6 v' : Value} {S : Nat → Bool} {st : List Nat} {y : Nat} (h : DfsMem N n w wr s6 S st)
    (ho : w1.ownsRow (N + 1) 3 1 v' (st.length + 1) (st.map natV ++ [natV y])) (hg : wr.grownBy w1 s6.ownBlock) : DfsMem N n w w1 v' S (st ++ [y]) := {
  own := by simpa using ho
  shape := by have := shape_of_owns ho (by omega); simpa using this
  row := h.row.of_block (hg.block N h.row.lt (fun e => by have := h.own.lt N e.symm; omega))
  below := h.below.grown hg (Nat.le_of_lt h.row.lt) (fun k e => by have := h.own.lt k e; omega)
  }

set_option maxRecDepth 100000 in
set_option maxHeartbeats 4000000 in
theorem inRing_any (v : Value) (ts : List (Int × List Int)) (i : Nat) (w : World) (hp : PlanAt w v ts) (hi : i < ts.length) (hr : InRange ts) :
    Calls Tryz.prog 79 #[v, .int .i64 i] w fun e w' => (∃ b, e = .returned (.bool b) ∧ (b = true ↔ Reach ts i i)) ∧ Below w.heap.size w w' := by
  obtain ⟨hl, a, c, rfl, hp⟩ := hp
  rcases hp with rfl | ⟨b, o, rfl, hbl, hc⟩
  · simp at hi
  have hmk := fun wx => run_make_row' (P := Tryz.prog) 84 4 (.bool false) 1 Tryz.underlying84 Tryz.info4 rfl .i64 .i64 ts.length (by omega) (by omega) wx
  obtain ⟨i3, hi3, hz0, hz1, hz2⟩ := info_parts Tryz.info3
  have HC : Hid (∀ k, k < ts.length → w.cell? ⟨b, o + k * 2, none⟩ = some (.int .i64 (ts.getD k (0, [])).1) ∧ ∃ nv, w.cell? ⟨b, o + k * 2 + 1, none⟩ = some nv ∧ IntsAt w nv (needsOf ts k)) := hc
  clear hc
  have HR : Hid (InRange ts) := hr
  clear hr
  go_enter Tryz.func79, Tryz.ntmps79
  go_wp2
  go_loopg [6] (ts.length + 1) (fun gg s6 wr => ∃ S st, Hid (DfsMem w.heap.size ts.length w wr s6 S st) ∧ Hid (Dfs ts i S st) ∧ unseen S ts.length + st.length ≤ gg ∧ gg ≤ ts.length + 1)
  case atStart => exact ⟨_, _, DfsMem.start w ts.length i, Dfs.start ts i hi, by have := unseen_le (fun _ => false) ts.length; simp; omega, Nat.le_refl _⟩
  case round =>
    obtain ⟨S, st, hm, hd, hg, hG⟩ := hrel
    obtain ⟨G, rfl⟩ : ∃ G, G = gk := ⟨_, rfl⟩
    obtain ⟨g, cap, rfl⟩ := hm.out.shape
    rcases List.eq_nil_or_concat st with rfl | ⟨st', x, rfl⟩
    · have hci := hm.out.row.cell hi
      go_wp2
      go_ret
      refine ⟨⟨_, rfl, hd.out.ends i⟩, hm.out.below⟩
    · rw [List.concat_eq_append] at *
      have htop := hm.out.top
      have hpop := hm.out.pop
      have hin := hd.out.pop
      have hx := hin.xlt
      obtain ⟨_, nv, hnv, hln, a2, c2, rfl, hz⟩ := HC.out x hx
      have hnv' := (hm.out.below.cell (p := ⟨b, o + x * 2 + 1, none⟩) hbl).trans hnv
      have HM : Hid (DfsMem w.heap.size ts.length w wr (.slice (some ⟨g, 0, none⟩) st'.length cap) S st') := hpop
      have HI : Hid (DfsIn ts i x 0 S st') := hin
      have hlen : (st' ++ [x]).length = st'.length + 1 := by simp
      have hcap : st'.length + 1 ≤ cap := by
        have := hm.out.own
        rcases this.2 with ⟨e, _⟩ | ⟨g1, cap1, cur, e, _, _, h3, _⟩
        · simp at e
        · simp at e; simp at h3; omega
      rw [hlen] at hm hg ⊢
      clear hpop hin hm hd hnv hlen
      go_wp2
      clear htop hnv' hcap
      go_loopg [6, 35] ((needsOf ts x).length) (fun gg s6 s35 wr => ∃ k S st, k ≤ (needsOf ts x).length ∧ s35 = .int .i64 (k : Nat) ∧ Hid (DfsMem w.heap.size ts.length w wr s6 S st) ∧ Hid (DfsIn ts i x k S st) ∧ unseen S ts.length + st.length + 1 ≤ G ∧ (needsOf ts x).length - k ≤ gg)
      case atStart => exact ⟨0, S, st', Nat.zero_le _, rfl, HM, HI, by omega, by omega⟩
      case round =>
        clear HM HI hg
        obtain ⟨k, S2, st2, hk, rfl, hm, hd, hg, hgk⟩ := hrel
        obtain ⟨g2, cap2, rfl⟩ := hm.out.shape
        by_cases hkl : k < (needsOf ts x).length
        · rcases hz with hz | ⟨b2, o2, rfl, hb2, hc2⟩
          · rw [hz] at hkl; simp at hkl
          have hcell := (hm.out.below.cell (p := ⟨b2, o2 + k, none⟩) hb2).trans (hc2 k hkl)
          have HC2 : Hid (∀ k, k < (needsOf ts x).length → w.cell? ⟨b2, o2 + k, none⟩ = some (.int .i64 ((needsOf ts x).getD k 0))) := hc2
          clear hc2
          obtain ⟨hylt, _, hy0⟩ := need_at HR.out hx hkl
          obtain ⟨y, hy⟩ := Int.eq_ofNat_of_zero_le hy0
          rw [hy] at hcell hylt
          rw [Int.toNat_natCast] at hylt
          have HY : Hid ((needsOf ts x).getD k 0 = (y : Int)) := hy
          clear hy hy0
          have hsy := hm.out.row.cell hylt
          have hfy := hm.out.row.frozen y
          cases hs : S2 y
          · rw [hs] at hsy
            have HS : Hid (S2 y = false) := hs
            clear hs
            have hmem := (hm.out.seenSet y).alloc (.cells #[.int .i64 y] 3)
            go_wp2_with (at_builtin; refine wpList_append_own _ rfl (.tmp 47) (.tmp 49) 73 rfl (w.heap.size + 1) 3 i3 (.int .i64 0) 1 8 Tryz.underlying73 hi3 hz0 hz1 hz2 rfl (by decide) _ st2.length (st2.map natV) rfl hmem.own ⟨wr.heap.size, 0, none⟩ 1 1 [.int .i64 y] rfl rfl ?c1 ?c2 ?c3 ?c4 ?c5 ?_)
            case c1 =>
              have hone := cell_one_new (wr.setCell ⟨w.heap.size, y, none⟩ (.bool true)) (.int .i64 y) 3
              simpa using hone
            case c2 => intro u hu; simp at hu; subst hu; rfl
            case c3 => unfold maxLen; omega
            case c4 => omega
            case c5 => have := hm.out.row.lt; simp; omega
            intro v' w1 hown' hgrow _
            have hmem' : Hid (DfsMem w.heap.size ts.length w w1 v' (mark S2 y) (st2 ++ [y])) := hmem.pushed hown' hgrow
            have hu := unseen_mark S2 ts.length y hylt HS.out
            clear hown' hgrow hmem hsy hfy hcell
            go_wp2
            go_roundg ((needsOf ts x).length - (k + 1))
            case measure => omega
            case rel =>
              have hpush := hd.out.push HR.out hkl
              rw [HY.out, Int.toNat_natCast] at hpush
              exact ⟨k + 1, mark S2 y, st2 ++ [y], by omega, by go_num, hmem', hpush, by simp; omega, Nat.le_refl _⟩
          · rw [hs] at hsy
            have HS : Hid (S2 y = true) := hs
            clear hs
            go_wp2
            go_roundg ((needsOf ts x).length - (k + 1))
            case measure => omega
            case rel => exact ⟨k + 1, S2, st2, by omega, by go_num, hm, hd.out.skip (by rw [HY.out, Int.toNat_natCast]; exact HS.out), hg, Nat.le_refl _⟩
        · have hke : k = (needsOf ts x).length := by omega
          have HK : Hid (k = (needsOf ts x).length) := hke
          clear hke
          go_wp2
          go_roundg (G - 1)
          case measure => omega
          case rel => exact ⟨S2, st2, hm, DfsIn.finish (by rw [← HK.out]; exact hd.out), by omega, by omega⟩
end Go.Proofs.YtlfbdjeojgbniaaGreatDoor

namespace Go.Proofs.YtlfbdjeojgbniaaGreatDoor
open Go.RowKit Go.Deep

/-- The needs of a task in a block of their own; none: the nil slice. -/
def NeedsBlk (w : World) (nv : Value) (zs : List Int) : Prop :=
  (zs = [] ∧ nv = .slice none 0 0) ∨ (∃ blk, nv = .slice (some ⟨blk, 0, none⟩) zs.length zs.length ∧ w.heap[blk]? = some (.cells (zs.map (Value.int .i64)).toArray 3 (0, 0)))

/-- A plan in memory of the call's own (blocks from N on). -/
def OwnPlan (N : Nat) (w : World) (v : Value) (ts : List (Int × List Int)) : Prop :=
  ∃ xs, w.ownsRow N 94 2 v ts.length xs ∧ ∀ j, j < ts.length → xs[j * 2]? = some (.int .i64 (ts.getD j (0, [])).1) ∧ ∃ nv, xs[j * 2 + 1]? = some nv ∧ NeedsBlk w nv (needsOf ts j)

theorem NeedsBlk.later {w w' : World} {nv : Value} {zs : List Int} (h : NeedsBlk w nv zs) (hb : Below w.heap.size w w') : NeedsBlk w' nv zs := by
  rcases h with h | ⟨blk, h1, h2⟩
  · exact Or.inl h
  · exact Or.inr ⟨blk, h1, (hb.block blk (lt_of_block h2)).trans h2⟩

theorem NeedsBlk.grown {w w' : World} {nv v : Value} {zs : List Int} {N n : Nat} {xs : List Value} (h : NeedsBlk w nv zs) (ho : w.ownsRow N 94 2 v n xs) (hg : w.grownBy w' v.ownBlock) : NeedsBlk w' nv zs := by
  rcases h with h | ⟨blk, h1, h2⟩
  · exact Or.inl h
  · refine Or.inr ⟨blk, h1, (hg.block blk (lt_of_block h2) (fun e => ?_)).trans h2⟩
    rcases ho.2 with ⟨hv, _⟩ | ⟨g, cap, cur, hv, _, hh, _⟩
    · subst hv; simp [Value.ownBlock] at e
    · subst hv
      simp only [Value.ownBlock, Option.some.injEq] at e
      subst e
      rw [h2] at hh
      simp at hh

theorem OwnPlan.nil (N : Nat) (w : World) : OwnPlan N w (.slice none 0 0) [] := ⟨[], World.ownsRow_nil _ _ _ _, fun j hj => by simp at hj⟩

theorem OwnPlan.later {N : Nat} {w w' : World} {v : Value} {ts : List (Int × List Int)} (h : OwnPlan N w v ts) (hb : Below w.heap.size w w') : OwnPlan N w' v ts := by
  obtain ⟨xs, ho, hx⟩ := h
  refine ⟨xs, ho.kept (row := none) ⟨hb.os, hb.tape, hb.output, hb.size, fun k hk _ => hb.block k hk⟩ (by cases v.ownBlock <;> simp), fun j hj => ?_⟩
  obtain ⟨h1, nv, h2, h3⟩ := hx j hj
  exact ⟨h1, nv, h2, h3.later hb⟩

theorem getD_snoc {α : Type} (l : List α) (x d : α) (j : Nat) (hj : j < l.length) : (l ++ [x]).getD j d = l.getD j d := by simp [List.getElem?_append_left hj]
theorem getD_snoc_at {α : Type} (l : List α) (x d : α) : (l ++ [x]).getD l.length d = x := by simp

theorem OwnPlan.append {N : Nat} {w w' : World} {v v' nv : Value} {ts : List (Int × List Int)} {xs : List Value} {wk : Int} {zs : List Int}
    (ho : w.ownsRow N 94 2 v ts.length xs) (hx : ∀ j, j < ts.length → xs[j * 2]? = some (.int .i64 (ts.getD j (0, [])).1) ∧ ∃ nv, xs[j * 2 + 1]? = some nv ∧ NeedsBlk w nv (needsOf ts j))
    (hn : NeedsBlk w nv zs) (ho' : w'.ownsRow N 94 2 v' (ts.length + 1) (xs ++ [.int .i64 wk, nv])) (hg : w.grownBy w' v.ownBlock) : OwnPlan N w' v' (ts ++ [(wk, zs)]) := by
  have hl : xs.length = ts.length * 2 := ho.1
  refine ⟨xs ++ [.int .i64 wk, nv], by simpa using ho', fun j hj => ?_⟩
  simp at hj
  by_cases e : j = ts.length
  · subst e
    unfold needsOf
    rw [getD_snoc_at]
    refine ⟨by rw [← hl]; simp, nv, by rw [← hl]; simp, hn.grown ho hg⟩
  · have hlt : j < ts.length := by omega
    obtain ⟨h1, nv2, h2, h3⟩ := hx j hlt
    unfold needsOf at h3 ⊢
    rw [getD_snoc _ _ _ _ hlt]
    exact ⟨by rw [List.getElem?_append_left (by omega)]; exact h1, nv2, by rw [List.getElem?_append_left (by omega)]; exact h2, h3.grown ho hg⟩

theorem NeedsBlk.ints {w : World} {nv : Value} {zs : List Int} (h : NeedsBlk w nv zs) (hl : zs.length * 8 ≤ 140737488351232) : IntsAt w nv zs := by
  refine ⟨hl, ?_⟩
  rcases h with ⟨rfl, rfl⟩ | ⟨blk, rfl, hb⟩
  · exact ⟨none, 0, rfl, Or.inl rfl⟩
  · refine ⟨_, _, rfl, Or.inr ⟨blk, 0, rfl, lt_of_block hb, fun k hk => ?_⟩⟩
    simp [World.cell?, hb, hk]

theorem OwnPlan.planAt {N : Nat} {w : World} {v : Value} {ts : List (Int × List Int)} (h : OwnPlan N w v ts) (hl : ts.length * 32 ≤ 140737488351232) (hn : ∀ j, j < ts.length → (needsOf ts j).length * 8 ≤ 140737488351232) : PlanAt w v ts := by
  obtain ⟨xs, ho, hx⟩ := h
  refine ⟨hl, ?_⟩
  rcases ho.2 with ⟨hv, h0⟩ | ⟨g, cap, cur, hv, _, hh, _⟩
  · exact ⟨none, 0, by rw [hv, h0], Or.inl (List.eq_nil_of_length_eq_zero h0)⟩
  · subst hv
    refine ⟨_, _, rfl, Or.inr ⟨g, 0, rfl, lt_of_block hh, fun k hk => ?_⟩⟩
    obtain ⟨h1, nv, h2, h3⟩ := hx k hk
    have e1 := ho.cellAt (k * 2) (by omega)
    have e2 := ho.cellAt (k * 2 + 1) (by omega)
    rw [Nat.zero_add]
    exact ⟨by rw [e1]; exact h1, nv, by rw [e2]; exact h2, h3.ints (hn k hk)⟩

/-- So many tasks, one behind the other. -/
def chainTs (work : Int) : Nat → List (Int × List Int)
  | 0 => []
  | n + 1 => chainTs work n ++ [(work, if n = 0 then [] else [(n : Int) - 1])]
theorem chainTs_length (work : Int) (n : Nat) : (chainTs work n).length = n := by
  induction n with
  | zero => rfl
  | succ n ih => simp [chainTs, ih]

theorem Tryz.info94 : (Tryz.prog.info? 94).map (fun i => (i.zero, i.size, i.bytes)) = some (some (.agg #[.int .i64 0, .slice none 0 0]), 2, 32) := by kernel_rfl
end Go.Proofs.YtlfbdjeojgbniaaGreatDoor
