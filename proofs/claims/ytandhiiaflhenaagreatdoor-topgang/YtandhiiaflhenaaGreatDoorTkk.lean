/- Plain: what is wrong with deeds, by themselves and as they were told. No word of the program. The contracts of slices.IndexFunc and slices.ContainsFunc at []int, handed a function that may change memory. trace.Check: its maps in memory; the contracts of in, below, hasTask, checkDeed, checkDeeds. -/
import Derived.Test.YtandhiiaflhenaaGreatDoorGnfg
import Derived.Test.YtandhiiaflhenaaGreatDoorPln
import Derived.Test.YtandhiiaflhenaaGreatDoorDlb
import Derived.Maps.OwnSet
import Derived.BigRegion
import Derived.OrdersHeld
import Derived.Deep.RegionLaw

namespace Go.Proofs.YtandhiiaflhenaaGreatDoor

/-- What is wrong with the first that has a fault. -/
def firstE : List Deed → Int
  | [] => 0
  | d :: r => if deedE d = 0 then firstE r else deedE d
def deedsErr (ds : List Deed) : Int := if 1000 < ds.length then 4 else firstE ds
theorem firstE_at : ∀ (l : List Deed) (k : Nat), k < l.length → (∀ j, j < k → deedE (l.getD j (0, 0, 0, 0)) = 0) → deedE (l.getD k (0, 0, 0, 0)) ≠ 0 → firstE l = deedE (l.getD k (0, 0, 0, 0)) := by
  intro l
  induction l with
  | nil => intro k hk; simp at hk
  | cons a r ih =>
    intro k hk hj hf
    rw [firstE]
    cases k with
    | zero => exact if_neg hf
    | succ k =>
      have h0 : deedE a = 0 := hj 0 (by omega)
      rw [if_pos h0]
      exact ih k (by simpa using hk) (fun j h => hj (j + 1) (by omega)) hf
theorem firstE_none : ∀ (l : List Deed), (∀ j, j < l.length → deedE (l.getD j (0, 0, 0, 0)) = 0) → firstE l = 0 := by
  intro l
  induction l with
  | nil => intro _; rfl
  | cons a r ih =>
    intro h
    have h0 : deedE a = 0 := h 0 (by simp)
    rw [firstE, if_pos h0]
    exact ih (fun j hj => h (j + 1) (by simpa using hj))
theorem firstE_zero : ∀ {l : List Deed}, firstE l = 0 → ∀ d, d ∈ l → deedE d = 0 := by
  intro l
  induction l with
  | nil => intro _ d hd; simp at hd
  | cons a r ih =>
    intro h d hd
    rw [firstE] at h
    by_cases h0 : deedE a = 0
    · rw [if_pos h0] at h
      rcases List.mem_cons.1 hd with rfl | hd
      · exact h0
      · exact ih h d hd
    · rw [if_neg h0] at h; exact absurd h h0
theorem deedsErr_zero {ds : List Deed} (h : deedsErr ds = 0) : ds.length ≤ 1000 ∧ ∀ d, d ∈ ds → deedE d = 0 := by
  unfold deedsErr at h
  by_cases h1 : 1000 < ds.length
  · rw [if_pos h1] at h; omega
  · rw [if_neg h1] at h; exact ⟨by omega, firstE_zero h⟩
theorem deedE_one {a h t o : Int} (hc : a < 1 ∨ 6 < a ∨ h < 0 ∨ 5 < h ∨ t < 0 ∨ 29 < t ∨ (a = 2 ∧ (o < 0 ∨ 5 < o))) : deedE (a, h, t, o) = 1 := if_pos hc
theorem deedE_three {a h t o : Int} (hn : ¬ (a < 1 ∨ 6 < a ∨ h < 0 ∨ 5 < h ∨ t < 0 ∨ 29 < t ∨ (a = 2 ∧ (o < 0 ∨ 5 < o)))) (hc : (a ≠ 2 ∧ o ≠ 0) ∨ (4 < a ∧ t ≠ 0)) : deedE (a, h, t, o) = 3 := by
  unfold deedE
  rw [if_neg hn, if_pos hc]
theorem deedE_none {a h t o : Int} (hn : ¬ (a < 1 ∨ 6 < a ∨ h < 0 ∨ 5 < h ∨ t < 0 ∨ 29 < t ∨ (a = 2 ∧ (o < 0 ∨ 5 < o)))) (hc : ¬ ((a ≠ 2 ∧ o ≠ 0) ∨ (4 < a ∧ t ≠ 0))) : deedE (a, h, t, o) = 0 := by
  unfold deedE
  rw [if_neg hn, if_neg hc]
/-- What is wrong with deeds of a plan that is right. -/
def toldErr (ts : List (Int × List Int)) (hands : Nat) (ds : List Deed) : Int := if deedsErr ds = 0 then trErrs ts hands trNew ds else deedsErr ds
theorem trErrs_hit {ts : List (Int × List Int)} {hands : Nat} {ds : List Deed} {k : Nat} {q : Int} (hk : k < ds.length) (h0 : trErrs ts hands trNew (ds.take k) = 0) (hq : trErr ts hands (trEnd trNew (ds.take k)) (ds.getD k (0, 0, 0, 0)) = q) (hn : q ≠ 0) : trErrs ts hands trNew ds = q := by
  have e : ds = ds.take k ++ ds.getD k (0, 0, 0, 0) :: ds.drop (k + 1) := by
    conv => lhs; rw [← List.take_append_drop k ds]
    congr 1
    rw [List.drop_eq_getElem_cons hk, List.getD_eq_getElem?_getD, List.getElem?_eq_getElem hk]
    rfl
  rw [e, trErrs_append _ _ _ h0, trErrs, if_neg (by rw [hq]; exact hn), hq]
theorem trErrs_more {ts : List (Int × List Int)} {hands : Nat} {ds : List Deed} {k : Nat} (hk : k < ds.length) (h0 : trErrs ts hands trNew (ds.take k) = 0) (hq : trErr ts hands (trEnd trNew (ds.take k)) (ds.getD k (0, 0, 0, 0)) = 0) : trErrs ts hands trNew (ds.take (k + 1)) = 0 ∧ trEnd trNew (ds.take (k + 1)) = trNext (trEnd trNew (ds.take k)) (ds.getD k (0, 0, 0, 0)) := by
  have e : ds.take (k + 1) = ds.take k ++ [ds.getD k (0, 0, 0, 0)] := by
    rw [List.take_succ_eq_append_getElem hk, List.getD_eq_getElem?_getD, List.getElem?_eq_getElem hk]
    rfl
  rw [e, trErrs_append _ _ _ h0]
  refine ⟨?_, by simp [trEnd]⟩
  rw [trErrs, if_pos hq]
  rfl
theorem deed_parts {d : Deed} (h : deedE d = 0) : (1 ≤ d.1 ∧ d.1 ≤ 6) ∧ (0 ≤ d.2.1 ∧ d.2.1 ≤ 5) ∧ (0 ≤ d.2.2.1 ∧ d.2.2.1 ≤ 29) ∧ 0 ≤ d.2.2.2 := by
  unfold deedE at h
  by_cases hc : d.1 < 1 ∨ 6 < d.1 ∨ d.2.1 < 0 ∨ 5 < d.2.1 ∨ d.2.2.1 < 0 ∨ 29 < d.2.2.1 ∨ (d.1 = 2 ∧ (d.2.2.2 < 0 ∨ 5 < d.2.2.2))
  · rw [if_pos hc] at h; omega
  · rw [if_neg hc] at h
    by_cases hc2 : (d.1 ≠ 2 ∧ d.2.2.2 ≠ 0) ∨ (4 < d.1 ∧ d.2.2.1 ≠ 0)
    · rw [if_pos hc2] at h; omega
    · omega
theorem trErr_at {ts : List (Int × List Int)} {hands : Nat} {s : Tr} {x1 : Int} {x2 x3 x4 : Nat} (hp : ¬ ((hands : Int) ≤ (x2 : Int) ∨ (hands : Int) ≤ (x4 : Int) ∨ (x1 < 5 ∧ (ts.length : Int) ≤ (x3 : Int)))) : trErr ts hands s (x1, (x2 : Int), (x3 : Int), (x4 : Int)) =
    if x1 < 4 then (if 0 ≤ s.has x2 ∨ s.had x3 = true then 7 else if s.slp x2 = true ∨ (needsOf ts x3).any (fun y => !s.dn y.toNat) = true then 6 else if x1 = 2 ∧ (x4 : Int) = (x2 : Int) then 3 else 0)
    else if x1 = 4 then (if s.has x2 = (x3 : Int) then 0 else 6) else if x1 = 5 then (if 0 ≤ s.has x2 ∨ s.slp x2 = true then 6 else 0) else if s.slp x2 = true then 0 else 6 := by
  unfold trErr
  rw [if_neg hp]
  rfl
end Go.Proofs.YtandhiiaflhenaaGreatDoor

namespace Go.Proofs.YtandhiiaflhenaaGreatDoor
open Go.RowKit Go.Deep

set_option maxHeartbeats 800000 in
theorem cfIndex (v : Value) (zs : List Int) (g : Nat) (lb : Array Value) (J : Nat → World → Prop) (Qt : World → Prop) (w : World) (hz : IntsAt w v zs) (eg : ∀ args w, (callFunc g args).run Tryz.prog w = .ok (.enter g args) w) (h0 : J 0 w)
    (hJ : ∀ k w', J k w' → IntsAt w' v zs)
    (hs : ∀ k w', k < zs.length → J k w' → Calls Tryz.prog g (#[.int .i64 (zs.getD k 0)] ++ lb) w' fun e w'' => (e = .returned (.bool true) ∧ Qt w'') ∨ (e = .returned (.bool false) ∧ J (k + 1) w'')) :
    Calls Tryz.prog 94 #[v, .func (.func g) #[] lb] w fun e w' => (∃ r : Nat, e = .returned (.int .i64 r) ∧ Qt w') ∨ (e = .returned (.int .i64 (-1)) ∧ J zs.length w') := by
  have HJ : Hid (∀ k w', J k w' → IntsAt w' v zs) := hJ
  have HS : Hid (∀ k w', k < zs.length → J k w' → Calls Tryz.prog g (#[.int .i64 (zs.getD k 0)] ++ lb) w' fun e w'' => (e = .returned (.bool true) ∧ Qt w'') ∨ (e = .returned (.bool false) ∧ J (k + 1) w'')) := hs
  have H0 : Hid (J 0 w) := h0
  clear hJ hs h0
  obtain ⟨hl, a, c, rfl, hz⟩ := hz
  clear hz
  go_enter Tryz.func94, Tryz.ntmps94
  go_wp2
  go_loopw [8] (fun i wr => ∃ k : Nat, k ≤ zs.length ∧ i = .int .i64 k ∧ Hid (J k wr)) (fun i _ => zs.length - (intOf i).toNat)
  case atStart => exact ⟨0, Nat.zero_le _, rfl, H0⟩
  case round =>
    obtain ⟨k, hk, rfl, hj⟩ := hrel
    by_cases hlt : k < zs.length
    · obtain ⟨_, a', c', he, hz⟩ := HJ.out k wr hj.out
      simp only [Value.slice.injEq] at he
      obtain ⟨rfl, _, rfl⟩ := he
      have hcall := HS.out k wr hlt hj.out
      rcases hz with rfl | ⟨b, o, rfl, hbl, hc⟩
      · simp at hlt
      have hck := hc k hlt
      clear hc
      generalize zs.getD k 0 = y at *
      go_wp2_with (fail)
      refine hcall.mono ?_
      rintro e w' (⟨rfl, hq⟩ | ⟨rfl, hj'⟩)
      · go_wp2
        go_ret
        exact Or.inl ⟨k, rfl, hq⟩
      · have HJ' : Hid (J (k + 1) w') := hj'
        clear hj'
        go_wp2
        go_roundw
        case rel => exact ⟨k + 1, by omega, by go_num, HJ'⟩
        case measure => simp [intOf]; omega
    · have hke : k = zs.length := by omega
      subst hke
      go_wp2
      go_ret
      exact Or.inr ⟨rfl, hj.out⟩

theorem cfState (v : Value) (zs : List Int) (g : Nat) (lb : Array Value) (J : Nat → World → Prop) (Qt : World → Prop) (w : World) (hz : IntsAt w v zs) (eg : ∀ args w, (callFunc g args).run Tryz.prog w = .ok (.enter g args) w) (h0 : J 0 w)
    (hJ : ∀ k w', J k w' → IntsAt w' v zs)
    (hs : ∀ k w', k < zs.length → J k w' → Calls Tryz.prog g (#[.int .i64 (zs.getD k 0)] ++ lb) w' fun e w'' => (e = .returned (.bool true) ∧ Qt w'') ∨ (e = .returned (.bool false) ∧ J (k + 1) w'')) :
    Calls Tryz.prog 56 #[v, .func (.func g) #[] lb] w fun e w' => (e = .returned (.bool true) ∧ Qt w') ∨ (e = .returned (.bool false) ∧ J zs.length w') := by
  have hcall := cfIndex v zs g lb J Qt w hz eg h0 hJ hs
  clear hs hJ h0 hz
  go_enter Tryz.func56, Tryz.ntmps56
  go_wp2_with fail
  refine hcall.mono ?_
  rintro e w' (⟨r, rfl, hq⟩ | ⟨rfl, hj⟩)
  · have hr : (0 : Int) ≤ (r : Int) := by omega
    go_wp2
    go_ret
    exact Or.inl ⟨ret_bool (by simp), hq⟩
  · go_wp2
    go_ret
    exact Or.inr ⟨rfl, hj⟩
/-- ContainsFunc with a function that only reads, and may draw. -/
theorem cfReads (v : Value) (zs : List Int) (g : Nat) (lb : Array Value) (p : Int → Bool) (w : World) (hz : IntsAt w v zs) (eg : ∀ args w, (callFunc g args).run Tryz.prog w = .ok (.enter g args) w)
    (hp : ∀ x, x ∈ zs → ∀ w', Below w.heap.size w w' → Calls Tryz.prog g (#[.int .i64 x] ++ lb) w' fun e w2 => e = .returned (.bool (p x)) ∧ Below w'.heap.size w' w2) :
    Calls Tryz.prog 56 #[v, .func (.func g) #[] lb] w fun e w' => e = .returned (.bool (zs.any p)) ∧ Below w.heap.size w w' := by
  refine (cfState v zs g lb (fun j w' => (∀ x, x ∈ zs.take j → p x = false) ∧ Below w.heap.size w w') (fun w' => zs.any p = true ∧ Below w.heap.size w w') w hz eg ⟨fun x hx => by simp at hx, Below.refl _ _⟩ (fun k w' h => hz.later h.2) (fun k w' hk h => ?_)).mono ?_
  · have hm : zs.getD k 0 ∈ zs := by rw [List.getD_eq_getElem?_getD, List.getElem?_eq_getElem hk]; exact List.getElem_mem hk
    refine (hp _ hm w' h.2).mono ?_
    rintro e w2 ⟨rfl, hb⟩
    have hb2 := h.2.trans (hb.mono h.2.size)
    cases hq : p (zs.getD k 0)
    · exact Or.inr ⟨rfl, take_succ_all p zs k hk h.1 hq, hb2⟩
    · exact Or.inl ⟨rfl, List.any_eq_true.2 ⟨_, hm, hq⟩, hb2⟩
  · rintro e w' (⟨rfl, h1, h2⟩ | ⟨rfl, h1, h2⟩)
    · exact ⟨by rw [h1], h2⟩
    · refine ⟨ret_bool (Eq.symm ?_), h2⟩
      rw [List.any_eq_false]
      intro x hx
      have := h1 x (by rw [List.take_of_length_le (Nat.le_refl _)]; exact hx)
      simp [this]

end Go.Proofs.YtandhiiaflhenaaGreatDoor

namespace Go.Proofs.YtandhiiaflhenaaGreatDoor
open Go.RowKit Go.Deep Go.Maps

theorem keyedI : Keyed Tryz.prog 3 := int_keyed Tryz.underlying3
theorem zeroUnit (w : World) : (zeroValue 161).run Tryz.prog w = .ok (.agg #[]) w := by kernel_rfl
theorem zeroIntT (w : World) : (zeroValue 3).run Tryz.prog w = .ok (.int .i64 0) w := by kernel_rfl
theorem wfN {y : Nat} (h : y < 1000) : (Lit.int .i64 (y : Int)).wf = true := WalkArith.wf_i64 (by omega)
theorem keyN {y : Nat} (h : y < 1000) : keyOf Tryz.prog 3 (.int .i64 (y : Int)) = some (.int .i64 (y : Int)) := keyOf_int_mk Tryz.underlying3 (wfN h)

/-- Block B is a set of numbers below n, put together in at most q steps. -/
def SetM (w : World) (B q n : Nat) (S : Nat → Bool) : Prop :=
  ∃ D, w.ownsMap Tryz.prog 3 (unitElem (H := Unit)) B q D ∧ ∀ x : Nat, x < n → Maps.has D (.int .i64 x) = S x
/-- Block B is a map of numbers below n (-1: none), put together in at most q steps. -/
def NumM (w : World) (B q n : Nat) (f : Nat → Int) : Prop :=
  ∃ D, w.ownsMap Tryz.prog 3 (plainElem (H := Unit) Tryz.prog 3) B q D ∧ ∀ x : Nat, x < n → Maps.has D (.int .i64 x) = decide (0 ≤ f x) ∧ (0 ≤ f x → ∀ z, D.atKey (.int .i64 x) z = .lit (.int .i64 (f x)))
section
variable {w w' : World} {B q n : Nat} {S : Nat → Bool} {f : Nat → Int}
theorem SetM.of_block (h : SetM w B q n S) (e : w'.heap[B]? = w.heap[B]?) : SetM w' B q n S := by
  obtain ⟨D, ⟨es, clock, hb, r⟩, h1⟩ := h
  exact ⟨D, ⟨es, clock, e.trans hb, r⟩, h1⟩
theorem NumM.of_block (h : NumM w B q n f) (e : w'.heap[B]? = w.heap[B]?) : NumM w' B q n f := by
  obtain ⟨D, ⟨es, clock, hb, r⟩, h1⟩ := h
  exact ⟨D, ⟨es, clock, e.trans hb, r⟩, h1⟩
theorem SetM.lt (h : SetM w B q n S) : B < w.heap.size := by
  obtain ⟨D, h, _⟩ := h
  exact h.lt
theorem NumM.lt (h : NumM w B q n f) : B < w.heap.size := by
  obtain ⟨D, h, _⟩ := h
  exact h.lt
theorem SetM.more (h : SetM w B q n S) : SetM w B (q + 1) n S := by
  obtain ⟨D, h, h1⟩ := h
  exact ⟨D, h.mono (by omega), h1⟩
theorem NumM.more (h : NumM w B q n f) : NumM w B (q + 1) n f := by
  obtain ⟨D, h, h1⟩ := h
  exact ⟨D, h.mono (by omega), h1⟩
theorem SetM.start (w : World) (n : Nat) : SetM (w.alloc (.map #[] 0)) w.heap.size 0 n (fun _ => false) := ⟨.map [], World.ownsMap_made _ _ _ _, fun _ _ => rfl⟩
theorem NumM.start (w : World) (n : Nat) : NumM (w.alloc (.map #[] 0)) w.heap.size 0 n (fun _ => -1) := ⟨.map [], World.ownsMap_made _ _ _ _, fun x _ => ⟨rfl, fun h => absurd (show (0 : Int) ≤ -1 from h) (by decide)⟩⟩
/-- One more. -/
theorem SetM.put (h : SetM w B q n S) (hq : q ≤ 100000) {x : Nat} (hx : x < 1000) : ∃ w', (Instr.mapUpdate 107 (.map (some B)) (.int .i64 (x : Int)) (.agg #[])).run Tryz.prog w = .ok () w' ∧ SetM w' B (q + 1) n (mark S x) ∧ w.grownBy w' (some B) := by
  obtain ⟨D, hown, hD⟩ := h
  obtain ⟨w', hr, ho, hg⟩ := hown.update keyedI Tryz.underlying107 (by unfold maxLen; omega) (keyN hx) unitElem_mk
  refine ⟨w', hr, ⟨_, ho, fun y hy => ?_⟩, hg⟩
  by_cases e : y = x
  · subst e; rw [Maps.has_put_same hown.isMap (by trivial)]; simp [mark]
  · rw [Maps.has_put_other (by intro h; injection h with _ h; omega), hD y hy]; simp [mark, e]
theorem SetM.del (h : SetM w B q n S) {x : Nat} (hx : x < 1000) (ty : TypeId) : ∃ w', (Builtin.delete_ #[107, 3] ty #[.map (some B), .int .i64 (x : Int)]).run Tryz.prog w = .ok (.tuple #[]) w' ∧ SetM w' B q n (updG S x false) ∧ w.grownBy w' (some B) := by
  obtain ⟨D, hown, hD⟩ := h
  obtain ⟨w', hr, ho, hg⟩ := hown.drop keyedI Tryz.underlying107 (keyN hx) ty
  refine ⟨w', hr, ⟨_, ho, fun y hy => ?_⟩, hg.grown⟩
  by_cases e : y = x
  · subst e; rw [Maps.has_del_same, updG_self]
  · rw [Maps.has_del_other (by intro h; injection h with _ h; omega), updG_ne S _ e, hD y hy]
theorem NumM.put (h : NumM w B q n f) (hq : q ≤ 100000) {x i : Nat} (hx : x < 1000) (hi : i < 1000) : ∃ w', (Instr.mapUpdate 70 (.map (some B)) (.int .i64 (x : Int)) (.int .i64 (i : Int))).run Tryz.prog w = .ok () w' ∧ NumM w' B (q + 1) n (updG f x (i : Int)) ∧ w.grownBy w' (some B) := by
  obtain ⟨D, hown, hD⟩ := h
  obtain ⟨w', hr, ho, hg⟩ := hown.update keyedI Tryz.underlying70 (by unfold maxLen; omega) (keyN hx) (plainElem_int Tryz.underlying3 (wfN hi))
  refine ⟨w', hr, ⟨_, ho, fun y hy => ?_⟩, hg⟩
  by_cases e : y = x
  · subst e
    rw [Maps.has_put_same hown.isMap (by trivial), updG_self]
    exact ⟨by simp, fun _ z => Maps.atKey_put_same hown.isMap (by trivial) _ z⟩
  · rw [Maps.has_put_other (by intro h; injection h with _ h; omega), updG_ne f _ e]
    refine ⟨(hD y hy).1, fun h0 z => ?_⟩
    rw [Maps.atKey_put_other (by intro h; injection h with _ h; omega)]
    exact (hD y hy).2 h0 z
theorem NumM.del (h : NumM w B q n f) {x : Nat} (hx : x < 1000) (ty : TypeId) : ∃ w', (Builtin.delete_ #[70, 3] ty #[.map (some B), .int .i64 (x : Int)]).run Tryz.prog w = .ok (.tuple #[]) w' ∧ NumM w' B q n (updG f x (-1)) ∧ w.grownBy w' (some B) := by
  obtain ⟨D, hown, hD⟩ := h
  obtain ⟨w', hr, ho, hg⟩ := hown.drop keyedI Tryz.underlying70 (keyN hx) ty
  refine ⟨w', hr, ⟨_, ho, fun y hy => ?_⟩, hg.grown⟩
  by_cases e : y = x
  · subst e
    rw [Maps.has_del_same, updG_self]
    exact ⟨by simp, fun h0 => by omega⟩
  · rw [Maps.has_del_other (by intro h; injection h with _ h; omega), updG_ne f _ e]
    refine ⟨(hD y hy).1, fun h0 z => ?_⟩
    rw [Maps.atKey_del_other (by intro h; injection h with _ h; omega)]
    exact (hD y hy).2 h0 z
/-- A look: what is there, and whether. -/
theorem NumM.look (h : NumM w B q n f) {x : Nat} (hx : x < 1000) (hn : x < n) : ∃ c : Int, (∀ w1 : World, w1.heap[B]? = w.heap[B]? → (Instr.lookup 70 (.map (some B)) (.int .i64 (x : Int)) true).run Tryz.prog w1 = .ok (.tuple #[.int .i64 c, .bool (decide (0 ≤ f x))]) w1) ∧ (0 ≤ f x → c = f x) := by
  obtain ⟨D, hown, hD⟩ := h
  have key : ∀ w1 : World, w1.heap[B]? = w.heap[B]? → ∃ c : Int, (Instr.lookup 70 (.map (some B)) (.int .i64 (x : Int)) true).run Tryz.prog w1 = .ok (.tuple #[.int .i64 c, .bool (decide (0 ≤ f x))]) w1 ∧ D.atKey (.int .i64 (x : Int)) (.lit (.int .i64 0)) = .lit (.int .i64 c) := fun w1 e1 => by
    have hown1 : w1.ownsMap Tryz.prog 3 (plainElem (H := Unit) Tryz.prog 3) B q D := by
      obtain ⟨es, clock, hb, r⟩ := hown
      exact ⟨es, clock, e1.trans hb, r⟩
    obtain ⟨v, ps, hr, hv⟩ := hown1.look_ok keyedI Tryz.underlying70 (zeroIntT w1) (plainElem_int Tryz.underlying3 (show (Lit.int .i64 0).wf = true from rfl)) (keyN hx)
    obtain ⟨c, rfl, hc, hwc⟩ := plainElem_int_inv Tryz.underlying3 hv
    simp only [Prod.mk.injEq] at hc
    rw [(hD x hn).1] at hr
    exact ⟨c, hr, hc.1⟩
  obtain ⟨c, hr, hc⟩ := key w rfl
  refine ⟨c, fun w1 e1 => ?_, fun h0 => ?_⟩
  · obtain ⟨c1, hr1, hc1⟩ := key w1 e1
    have h2 := hc1.symm.trans hc
    simp only [DataW.lit.injEq, Lit.int.injEq, true_and] at h2
    rw [← h2]
    exact hr1
  · rw [(hD x hn).2 h0] at hc
    simp only [DataW.lit.injEq, Lit.int.injEq, true_and] at hc
    exact hc.symm
end
set_option maxRecDepth 100000 in
theorem inSet_any {w : World} {B q n : Nat} {S : Nat → Bool} (h : SetM w B q n S) {x : Nat} (hx : x < n) (hn : x < 1000) :
    Calls Tryz.prog 102 #[.map (some B), .int .i64 (x : Int)] w fun e w' => e = .returned (.bool (S x)) ∧ Below w.heap.size w w' := by
  obtain ⟨D, hown, hD⟩ := h
  have hDx := hD x hx
  have hkey := keyN hn
  clear hD
  generalize S x = bb at hDx ⊢
  go_enter Tryz.func102, Tryz.ntmps102
  go_wp2_with (first | (at_lookup; refine wpList_lookup_own_unit _ rfl _ _ 107 rfl 3 161 keyedI Tryz.underlying107 (zeroUnit _) B q D rfl hown _ _ rfl hkey ?_; rw [hDx]))
  go_ret
  exact ⟨rfl, (Below.refl _ _).alloc (Nat.le_refl _) _⟩
set_option maxRecDepth 100000 in
theorem inNum_any {w : World} {B q n : Nat} {f : Nat → Int} (h : NumM w B q n f) {x : Nat} (hx : x < n) (hn : x < 1000) :
    Calls Tryz.prog 103 #[.map (some B), .int .i64 (x : Int)] w fun e w' => e = .returned (.bool (decide (0 ≤ f x))) ∧ w' = w := by
  obtain ⟨c, hr0, _⟩ := h.look hn hx
  have hr := hr0 w rfl
  clear h hr0
  generalize decide (0 ≤ f x) = bb at hr ⊢
  go_enter Tryz.func103, Tryz.ntmps103
  go_wp2
  go_ret
  exact ⟨rfl, rfl⟩
theorem below_any (n b : Int) (w : World) : Calls Tryz.prog 95 #[.int .i64 n, .int .i64 b] w fun e w' => e = .returned (.bool (inRange n b)) ∧ w' = w := by
  by_cases h1 : 0 ≤ n
  · by_cases h2 : n < b
    · go_enter Tryz.func95, Tryz.ntmps95
      go_wp2
      go_ret
      exact ⟨by simp [inRange, h1, h2], rfl⟩
    · go_enter Tryz.func95, Tryz.ntmps95
      go_wp2
      go_ret
      exact ⟨by simp [inRange, h1, h2], rfl⟩
  · go_enter Tryz.func95, Tryz.ntmps95
    go_wp2
    go_ret
    exact ⟨by rw [show inRange n b = false by simp [inRange]; omega]; rfl, rfl⟩
/-- Has a deed a task? -/
def hasT (x : Int) : Bool := decide (x ≠ 5) && decide (x ≠ 6)
theorem hasTask_any (x1 x2 x3 x4 : Int) (w : World) : Calls Tryz.prog 68 #[.agg #[.int .i64 x1, .int .i64 x2, .int .i64 x3, .int .i64 x4]] w fun e w' => e = .returned (.bool (hasT x1)) ∧ Below w.heap.size w w' := by
  have HB : Hid (Below w.heap.size w (w.alloc (.cells #[.int .i64 x1, .int .i64 x2, .int .i64 x3, .int .i64 x4] 43))) := (Below.refl _ _).alloc (Nat.le_refl _) _
  by_cases h5 : x1 = 5
  · subst h5
    go_enter Tryz.func68, Tryz.ntmps68
    go_wp2
    go_ret
    exact ⟨rfl, HB.out⟩
  · have e5 : (x1 != 5) = true := by simp [h5]
    by_cases h6 : x1 = 6
    · subst h6
      go_enter Tryz.func68, Tryz.ntmps68
      go_wp2
      go_ret
      exact ⟨rfl, HB.out⟩
    · have e6 : (x1 != 6) = true := by simp [h6]
      have HT : Hid (hasT x1 = true) := (show hasT x1 = true by simp [hasT, h5, h6])
      clear h5 h6
      go_enter Tryz.func68, Tryz.ntmps68
      go_wp2
      go_ret
      exact ⟨by rw [HT.out]; simp, HB.out⟩
theorem inRange_true {n b : Int} (h : 0 ≤ n ∧ n < b) : inRange n b = true := by simp [inRange, h]
theorem inRange_false {n b : Int} (h : n < 0 ∨ b ≤ n) : inRange n b = false := by simp [inRange]; omega
set_option maxRecDepth 100000 in
set_option maxHeartbeats 4000000 in
theorem checkDeed_any (x1 x2 x3 x4 : Int) (w : World) : Calls Tryz.prog 58 #[.agg #[.int .i64 x1, .int .i64 x2, .int .i64 x3, .int .i64 x4]] w fun e w' => e = .returned (errV (deedE (x1, x2, x3, x4))) ∧ Below w.heap.size w w' := by
  obtain ⟨W, hW⟩ : ∃ W, W = w.alloc (.cells #[.int .i64 x1, .int .i64 x2, .int .i64 x3, .int .i64 x4] 43) := ⟨_, rfl⟩
  have HB : Hid (Below w.heap.size w (w.alloc (.cells #[.int .i64 x1, .int .i64 x2, .int .i64 x3, .int .i64 x4] 43))) := (Below.refl _ _).alloc (Nat.le_refl _) _
  have HB2 : Hid (∀ w2, Below (w.alloc (.cells #[.int .i64 x1, .int .i64 x2, .int .i64 x3, .int .i64 x4] 43)).heap.size (w.alloc (.cells #[.int .i64 x1, .int .i64 x2, .int .i64 x3, .int .i64 x4] 43)) w2 → Below w.heap.size w w2 ∧ w2.cell? ⟨w.heap.size, 2, none⟩ = some (.int .i64 x3)) := fun w2 h => ⟨HB.out.trans (h.mono (by simp)), (h.cell (p := ⟨w.heap.size, 2, none⟩) (by simp)).trans (new_deed w x1 x2 x3 x4).2.2.1⟩
  clear hW W
  by_cases p1 : x1 < 1 ∨ 6 < x1 ∨ x2 < 0 ∨ 5 < x2 ∨ x3 < 0 ∨ 29 < x3 ∨ (x1 = 2 ∧ (x4 < 0 ∨ 5 < x4))
  · have HR : Hid (deedE (x1, x2, x3, x4) = 1) := deedE_one p1
    by_cases q1 : x1 < 1
    · clear p1
      go_enter Tryz.func58, Tryz.ntmps58
      go_wp2; go_ret; exact ⟨by rw [HR.out]; rfl, HB.out⟩
    by_cases q2 : 6 < x1
    · clear p1
      go_enter Tryz.func58, Tryz.ntmps58
      go_wp2; go_ret; exact ⟨by rw [HR.out]; rfl, HB.out⟩
    by_cases q3 : x2 < 0 ∨ 6 ≤ x2
    · have b2 := inRange_false (b := 6) q3
      clear p1
      go_enter Tryz.func58, Tryz.ntmps58
      go_wp2_with (first | (go_at_call 95; refine (below_any _ _ _).mono ?_; rintro e w ⟨rfl, rfl⟩))
      all_goals
        go_ret
        exact ⟨by rw [HR.out]; rfl, HB.out⟩
    have b2 := inRange_true (n := x2) (b := 6) (by omega)
    by_cases e2 : x1 = 2
    · subst e2
      by_cases q4 : x4 < 0 ∨ 6 ≤ x4
      · have b4 := inRange_false (b := 6) q4
        clear p1
        go_enter Tryz.func58, Tryz.ntmps58
        go_wp2_with (first | (go_at_call 95; refine (below_any _ _ _).mono ?_; rintro e w ⟨rfl, rfl⟩))
        go_ret
        exact ⟨by rw [HR.out]; rfl, HB.out⟩
      have b4 := inRange_true (n := x4) (b := 6) (by omega)
      have b3 := inRange_false (n := x3) (b := 30) (by omega)
      clear p1
      go_enter Tryz.func58, Tryz.ntmps58
      go_wp2_with (first | (go_at_call 95; refine (below_any _ _ _).mono ?_; rintro e w ⟨rfl, rfl⟩))
      go_ret
      exact ⟨by rw [HR.out]; rfl, HB.out⟩
    · have e2b : (x1 == 2) = false := beq_eq_false_iff_ne.2 e2
      have b3 := inRange_false (n := x3) (b := 30) (by omega)
      clear p1
      go_enter Tryz.func58, Tryz.ntmps58
      go_wp2_with (first | (go_at_call 95; refine (below_any _ _ _).mono ?_; rintro e w ⟨rfl, rfl⟩))
      go_ret
      exact ⟨by rw [HR.out]; rfl, HB.out⟩
  · have q1 : ¬ x1 < 1 := by omega
    have q2 : ¬ 6 < x1 := by omega
    have b2 := inRange_true (n := x2) (b := 6) (by omega)
    have b3 := inRange_true (n := x3) (b := 30) (by omega)
    by_cases p2 : (x1 ≠ 2 ∧ x4 ≠ 0) ∨ (4 < x1 ∧ x3 ≠ 0)
    · have HR : Hid (deedE (x1, x2, x3, x4) = 3) := deedE_three p1 p2
      have e2 : x1 ≠ 2 := by omega
      have e2b : (x1 == 2) = false := beq_eq_false_iff_ne.2 e2
      by_cases q7 : x4 = 0
      · subst q7
        have ht : hasT x1 = false := by simp [hasT]; omega
        have q9 : (x3 != 0) = true := by simp; omega
        have hht := hasTask_any x1 x2 x3 0 (w.alloc (.cells #[.int .i64 x1, .int .i64 x2, .int .i64 x3, .int .i64 0] 43))
        rw [ht] at hht
        clear p1 p2 ht
        go_enter Tryz.func58, Tryz.ntmps58
        go_wp2_with (first | (go_at_call 95; refine (below_any _ _ _).mono ?_; rintro e w ⟨rfl, rfl⟩) | (go_at_call 68; refine hht.mono ?_; clear hht; rintro e w2 ⟨rfl, hb2⟩; obtain ⟨hb3, hc3⟩ := HB2.out w2 hb2; clear hb2))
        go_ret
        exact ⟨by rw [HR.out]; rfl, hb3⟩
      · have q9 : (x4 != 0) = true := by simp [q7]
        clear p1 p2 q7
        go_enter Tryz.func58, Tryz.ntmps58
        go_wp2_with (first | (go_at_call 95; refine (below_any _ _ _).mono ?_; rintro e w ⟨rfl, rfl⟩))
        go_ret
        exact ⟨by rw [HR.out]; rfl, HB.out⟩
    · have HR : Hid (deedE (x1, x2, x3, x4) = 0) := deedE_none p1 p2
      have hht := hasTask_any x1 x2 x3 x4 (w.alloc (.cells #[.int .i64 x1, .int .i64 x2, .int .i64 x3, .int .i64 x4] 43))
      by_cases e2 : x1 = 2
      · subst e2
        have b4 := inRange_true (n := x4) (b := 6) (by omega)
        rw [show hasT 2 = true from rfl] at hht
        clear p1 p2
        go_enter Tryz.func58, Tryz.ntmps58
        go_wp2_with (first | (go_at_call 95; refine (below_any _ _ _).mono ?_; rintro e w ⟨rfl, rfl⟩) | (go_at_call 68; refine hht.mono ?_; clear hht; rintro e w2 ⟨rfl, hb2⟩; obtain ⟨hb3, hc3⟩ := HB2.out w2 hb2; clear hb2))
        go_ret
        exact ⟨by rw [HR.out]; rfl, hb3⟩
      · have e4 : x4 = 0 := by omega
        subst e4
        have e2b : (x1 == 2) = false := beq_eq_false_iff_ne.2 e2
        by_cases q7 : 4 < x1
        · have e3 : x3 = 0 := by omega
          subst e3
          have ht : hasT x1 = false := by simp [hasT]; omega
          rw [ht] at hht
          clear p1 p2 e2 ht
          go_enter Tryz.func58, Tryz.ntmps58
          go_wp2_with (first | (go_at_call 95; refine (below_any _ _ _).mono ?_; rintro e w ⟨rfl, rfl⟩) | (go_at_call 68; refine hht.mono ?_; clear hht; rintro e w2 ⟨rfl, hb2⟩; obtain ⟨hb3, hc3⟩ := HB2.out w2 hb2; clear hb2))
          go_ret
          exact ⟨by rw [HR.out]; rfl, hb3⟩
        · have ht : hasT x1 = true := by simp [hasT]; omega
          rw [ht] at hht
          clear p1 p2 e2 ht
          go_enter Tryz.func58, Tryz.ntmps58
          go_wp2_with (first | (go_at_call 95; refine (below_any _ _ _).mono ?_; rintro e w ⟨rfl, rfl⟩) | (go_at_call 68; refine hht.mono ?_; clear hht; rintro e w2 ⟨rfl, hb2⟩; obtain ⟨hb3, hc3⟩ := HB2.out w2 hb2; clear hb2))
          go_ret
          exact ⟨by rw [HR.out]; rfl, hb3⟩
set_option maxRecDepth 100000 in
set_option maxHeartbeats 4000000 in
theorem checkDeeds_any (v : Value) (ds : List Deed) (w : World) (hv : DeedsAt w v ds) :
    Calls Tryz.prog 33 #[v] w fun e w' => e = .returned (errV (deedsErr ds)) ∧ Below w.heap.size w w' := by
  have HV : Hid (DeedsAt w v ds) := hv
  obtain ⟨_, a, c, rfl, _⟩ := hv
  by_cases hful : 1000 < ds.length
  · have hfi : (1000 : Int) < (ds.length : Int) := by omega
    have HE : Hid (deedsErr ds = 4) := if_pos hful
    go_enter Tryz.func33, Tryz.ntmps33
    go_wp2
    go_ret
    exact ⟨by rw [HE.out]; rfl, Below.refl _ _⟩
  have hfi : ¬ (1000 : Int) < (ds.length : Int) := by omega
  have HE : Hid (deedsErr ds = firstE ds) := if_neg hful
  go_enter Tryz.func33, Tryz.ntmps33
  go_wp2
  go_loopw [12] (fun s12 wr => ∃ k : Nat, k ≤ ds.length ∧ s12 = .int .i64 k ∧ Hid (∀ j, j < k → deedE (ds.getD j (0, 0, 0, 0)) = 0) ∧ Hid (Below w.heap.size w wr)) (fun s12 _ => ds.length - (intOf s12).toNat)
  case atStart => exact ⟨0, Nat.zero_le _, rfl, fun j hj => by omega, Below.refl _ _⟩
  case round =>
    obtain ⟨k, hk, rfl, hno, hb⟩ := hrel
    by_cases hkl : k < ds.length
    · obtain ⟨b, o, rfl, hbl, c0, c1, c2, c3⟩ := (HV.out.later hb.out).four hkl
      have HBAD : Hid (∀ q, deedE (ds.getD k (0, 0, 0, 0)) = q → q ≠ 0 → deedsErr ds = q) := fun q hq h0 => by rw [HE.out, firstE_at ds k hkl hno.out (by rw [hq]; exact h0), hq]
      have HGOOD : Hid (deedE (ds.getD k (0, 0, 0, 0)) = 0 → ∀ j, j < k + 1 → deedE (ds.getD j (0, 0, 0, 0)) = 0) := fun hq j hj => by
        by_cases e : j = k
        · rw [e]; exact hq
        · exact hno.out j (by omega)
      have HD : Hid (ds.getD k (0, 0, 0, 0) = ((ds.getD k (0, 0, 0, 0)).1, (ds.getD k (0, 0, 0, 0)).2.1, (ds.getD k (0, 0, 0, 0)).2.2.1, (ds.getD k (0, 0, 0, 0)).2.2.2)) := rfl
      have HB2 : Hid (Below w.heap.size w (wr.alloc (.cells #[.int .i64 (ds.getD k (0, 0, 0, 0)).1, .int .i64 (ds.getD k (0, 0, 0, 0)).2.1, .int .i64 (ds.getD k (0, 0, 0, 0)).2.2.1, .int .i64 (ds.getD k (0, 0, 0, 0)).2.2.2] 43))) := hb.out.alloc hb.out.size _
      have hcd := checkDeed_any (ds.getD k (0, 0, 0, 0)).1 (ds.getD k (0, 0, 0, 0)).2.1 (ds.getD k (0, 0, 0, 0)).2.2.1 (ds.getD k (0, 0, 0, 0)).2.2.2 (wr.alloc (.cells #[.int .i64 (ds.getD k (0, 0, 0, 0)).1, .int .i64 (ds.getD k (0, 0, 0, 0)).2.1, .int .i64 (ds.getD k (0, 0, 0, 0)).2.2.1, .int .i64 (ds.getD k (0, 0, 0, 0)).2.2.2] 43))
      rw [← HD.out] at hcd
      clear HD hno HV HE
      by_cases he : deedE (ds.getD k (0, 0, 0, 0)) = 0
      · rw [he, errV_zero] at hcd
        have HG : Hid (∀ j, j < k + 1 → deedE (ds.getD j (0, 0, 0, 0)) = 0) := HGOOD.out he
        clear HBAD HGOOD he
        generalize (ds.getD k (0, 0, 0, 0)).1 = x1 at *
        generalize (ds.getD k (0, 0, 0, 0)).2.1 = x2 at *
        generalize (ds.getD k (0, 0, 0, 0)).2.2.1 = x3 at *
        generalize (ds.getD k (0, 0, 0, 0)).2.2.2 = x4 at *
        go_wp2_with (first | (go_at_call 58; refine hcd.mono ?_; clear hcd; rintro e w2 ⟨rfl, hb2⟩; have HB3 : Hid (Below w.heap.size w w2) := HB2.out.trans (hb2.mono HB2.out.size); clear hb2))
        go_roundw
        case rel => exact ⟨k + 1, by omega, by go_num, HG, HB3⟩
        case measure => simp [intOf]; omega
      · have HR : Hid (deedsErr ds = deedE (ds.getD k (0, 0, 0, 0))) := HBAD.out _ rfl he
        rw [errV_some he] at hcd
        have HEV : Hid (errV (deedsErr ds) = .iface 80 (.int .i64 (deedE (ds.getD k (0, 0, 0, 0))))) := by rw [HR.out]; exact errV_some he
        clear HBAD HGOOD he HR
        generalize deedE (ds.getD k (0, 0, 0, 0)) = de at *
        generalize (ds.getD k (0, 0, 0, 0)).1 = x1 at *
        generalize (ds.getD k (0, 0, 0, 0)).2.1 = x2 at *
        generalize (ds.getD k (0, 0, 0, 0)).2.2.1 = x3 at *
        generalize (ds.getD k (0, 0, 0, 0)).2.2.2 = x4 at *
        go_wp2_with (first | (go_at_call 58; refine hcd.mono ?_; clear hcd; rintro e w2 ⟨rfl, hb2⟩; have HB3 : Hid (Below w.heap.size w w2) := HB2.out.trans (hb2.mono HB2.out.size); clear hb2))
        go_ret
        exact ⟨by rw [HEV.out]; rfl, HB3.out⟩
    · have HR : Hid (deedsErr ds = 0) := by rw [HE.out]; exact firstE_none ds (fun j hj => hno.out j (by omega))
      go_wp2
      go_ret
      exact ⟨by rw [HR.out]; rfl, hb.out⟩
end Go.Proofs.YtandhiiaflhenaaGreatDoor
