/- The contracts of depth.hangs and of its closure. -/
import Derived.Test.YtefkglgccllbeaaDoorDp
import Derived.Test.YtefkglgccllbeaaDoorDb
import Derived.Test.YtefkglgccllbeaaDoorDk
import Derived.Maps.OwnSet
import Derived.Maps.AppendAt
namespace Go.Proofs.YtefkglgccllbeaaDoor
open Go.RowKit Go.Deep Go.Maps

theorem keyed3 : Keyed Tryd.prog 3 := int_keyed Tryd.underlying3
theorem zero93 (w : World) : (zeroValue 93).run Tryd.prog w = .ok (.agg #[]) w := by kernel_rfl

/-- Block B is the set of tasks that were seen. -/
def SetAt (w : World) (B n : Nat) (S : Nat → Bool) : Prop :=
  ∃ m D, w.ownsMap Tryd.prog 3 (unitElem (H := Unit)) B m D ∧ m + unseen S n ≤ n ∧ ∀ x : Nat, x < n → Maps.has D (.int .i64 x) = S x

theorem SetAt.start (w : World) (n : Nat) : SetAt (w.alloc (.map #[] 0)) w.heap.size n (fun _ => false) :=
  ⟨0, .map [], World.ownsMap_made _ _ _ _, by have := unseen_le (fun _ => false) n; omega, fun x _ => rfl⟩

theorem SetAt.ne {w : World} {B n : Nat} {S : Nat → Bool} (h : SetAt w B n S) {a : Addr} {u : Value} (hc : w.cell? a = some u) : some a.block ≠ some B := by
  intro e
  obtain ⟨m, D, ⟨es, clock, hb, _⟩, _⟩ := h
  rw [← Option.some.inj e] at hb
  simp [World.cell?, hb] at hc
theorem SetAt.lt {w : World} {B n : Nat} {S : Nat → Bool} (h : SetAt w B n S) : B < w.heap.size := by
  obtain ⟨m, D, h, _⟩ := h
  exact h.lt
theorem SetAt.alloc {w : World} {B n : Nat} {S : Nat → Bool} (h : SetAt w B n S) (o : Obj) : SetAt (w.alloc o) B n S := by
  obtain ⟨m, D, h, h1, h2⟩ := h
  exact ⟨m, D, h.alloc o, h1, h2⟩

theorem IntsAt.grown {w w' : World} {v : Value} {zs : List Int} {B n : Nat} {S : Nat → Bool} (h : IntsAt w v zs) (hs : SetAt w B n S) (hg : w.grownBy w' (some B)) : IntsAt w' v zs := by
  obtain ⟨hl, a, c, hv, h⟩ := h
  refine ⟨hl, a, c, hv, ?_⟩
  rcases h with h | ⟨b, o, ha, hlt, hc⟩
  · exact Or.inl h
  · exact Or.inr ⟨b, o, ha, Nat.lt_of_lt_of_le hlt hg.size, fun k hk => hg.cell (hc k hk) (hs.ne (hc k hk))⟩
theorem PlanAt.grown {w w' : World} {v : Value} {ts : List (Int × List Int)} {B n : Nat} {S : Nat → Bool} (h : PlanAt w v ts) (hs : SetAt w B n S) (hg : w.grownBy w' (some B)) : PlanAt w' v ts := by
  obtain ⟨hl, a, c, hv, h⟩ := h
  refine ⟨hl, a, c, hv, ?_⟩
  rcases h with h | ⟨b, o, ha, hlt, hc⟩
  · exact Or.inl h
  · refine Or.inr ⟨b, o, ha, Nat.lt_of_lt_of_le hlt hg.size, fun k hk => ?_⟩
    obtain ⟨h1, nv, h2, h3⟩ := hc k hk
    exact ⟨hg.cell h1 (hs.ne h1), nv, hg.cell h2 (hs.ne h2), h3.grown hs hg⟩

theorem wf_nat {y : Nat} (h : y < 1000) : (Lit.int .i64 (y : Int)).wf = true := WalkArith.wf_i64 (by omega)

/-- What hangs answers, when at most f tasks were not seen. -/
def HangsOk (ts : List (Int × List Int)) (f : Nat) : Prop := ∀ (v : Value) (i k : Nat) (S : Nat → Bool) (B : Nat) (w : World), unseen S ts.length ≤ f → PlanAt w v ts → k < ts.length → SetAt w B ts.length S →
  Calls Tryd.prog 46 #[v, .int .i64 i, .int .i64 k, .map (some B)] w fun e w' =>
    ((e = .returned (.bool true) ∧ Reach ts k i) ∨ (e = .returned (.bool false) ∧ ∃ S', Hung ts i k S S' ∧ SetAt w' B ts.length S')) ∧ w.grownBy w' (some B)

set_option maxRecDepth 100000 in
set_option maxHeartbeats 2000000 in
theorem closure_hangs (ts : List (Int × List Int)) (f : Nat) (ih : ∀ g, g < f → HangsOk ts g) (h30 : ts.length ≤ 30) (v : Value) (i y : Nat) (S : Nat → Bool) (B : Nat) (ai ak ap : Addr) (w : World)
    (hu : unseen S ts.length ≤ f) (hp : PlanAt w v ts) (hy : y < ts.length) (hs : SetAt w B ts.length S)
    (hci : w.cell? ai = some (.int .i64 i)) (hcs : w.cell? ak = some (.map (some B))) (hcp : w.cell? ap = some v) :
    Calls Tryd.prog 60 (#[.int .i64 y] ++ #[.pointer (some ai), .pointer (some ak), .pointer (some ap)]) w fun e w' =>
      ((e = .returned (.bool true) ∧ (y = i ∨ Reach ts y i)) ∨ (e = .returned (.bool false) ∧ y ≠ i ∧ ((S y = true ∧ SetAt w' B ts.length S) ∨ ∃ S2, Hung ts i y (mark S y) S2 ∧ SetAt w' B ts.length S2))) ∧ w.grownBy w' (some B) := by
  show Calls Tryd.prog 60 #[.int .i64 y, .pointer (some ai), .pointer (some ak), .pointer (some ap)] w _
  by_cases hyi : y = i
  · subst hyi
    have HS : Hid (SetAt w B ts.length S) := hs
    have hyy : ((y : Int) == (y : Int)) = true := by simp
    clear hs hp
    go_enter Tryd.func60, Tryd.ntmps60
    go_wp2
    go_ret
    exact ⟨Or.inl ⟨rfl, Or.inl (by simp)⟩, World.grownBy.refl _ _⟩
  · have hne : ((y : Int) == (i : Int)) = false := by simp; omega
    have hne' : ¬ (y : Int) = (i : Int) := by omega
    have HS : Hid (SetAt w B ts.length S) := hs
    obtain ⟨m, D, hown, hm, hD⟩ := hs
    have hDy := hD y hy
    have hkey : keyOf Tryd.prog 3 (.int .i64 (y : Int)) = some (.int .i64 (y : Int)) := keyOf_int_mk Tryd.underlying3 (wf_nat (by omega))
    cases hSy : S y
    · have HP : Hid (PlanAt w v ts) := hp
      have HD : Hid (∀ x : Nat, x < ts.length → Maps.has D (.int .i64 x) = S x) := hD
      have HN : Hid (m + unseen S ts.length ≤ ts.length) := hm
      have hum := unseen_mark S ts.length y hy hSy
      have HSY : Hid (S y = false) := hSy
      rw [hSy] at hDy
      obtain ⟨_, a, c, rfl, _⟩ := hp
      have hml : m < maxLen := by unfold maxLen; omega
      clear hD hm hSy
      have HK : Hid (∀ w1 : World, (w.alloc (.cells #[] 93)).grownBy w1 (some B) → w1.cell? ai = some (.int .i64 i) ∧ w1.cell? ak = some (.map (some B)) ∧ w1.cell? ap = some (.slice a ts.length c)) := by
        intro w1 hg
        have h1 : ∀ q u, w.cell? q = some u → w1.cell? q = some u := fun q u hq => hg.cell ((World.grownBy_alloc w (.cells #[] 93) (some B)).cell hq (HS.out.ne hq)) (HS.out.ne hq)
        exact ⟨h1 _ _ hci, h1 _ _ hcs, h1 _ _ hcp⟩
      have hcsA : (w.alloc (.cells #[] 93)).cell? ak = some (.map (some B)) := (World.grownBy_alloc w (.cells #[] 93) (some B)).cell hcs (HS.out.ne hcs)
      go_enter Tryd.func60, Tryd.ntmps60
      go_wp2_with (first | (at_lookup; refine wpList_lookup_own_unit _ rfl _ _ 79 rfl 3 93 keyed3 Tryd.underlying79 (zero93 _) B m D rfl hown _ _ rfl hkey ?_; rw [hDy]) | (at_mapUpdate; refine wpList_mapUpdate_own _ rfl _ _ _ 79 rfl 3 93 keyed3 Tryd.underlying79 (unitElem (H := Unit)) B m D rfl (hown.alloc _) hml _ _ _ rfl rfl hkey (.agg []) [] unitElem_mk ?_; intro w1 hown1 hgrow1; obtain ⟨hci1, hcs1, hcp1⟩ := HK.out w1 hgrow1))
      have hG : w.grownBy w1 (some B) := (World.grownBy_alloc w (.cells #[] 93) (some B)).trans hgrow1
      have hset : SetAt w1 B ts.length (mark S y) := by
        refine ⟨m + 1, _, hown1, by have := HN.out; omega, fun x hx => ?_⟩
        by_cases e : x = y
        · subst e
          rw [Maps.has_put_same hown.isMap (by trivial)]; simp [mark]
        · rw [Maps.has_put_other (by intro h; injection h with _ h; omega), HD.out x hx]; simp [mark, e]
      refine (ih (unseen (mark S y) ts.length) (by omega) _ i y (mark S y) B w1 (Nat.le_refl _) (HP.out.grown HS.out hG) hy hset).mono ?_
      rintro e w2 ⟨h, hg2⟩
      have hG2 : w.grownBy w2 (some B) := hG.trans hg2
      rcases h with ⟨rfl, hr⟩ | ⟨rfl, S2, hh, hset2⟩
      · go_wp2
        go_ret
        exact ⟨Or.inl ⟨rfl, Or.inr hr⟩, hG2⟩
      · go_wp2
        go_ret
        exact ⟨Or.inr ⟨rfl, hyi, Or.inr ⟨S2, hh, hset2⟩⟩, hG2⟩
    · rw [hSy] at hDy
      clear hp hD
      have HSY : Hid (S y = true) := hSy
      clear hSy hm
      go_enter Tryd.func60, Tryd.ntmps60
      go_wp2_with (at_lookup; refine wpList_lookup_own_unit _ rfl _ _ 79 rfl 3 93 keyed3 Tryd.underlying79 (zero93 _) B m D rfl hown _ _ rfl hkey ?_; rw [hDy])
      go_ret
      exact ⟨Or.inr ⟨rfl, hyi, Or.inl ⟨by first | trivial | exact HSY.out, HS.out.alloc _⟩⟩, World.grownBy_alloc _ _ _⟩

theorem enters22 : ∀ args w, (callFunc 60 args).run Tryd.prog w = .ok (.enter 60 args) w := enters_of Tryd.func60 (by kernel_rfl) rfl

/-- The memory in which hangs has laid what its closure captures. -/
def boxes (w : World) (v : Value) (i : Nat) (B : Nat) : World := ((w.alloc (.cells #[v] 23)).alloc (.cells #[.int .i64 i] 3)).alloc (.cells #[.map (some B)] 79)

set_option maxRecDepth 100000 in
set_option maxHeartbeats 2000000 in
theorem hangs_step (ts : List (Int × List Int)) (f : Nat) (ih : ∀ g, g < f → HangsOk ts g) (h30 : ts.length ≤ 30) (hr : InRange ts) : HangsOk ts f := by
  intro v i k S B w hu hp hk hs
  have HP : Hid (PlanAt w v ts) := hp
  have HS : Hid (SetAt w B ts.length S) := hs
  obtain ⟨_, a, c, rfl, hpc⟩ := hp
  rcases hpc with rfl | ⟨b, o, rfl, hbl, hc⟩
  · simp at hk
  obtain ⟨_, nv, hnv, hin⟩ := hc k hk
  have hgB : w.grownBy (boxes w (.slice (some ⟨b, o, none⟩) ts.length c) i B) (some B) := ((World.grownBy_alloc _ _ _).trans (World.grownBy_alloc _ _ _)).trans (World.grownBy_alloc _ _ _)
  have hsB : SetAt (boxes w (.slice (some ⟨b, o, none⟩) ts.length c) i B) B ts.length S := ((hs.alloc _).alloc _).alloc _
  have hiB := hin.grown hs hgB
  have hpB := HP.out.grown hs hgB
  have hnB := hgB.cell hnv (hs.ne hnv)
  have hc1 : (boxes w (.slice (some ⟨b, o, none⟩) ts.length c) i B).cell? ⟨w.heap.size, 0, none⟩ = some (.slice (some ⟨b, o, none⟩) ts.length c) := by
    unfold boxes
    rw [World.cell?_alloc_lt _ _ ⟨w.heap.size, 0, none⟩ (by simp; omega), World.cell?_alloc_lt _ _ ⟨w.heap.size, 0, none⟩ (by simp)]; simp
  have hc2 : (boxes w (.slice (some ⟨b, o, none⟩) ts.length c) i B).cell? ⟨w.heap.size + 1, 0, none⟩ = some (.int .i64 i) := by
    unfold boxes
    rw [World.cell?_alloc_lt _ _ ⟨w.heap.size + 1, 0, none⟩ (by simp)]
    simp
  have hc3 : (boxes w (.slice (some ⟨b, o, none⟩) ts.length c) i B).cell? ⟨w.heap.size + 1 + 1, 0, none⟩ = some (.map (some B)) := by
    unfold boxes
    have := cell_one_new ((w.alloc (.cells #[.slice (some ⟨b, o, none⟩) ts.length c] 23)).alloc (.cells #[.int .i64 i] 3)) (.map (some B)) 79
    rw [nblk_alloc, nblk_alloc] at this
    exact this 0 _ rfl
  have hcall := containsFunc_state nv (needsOf ts k) 60 #[.pointer (some ⟨w.heap.size + 1, 0, none⟩), .pointer (some ⟨w.heap.size + 1 + 1, 0, none⟩), .pointer (some ⟨w.heap.size, 0, none⟩)]
    (fun j w' => ∃ S', HungIn ts i k j S S' ∧ SetAt w' B ts.length S' ∧ (boxes w (.slice (some ⟨b, o, none⟩) ts.length c) i B).grownBy w' (some B))
    (fun w' => Reach ts k i ∧ (boxes w (.slice (some ⟨b, o, none⟩) ts.length c) i B).grownBy w' (some B)) _ hiB enters22
    ⟨S, HungIn.start ts i k S, hsB, World.grownBy.refl _ _⟩ (fun j w' ⟨S', _, _, hg⟩ => hiB.grown hsB hg) (fun j w' hj ⟨S', hh, hset, hg⟩ => by
      obtain ⟨hylt, hneed, hy0⟩ := need_at hr hk hj
      obtain ⟨y, hy⟩ := Int.eq_ofNat_of_zero_le hy0
      rw [hy] at hylt hneed ⊢
      rw [Int.toNat_natCast] at hylt hneed
      have hyj : ((needsOf ts k).getD j 0).toNat = y := by rw [hy]; rfl
      have hus := unseen_sub S' S ts.length hh.mono
      refine (closure_hangs ts f ih h30 _ i y S' B _ _ _ w' (by omega) (hpB.grown hsB hg) hylt hset (hg.cell hc2 (hsB.ne hc2)) (hg.cell hc3 (hsB.ne hc3)) (hg.cell hc1 (hsB.ne hc1))).mono ?_
      rintro e w2 ⟨h, hg2⟩
      rcases h with ⟨rfl, h⟩ | ⟨rfl, hne, h⟩
      · refine Or.inl ⟨rfl, ?_, hg.trans hg2⟩
        rcases h with rfl | h
        · exact Reach.one hneed
        · exact (Reach.one hneed).trans h
      · refine Or.inr ⟨rfl, ?_⟩
        rcases h with ⟨hS, hset2⟩ | ⟨S2, hung, hset2⟩
        · exact ⟨S', hh.skip hyj hne hS, hset2, hg.trans hg2⟩
        · exact ⟨S2, hh.deep hyj hne hung, hset2, hg.trans hg2⟩)
  obtain ⟨_, na, nc, rfl, _⟩ := hin
  have hmf : ∀ (fn : Fn) (first cap : Array Value) (w : World), (Instr.makeFunc fn first cap).run Tryd.prog w = .ok (.func fn first cap) w := fun _ _ _ _ => rfl
  clear hc hpB hiB hsB hs
  unfold boxes at hnB hc1 hc2 hc3
  have HB : Hid (w.grownBy (boxes w (.slice (some ⟨b, o, none⟩) ts.length c) i B) (some B)) := hgB
  clear hgB
  go_enter Tryd.func46, Tryd.ntmps46
  go_wp2_with fail
  refine hcall.mono ?_
  rintro e w' (⟨rfl, hre, hg⟩ | ⟨rfl, S', hh, hset, hg⟩)
  · go_wp2
    go_ret
    exact ⟨Or.inl ⟨rfl, hre⟩, HB.out.trans hg⟩
  · go_wp2
    go_ret
    exact ⟨Or.inr ⟨rfl, S', hh.finish, hset⟩, HB.out.trans hg⟩

theorem hangs_any (ts : List (Int × List Int)) (h30 : ts.length ≤ 30) (hr : InRange ts) (f : Nat) : HangsOk ts f := by
  induction f using Nat.strongRecOn with
  | _ f ih => exact hangs_step ts f ih h30 hr
end Go.Proofs.YtefkglgccllbeaaDoor
