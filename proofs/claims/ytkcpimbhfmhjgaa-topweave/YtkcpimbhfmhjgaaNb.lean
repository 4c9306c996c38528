/- The contracts of list.namesEach and its closure: does an order name each once. -/
import Derived.Test.YtkcpimbhfmhjgaaNa
import Derived.Maps.OwnSet
import Derived.Maps.AppendAt
namespace Go.Proofs.Ytkcpimbhfmhjgaa
open Go.RowKit Go.Deep Go.Maps Classical

/-- Each of so many once. -/
def EachZ (n : Nat) (zs : List Int) : Prop := zs.length = n ∧ zs.Nodup ∧ ∀ x, x ∈ zs → 0 ≤ x ∧ x < n

theorem keyed3 : Keyed Try.prog 3 := int_keyed Try.underlying3
theorem zero75 (w : World) : (zeroValue 118).run Try.prog w = .ok (.agg #[]) w := by kernel_rfl

/-- Block B is the set of these numbers. -/
def SeenAt (w : World) (B : Nat) (l : List Int) : Prop :=
  ∃ D, w.ownsMap Try.prog 3 (unitElem (H := Unit)) B l.length D ∧ ∀ x : Int, Maps.has D (.int .i64 x) = decide (x ∈ l)
theorem SeenAt.start (w : World) : SeenAt (w.alloc (.map #[] 0)) w.heap.size [] :=
  ⟨.map [], World.ownsMap_made _ _ _ _, fun x => by simp [Maps.has]⟩
theorem SeenAt.ne {w : World} {B : Nat} {l : List Int} (h : SeenAt w B l) {a : Addr} {u : Value} (hc : w.cell? a = some u) : some a.block ≠ some B := by
  intro e
  obtain ⟨D, ⟨es, clock, hb, _⟩, _⟩ := h
  rw [← Option.some.inj e] at hb
  simp [World.cell?, hb] at hc
theorem SeenAt.alloc {w : World} {B : Nat} {l : List Int} (h : SeenAt w B l) (o : Obj) : SeenAt (w.alloc o) B l := by
  obtain ⟨D, h, h2⟩ := h
  exact ⟨D, h.alloc o, h2⟩
theorem IntsAt.seen {w w' : World} {v : Value} {zs : List Int} {B : Nat} {l : List Int} (h : IntsAt w v zs) (hs : SeenAt w B l) (hg : w.grownBy w' (some B)) : IntsAt w' v zs := by
  obtain ⟨hl, a, c, hv, h⟩ := h
  refine ⟨hl, a, c, hv, ?_⟩
  rcases h with h | ⟨b, o, ha, hlt, hc⟩
  · exact Or.inl h
  · exact Or.inr ⟨b, o, ha, Nat.lt_of_lt_of_le hlt hg.size, fun k hk => hg.cell (hc k hk) (hs.ne (hc k hk))⟩

/-- Seen ahead, or none of so many. -/
def badZ (n : Nat) (l : List Int) (x : Int) : Bool := decide (x ∈ l) || decide (x < 0) || decide ((n : Int) ≤ x)

set_option maxRecDepth 100000 in
set_option maxHeartbeats 2000000 in
theorem closure_names (n : Nat) (l : List Int) (x : Int) (B : Nat) (am ac : Addr) (w : World) (hl : l.length ≤ 1000000000000000) (hx : (Lit.int .i64 x).wf = true) (hs : SeenAt w B l)
    (hcm : w.cell? am = some (.map (some B))) (hcc : w.cell? ac = some (.int .i64 n)) :
    Calls Try.prog 68 (#[.int .i64 x] ++ #[.pointer (some am), .pointer (some ac)]) w fun e w' => e = .returned (.bool (badZ n l x)) ∧ SeenAt w' B (l ++ [x]) ∧ w.grownBy w' (some B) := by
  show Calls Try.prog 68 #[.int .i64 x, .pointer (some am), .pointer (some ac)] w _
  have HS : Hid (SeenAt w B l) := hs
  obtain ⟨D, hown, hD⟩ := hs
  have hDx := hD x
  have HD : Hid (∀ x : Int, Maps.has D (.int .i64 x) = decide (x ∈ l)) := hD
  have hkey : keyOf Try.prog 3 (.int .i64 x) = some (.int .i64 x) := keyOf_int_mk Try.underlying3 hx
  have hml : l.length < maxLen := by unfold maxLen; omega
  have hcmA : (w.alloc (.cells #[] 118)).cell? am = some (.map (some B)) := (World.grownBy_alloc w (.cells #[] 118) (some B)).cell hcm (HS.out.ne hcm)
  have HK : Hid (∀ w1 : World, (w.alloc (.cells #[] 118)).grownBy w1 (some B) → w1.cell? ac = some (.int .i64 n)) := by
    intro w1 hg
    exact hg.cell ((World.grownBy_alloc w (.cells #[] 118) (some B)).cell hcc (HS.out.ne hcc)) (HS.out.ne hcc)
  have HN : Hid (∀ w1 : World, w1.ownsMap Try.prog 3 (unitElem (H := Unit)) B (l.length + 1) (D.put (.int .i64 x) (.agg [])) → SeenAt w1 B (l ++ [x])) := by
    intro w1 h
    refine ⟨_, by rw [List.length_append]; exact h, fun y => ?_⟩
    by_cases e : y = x
    · subst e
      rw [Maps.has_put_same hown.isMap (by trivial)]; simp
    · rw [Maps.has_put_other (by intro h; injection h with _ h; exact e h), HD.out y]; simp [e]
  have HG : Hid (w.grownBy (w.alloc (.cells #[] 118)) (some B)) := World.grownBy_alloc _ _ _
  have HB : Hid (badZ n l x = (decide (x ∈ l) || decide (x < 0) || decide ((n : Int) ≤ x))) := rfl
  clear hD hcc
  generalize decide (x ∈ l) = was at *
  cases was
  · by_cases h0 : x < 0
    · go_enter Try.func68, Try.ntmps68
      go_wp2_with (first | (at_lookup; refine wpList_lookup_own_unit _ rfl _ _ 117 rfl 3 118 keyed3 Try.underlying117 (zero75 _) B l.length D rfl hown _ _ rfl hkey ?_; rw [hDx]) | (at_mapUpdate; refine wpList_mapUpdate_own _ rfl _ _ _ 117 rfl 3 118 keyed3 Try.underlying117 (unitElem (H := Unit)) B l.length D rfl (hown.alloc _) hml _ _ _ rfl rfl hkey (.agg []) [] unitElem_mk ?_; intro w1 hown1 hgrow1; have hcc1 := HK.out w1 hgrow1))
      go_ret
      exact ⟨ret_bool (by rw [HB.out]; simp [h0]), HN.out _ hown1, HG.out.trans hgrow1⟩
    · by_cases h1 : (n : Int) ≤ x
      · go_enter Try.func68, Try.ntmps68
        go_wp2_with (first | (at_lookup; refine wpList_lookup_own_unit _ rfl _ _ 117 rfl 3 118 keyed3 Try.underlying117 (zero75 _) B l.length D rfl hown _ _ rfl hkey ?_; rw [hDx]) | (at_mapUpdate; refine wpList_mapUpdate_own _ rfl _ _ _ 117 rfl 3 118 keyed3 Try.underlying117 (unitElem (H := Unit)) B l.length D rfl (hown.alloc _) hml _ _ _ rfl rfl hkey (.agg []) [] unitElem_mk ?_; intro w1 hown1 hgrow1; have hcc1 := HK.out w1 hgrow1))
        go_ret
        exact ⟨ret_bool (by rw [HB.out]; simp [h1]), HN.out _ hown1, HG.out.trans hgrow1⟩
      · go_enter Try.func68, Try.ntmps68
        go_wp2_with (first | (at_lookup; refine wpList_lookup_own_unit _ rfl _ _ 117 rfl 3 118 keyed3 Try.underlying117 (zero75 _) B l.length D rfl hown _ _ rfl hkey ?_; rw [hDx]) | (at_mapUpdate; refine wpList_mapUpdate_own _ rfl _ _ _ 117 rfl 3 118 keyed3 Try.underlying117 (unitElem (H := Unit)) B l.length D rfl (hown.alloc _) hml _ _ _ rfl rfl hkey (.agg []) [] unitElem_mk ?_; intro w1 hown1 hgrow1; have hcc1 := HK.out w1 hgrow1))
        go_ret
        exact ⟨ret_bool (by rw [HB.out]; simp [h0, h1]), HN.out _ hown1, HG.out.trans hgrow1⟩
  · go_enter Try.func68, Try.ntmps68
    go_wp2_with (first | (at_lookup; refine wpList_lookup_own_unit _ rfl _ _ 117 rfl 3 118 keyed3 Try.underlying117 (zero75 _) B l.length D rfl hown _ _ rfl hkey ?_; rw [hDx]) | (at_mapUpdate; refine wpList_mapUpdate_own _ rfl _ _ _ 117 rfl 3 118 keyed3 Try.underlying117 (unitElem (H := Unit)) B l.length D rfl (hown.alloc _) hml _ _ _ rfl rfl hkey (.agg []) [] unitElem_mk ?_; intro w1 hown1 hgrow1; have hcc1 := HK.out w1 hgrow1))
    go_ret
    exact ⟨ret_bool (by rw [HB.out]; simp), HN.out _ hown1, HG.out.trans hgrow1⟩

theorem enters38 : ∀ args w, (callFunc 68 args).run Try.prog w = .ok (.enter 68 args) w := enters_of Try.func68 (by kernel_rfl) rfl

theorem getD_memZ {l : List Int} {k : Nat} (hk : k < l.length) : l.getD k 0 ∈ l := by
  rw [List.getD_eq_getElem?_getD, List.getElem?_eq_getElem hk]; exact List.getElem_mem hk
theorem take_oneZ {l : List Int} {k : Nat} (hk : k < l.length) : l.take (k + 1) = l.take k ++ [l.getD k 0] := by
  rw [List.take_succ_eq_append_getElem hk, List.getD_eq_getElem?_getD, List.getElem?_eq_getElem hk]; rfl

/-- The first so many are each once, and of so many. -/
def GoodTo (n : Nat) (l : List Int) : Prop := l.Nodup ∧ ∀ x, x ∈ l → 0 ≤ x ∧ x < n
theorem GoodTo.snoc {n : Nat} {l : List Int} {x : Int} (h : GoodTo n l) (hb : badZ n l x = false) : GoodTo n (l ++ [x]) := by
  unfold badZ at hb
  simp only [Bool.or_eq_false_iff, decide_eq_false_iff_not] at hb
  refine ⟨?_, fun y hy => ?_⟩
  · rw [List.nodup_append]
    refine ⟨h.1, by simp, fun a ha b hb2 e => ?_⟩
    have : b = x := by simpa using hb2
    subst this; subst e
    exact hb.1.1 ha
  · rcases List.mem_append.1 hy with hy | hy
    · exact h.2 y hy
    · have : y = x := by simpa using hy
      omega
theorem not_each {n k : Nat} {zs : List Int} (hk : k < zs.length) (hb : badZ n (zs.take k) (zs.getD k 0) = true) : ¬ EachZ n zs := by
  rintro ⟨_, h2, h3⟩
  unfold badZ at hb
  simp only [Bool.or_eq_true, decide_eq_true_eq] at hb
  have hm := h3 _ (getD_memZ hk)
  rcases hb with (hb | hb) | hb
  · have h4 : (zs.take (k + 1)).Nodup := h2.sublist (List.take_sublist _ _)
    rw [take_oneZ hk, List.nodup_append] at h4
    exact h4.2.2 _ hb _ (by simp) rfl
  · omega
  · omega

set_option maxRecDepth 100000 in
set_option maxHeartbeats 2000000 in
theorem names_any (v : Value) (zs : List Int) (n : Nat) (w : World) (hz : IntsAt w v zs) (hwf : ∀ x, x ∈ zs → (Lit.int .i64 x).wf = true) (hn : n ≤ 1000) :
    Calls Try.prog 42 #[v, .int .i64 n] w fun e w' => e = .returned (.bool (decide (EachZ n zs))) ∧ Below w.heap.size w w' := by
  have hbA : Below w.heap.size w (w.alloc (.cells #[.int .i64 (n : Int)] 3)) := (Below.refl _ _).alloc (Nat.le_refl _) _
  have hcA := cell_box w (.int .i64 (n : Int)) 3
  by_cases hlen : zs.length = n
  · have hne : ((zs.length : Int) == (n : Int)) = true := by rw [hlen]; simp
    have hsA : (w.alloc (.cells #[.int .i64 (n : Int)] 3)).heap.size = w.heap.size + 1 := by simp
    have hsz0 := SeenAt.start (w.alloc (.cells #[.int .i64 (n : Int)] 3))
    rw [hsA] at hsz0
    have hW : ((w.alloc (.cells #[.int .i64 (n : Int)] 3)).alloc (.map #[] 0)).heap.size = w.heap.size + 1 + 1 := by simp
    have hs3 := hsz0.alloc (.cells #[.map (some (w.heap.size + 1))] 117)
    have hc3 := cell_box ((w.alloc (.cells #[.int .i64 (n : Int)] 3)).alloc (.map #[] 0)) (.map (some (w.heap.size + 1))) 117
    rw [hW] at hc3
    have hb3 : Below w.heap.size w (((w.alloc (.cells #[.int .i64 (n : Int)] 3)).alloc (.map #[] 0)).alloc (.cells #[.map (some (w.heap.size + 1))] 117)) := (hbA.alloc (by simp) _).alloc (by simp; omega) _
    have hcc : (((w.alloc (.cells #[.int .i64 (n : Int)] 3)).alloc (.map #[] 0)).alloc (.cells #[.map (some (w.heap.size + 1))] 117)).cell? ⟨w.heap.size, 0, none⟩ = some (.int .i64 n) := by
      rw [World.cell?_alloc_lt _ _ ⟨w.heap.size, 0, none⟩ (by simp; omega), World.cell?_alloc_lt _ _ ⟨w.heap.size, 0, none⟩ (by simp)]; exact hcA
    have hz3 := hz.later hb3
    obtain ⟨W, HW⟩ : ∃ W, W = ((w.alloc (.cells #[.int .i64 (n : Int)] 3)).alloc (.map #[] 0)).alloc (.cells #[.map (some (w.heap.size + 1))] 117) := ⟨_, rfl⟩
    have hsW : W.heap.size = w.heap.size + 3 := by rw [HW]; simp
    rw [← HW] at hs3 hc3 hb3 hcc hz3
    have hcall := containsFunc_state v zs 68 #[.pointer (some ⟨w.heap.size + 1 + 1, 0, none⟩), .pointer (some ⟨w.heap.size, 0, none⟩)]
      (fun j w' => GoodTo n (zs.take j) ∧ SeenAt w' (w.heap.size + 1) (zs.take j) ∧ W.grownBy w' (some (w.heap.size + 1)))
      (fun w' => ¬ EachZ n zs ∧ W.grownBy w' (some (w.heap.size + 1))) W hz3 enters38 ⟨⟨by simp, fun x hx => by simp at hx⟩, hs3, World.grownBy.refl _ _⟩ (fun j w' ⟨_, _, hg⟩ => hz3.seen hs3 hg)
      (fun j w' hj ⟨hgd, hset, hg⟩ => by
        refine (closure_names n (zs.take j) (zs.getD j 0) (w.heap.size + 1) _ _ w' (by have := List.length_take_le j zs; omega) (hwf _ (getD_memZ hj)) hset (hg.cell hc3 (hs3.ne hc3)) (hg.cell hcc (hs3.ne hcc))).mono ?_
        rintro e w2 ⟨rfl, h1, h2⟩
        cases hb : badZ n (zs.take j) (zs.getD j 0)
        · exact Or.inr ⟨rfl, by rw [take_oneZ hj]; exact hgd.snoc hb, by rw [take_oneZ hj]; exact h1, hg.trans h2⟩
        · exact Or.inl ⟨rfl, not_each hj hb, hg.trans h2⟩)
    have HB3 : Hid (Below w.heap.size w W) := hb3
    have HL : Hid (zs.length = n) := hlen
    obtain ⟨_, a, c, rfl, _⟩ := hz
    have hmf : ∀ (fn : Fn) (first cap : Array Value) (w : World), (Instr.makeFunc fn first cap).run Try.prog w = .ok (.func fn first cap) w := fun _ _ _ _ => rfl
    have hmm : ∀ w : World, (Instr.makeMap 117 none).run Try.prog w = .ok (.map (some w.heap.size)) (w.alloc (.map #[] 0)) := fun _ => rfl
    rw [HW] at hcall
    have HWW : Hid (W = _) := HW
    clear hsz0 hs3 hc3 hb3 hcc hz3 hwf HW hlen hsA hW hbA
    go_enter Try.func42, Try.ntmps42
    go_wp2_with fail
    refine hcall.mono ?_
    rintro e w' (⟨rfl, hnot, hg⟩ | ⟨rfl, hgd, _, hg⟩)
    · have hbe : Below w.heap.size w w' := HB3.out.grown (by rw [HWW.out]; exact hg) (by omega) (fun j e => by have := Option.some.inj e; omega)
      go_wp2
      go_ret
      exact ⟨ret_bool (by simp [hnot]), hbe⟩
    · have hbe : Below w.heap.size w w' := HB3.out.grown (by rw [HWW.out]; exact hg) (by omega) (fun j e => by have := Option.some.inj e; omega)
      rw [List.take_of_length_le (Nat.le_refl _)] at hgd
      have he : EachZ n zs := ⟨HL.out, hgd⟩
      go_wp2
      go_ret
      exact ⟨ret_bool (by simp [he]), hbe⟩
  · have hne : ((zs.length : Int) == (n : Int)) = false := by rw [beq_eq_false_iff_ne]; omega
    have hnot : ¬ EachZ n zs := fun h => hlen h.1
    obtain ⟨_, a, c, rfl, _⟩ := hz
    have HL : Hid (¬ zs.length = n) := hlen
    clear hlen
    generalize zs.length = zl at *
    go_enter Try.func42, Try.ntmps42
    go_wp2
    go_ret
    exact ⟨ret_bool (by simp [hnot]), hbA⟩
end Go.Proofs.Ytkcpimbhfmhjgaa
