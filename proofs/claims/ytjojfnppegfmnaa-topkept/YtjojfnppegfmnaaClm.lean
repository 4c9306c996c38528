/- The contracts of checkOrder and Along. -/
import Derived.Test.YtjojfnppegfmnaaCll
namespace Go.Proofs.Ytjojfnppegfmnaa
open Go.RowKit Go.Deep

open Classical in
/-- What is wrong with an order of a plan that is right. -/
noncomputable def ordErr (ts : List (Int × List Int)) (zs : List Int) : Int := if EachZ ts.length zs then (if Behind ts (natsOf zs) then 0 else 6) else 3
theorem ordErr_shape {ts : List (Int × List Int)} {zs : List Int} (h : ¬ EachZ ts.length zs) : ordErr ts zs = 3 := if_neg h
theorem ordErr_state {ts : List (Int × List Int)} {zs : List Int} (h : EachZ ts.length zs) (h2 : ¬ Behind ts (natsOf zs)) : ordErr ts zs = 6 := by unfold ordErr; rw [if_pos h, if_neg h2]
theorem ordErr_ok {ts : List (Int × List Int)} {zs : List Int} (h : EachZ ts.length zs) (h2 : Behind ts (natsOf zs)) : ordErr ts zs = 0 := by unfold ordErr; rw [if_pos h, if_pos h2]
theorem ordErr_zero {ts : List (Int × List Int)} {zs : List Int} (h : ordErr ts zs = 0) : EachZ ts.length zs ∧ Behind ts (natsOf zs) := by
  unfold ordErr at h
  split at h
  · rename_i h1
    split at h
    · rename_i h2; exact ⟨h1, h2⟩
    · omega
  · omega

set_option maxHeartbeats 800000 in
theorem indexFunc_state (v : Value) (zs : List Int) (g : Nat) (lb : Array Value) (J : Nat → World → Prop) (Qt : World → Prop) (w : World) (hz : IntsAt w v zs) (eg : ∀ args w, (callFunc g args).run Try.prog w = .ok (.enter g args) w) (h0 : J 0 w)
    (hJ : ∀ k w', J k w' → IntsAt w' v zs)
    (hs : ∀ k w', k < zs.length → J k w' → Calls Try.prog g (#[.int .i64 (zs.getD k 0)] ++ lb) w' fun e w'' => (e = .returned (.bool true) ∧ Qt w'') ∨ (e = .returned (.bool false) ∧ J (k + 1) w'')) :
    Calls Try.prog 57 #[v, .func (.func g) #[] lb] w fun e w' => (∃ r : Nat, e = .returned (.int .i64 r) ∧ Qt w') ∨ (e = .returned (.int .i64 (-1)) ∧ J zs.length w') := by
  have HJ : Hid (∀ k w', J k w' → IntsAt w' v zs) := hJ
  have HS : Hid (∀ k w', k < zs.length → J k w' → Calls Try.prog g (#[.int .i64 (zs.getD k 0)] ++ lb) w' fun e w'' => (e = .returned (.bool true) ∧ Qt w'') ∨ (e = .returned (.bool false) ∧ J (k + 1) w'')) := hs
  have H0 : Hid (J 0 w) := h0
  clear hJ hs h0
  obtain ⟨hl, a, c, rfl, hz⟩ := hz
  clear hz
  go_enter Try.func57, Try.ntmps57
  go_wp2
  go_loopw [8] (fun i wr => ∃ k : Nat, k ≤ zs.length ∧ i = .int .i64 k ∧ Hid (J k wr)) (fun i _ => zs.length - (intOf i).toNat)
  case atStart => exact ⟨0, Nat.zero_le _, rfl, H0⟩
  case round =>
    obtain ⟨k, hk, rfl, hj⟩ := hrel
    by_cases hlt : k < zs.length
    · obtain ⟨_, a', c', he, hz⟩ := HJ.out k wr hj.out
      simp only [Value.slice.injEq] at he
      obtain ⟨rfl, _, rfl⟩ := he
      have hcall := HS.out k wr hlt hj.out
      rcases hz with rfl | ⟨b, o, rfl, hbl, hc⟩
      · simp at hlt
      have hck := hc k hlt
      clear hc
      generalize zs.getD k 0 = y at *
      go_wp2_with (fail)
      refine hcall.mono ?_
      rintro e w' (⟨rfl, hq⟩ | ⟨rfl, hj'⟩)
      · go_wp2
        go_ret
        exact Or.inl ⟨k, rfl, hq⟩
      · have HJ' : Hid (J (k + 1) w') := hj'
        clear hj'
        go_wp2
        go_roundw
        case rel => exact ⟨k + 1, by omega, by go_num, HJ'⟩
        case measure => simp [intOf]; omega
    · have hke : k = zs.length := by omega
      subst hke
      go_wp2
      go_ret
      exact Or.inr ⟨rfl, hj.out⟩

theorem containsFunc_state (v : Value) (zs : List Int) (g : Nat) (lb : Array Value) (J : Nat → World → Prop) (Qt : World → Prop) (w : World) (hz : IntsAt w v zs) (eg : ∀ args w, (callFunc g args).run Try.prog w = .ok (.enter g args) w) (h0 : J 0 w)
    (hJ : ∀ k w', J k w' → IntsAt w' v zs)
    (hs : ∀ k w', k < zs.length → J k w' → Calls Try.prog g (#[.int .i64 (zs.getD k 0)] ++ lb) w' fun e w'' => (e = .returned (.bool true) ∧ Qt w'') ∨ (e = .returned (.bool false) ∧ J (k + 1) w'')) :
    Calls Try.prog 41 #[v, .func (.func g) #[] lb] w fun e w' => (e = .returned (.bool true) ∧ Qt w') ∨ (e = .returned (.bool false) ∧ J zs.length w') := by
  have hcall := indexFunc_state v zs g lb J Qt w hz eg h0 hJ hs
  clear hs hJ h0 hz
  go_enter Try.func41, Try.ntmps41
  go_wp2_with fail
  refine hcall.mono ?_
  rintro e w' (⟨r, rfl, hq⟩ | ⟨rfl, hj⟩)
  · have hr : (0 : Int) ≤ (r : Int) := by omega
    go_wp2
    go_ret
    exact Or.inl ⟨ret_bool (by simp), hq⟩
  · go_wp2
    go_ret
    exact Or.inr ⟨rfl, hj⟩
/-- ContainsFunc with a function that only reads, and may draw. -/
theorem containsFunc_reads (v : Value) (zs : List Int) (g : Nat) (lb : Array Value) (p : Int → Bool) (w : World) (hz : IntsAt w v zs) (eg : ∀ args w, (callFunc g args).run Try.prog w = .ok (.enter g args) w)
    (hp : ∀ x, x ∈ zs → ∀ w', Below w.heap.size w w' → Calls Try.prog g (#[.int .i64 x] ++ lb) w' fun e w2 => e = .returned (.bool (p x)) ∧ Below w'.heap.size w' w2) :
    Calls Try.prog 41 #[v, .func (.func g) #[] lb] w fun e w' => e = .returned (.bool (zs.any p)) ∧ Below w.heap.size w w' := by
  refine (containsFunc_state v zs g lb (fun j w' => (∀ x, x ∈ zs.take j → p x = false) ∧ Below w.heap.size w w') (fun w' => zs.any p = true ∧ Below w.heap.size w w') w hz eg ⟨fun x hx => by simp at hx, Below.refl _ _⟩ (fun k w' h => hz.later h.2) (fun k w' hk h => ?_)).mono ?_
  · have hm : zs.getD k 0 ∈ zs := by rw [List.getD_eq_getElem?_getD, List.getElem?_eq_getElem hk]; exact List.getElem_mem hk
    refine (hp _ hm w' h.2).mono ?_
    rintro e w2 ⟨rfl, hb⟩
    have hb2 := h.2.trans (hb.mono h.2.size)
    cases hq : p (zs.getD k 0)
    · exact Or.inr ⟨rfl, take_succ_all p zs k hk h.1 hq, hb2⟩
    · exact Or.inl ⟨rfl, List.any_eq_true.2 ⟨_, hm, hq⟩, hb2⟩
  · rintro e w' (⟨rfl, h1, h2⟩ | ⟨rfl, h1, h2⟩)
    · exact ⟨by rw [h1], h2⟩
    · refine ⟨ret_bool (Eq.symm ?_), h2⟩
      rw [List.any_eq_false]
      intro x hx
      have := h1 x (by rw [List.take_of_length_le (Nat.le_refl _)]; exact hx)
      simp [this]

theorem entersO : ∀ args w, (callFunc 42 args).run Try.prog w = .ok (.enter 42 args) w := enters_of Try.func42 (by kernel_rfl) rfl
/-- Nobody that it needs stands behind it. -/
def Fine (ts : List (Int × List Int)) (A : Nat → Int) (i : Nat) : Prop := ∀ y, y ∈ needsOf ts i → ¬ A i < A y.toNat
def aheadB (A : Nat → Int) (i : Nat) (y : Int) : Bool := decide (A i < A y.toNat)
set_option maxRecDepth 100000 in
theorem ahead_any (A : Nat → Int) (n g : Nat) (a1 a2 : Addr) (i : Nat) (y : Int) (w : World) (h1 : w.cell? a1 = some (.slice (some ⟨g, 0, none⟩) n n)) (h2 : w.cell? a2 = some (.int .i64 (i : Int))) (hrow : w.rowIs g 3 n (posRow A)) (hi : i < n) (h0 : 0 ≤ y) (hy : y < n) (_hn : n ≤ 30) :
    Calls Try.prog 42 (#[.int .i64 y] ++ #[.pointer (some a1), .pointer (some a2)]) w fun e w' => e = .returned (.bool (aheadB A i y)) ∧ Below w.heap.size w w' := by
  obtain ⟨k, rfl⟩ := Int.eq_ofNat_of_zero_le h0
  show Calls Try.prog 42 #[.int .i64 k, .pointer (some a1), .pointer (some a2)] w _
  have hk : k < n := by omega
  have hc1 := hrow.cell hk
  have hc2 := hrow.cell hi
  unfold posRow at hc1 hc2
  unfold aheadB
  rw [Int.toNat_natCast]
  clear hrow
  have HB : Hid (∀ q, Below w.heap.size w (w.drewN q)) := fun q => drawn_below _ _ q
  generalize A k = x at *
  generalize A i = z at *
  go_enter Try.func42, Try.ntmps42
  go_wp2
  go_quiet (fail)
  go_wp2
  go_ret
  exact ⟨rfl, HB.out _⟩

set_option maxRecDepth 100000 in
set_option maxHeartbeats 4000000 in
theorem checkOrder_any (pv rv : Value) (ts : List (Int × List Int)) (zs : List Int) (w : World) (hp : PlanAt w pv ts) (hz : IntsAt w rv zs) (h30 : ts.length ≤ 30) (hr : InRange ts) (hno : ∀ j, j < ts.length → ¬ Reach ts j j) :
    Calls Try.prog 27 #[pv, rv] w fun e w' => e = .returned (errV (ordErr ts zs)) ∧ Below w.heap.size w w' := by
  have hpl := places_any rv zs ts.length w hz h30
  have HP : Hid (PlanAt w pv ts) := hp
  have HR : Hid (InRange ts) := hr
  have HNO : Hid (∀ j, j < ts.length → ¬ Reach ts j j) := hno
  obtain ⟨_, pa, pc, rfl, _⟩ := hp
  obtain ⟨_, ra, rc, rfl, _⟩ := hz
  clear hr hno
  go_enter Try.func27, Try.ntmps27
  go_wp2_with fail
  refine hpl.mono ?_
  clear hpl
  rintro e w1 ⟨hout, hb1⟩
  rcases hout with ⟨hne, rfl⟩ | ⟨hE, A, g, rfl, hrow, hA⟩
  · have HE : Hid (ordErr ts zs = 3) := ordErr_shape hne
    have HB : Hid (Below w.heap.size w (w1.alloc (.cells #[.slice none 0 0] 34))) := hb1.alloc hb1.size _
    clear hne
    go_wp2
    go_ret
    exact ⟨by rw [HE.out]; rfl, HB.out⟩
  · obtain ⟨w2, hw2⟩ : ∃ w2, w2 = w1.alloc (.cells #[.slice (some ⟨g, 0, none⟩) ts.length ts.length] 34) := ⟨_, rfl⟩
    have HB2 : Hid (Below w.heap.size w w2) := by rw [hw2]; exact hb1.alloc hb1.size _
    have HR2 : Hid (w2.rowIs g 3 ts.length (posRow A)) := by rw [hw2]; exact hrow.alloc _
    have HX2 : Hid (w2.heap[w1.heap.size]? = some (.cells #[.slice (some ⟨g, 0, none⟩) ts.length ts.length] 34 (0, 0))) := by rw [hw2]; exact blk_alloc_new w1 _
    have hX : w1.heap.size < w2.heap.size := by rw [hw2]; simp
    have hgl := HR2.out.lt
    have HAH : Hid (Behind ts (natsOf zs) ↔ ∀ i, i < ts.length → Fine ts A i) := behind_iff hE hA HR.out HNO.out
    have HE : Hid (EachZ ts.length zs) := hE
    go_wp2
    rw [← hw2]
    clear hw2 hb1 hrow hA hE
    generalize w1.heap.size = X at *
    go_loopw [21] (fun s21 wr => ∃ k : Nat, k ≤ ts.length ∧ s21 = .int .i64 k ∧ Hid (∀ i, i < k → Fine ts A i) ∧ Below w2.heap.size w2 wr) (fun s21 _ => ts.length - (intOf s21).toNat)
    case atStart => exact ⟨0, Nat.zero_le _, rfl, fun i hi => by omega, Below.refl _ _⟩
    case round =>
      obtain ⟨k, hk, rfl, hall, hb⟩ := hrel
      by_cases hkl : k < ts.length
      · have hpw := (HP.out.later HB2.out).later hb
        obtain ⟨_, a', c', hva, hpc⟩ := hpw
        cases hva
        rcases hpc with h | ⟨b, o, rfl, hbl, hc⟩
        · subst h; simp at hkl
        obtain ⟨hc1, nv, hc2, hin⟩ := hc k hkl
        obtain ⟨a2, c2, rfl⟩ : ∃ a2 c2, nv = .slice a2 (needsOf ts k).length c2 := by
          obtain ⟨_, a2, c2, h, _⟩ := hin
          exact ⟨a2, c2, h⟩
        clear hc
        obtain ⟨W, hW⟩ : ∃ W, W = (wr.alloc (.cells #[.int .i64 (k : Int)] 3)).alloc (.cells #[.int .i64 (ts.getD k (0, [])).1, .slice a2 (needsOf ts k).length c2] 43) := ⟨_, rfl⟩
        have hbW : Below wr.heap.size wr W := by rw [hW]; exact ((Below.refl _ _).alloc (Nat.le_refl _) _).alloc (by simp) _
        have hcK : W.cell? ⟨wr.heap.size, 0, none⟩ = some (.int .i64 (k : Int)) := by
          rw [hW]
          unfold World.cell?
          dsimp only
          rw [blk_alloc_lt _ _ _ (by simp), blk_alloc_new]
          rfl
        have hbx2 : Below w2.heap.size w2 W := hb.trans (hbW.mono hb.size)
        have hWX : W.heap[X]? = some (.cells #[.slice (some ⟨g, 0, none⟩) ts.length ts.length] 34 (0, 0)) := (hbx2.block _ hX).trans HX2.out
        have hWc : W.cell? ⟨X, 0, none⟩ = some (.slice (some ⟨g, 0, none⟩) ts.length ts.length) := by simp [World.cell?, hWX]
        have hWr : W.rowIs g 3 ts.length (posRow A) := HR2.out.of_block (hbx2.block _ hgl)
        have hWsz : wr.heap.size < W.heap.size := by rw [hW]; simp; omega
        have hXW : X < W.heap.size := Nat.lt_of_lt_of_le hX hbx2.size
        have hcf := containsFunc_reads _ (needsOf ts k) 42 #[.pointer (some ⟨X, 0, none⟩), .pointer (some ⟨wr.heap.size, 0, none⟩)] (aheadB A k) W (hin.later hbW) entersO (fun y hy w' hb' =>
          ahead_any A ts.length g _ _ k y w' ((hb'.cell (p := ⟨X, 0, none⟩) hXW).trans hWc) ((hb'.cell (p := ⟨wr.heap.size, 0, none⟩) hWsz).trans hcK) (hWr.of_block (hb'.block _ hWr.lt)) hkl (HR.out k hkl y hy).1 (HR.out k hkl y hy).2 h30)
        have HZ : Hid (∀ w3, Below W.heap.size W w3 → Below w2.heap.size w2 w3) := fun w3 h => hbx2.trans (h.mono hbx2.size)
        have HWW : Hid (W = (wr.alloc (.cells #[.int .i64 (k : Int)] 3)).alloc (.cells #[.int .i64 (ts.getD k (0, [])).1, .slice a2 (needsOf ts k).length c2] 43)) := hW
        rw [hW] at hcf
        cases hq : (needsOf ts k).any (aheadB A k)
        · have HF : Hid (∀ i, i < k + 1 → Fine ts A i) := fun i hi y hy => by
            by_cases e : i = k
            · subst e
              have := List.any_eq_false.1 hq y hy
              unfold aheadB at this
              simpa using this
            · exact hall.out i (by omega) y hy
          rw [hq] at hcf
          clear hq hall hWX hWc hWr hcK hbW hin hbx2 hW
          generalize (ts.getD k (0, [])).1 = wk at *
          generalize (needsOf ts k).length = nl at *
          go_wp2_with (go_at_call 41; refine hcf.mono ?_; clear hcf; rintro e w3 ⟨rfl, hb3⟩; rw [← HWW.out] at hb3; have hb4 := HZ.out w3 hb3; clear hb3)
          go_roundw
          case rel => exact ⟨k + 1, by omega, by go_num, HF, hb4⟩
          case measure => simp [intOf]; omega
        · have HE6 : Hid (ordErr ts zs = 6) := ordErr_state HE.out (fun hB => by
            obtain ⟨y, hy, h⟩ := List.any_eq_true.1 hq
            unfold aheadB at h
            exact HAH.out.1 hB k hkl y hy (by simpa using h))
          rw [hq] at hcf
          clear hq hall hWX hWc hWr hcK hbW hin hbx2 hW
          generalize (ts.getD k (0, [])).1 = wk at *
          generalize (needsOf ts k).length = nl at *
          go_wp2_with (go_at_call 41; refine hcf.mono ?_; clear hcf; rintro e w3 ⟨rfl, hb3⟩; rw [← HWW.out] at hb3; have hb4 := HZ.out w3 hb3; clear hb3)
          go_ret
          exact ⟨by rw [HE6.out]; rfl, HB2.out.trans (hb4.mono HB2.out.size)⟩
      · have HE0 : Hid (ordErr ts zs = 0) := ordErr_ok HE.out (HAH.out.2 (fun i hi => hall.out i (by omega)))
        clear hall
        go_wp2
        go_ret
        exact ⟨by rw [HE0.out]; rfl, HB2.out.trans (hb.mono HB2.out.size)⟩
end Go.Proofs.Ytjojfnppegfmnaa
