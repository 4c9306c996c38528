/- The document's In, Each, Op, Cell, size. -/
import Derived.Test.YtkdlhhogbpjplaaDoorCln
import Derived.Test.YtkdlhhogbpjplaaDoorRh
import Derived.Test.YtkdlhhogbpjplaaDoorI
namespace Go.Proofs.YtkdlhhogbpjplaaDoor
open Go.RowKit Go.Deep

theorem take_succ_none (x : Int) (zs : List Int) (k : Nat) (hlt : k < zs.length) (hno : x ∉ zs.take k) (h : zs.getD k 0 ≠ x) : x ∉ zs.take (k + 1) := by
  intro hx
  rw [List.take_succ_eq_append_getElem hlt] at hx
  have he : zs.getD k 0 = zs[k] := by rw [List.getD_eq_getElem?_getD, List.getElem?_eq_getElem hlt]; rfl
  rcases List.mem_append.1 hx with hx | hx
  · exact hno hx
  · exact h (by rw [he]; exact (List.mem_singleton.1 hx).symm)
theorem mem_at {x : Int} {zs : List Int} {k : Nat} (hlt : k < zs.length) (h : zs.getD k 0 = x) : x ∈ zs := by
  rw [List.getD_eq_getElem?_getD, List.getElem?_eq_getElem hlt] at h
  rw [← h]; exact List.getElem_mem hlt

def memB (zs : List Int) (x : Int) : Bool := decide (x ∈ zs)

set_option maxHeartbeats 800000 in
theorem in_any (v : Value) (zs : List Int) (x : Int) (w : World) (hz : IntsAt w v zs) :
    Calls Tryd.prog 26 #[v, .int .i64 x] w fun e w' => e = .returned (.bool (memB zs x)) ∧ w' = w := by
  obtain ⟨hl, a, c, rfl, hz⟩ := hz
  rcases hz with rfl | ⟨b, o, rfl, hbl, hc⟩
  · go_enter Tryd.func26, Tryd.ntmps26
    go_wp2
    refine wp_loop_rounds 1 ?_
    rw [rounds_succ]
    go_wp2
    go_ret
    exact ⟨rfl, rfl⟩
  · go_enter Tryd.func26, Tryd.ntmps26
    go_wp2
    go_loop [5] (fun i => ∃ k : Nat, k ≤ zs.length ∧ i = .int .i64 k ∧ Hid (x ∉ zs.take k)) (fun i => zs.length - (intOf i).toNat)
    case atStart => exact ⟨0, Nat.zero_le _, rfl, by simp [Hid]⟩
    case round =>
      obtain ⟨k, hk, rfl, hno⟩ := hrel
      by_cases hkl : k < zs.length
      · have hck := hc k hkl
        clear hc
        generalize hy : zs.getD k 0 = y at hck
        have HY : Hid (zs.getD k 0 = y) := hy
        clear hy
        by_cases e : y = x
        · have he : (y == x) = true := by simp [e]
          have HM : Hid (x ∈ zs) := mem_at hkl (HY.out.trans e)
          clear e
          go_wp2
          go_ret
          exact ⟨ret_bool (by simp [memB, HM.out]), rfl⟩
        · have he : (y == x) = false := by simp [e]
          have HM : Hid (x ∉ zs.take (k + 1)) := take_succ_none x zs k hkl hno.out (by rw [HY.out]; exact e)
          clear e
          go_wp2
          go_round
          case rel => exact ⟨k + 1, by omega, by go_num, HM⟩
          case measure => simp [intOf]; omega
      · have HM : Hid (x ∉ zs) := by have := hno.out; rwa [List.take_of_length_le (by omega)] at this
        go_wp2
        go_ret
        exact ⟨ret_bool (by simp [memB, HM.out]), rfl⟩
theorem IntsAt.front {w : World} {a : Option Addr} {c k : Nat} {zs : List Int} (h : IntsAt w (.slice a zs.length c) zs) (hk : k ≤ zs.length) : IntsAt w (.slice a k c) (zs.take k) := by
  obtain ⟨hl, a', c', hv, h⟩ := h
  simp only [Value.slice.injEq] at hv
  obtain ⟨rfl, -, rfl⟩ : a = a' ∧ True ∧ c = c' := ⟨hv.1, trivial, hv.2.2⟩
  have hkl : (zs.take k).length = k := by rw [List.length_take]; omega
  refine ⟨by rw [hkl]; omega, a, c, by rw [hkl], ?_⟩
  rcases h with rfl | ⟨b, o, rfl, hb, hc⟩
  · left; simp
  · right
    refine ⟨b, o, rfl, hb, fun j hj => ?_⟩
    rw [hkl] at hj
    rw [hc j (by omega)]
    simp [hj]

set_option maxRecDepth 100000 in

open Classical in
set_option maxRecDepth 100000 in
set_option maxHeartbeats 1000000 in
theorem eachR_any (v : Value) (zs : List Int) (n : Nat) (w : World) (hz : IntsAt w v zs) (hcap : ∀ a m c, v = .slice a m c → m ≤ c) (_hn : n ≤ 30) :
    Calls Tryd.prog 14 #[.int .i64 (n : Int), v] w fun e w' => e = .returned (.bool (decide (EachZ n zs))) ∧ Below w.heap.size w w' := by
  have HZ : Hid (IntsAt w v zs) := hz
  obtain ⟨hl, a, c, rfl, hzc⟩ := hz
  have hcl := hcap _ _ _ rfl
  clear hcap
  by_cases hlen : zs.length = n
  · subst hlen
    go_enter Tryd.func14, Tryd.ntmps14
    go_wp2
    go_loopw [5] (fun s5 wr => ∃ k m : Nat, k ≤ zs.length ∧ s5 = .int .i64 k ∧ wr = w.drewN m ∧ Hid (∀ j, j < k → ¬ badZ zs.length zs j)) (fun s5 _ => zs.length - (intOf s5).toNat)
    case atStart => exact ⟨0, 0, Nat.zero_le _, rfl, rfl, fun j hj => by omega⟩
    case round =>
      obtain ⟨k, m, hk, rfl, rfl, hno⟩ := hrel
      by_cases hkl : k < zs.length
      · rcases hzc with h | ⟨b, o, rfl, hb, hc⟩
        · subst h; simp at hkl
        have hck := hc k hkl
        have HBD : Hid (badZ zs.length zs k ↔ zs.getD k 0 < 0 ∨ (zs.length : Int) ≤ zs.getD k 0 ∨ zs.getD k 0 ∈ zs.take k) := Iff.rfl
        have HNE : Hid (badZ zs.length zs k → decide (EachZ zs.length zs) = false) := fun h => decide_eq_false (each_not hkl h)
        have hin := fun q => in_any (.slice (some ⟨b, o, none⟩) k c) (zs.take k) (zs.getD k 0) (w.drewN (m + q)) (show IntsAt w _ _ from IntsAt.front HZ.out (by omega))
        have HMB : Hid (memB (zs.take k) (zs.getD k 0) = true ↔ zs.getD k 0 ∈ zs.take k) := by show _ ↔ _; unfold memB; exact decide_eq_true_iff
        clear hc
        generalize memB (zs.take k) (zs.getD k 0) = mb at *
        generalize zs.getD k 0 = x at *
        have hkc : (k : Int) ≤ (c : Int) := by omega
        have hkc2 : k ≤ c := by omega
        have hkk : (0 : Int) ≤ (k : Int) := by omega
        by_cases h0 : x < 0
        · have HE : Hid (decide (EachZ zs.length zs) = false) := HNE.out (HBD.out.2 (Or.inl h0))
          clear HNE HBD hin hno HMB
          go_wp2
          go_ret
          exact ⟨ret_bool HE.out.symm, drawn_below _ w m⟩
        · by_cases h1 : (zs.length : Int) ≤ x
          · have HE : Hid (decide (EachZ zs.length zs) = false) := HNE.out (HBD.out.2 (Or.inr (Or.inl h1)))
            clear HNE HBD hin hno HMB
            go_wp2
            go_ret
            exact ⟨ret_bool HE.out.symm, drawn_below _ w m⟩
          · cases mb
            · have HE : Hid (∀ j, j < k + 1 → ¬ badZ zs.length zs j) := fun j hj => by
                by_cases e : j = k
                · subst e
                  intro h
                  rcases HBD.out.1 h with h | h | h
                  · exact h0 h
                  · exact h1 h
                  · have := HMB.out.2 h; cases this
                · exact hno.out j (by omega)
              clear HNE HBD hno HMB
              go_wp2
              go_quiet ((go_at_call 26; exact (hin _).mono (fun _ _ h => ⟨h.1, _, h.2⟩)))
              go_wp2
              go_roundw
              case rel => exact ⟨k + 1, _, by omega, by go_num, rfl, HE⟩
              case measure => simp [intOf]; omega
            · have HE : Hid (decide (EachZ zs.length zs) = false) := HNE.out (HBD.out.2 (Or.inr (Or.inr (HMB.out.1 rfl))))
              clear HNE HBD hno HMB
              go_wp2
              go_quiet ((go_at_call 26; exact (hin _).mono (fun _ _ h => ⟨h.1, _, h.2⟩)))
              go_wp2
              go_ret
              exact ⟨ret_bool HE.out.symm, (drawn_below _ w m).trans (drawn_below _ _ _)⟩
      · have HE : Hid (decide (EachZ zs.length zs) = true) := decide_eq_true (each_of rfl (fun j hj => hno.out j (by omega)))
        clear hzc hno
        go_wp2
        go_ret
        exact ⟨ret_bool HE.out.symm, drawn_below _ w m⟩
  · have hne : ((zs.length : Int) == (n : Int)) = false := by simp; omega
    have HE : Hid (decide (EachZ n zs) = false) := decide_eq_false (fun h => hlen h.1)
    clear hzc hlen
    go_enter Tryd.func14, Tryd.ntmps14
    go_wp2
    go_ret
    exact ⟨ret_bool HE.out.symm, Below.refl _ _⟩

set_option maxHeartbeats 1000000 in
theorem dCell_any (n : Int) (f : Bool) (w : World) : Calls Tryd.prog 5 #[.agg #[.int .i64 n, .bool f]] w fun e w' => e = .returned (.int .i64 (cellErr (n, f))) ∧ Below w.heap.size w w' := by
  have HB : Hid (Below w.heap.size w (w.alloc (.cells #[.int .i64 n, .bool f] 32))) := (Below.refl _ _).alloc (Nat.le_refl _) _
  by_cases h1 : n < -1000000000
  · have HE : Hid (cellErr (n, f) = 1) := by show _ = _; unfold cellErr; rw [if_neg]; dsimp only; rw [fitsC_iff]; omega
    go_enter Tryd.func5, Tryd.ntmps5
    go_wp2
    go_ret
    exact ⟨by rw [HE.out]; rfl, HB.out⟩
  · by_cases h2 : 1000000000 < n
    · have HE : Hid (cellErr (n, f) = 1) := by show _ = _; unfold cellErr; rw [if_neg]; dsimp only; rw [fitsC_iff]; omega
      go_enter Tryd.func5, Tryd.ntmps5
      go_wp2
      go_ret
      exact ⟨by rw [HE.out]; rfl, HB.out⟩
    · have hf : fitsC n = true := fitsC_iff.2 (by omega)
      cases f
      · have HE : Hid (cellErr (n, false) = 0) := cellErr_zero.2 ⟨hf, fun h => by cases h⟩
        clear hf
        go_enter Tryd.func5, Tryd.ntmps5
        go_wp2
        go_ret
        exact ⟨by rw [HE.out]; rfl, HB.out⟩
      · by_cases h0 : n = 0
        · subst h0
          go_enter Tryd.func5, Tryd.ntmps5
          go_wp2
          go_ret
          exact ⟨rfl, HB.out⟩
        · have HE : Hid (cellErr (n, true) = 1) := by show _ = _; unfold cellErr; rw [if_neg]; dsimp only; simp [h0]
          have hz : (n == (0 : Int)) = false := by simp [h0]
          clear hf
          go_enter Tryd.func5, Tryd.ntmps5
          go_wp2
          go_ret
          exact ⟨by rw [HE.out]; rfl, HB.out⟩

set_option maxHeartbeats 1000000 in
theorem dOp_any (a n : Int) (w : World) : Calls Tryd.prog 4 #[.agg #[.int .i64 a, .int .i64 n]] w fun e w' => e = .returned (.int .i64 (opErr (a, n))) ∧ Below w.heap.size w w' := by
  have HB : Hid (Below w.heap.size w (w.alloc (.cells #[.int .i64 a, .int .i64 n] 23))) := (Below.refl _ _).alloc (Nat.le_refl _) _
  by_cases h1 : a < 1
  · have HE : Hid (opErr (a, n) = 1) := by show _ = _; unfold opErr; rw [if_neg]; dsimp only; omega
    go_enter Tryd.func4, Tryd.ntmps4
    go_wp2
    go_ret
    exact ⟨by rw [HE.out]; rfl, HB.out⟩
  · by_cases h2 : 5 < a
    · have HE : Hid (opErr (a, n) = 1) := by show _ = _; unfold opErr; rw [if_neg]; dsimp only; omega
      go_enter Tryd.func4, Tryd.ntmps4
      go_wp2
      go_ret
      exact ⟨by rw [HE.out]; rfl, HB.out⟩
    · by_cases h3 : n < -1000000000
      · have HE : Hid (opErr (a, n) = 1) := by show _ = _; unfold opErr; rw [if_neg]; dsimp only; rw [fitsC_iff]; omega
        go_enter Tryd.func4, Tryd.ntmps4
        go_wp2
        go_ret
        exact ⟨by rw [HE.out]; rfl, HB.out⟩
      · by_cases h4 : 1000000000 < n
        · have HE : Hid (opErr (a, n) = 1) := by show _ = _; unfold opErr; rw [if_neg]; dsimp only; rw [fitsC_iff]; omega
          go_enter Tryd.func4, Tryd.ntmps4
          go_wp2
          go_ret
          exact ⟨by rw [HE.out]; rfl, HB.out⟩
        · have HE : Hid (opErr (a, n) = 0) := opErr_zero.2 ⟨by dsimp only; omega, by dsimp only; omega, fitsC_iff.2 (by dsimp only; omega)⟩
          go_enter Tryd.func4, Tryd.ntmps4
          go_wp2
          go_ret
          exact ⟨by rw [HE.out]; rfl, HB.out⟩
theorem size_any (n : Int) (w : World) (hn : fitsC n = true) : Calls Tryd.prog 17 #[.int .i64 n] w fun e w' => e = .returned (.int .i64 (n.natAbs : Int)) ∧ w' = w := by
  obtain ⟨h1, h2⟩ := fitsC_iff.1 hn
  by_cases h0 : n < 0
  · go_enter Tryd.func17, Tryd.ntmps17
    go_wp2
    go_ret
    exact ⟨ret_int (by omega), rfl⟩
  · go_enter Tryd.func17, Tryd.ntmps17
    go_wp2
    go_ret
    exact ⟨ret_int (by omega), rfl⟩
end Go.Proofs.YtkdlhhogbpjplaaDoor
