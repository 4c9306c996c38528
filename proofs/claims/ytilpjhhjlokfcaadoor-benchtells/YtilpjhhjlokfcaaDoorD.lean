/- The contract of Check. -/
import Derived.Test.YtilpjhhjlokfcaaDoorC
namespace Go.Proofs.YtilpjhhjlokfcaaDoor
open Go.RowKit

/-- What is wrong with the k-th task by itself. -/
def errOf (ts : List (Int × List Int)) (k : Nat) : Int := taskErr (ts.getD k (0, [])).1 (needsOf ts k) ts.length

/-- What Check tells: which task, and how. -/
def CheckIs (ts : List (Int × List Int)) (p q : Int) : Prop :=
  (30 < ts.length ∧ p = 0 ∧ q = 4) ∨
  (∃ k : Nat, ts.length ≤ 30 ∧ k < ts.length ∧ (∀ j, j < k → errOf ts j = 0) ∧ errOf ts k ≠ 0 ∧ p = k ∧ q = errOf ts k) ∨
  (∃ k : Nat, ts.length ≤ 30 ∧ (∀ j, j < ts.length → errOf ts j = 0) ∧ k < ts.length ∧ (∀ j, j < k → ¬ Reach ts j j) ∧ Reach ts k k ∧ p = k ∧ q = 8) ∨
  (ts.length ≤ 30 ∧ (∀ j, j < ts.length → errOf ts j = 0) ∧ (∀ j, j < ts.length → ¬ Reach ts j j) ∧ p = 0 ∧ q = 0)
theorem CheckIs.full {ts : List (Int × List Int)} (h : 30 < ts.length) : CheckIs ts 0 4 := Or.inl ⟨h, rfl, rfl⟩
theorem CheckIs.task {ts : List (Int × List Int)} (k : Nat) (h1 : ts.length ≤ 30) (h2 : k < ts.length) (h3 : ∀ j, j < k → errOf ts j = 0) (h4 : errOf ts k ≠ 0) : CheckIs ts k (errOf ts k) :=
  Or.inr (Or.inl ⟨k, h1, h2, h3, h4, rfl, rfl⟩)
theorem CheckIs.ring {ts : List (Int × List Int)} (k : Nat) (h1 : ts.length ≤ 30) (h2 : ∀ j, j < ts.length → errOf ts j = 0) (h3 : k < ts.length) (h4 : ∀ j, j < k → ¬ Reach ts j j) (h5 : Reach ts k k) : CheckIs ts k 8 :=
  Or.inr (Or.inr (Or.inl ⟨k, h1, h2, h3, h4, h5, rfl, rfl⟩))
theorem CheckIs.none {ts : List (Int × List Int)} (h1 : ts.length ≤ 30) (h2 : ∀ j, j < ts.length → errOf ts j = 0) (h3 : ∀ j, j < ts.length → ¬ Reach ts j j) : CheckIs ts 0 0 :=
  Or.inr (Or.inr (Or.inr ⟨h1, h2, h3, rfl, rfl⟩))
theorem CheckIs.elim {ts : List (Int × List Int)} {motive : ∀ p q, CheckIs ts p q → Prop} (full : ∀ h : 30 < ts.length, motive 0 4 (CheckIs.full h))
    (task : ∀ (k : Nat) (h1 : ts.length ≤ 30) (h2 : k < ts.length) (h3 : ∀ j, j < k → errOf ts j = 0) (h4 : errOf ts k ≠ 0), motive k (errOf ts k) (CheckIs.task k h1 h2 h3 h4))
    (ring : ∀ (k : Nat) (h1 : ts.length ≤ 30) (h2 : ∀ j, j < ts.length → errOf ts j = 0) (h3 : k < ts.length) (h4 : ∀ j, j < k → ¬ Reach ts j j) (h5 : Reach ts k k), motive k 8 (CheckIs.ring k h1 h2 h3 h4 h5))
    (none : ∀ (h1 : ts.length ≤ 30) (h2 : ∀ j, j < ts.length → errOf ts j = 0) (h3 : ∀ j, j < ts.length → ¬ Reach ts j j), motive 0 0 (CheckIs.none h1 h2 h3)) {p q : Int} (h : CheckIs ts p q) : motive p q h := by
  rcases h with ⟨h, rfl, rfl⟩ | ⟨k, h1, h2, h3, h4, rfl, rfl⟩ | ⟨k, h1, h2, h3, h4, h5, rfl, rfl⟩ | ⟨h1, h2, h3, rfl, rfl⟩
  · exact full h
  · exact task k h1 h2 h3 h4
  · exact ring k h1 h2 h3 h4 h5
  · exact none h1 h2 h3

theorem inRange_of {ts : List (Int × List Int)} (h : ∀ j, j < ts.length → errOf ts j = 0) : InRange ts := by
  intro x hx y hy
  have he := h x hx
  unfold errOf taskErr at he
  split at he
  · simp at he
  · split at he
    · simp at he
    · rename_i hn
      have : ∀ z, z ∈ needsOf ts x → inRange z ts.length = true := by
        intro z hz
        cases hr : inRange z ts.length with
        | true => rfl
        | false => exact absurd (List.any_eq_true.2 ⟨z, hz, by simp [hr]⟩) hn
      have := this y hy
      simpa [inRange] using this

theorem errV_zero : errV 0 = .nilIface := rfl
theorem errV_some {n : Int} (h : n ≠ 0) : errV n = .iface 46 (.int .i64 n) := by simp [errV, h]

set_option maxRecDepth 100000 in
set_option maxHeartbeats 4000000 in
theorem check_any (v : Value) (ts : List (Int × List Int)) (w : World) (hp : PlanAt w v ts) :
    Calls Tryd.prog 42 #[v] w fun e w' => (∃ p q, e = .returned (.tuple #[.int .i64 p, errV q]) ∧ CheckIs ts p q) ∧ Below w.heap.size w w' := by
  have HP : Hid (PlanAt w v ts) := hp
  obtain ⟨hl, a, c, rfl, hp⟩ := hp
  by_cases hfull : 30 < ts.length
  · have hfi : (30 : Int) < (ts.length : Int) := by omega
    clear hp
    go_enter Tryd.func42, Tryd.ntmps42
    go_wp2
    go_ret2
    exact ⟨⟨0, 4, rfl, CheckIs.full hfull⟩, Below.refl _ _⟩
  have hfi : ¬ (30 : Int) < (ts.length : Int) := by omega
  go_enter Tryd.func42, Tryd.ntmps42
  go_wp2
  go_loopw [14] (fun s14 wr => ∃ k : Nat, k ≤ ts.length ∧ s14 = .int .i64 k ∧ Below w.heap.size w wr ∧ Hid (∀ j, j < k → errOf ts j = 0)) (fun s14 _ => ts.length - (intOf s14).toNat)
  case atStart => exact ⟨0, Nat.zero_le _, rfl, Below.refl _ _, fun j hj => by omega⟩
  case round =>
    obtain ⟨k, hk, rfl, hb, hno⟩ := hrel
    by_cases hkl : k < ts.length
    · rcases hp with rfl | ⟨b, o, rfl, hbl, hc⟩
      · simp at hkl
      obtain ⟨hc1, nv, hc2, hin⟩ := hc k hkl
      obtain ⟨a2, c2, rfl⟩ : ∃ a2 c2, nv = .slice a2 (needsOf ts k).length c2 := by
        obtain ⟨_, a2, c2, h, _⟩ := hin
        exact ⟨a2, c2, h⟩
      have hc1' := (hb.cell (p := ⟨b, o + k * 2, none⟩) hbl).trans hc1
      have hc2' := (hb.cell (p := ⟨b, o + k * 2 + 1, none⟩) hbl).trans hc2
      have hin' := hin.later (hb.alloc hb.size (.cells #[.int .i64 (ts.getD k (0, [])).1, .slice a2 (needsOf ts k).length c2] 51))
      have hct := checkTask_any (ts.getD k (0, [])).1 _ (needsOf ts k) ts.length _ hin'
      have HE : Hid (taskErr (ts.getD k (0, [])).1 (needsOf ts k) ts.length = errOf ts k) := rfl
      clear hc hc1 hc2 hin hin'
      generalize (ts.getD k (0, [])).1 = wk at *
      rw [HE.out] at hct
      clear HE
      by_cases he : errOf ts k = 0
      · rw [he, errV_zero] at hct
        have HZ : Hid (errOf ts k = 0) := he
        clear he
        go_wp2_with (go_at_call 45; refine hct.mono ?_; rintro e w' ⟨rfl, hb1⟩)
        go_roundw
        case rel =>
          refine ⟨k + 1, by omega, by go_num, (hb.alloc hb.size _).trans (hb1.mono (by have := hb.size; simp; omega)), fun j hj => ?_⟩
          by_cases e : j = k
          · subst e; exact HZ.out
          · exact hno.out j (by omega)
        case measure => simp [intOf]; omega
      · have hev := errV_some he
        rw [hev] at hct
        have HZ : Hid (errOf ts k ≠ 0) := he
        have HV : Hid (errV (errOf ts k) = .iface 46 (.int .i64 (errOf ts k))) := hev
        clear he hev
        go_wp2_with (go_at_call 45; refine hct.mono ?_; rintro e w' ⟨rfl, hb1⟩)
        go_ret2
        refine ⟨⟨k, errOf ts k, by rw [HV.out]; rfl, CheckIs.task k (by omega) hkl hno.out HZ.out⟩, (hb.alloc hb.size _).trans (hb1.mono (by have := hb.size; simp; omega))⟩
    · have hall : Hid (∀ j, j < ts.length → errOf ts j = 0) := fun j hj => hno.out j (by omega)
      clear hno
      go_wp2
      go_loopw [30] (fun s30 wr => ∃ k : Nat, k ≤ ts.length ∧ s30 = .int .i64 k ∧ Below w.heap.size w wr ∧ Hid (∀ j, j < k → ¬ Reach ts j j)) (fun s30 _ => ts.length - (intOf s30).toNat)
      case atStart => exact ⟨0, Nat.zero_le _, rfl, hb, fun j hj => by omega⟩
      case round =>
        clear hb hkl hk
        obtain ⟨m, hm, rfl, hb, hno⟩ := hrel
        by_cases hml : m < ts.length
        · have hrg := inRing_any _ ts m _ (HP.out.later hb) hml (inRange_of hall.out)
          by_cases hR : Reach ts m m
          · have hrg' := hrg.mono (R' := fun e w' => e = .returned (.bool true) ∧ Below wr.heap.size wr w') (fun e w' ⟨⟨bb, h1, h2⟩, h3⟩ => ⟨by rw [h1, h2.2 hR], h3⟩)
            have HRR : Hid (Reach ts m m) := hR
            clear hrg hR hp
            go_wp2_with (go_at_call 46; refine hrg'.mono ?_; rintro e w' ⟨rfl, hb1⟩)
            go_ret2
            exact ⟨⟨m, 8, rfl, CheckIs.ring m (by omega) hall.out hml hno.out HRR.out⟩, hb.trans (hb1.mono hb.size)⟩
          · have hrg' := hrg.mono (R' := fun e w' => e = .returned (.bool false) ∧ Below wr.heap.size wr w') (fun e w' ⟨⟨bb, h1, h2⟩, h3⟩ => ⟨by rw [h1, Bool.eq_false_iff.2 (fun h => hR (h2.1 h))], h3⟩)
            have HRR : Hid (¬ Reach ts m m) := hR
            clear hrg hR hp
            go_wp2_with (go_at_call 46; refine hrg'.mono ?_; rintro e w' ⟨rfl, hb1⟩)
            go_roundw
            case rel =>
              refine ⟨m + 1, by omega, by go_num, hb.trans (hb1.mono hb.size), fun j hj => ?_⟩
              by_cases e : j = m
              · subst e; exact HRR.out
              · exact hno.out j (by omega)
            case measure => simp [intOf]; omega
        · clear hp
          go_wp2
          go_ret2
          exact ⟨⟨0, 0, rfl, CheckIs.none (by omega) hall.out (fun j hj => hno.out j (by omega))⟩, hb⟩
end Go.Proofs.YtilpjhhjlokfcaaDoor
