/- The document's Each, Ends and free; the sameness of stays. -/
import Derived.Test.YtlfebnaghoeddaaDoorVm
import Derived.Test.YtlfebnaghoeddaaDoorNf
import Derived.Test.YtlfebnaghoeddaaDoorRa
namespace Go.Proofs.YtlfebnaghoeddaaDoor
open Go.RowKit Go.Deep Classical

theorem freeS_any (v pv : Value) (ts : List (Int × List Int)) (T : Nat → Bool) (i : Nat) (w : World) (hp : PlanAt w v ts) (hi : i < ts.length) (hr : InRange ts) (hb : BoolsAt w pv ts.length T) :
    Calls Tryd.prog 17 #[v, .int .i64 i, pv] w fun e w' => e = .returned (.bool (!missing ts T i)) ∧ Below w.heap.size w w' := by
  have hc := freeR_any v pv ts T i w hp hi hr hb
  generalize (!missing ts T i) = x at *
  clear hp hb
  go_enter Tryd.func17, Tryd.ntmps17
  go_wp2_with (go_at_call 27; refine hc.mono ?_; clear hc; rintro e w' ⟨rfl, hb'⟩)
  go_ret
  exact ⟨rfl, hb'⟩

theorem RowS.nil (b : Nat) (w : World) : RowS b w (.slice none 0 0) [] := World.ownsRow_nil _ _ _ _

set_option maxRecDepth 100000 in
set_option maxHeartbeats 2000000 in
theorem endsR_any (v : Value) (l : List Sty) (C : Nat) (w : World) (hv : RowS C w v l) (hl : l.length ≤ 30) :
    Calls Tryd.prog 11 #[v] w fun e w' => e = .returned (.int .i64 (endsOf l : Nat)) ∧ w' = w := by
  have HV : Hid (RowS C w v l) := hv
  obtain ⟨a, c, rfl⟩ := hv.shape
  clear hv
  go_enter Tryd.func11, Tryd.ntmps11
  go_wp2
  go_loop [3, 4] (fun s3 s4 => ∃ k : Nat, k ≤ l.length ∧ s4 = .int .i64 k ∧ s3 = .int .i64 (endsOf (l.take k) : Nat)) (fun _ s4 => l.length - (intOf s4).toNat)
  case atStart => exact ⟨0, Nat.zero_le _, rfl, by simp [endsOf]⟩
  case round =>
    obtain ⟨k, hk, rfl, rfl⟩ := hrel
    by_cases hkl : k < l.length
    · obtain ⟨g, cc, hv, _, hg, _, hcell⟩ := HV.out.full (by omega)
      simp only [Value.slice.injEq, true_and] at hv
      obtain ⟨rfl, rfl⟩ := hv
      have hc3 := hcell k hkl 3 (by omega)
      have HE : Hid (endsOf (l.take (k + 1)) = max (endsOf (l.take k)) (l.getD k (0, 0, 0, 0)).2.2.2) := ends_take hkl
      clear hcell
      generalize l.getD k (0, 0, 0, 0) = sx at *
      obtain ⟨x0, x1, x2, x3⟩ := sx
      replace hc3 : w.cell? ⟨g, k * 4 + 3, none⟩ = some (.int .i64 x3) := hc3
      replace HE : Hid (endsOf (l.take (k + 1)) = max (endsOf (l.take k)) x3) := HE
      generalize endsOf (l.take k) = m at *
      by_cases hm : m < x3
      · have HE2 : Hid (endsOf (l.take (k + 1)) = x3) := by show _ = _; rw [HE.out]; omega
        clear HE
        go_wp2
        go_round
        case rel => exact ⟨k + 1, by omega, by go_num, by rw [HE2.out]⟩
        case measure => simp [intOf]; omega
      · have HE2 : Hid (endsOf (l.take (k + 1)) = m) := by show _ = _; rw [HE.out]; omega
        clear HE
        go_wp2
        go_round
        case rel => exact ⟨k + 1, by omega, by go_num, by rw [HE2.out]⟩
        case measure => simp [intOf]; omega
    · have HE : Hid (endsOf (l.take k) = endsOf l) := by show _ = _; rw [List.take_of_length_le (by omega)]
      generalize endsOf (l.take k) = m at *
      go_wp2
      go_ret
      exact ⟨by rw [← HE.out]; rfl, rfl⟩

set_option maxRecDepth 100000 in
set_option maxHeartbeats 2000000 in
theorem sameStays_any (v u : Value) (l : List Sty) (C C' : Nat) (w : World) (hv : RowS C w v l) (hu : RowS C' w u l) (hl : l.length ≤ 30) :
    Calls Tryd.prog 9 #[v, u] w fun e w' => e = .returned (.bool true) ∧ ∃ n, w' = w.drewN n := by
  have HV : Hid (RowS C w v l) := hv
  have HU : Hid (RowS C' w u l) := hu
  obtain ⟨a, c, rfl⟩ := hv.shape
  obtain ⟨a2, c2, rfl⟩ := hu.shape
  clear hv hu
  have hne : ((l.length : Int) != (l.length : Int)) = false := by simp
  go_enter Tryd.func9, Tryd.ntmps9
  go_wp2
  go_loopw [5] (fun s5 wr => ∃ k n : Nat, k ≤ l.length ∧ s5 = .int .i64 k ∧ wr = w.drewN n) (fun s5 _ => l.length - (intOf s5).toNat)
  case atStart => exact ⟨0, 0, Nat.zero_le _, rfl, rfl⟩
  case round =>
    obtain ⟨k, n, hk, rfl, rfl⟩ := hrel
    by_cases hkl : k < l.length
    · obtain ⟨g, cc, hv, _, hg, _, hcell⟩ := HV.out.full (by omega)
      simp only [Value.slice.injEq, true_and] at hv
      obtain ⟨rfl, rfl⟩ := hv
      obtain ⟨g2, cc2, hv2, _, hg2, _, hcell2⟩ := HU.out.full (by omega)
      simp only [Value.slice.injEq, true_and] at hv2
      obtain ⟨rfl, rfl⟩ := hv2
      have p0 := hcell k hkl 0 (by omega)
      have p1 := hcell k hkl 1 (by omega)
      have p2 := hcell k hkl 2 (by omega)
      have p3 := hcell k hkl 3 (by omega)
      have q0 := hcell2 k hkl 0 (by omega)
      have q1 := hcell2 k hkl 1 (by omega)
      have q2 := hcell2 k hkl 2 (by omega)
      have q3 := hcell2 k hkl 3 (by omega)
      clear hcell hcell2
      generalize l.getD k (0, 0, 0, 0) = sx at *
      obtain ⟨x0, x1, x2, x3⟩ := sx
      replace p0 : w.cell? ⟨g, k * 4, none⟩ = some (.int .i64 x0) := p0
      replace p1 : w.cell? ⟨g, k * 4 + 1, none⟩ = some (.int .i64 x1) := p1
      replace p2 : w.cell? ⟨g, k * 4 + 2, none⟩ = some (.int .i64 x2) := p2
      replace p3 : w.cell? ⟨g, k * 4 + 3, none⟩ = some (.int .i64 x3) := p3
      replace q0 : w.cell? ⟨g2, k * 4, none⟩ = some (.int .i64 x0) := q0
      replace q1 : w.cell? ⟨g2, k * 4 + 1, none⟩ = some (.int .i64 x1) := q1
      replace q2 : w.cell? ⟨g2, k * 4 + 2, none⟩ = some (.int .i64 x2) := q2
      replace q3 : w.cell? ⟨g2, k * 4 + 3, none⟩ = some (.int .i64 x3) := q3
      go_wp2
      go_quiet (fail)
      go_wp2
      go_roundw
      case rel => exact ⟨k + 1, _, by omega, by go_num, rfl⟩
      case measure => simp [intOf]; omega
    · go_wp2
      go_ret
      exact ⟨rfl, _, rfl⟩

theorem IntsAt.front {w : World} {a : Option Addr} {c k : Nat} {zs : List Int} (h : IntsAt w (.slice a zs.length c) zs) (hk : k ≤ zs.length) : IntsAt w (.slice a k c) (zs.take k) := by
  obtain ⟨hl, a', c', hv, h⟩ := h
  simp only [Value.slice.injEq] at hv
  obtain ⟨rfl, -, rfl⟩ : a = a' ∧ True ∧ c = c' := ⟨hv.1, trivial, hv.2.2⟩
  have hkl : (zs.take k).length = k := by rw [List.length_take]; omega
  refine ⟨by rw [hkl]; omega, a, c, by rw [hkl], ?_⟩
  rcases h with rfl | ⟨b, o, rfl, hb, hc⟩
  · left; simp
  · right
    refine ⟨b, o, rfl, hb, fun j hj => ?_⟩
    rw [hkl] at hj
    rw [hc j (by omega)]
    simp [hj]

set_option maxRecDepth 100000 in
set_option maxHeartbeats 2000000 in
theorem eachR_any (v : Value) (zs : List Int) (n : Nat) (w : World) (hz : IntsAt w v zs) (hcap : ∀ a m c, v = .slice a m c → m ≤ c) (_hn : n ≤ 30) :
    Calls Tryd.prog 5 #[.int .i64 n, v] w fun e w' => e = .returned (.bool (decide (EachZ n zs))) ∧ Below w.heap.size w w' := by
  have HZ : Hid (IntsAt w v zs) := hz
  obtain ⟨hl, a, c, rfl, hzc⟩ := hz
  have hcl := hcap _ _ _ rfl
  clear hcap
  by_cases hlen : zs.length = n
  · have hne : ((zs.length : Int) != (n : Int)) = false := by simp [hlen]
    have HL : Hid (zs.length = n) := hlen
    rw [hlen] at hne hcl ⊢
    clear hlen
    go_enter Tryd.func5, Tryd.ntmps5
    go_wp2
    go_loopw [5] (fun s5 wr => ∃ k m : Nat, k ≤ n ∧ s5 = .int .i64 k ∧ wr = w.drewN m ∧ Hid (GoodTo n (zs.take k))) (fun s5 _ => n - (intOf s5).toNat)
    case atStart => exact ⟨0, 0, Nat.zero_le _, rfl, rfl, by show GoodTo _ _; exact ⟨by simp, fun x hx => by simp at hx⟩⟩
    case round =>
      obtain ⟨k, m, hk, rfl, rfl, hgd⟩ := hrel
      by_cases hkn : k < n
      · have hkl : k < zs.length := by rw [HL.out]; exact hkn
        rcases hzc with h | ⟨b, o, rfl, hb, hc⟩
        · subst h; simp at hkl
        have hck := hc k hkl
        have HNO : Hid (badZ n (zs.take k) (zs.getD k 0) = true → decide (EachZ n zs) = false) := fun h => by simpa using not_each hkl h
        have HYES : Hid (badZ n (zs.take k) (zs.getD k 0) = false → GoodTo n (zs.take (k + 1))) := fun h => by rw [take_oneZ hkl]; exact hgd.out.snoc h
        have hin := fun q => in_any (.slice (some ⟨b, o, none⟩) k c) (zs.take k) (zs.getD k 0) (w.drewN (m + q)) (show IntsAt w _ _ from IntsAt.front (by rw [HL.out]; have := HZ.out; rwa [HL.out] at this) (by omega))
        have hbad : badZ n (zs.take k) (zs.getD k 0) = (memB (zs.take k) (zs.getD k 0) || decide (zs.getD k 0 < 0) || decide ((n : Int) ≤ zs.getD k 0)) := rfl
        rw [hbad] at HNO HYES
        clear hc hbad hgd HZ
        generalize memB (zs.take k) (zs.getD k 0) = mb at *
        generalize zs.getD k 0 = x at *
        have hkc : (k : Int) ≤ (c : Int) := by omega
        have hkc2 : k ≤ c := by omega
        have hkk : (0 : Int) ≤ (k : Int) := by omega
        by_cases h0 : x < 0
        · have HE := HNO.out (by simp [h0])
          have HE2 : Hid (decide (EachZ n zs) = false) := HE
          clear HE HNO HYES hin
          go_wp2
          go_ret
          exact ⟨ret_bool HE2.out.symm, below_drewN (Below.refl _ _) _⟩
        · by_cases h1 : (n : Int) ≤ x
          · have HE := HNO.out (by simp [h1])
            have HE2 : Hid (decide (EachZ n zs) = false) := HE
            clear HE HNO HYES hin
            go_wp2
            go_ret
            exact ⟨ret_bool HE2.out.symm, below_drewN (Below.refl _ _) _⟩
          · cases mb
            · have HE := HYES.out (by simp [h0, h1])
              have HE2 : Hid (GoodTo n (zs.take (k + 1))) := HE
              clear HE HNO HYES
              go_wp2
              go_quiet ((go_at_call 16; exact (hin _).mono (fun _ _ h => ⟨h.1, _, h.2⟩)))
              go_wp2
              go_roundw
              case rel => exact ⟨k + 1, _, by omega, by go_num, rfl, HE2⟩
              case measure => simp [intOf]; omega
            · have HE := HNO.out (by simp)
              have HE2 : Hid (decide (EachZ n zs) = false) := HE
              clear HE HNO HYES
              go_wp2
              go_quiet ((go_at_call 16; exact (hin _).mono (fun _ _ h => ⟨h.1, _, h.2⟩)))
              go_wp2
              go_ret
              exact ⟨ret_bool HE2.out.symm, below_drewN (below_drewN (Below.refl _ _) _) _⟩
      · have HE : Hid (decide (EachZ n zs) = true) := by
          have := hgd.out
          rw [List.take_of_length_le (by have := HL.out; omega)] at this
          exact decide_eq_true ⟨HL.out, this⟩
        clear hgd
        go_wp2
        go_ret
        exact ⟨ret_bool HE.out.symm, below_drewN (Below.refl _ _) _⟩
  · have hne : ((zs.length : Int) != (n : Int)) = true := by simp; omega
    have HE : Hid (decide (EachZ n zs) = false) := by show _ = _; rw [decide_eq_false_iff_not]; exact fun h => hlen h.1
    have HL : Hid (¬ zs.length = n) := hlen
    clear hlen hzc HZ
    generalize zs.length = zl at *
    go_enter Tryd.func5, Tryd.ntmps5
    go_wp2
    go_ret
    exact ⟨ret_bool HE.out.symm, Below.refl _ _⟩
end Go.Proofs.YtlfebnaghoeddaaDoor
