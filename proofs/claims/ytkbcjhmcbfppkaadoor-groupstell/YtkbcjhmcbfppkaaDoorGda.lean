/- The document's Groups and Gone; sameness of groups and of bools; the calls of package groups, each by one contract. -/
import Derived.Test.YtkbcjhmcbfppkaaDoorGrpg
import Derived.Test.YtkbcjhmcbfppkaaDoorI
import Derived.Test.YtkbcjhmcbfppkaaDoorRh
namespace Go.Proofs.YtkbcjhmcbfppkaaDoor
open Go.RowKit Go.Deep

set_option maxHeartbeats 1000000 in
theorem dGroups_any (v : Value) (gs : List Grp) (w : World) (hg : GrpsAt w v gs) :
    Calls Tryd.prog 5 #[v] w fun e w' => e = .returned (.int .i64 (grpErr gs)) ∧ w' = w := by
  obtain ⟨hl, a, c, rfl, hg⟩ := hg
  by_cases h12 : 12 < gs.length
  · have hfi : (12 : Int) < (gs.length : Int) := by omega
    rw [grpErr_full h12]
    clear hg
    go_enter Tryd.func5, Tryd.ntmps5
    go_wp2
    go_ret
    exact ⟨rfl, rfl⟩
  have hfi : ¬ (12 : Int) < (gs.length : Int) := by omega
  go_enter Tryd.func5, Tryd.ntmps5
  go_wp2
  go_loop [3] (fun s3 => ∃ k : Nat, k ≤ gs.length ∧ s3 = .int .i64 k ∧ Hid (∀ j, j < k → okG gs j = true)) (fun s3 => gs.length - (intOf s3).toNat)
  case atStart => exact ⟨0, Nat.zero_le _, rfl, fun j hj => by omega⟩
  case round =>
    obtain ⟨k, hk, rfl, hno⟩ := hrel
    by_cases hkl : k < gs.length
    · rcases hg with rfl | ⟨b, o, rfl, hbl, hc⟩
      · simp at hkl
      obtain ⟨hc1, hc2⟩ := hc k hkl
      clear hc
      have HK : Hid (okG gs k = (decide (-1 ≤ parG gs k) && decide (parG gs k < (k : Int)))) := rfl
      generalize parG gs k = p at *
      generalize canG gs k = q at *
      by_cases h1 : p < -1
      · have HE : Hid (grpErr gs = 1) := grpErr_bad h12 hkl (by rw [HK.out, show decide (-1 ≤ p) = false from decide_eq_false (by omega)]; rfl)
        clear HK
        go_wp2
        go_ret
        exact ⟨by rw [HE.out]; rfl, rfl⟩
      · by_cases h2 : p < (k : Int)
        · have HF : Hid (okG gs k = true) := by
            show _ = _
            rw [HK.out, show decide (-1 ≤ p) = true from decide_eq_true (by omega), show decide (p < (k : Int)) = true from decide_eq_true h2]; rfl
          clear HK
          go_wp2
          go_round
          case rel =>
            refine ⟨k + 1, by omega, by go_num, fun j hj => ?_⟩
            by_cases e : j = k
            · subst e; exact HF.out
            · exact hno.out j (by omega)
          case measure => simp [intOf]; omega
        · have HE : Hid (grpErr gs = 1) := grpErr_bad h12 hkl (by rw [HK.out, show decide (p < (k : Int)) = false from decide_eq_false h2]; simp)
          clear HK
          go_wp2
          go_ret
          exact ⟨by rw [HE.out]; rfl, rfl⟩
    · clear hg
      have HE : Hid (grpErr gs = 0) := grpErr_ok h12 (fun j hj => hno.out j (by omega))
      go_wp2
      go_ret
      exact ⟨by rw [HE.out]; rfl, rfl⟩

set_option maxHeartbeats 1000000 in
theorem dGone_any (v : Value) (gs : List Grp) (i : Nat) (w : World) (hg : GrpsAt w v gs) (hr : RightG gs) (hi : i < gs.length) :
    Calls Tryd.prog 8 #[v, .int .i64 i] w fun e w' => e = .returned (.bool (goneG gs i)) ∧ w' = w := by
  obtain ⟨hl, a, c, rfl, hg⟩ := hg
  rcases hg with rfl | ⟨b, o, rfl, hbl, hc⟩
  · simp at hi
  go_enter Tryd.func8, Tryd.ntmps8
  go_wp2
  go_loop [1] (fun s1 => ∃ k : Int, s1 = .int .i64 k ∧ -1 ≤ k ∧ k < gs.length ∧ Hid (goneG gs i = goneZ gs k)) (fun s1 => (intOf s1 + 1).toNat)
  case atStart => exact ⟨i, rfl, by omega, by omega, (goneZ_nat gs i).symm⟩
  case round =>
    obtain ⟨k, rfl, hk1, hk2, hE⟩ := hrel
    by_cases h0 : 0 ≤ k
    · obtain ⟨n, rfl⟩ := Int.eq_ofNat_of_zero_le h0
      have hn : n < gs.length := by omega
      obtain ⟨hc1, hc2⟩ := hc n hn
      have hrn := hr n hn
      clear hc
      cases hcan : canG gs n
      · have HS := goneZ_step hr hn hcan
        have HE : Hid (goneG gs i = goneZ gs (parG gs n)) := hE.out.trans HS
        rw [hcan] at hc2
        clear HS hE hcan hr
        generalize parG gs n = p at *
        go_wp2
        go_round
        case rel => exact ⟨p, rfl, by omega, by omega, HE⟩
        case measure => simp [intOf]; omega
      · have HE : Hid (goneG gs i = true) := hE.out.trans (goneZ_hit hr hn hcan)
        rw [hcan] at hc2
        clear hE hcan hr
        go_wp2
        go_ret
        exact ⟨by rw [HE.out]; rfl, rfl⟩
    · have HE : Hid (goneG gs i = false) := hE.out.trans (by unfold goneZ; rw [if_pos (by omega)])
      clear hc hE hr
      go_wp2
      go_ret
      exact ⟨by rw [HE.out]; rfl, rfl⟩

theorem drawn_below (w : World) (q : Nat) : Below w.heap.size w (w.drewN q) := ⟨rfl, rfl, rfl, Nat.le_refl _, fun _ _ => rfl⟩

set_option maxRecDepth 100000 in
set_option maxHeartbeats 1000000 in
theorem sameGroups_any (v u : Value) (gs : List Grp) (w : World) (hv : GrpsAt w v gs) (hu : GrpsAt w u gs) :
    Calls Tryd.prog 11 #[v, u] w fun e w' => e = .returned (.bool true) ∧ Below w.heap.size w w' := by
  obtain ⟨hl, a, c, rfl, hv⟩ := hv
  obtain ⟨-, a2, c2, rfl, hu⟩ := hu
  have HV : Hid (∀ k, k < gs.length → ∃ b o, a = some ⟨b, o, none⟩ ∧ w.cell? ⟨b, o + k * 2, none⟩ = some (.int .i64 (parG gs k)) ∧ w.cell? ⟨b, o + k * 2 + 1, none⟩ = some (.bool (canG gs k))) := fun k hk => by
    rcases hv with h0 | ⟨b, o, h1, -, h2⟩
    · rw [h0] at hk; simp at hk
    · exact ⟨b, o, h1, h2 k hk⟩
  have HU : Hid (∀ k, k < gs.length → ∃ b o, a2 = some ⟨b, o, none⟩ ∧ w.cell? ⟨b, o + k * 2, none⟩ = some (.int .i64 (parG gs k)) ∧ w.cell? ⟨b, o + k * 2 + 1, none⟩ = some (.bool (canG gs k))) := fun k hk => by
    rcases hu with h0 | ⟨b, o, h1, -, h2⟩
    · rw [h0] at hk; simp at hk
    · exact ⟨b, o, h1, h2 k hk⟩
  clear hv hu
  go_enter Tryd.func11, Tryd.ntmps11
  go_wp2
  go_loopw [5] (fun s5 wr => ∃ k q : Nat, k ≤ gs.length ∧ s5 = .int .i64 k ∧ wr = w.drewN q) (fun s5 _ => gs.length - (intOf s5).toNat)
  case atStart => exact ⟨0, 0, Nat.zero_le _, rfl, rfl⟩
  case round =>
    obtain ⟨k, q, hk, rfl, rfl⟩ := hrel
    by_cases hkl : k < gs.length
    · obtain ⟨b, o, rfl, h1, h2⟩ := HV.out k hkl
      obtain ⟨b2, o2, rfl, h3, h4⟩ := HU.out k hkl
      generalize parG gs k = p at *
      generalize canG gs k = r at *
      go_wp2
      go_quiet (fail)
      go_wp2
      go_roundw
      case rel => exact ⟨k + 1, _, by omega, by go_num, rfl⟩
      case measure => simp [intOf]; omega
    · go_wp2
      go_ret
      exact ⟨rfl, drawn_below w q⟩

/-- A slice value of n bools, the k-th T k; where there is none it may be nil. -/
def RdB (w : World) (v : Value) (n : Nat) (T : Nat → Bool) : Prop := ∃ a c, v = .slice a n c ∧ ∀ k, k < n → ∃ b o, a = some ⟨b, o, none⟩ ∧ b < w.heap.size ∧ w.cell? ⟨b, o + k, none⟩ = some (.bool (T k))
theorem RdB.later {w w' : World} {v : Value} {n : Nat} {T : Nat → Bool} (h : RdB w v n T) (hb : Below w.heap.size w w') : RdB w' v n T := by
  obtain ⟨a, c, hv, h⟩ := h
  refine ⟨a, c, hv, fun k hk => ?_⟩
  obtain ⟨b, o, h1, h2, h3⟩ := h k hk
  exact ⟨b, o, h1, Nat.lt_of_lt_of_le h2 hb.size, (hb.cell (p := ⟨b, o + k, none⟩) h2).trans h3⟩
theorem RdB.none (w : World) (T : Nat → Bool) : RdB w (.slice none 0 0) 0 T := ⟨Option.none, 0, rfl, fun k hk => by omega⟩
theorem BoolsAt.rd {w : World} {v : Value} {n : Nat} {T : Nat → Bool} (h : BoolsAt w v n T) : RdB w v n T := by
  obtain ⟨b, o, c, hv, h1, h2⟩ := h
  exact ⟨_, c, hv, fun k hk => ⟨b, o, rfl, h1, h2 k hk⟩⟩

set_option maxRecDepth 100000 in
set_option maxHeartbeats 1000000 in
theorem sameBools_any (v u : Value) (n : Nat) (T : Nat → Bool) (w : World) (h30 : n ≤ 30) (hv : RdB w v n T) (hu : RdB w u n T) :
    Calls Tryd.prog 15 #[v, u] w fun e w' => e = .returned (.bool true) ∧ Below w.heap.size w w' := by
  obtain ⟨a, c, rfl, hv⟩ := hv
  obtain ⟨a2, c2, rfl, hu⟩ := hu
  have HV : Hid (∀ k, k < n → ∃ b o, a = some ⟨b, o, none⟩ ∧ b < w.heap.size ∧ w.cell? ⟨b, o + k, none⟩ = some (.bool (T k))) := hv
  have HU : Hid (∀ k, k < n → ∃ b o, a2 = some ⟨b, o, none⟩ ∧ b < w.heap.size ∧ w.cell? ⟨b, o + k, none⟩ = some (.bool (T k))) := hu
  clear hv hu
  go_enter Tryd.func15, Tryd.ntmps15
  go_wp2
  go_loopw [5] (fun s5 wr => ∃ k q : Nat, k ≤ n ∧ s5 = .int .i64 k ∧ wr = w.drewN q) (fun s5 _ => n - (intOf s5).toNat)
  case atStart => exact ⟨0, 0, Nat.zero_le _, rfl, rfl⟩
  case round =>
    obtain ⟨k, q, hk, rfl, rfl⟩ := hrel
    by_cases hkl : k < n
    · obtain ⟨b, o, rfl, -, h1⟩ := HV.out k hkl
      obtain ⟨b2, o2, rfl, -, h3⟩ := HU.out k hkl
      generalize T k = r at *
      go_wp2
      go_quiet (fail)
      go_wp2
      go_roundw
      case rel => exact ⟨k + 1, _, by omega, by go_num, rfl⟩
      case measure => simp [intOf]; omega
    · go_wp2
      go_ret
      exact ⟨rfl, drawn_below w q⟩

/-- What Gone tells, an error or none. -/
def gB (gs : List Grp) (i : Int) : Bool := if placeErr gs i = 0 then goneG gs i.toNat else false
/-- The groups that Cancel tells, an error or none. -/
def cG (gs : List Grp) (i : Int) : List Grp := if placeErr gs i = 0 then setC gs i.toNat else []
theorem gone_one {v : Value} {gs : List Grp} {i : Int} {w : World} (hg : GrpsAt w v gs) :
    Calls Tryd.prog 9 #[v, .int .i64 i] w fun e w' => e = .returned (.tuple #[.bool (gB gs i), errV (placeErr gs i)]) ∧ Below w.heap.size w w' := by
  refine (gGone_any v gs i w hg).mono ?_
  rintro e w' ⟨h1, hb⟩
  refine ⟨?_, hb⟩
  unfold gB
  rcases h1 with ⟨h, he⟩ | ⟨h, he⟩
  · rw [if_neg h]; exact he
  · rw [if_pos h, h]; exact he
theorem cancel_one {v : Value} {gs : List Grp} {i : Int} {w : World} (hg : GrpsAt w v gs) :
    Calls Tryd.prog 10 #[v, .int .i64 i] w fun e w' => ∃ cv, e = .returned (.tuple #[cv, errV (placeErr gs i)]) ∧ GrpsAt w' cv (cG gs i) ∧ Below w.heap.size w w' := by
  refine (gCancel_any v gs i w hg).mono ?_
  rintro e w' ⟨h1, hb⟩
  unfold cG
  rcases h1 with ⟨h, he⟩ | ⟨h, g, cap, he, hr⟩
  · rw [if_neg h]
    exact ⟨_, he, ⟨by simp, none, 0, rfl, Or.inl rfl⟩, hb⟩
  · rw [if_pos h, h]
    exact ⟨_, he, hr.grps (by rw [setC_length]; exact hg.1), hb⟩
/-- How many bools Live tells. -/
def nL (q : Int) (gs : List Grp) (n : Nat) (ofs : List Int) : Nat := if liveErr q gs n ofs = 0 then n else 0
theorem live_one {pv gv ov : Value} {ts : List (Int × List Int)} {gs : List Grp} {ofs : List Int} {w : World} {p q : Int} (hp : PlanAt w pv ts) (hg : GrpsAt w gv gs) (ho : IntsAt w ov ofs) (hc : CheckIs ts p q) :
    Calls Tryd.prog 14 #[pv, gv, ov] w fun e w' => ∃ lv, e = .returned (.tuple #[lv, errV (liveErr q gs ts.length ofs)]) ∧ RdB w' lv (nL q gs ts.length ofs) (liveB ts (deadG gs ofs)) ∧ Below w.heap.size w w' := by
  refine (gLive_any pv gv ov ts gs ofs w hp hg ho).mono ?_
  rintro e w' ⟨⟨p', q', hc', h1⟩, hb⟩
  obtain ⟨-, rfl⟩ := chk_det hc' hc
  unfold nL
  rcases h1 with ⟨h, he⟩ | ⟨h, h2, bv, he, hB⟩
  · rw [if_neg h]
    exact ⟨_, he, RdB.none _ _, hb⟩
  · have h0 : liveErr q' gs ts.length ofs = 0 := by unfold liveErr; rw [if_pos h]; exact h2
    rw [if_pos h0, h0]
    exact ⟨bv, he, hB.rd, hb⟩
theorem error_one (q : Int) (w : World) (hg : Typed w) : Calls Tryd.prog 6 #[errV q, .int .i64 q] w fun ev w' => ev = .returned (.bool true) ∧ Below w.heap.size w w' := by
  have h := error_any q q w hg
  rw [show (q == q) = true from beq_self_eq_true q] at h
  exact h
end Go.Proofs.YtkbcjhmcbfppkaaDoor
