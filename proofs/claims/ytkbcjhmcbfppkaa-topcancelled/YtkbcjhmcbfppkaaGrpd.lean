/- Groups in memory; what is wrong with groups, and with a place; the contracts of groups.Check, isGroup, gone, checkPlace and Gone. -/
import Derived.Test.YtkbcjhmcbfppkaaGrpa
import Derived.Test.YtkbcjhmcbfppkaaD
namespace Go.Proofs.Ytkbcjhmcbfppkaa
open Go.RowKit

/-- A group is a part of one ahead of it, or of none. -/
def okG (gs : List Grp) (k : Nat) : Bool := decide (-1 ≤ parG gs k) && decide (parG gs k < (k : Int))
/-- What is wrong with groups. -/
def grpErr (gs : List Grp) : Int := if 12 < gs.length then 4 else if (List.range gs.length).all (okG gs) then 0 else 1
theorem grpErr_full {gs : List Grp} (h : 12 < gs.length) : grpErr gs = 4 := by unfold grpErr; rw [if_pos h]
theorem grpErr_bad {gs : List Grp} {k : Nat} (hl : ¬ 12 < gs.length) (hk : k < gs.length) (h : okG gs k = false) : grpErr gs = 1 := by
  unfold grpErr
  rw [if_neg hl, if_neg]
  intro ha
  have := List.all_eq_true.1 ha k (List.mem_range.2 hk)
  rw [h] at this
  cases this
theorem grpErr_ok {gs : List Grp} (hl : ¬ 12 < gs.length) (h : ∀ k, k < gs.length → okG gs k = true) : grpErr gs = 0 := by
  unfold grpErr
  rw [if_neg hl, if_pos]
  exact List.all_eq_true.2 fun k hk => h k (List.mem_range.1 hk)
theorem grpErr_right {gs : List Grp} (h : grpErr gs = 0) : gs.length ≤ 12 ∧ RightG gs := by
  unfold grpErr at h
  by_cases h1 : 12 < gs.length
  · rw [if_pos h1] at h; omega
  · rw [if_neg h1] at h
    by_cases h2 : (List.range gs.length).all (okG gs) = true
    · refine ⟨by omega, fun k hk => ?_⟩
      have := List.all_eq_true.1 h2 k (List.mem_range.2 hk)
      unfold okG at this
      simpa using this
    · rw [if_neg h2] at h; omega
theorem right_grpErr {gs : List Grp} (h : gs.length ≤ 12) (hr : RightG gs) : grpErr gs = 0 :=
  grpErr_ok (by omega) fun k hk => by unfold okG; simpa using hr k hk
/-- What is wrong with groups, then with a place. -/
def placeErr (gs : List Grp) (i : Int) : Int := if grpErr gs = 0 then (if inRange i gs.length then 0 else 1) else grpErr gs
theorem placeErr_bad {gs : List Grp} {i : Int} (h : grpErr gs ≠ 0) : placeErr gs i = grpErr gs := by unfold placeErr; rw [if_neg h]
theorem placeErr_out {gs : List Grp} {i : Int} (h : grpErr gs = 0) (hi : inRange i gs.length = false) : placeErr gs i = 1 := by unfold placeErr; rw [if_pos h, hi]; rfl
theorem placeErr_in {gs : List Grp} {i : Int} (h : grpErr gs = 0) (hi : inRange i gs.length = true) : placeErr gs i = 0 := by unfold placeErr; rw [if_pos h, hi]; rfl
theorem placeErr_zero {gs : List Grp} {i : Int} (h : placeErr gs i = 0) : gs.length ≤ 12 ∧ RightG gs ∧ ∃ k : Nat, i = k ∧ k < gs.length := by
  unfold placeErr at h
  by_cases h1 : grpErr gs = 0
  · rw [if_pos h1] at h
    obtain ⟨h2, h3⟩ := grpErr_right h1
    refine ⟨h2, h3, i.toNat, ?_⟩
    cases hi : inRange i gs.length with
    | true =>
      unfold inRange at hi
      simp at hi
      omega
    | false =>
      rw [hi] at h
      simp at h
  · rw [if_neg h1] at h; exact absurd h h1

/-- A slice value whose elements are the groups gs, in the world w. -/
def GrpsAt (w : World) (v : Value) (gs : List Grp) : Prop :=
  gs.length * 16 ≤ 140737488351232 ∧ ∃ a c, v = .slice a gs.length c ∧ (gs = [] ∨ ∃ b o, a = some ⟨b, o, none⟩ ∧ b < w.heap.size ∧
    ∀ k, k < gs.length → w.cell? ⟨b, o + k * 2, none⟩ = some (.int .i64 (parG gs k)) ∧ w.cell? ⟨b, o + k * 2 + 1, none⟩ = some (.bool (canG gs k)))
theorem GrpsAt.later {w w' : World} {v : Value} {gs : List Grp} (h : GrpsAt w v gs) (hb : Below w.heap.size w w') : GrpsAt w' v gs := by
  obtain ⟨hl, a, c, hv, h⟩ := h
  refine ⟨hl, a, c, hv, ?_⟩
  rcases h with h | ⟨b, o, ha, hlt, hc⟩
  · exact Or.inl h
  · refine Or.inr ⟨b, o, ha, Nat.lt_of_lt_of_le hlt hb.size, fun k hk => ?_⟩
    obtain ⟨h1, h2⟩ := hc k hk
    exact ⟨(hb.cell (p := ⟨b, o + k * 2, none⟩) hlt).trans h1, (hb.cell (p := ⟨b, o + k * 2 + 1, none⟩) hlt).trans h2⟩

set_option maxHeartbeats 1000000 in
theorem grcheck_any (v : Value) (gs : List Grp) (w : World) (hg : GrpsAt w v gs) :
    Calls Try.prog 24 #[v] w fun e w' => e = .returned (errV (grpErr gs)) ∧ Below w.heap.size w w' := by
  obtain ⟨hl, a, c, rfl, hg⟩ := hg
  by_cases h12 : 12 < gs.length
  · have hfi : (12 : Int) < (gs.length : Int) := by omega
    rw [grpErr_full h12]
    clear hg
    go_enter Try.func24, Try.ntmps24
    go_wp2
    go_ret
    exact ⟨rfl, Below.refl _ _⟩
  have hfi : ¬ (12 : Int) < (gs.length : Int) := by omega
  go_enter Try.func24, Try.ntmps24
  go_wp2
  go_loopw [11] (fun s11 wr => ∃ k : Nat, k ≤ gs.length ∧ s11 = .int .i64 k ∧ Below w.heap.size w wr ∧ Hid (∀ j, j < k → okG gs j = true)) (fun s11 _ => gs.length - (intOf s11).toNat)
  case atStart => exact ⟨0, Nat.zero_le _, rfl, Below.refl _ _, fun j hj => by omega⟩
  case round =>
    obtain ⟨k, hk, rfl, hb, hno⟩ := hrel
    by_cases hkl : k < gs.length
    · rcases hg with rfl | ⟨b, o, rfl, hbl, hc⟩
      · simp at hkl
      obtain ⟨hc1, hc2⟩ := hc k hkl
      have hc1' := (hb.cell (p := ⟨b, o + k * 2, none⟩) hbl).trans hc1
      have hc2' := (hb.cell (p := ⟨b, o + k * 2 + 1, none⟩) hbl).trans hc2
      clear hc hc1 hc2
      have HK : Hid (okG gs k = (decide (-1 ≤ parG gs k) && decide (parG gs k < (k : Int)))) := rfl
      generalize parG gs k = p at *
      generalize canG gs k = q at *
      by_cases h1 : p < -1
      · have HE : Hid (grpErr gs = 1) := grpErr_bad h12 hkl (by rw [HK.out, show decide (-1 ≤ p) = false from decide_eq_false (by omega)]; rfl)
        clear HK
        go_wp2
        go_ret
        exact ⟨by rw [HE.out]; rfl, hb.alloc hb.size _⟩
      · by_cases h2 : p < (k : Int)
        · have HF : Hid (okG gs k = true) := by
            show _ = _
            rw [HK.out, show decide (-1 ≤ p) = true from decide_eq_true (by omega), show decide (p < (k : Int)) = true from decide_eq_true h2]; rfl
          clear HK
          go_wp2
          go_roundw
          case rel =>
            refine ⟨k + 1, by omega, by go_num, hb.alloc hb.size _, fun j hj => ?_⟩
            by_cases e : j = k
            · subst e; exact HF.out
            · exact hno.out j (by omega)
          case measure => simp [intOf]; omega
        · have HE : Hid (grpErr gs = 1) := grpErr_bad h12 hkl (by rw [HK.out, show decide (p < (k : Int)) = false from decide_eq_false h2]; simp)
          clear HK
          go_wp2
          go_ret
          exact ⟨by rw [HE.out]; rfl, hb.alloc hb.size _⟩
    · clear hg
      have HE : Hid (grpErr gs = 0) := grpErr_ok h12 (fun j hj => hno.out j (by omega))
      go_wp2
      go_ret
      exact ⟨by rw [HE.out]; rfl, hb⟩

theorem isGroup_any (a : Option Addr) (n c : Nat) (i : Int) (w : World) (_hn : n ≤ 9223372036854775807) :
    Calls Try.prog 25 #[.slice a n c, .int .i64 i] w fun e w' => e = .returned (.bool (inRange i n)) ∧ w' = w := by
  by_cases h1 : 0 ≤ i
  · by_cases h2 : i < (n : Int)
    · go_enter Try.func25, Try.ntmps25
      go_wp2
      go_ret
      exact ⟨by simp [inRange, h1, h2], rfl⟩
    · go_enter Try.func25, Try.ntmps25
      go_wp2
      go_ret
      exact ⟨by simp [inRange, h1, h2], rfl⟩
  · go_enter Try.func25, Try.ntmps25
    go_wp2
    go_ret
    exact ⟨by rw [show inRange i n = false by simp [inRange]; omega]; rfl, rfl⟩

/-- Is one gone, or is it none? -/
def goneZ (gs : List Grp) (i : Int) : Bool := if i < 0 then false else goneG gs i.toNat
theorem goneZ_nat (gs : List Grp) (i : Nat) : goneZ gs (i : Int) = goneG gs i := by
  unfold goneZ
  rw [if_neg (by omega), Int.toNat_natCast]
theorem goneZ_step {gs : List Grp} (hr : RightG gs) {k : Nat} (hk : k < gs.length) (hc : canG gs k = false) : goneZ gs (k : Int) = goneZ gs (parG gs k) := by
  rw [goneZ_nat, goneG_eq hr hk, hc]
  unfold goneZ
  by_cases h : parG gs k < 0
  · rw [if_pos h]; rfl
  · rw [if_neg h]; rfl
theorem goneZ_hit {gs : List Grp} (hr : RightG gs) {k : Nat} (hk : k < gs.length) (hc : canG gs k = true) : goneZ gs (k : Int) = true := by
  rw [goneZ_nat, goneG_eq hr hk, hc]
  rfl

set_option maxHeartbeats 1000000 in
theorem ggone_any (v : Value) (gs : List Grp) (i : Nat) (w : World) (hg : GrpsAt w v gs) (hr : RightG gs) (hi : i < gs.length) :
    Calls Try.prog 14 #[v, .int .i64 i] w fun e w' => e = .returned (.bool (goneG gs i)) ∧ w' = w := by
  obtain ⟨hl, a, c, rfl, hg⟩ := hg
  rcases hg with rfl | ⟨b, o, rfl, hbl, hc⟩
  · simp at hi
  go_enter Try.func14, Try.ntmps14
  go_wp2
  go_loop [1] (fun s1 => ∃ k : Int, s1 = .int .i64 k ∧ -1 ≤ k ∧ k < gs.length ∧ Hid (goneG gs i = goneZ gs k)) (fun s1 => (intOf s1 + 1).toNat)
  case atStart => exact ⟨i, rfl, by omega, by omega, (goneZ_nat gs i).symm⟩
  case round =>
    obtain ⟨k, rfl, hk1, hk2, hE⟩ := hrel
    by_cases h0 : 0 ≤ k
    · obtain ⟨n, rfl⟩ := Int.eq_ofNat_of_zero_le h0
      have hn : n < gs.length := by omega
      obtain ⟨hc1, hc2⟩ := hc n hn
      have hrn := hr n hn
      clear hc
      cases hcan : canG gs n
      · have HS := goneZ_step hr hn hcan
        have HE : Hid (goneG gs i = goneZ gs (parG gs n)) := hE.out.trans HS
        rw [hcan] at hc2
        clear HS hE hcan hr
        generalize parG gs n = p at *
        go_wp2
        go_round
        case rel => exact ⟨p, rfl, by omega, by omega, HE⟩
        case measure => simp [intOf]; omega
      · have HE : Hid (goneG gs i = true) := hE.out.trans (goneZ_hit hr hn hcan)
        rw [hcan] at hc2
        clear hE hcan hr
        go_wp2
        go_ret
        exact ⟨by rw [HE.out]; rfl, rfl⟩
    · have HE : Hid (goneG gs i = false) := hE.out.trans (by unfold goneZ; rw [if_pos (by omega)])
      clear hc hE hr
      go_wp2
      go_ret
      exact ⟨by rw [HE.out]; rfl, rfl⟩

theorem len_fits {n : Nat} (h : n * 16 ≤ 140737488351232) : n ≤ 9223372036854775807 := by omega

set_option maxHeartbeats 1000000 in
theorem checkPlace_any (v : Value) (gs : List Grp) (i : Int) (w : World) (hg : GrpsAt w v gs) :
    Calls Try.prog 12 #[v, .int .i64 i] w fun e w' => e = .returned (errV (placeErr gs i)) ∧ Below w.heap.size w w' := by
  have hck := grcheck_any v gs w hg
  obtain ⟨hl, a, c, rfl, hg⟩ := hg
  clear hg
  by_cases hq : grpErr gs = 0
  · rw [hq, errV_zero] at hck
    have hin := fun wx => isGroup_any a gs.length c i wx (len_fits hl)
    cases hi : inRange i gs.length
    · have HE : Hid (placeErr gs i = 1) := placeErr_out hq hi
      rw [hi] at hin
      clear hq hi
      go_enter Try.func12, Try.ntmps12
      go_wp2_with (first | (go_at_call 24; refine hck.mono ?_; rintro e w1 ⟨rfl, hb⟩) | (go_at_call 25; refine (hin _).mono ?_; rintro e w2 ⟨rfl, rfl⟩))
      go_ret
      exact ⟨by rw [HE.out]; rfl, hb⟩
    · have HE : Hid (placeErr gs i = 0) := placeErr_in hq hi
      rw [hi] at hin
      clear hq hi
      go_enter Try.func12, Try.ntmps12
      go_wp2_with (first | (go_at_call 24; refine hck.mono ?_; rintro e w1 ⟨rfl, hb⟩) | (go_at_call 25; refine (hin _).mono ?_; rintro e w2 ⟨rfl, rfl⟩))
      go_ret
      exact ⟨by rw [HE.out]; rfl, hb⟩
  · have HE : Hid (∀ u, u = errV (grpErr gs) → u = errV (placeErr gs i)) := fun u hu => by rw [hu, placeErr_bad hq]
    rw [errV_some hq] at hck HE
    clear hq
    generalize grpErr gs = q at *
    go_enter Try.func12, Try.ntmps12
    go_wp2_with (go_at_call 24; refine hck.mono ?_; rintro e w1 ⟨rfl, hb⟩)
    go_ret
    exact ⟨by rw [← HE.out _ rfl]; rfl, hb⟩

/-- What Gone hands back. -/
def GoneOut (gs : List Grp) (i : Int) (e : Ending) : Prop :=
  (placeErr gs i ≠ 0 ∧ e = .returned (.tuple #[.bool false, errV (placeErr gs i)])) ∨ (placeErr gs i = 0 ∧ e = .returned (.tuple #[.bool (goneG gs i.toNat), .nilIface]))

set_option maxHeartbeats 1000000 in
theorem gGone_any (v : Value) (gs : List Grp) (i : Int) (w : World) (hg : GrpsAt w v gs) :
    Calls Try.prog 6 #[v, .int .i64 i] w fun e w' => GoneOut gs i e ∧ Below w.heap.size w w' := by
  have hck := checkPlace_any v gs i w hg
  have HG : Hid (GrpsAt w v gs) := hg
  obtain ⟨hl, a, c, rfl, hg⟩ := hg
  clear hg
  by_cases hq : placeErr gs i = 0
  · obtain ⟨h12, hr, k, rfl, hk⟩ := placeErr_zero hq
    have HF : Hid (GoneOut gs k (.returned (.tuple #[.bool (goneG gs k), .nilIface]))) := Or.inr ⟨hq, by rw [Int.toNat_natCast]⟩
    rw [hq, errV_zero] at hck
    clear hq
    go_enter Try.func6, Try.ntmps6
    go_wp2_with fail
    refine hck.mono ?_
    rintro e w1 ⟨rfl, hb⟩
    have hgo := ggone_any _ gs k w1 (HG.out.later hb) hr hk
    clear hck HG hr
    generalize goneG gs k = r at *
    go_wp2_with (go_at_call 14; refine hgo.mono ?_; rintro e w2 ⟨rfl, rfl⟩)
    go_ret2
    exact ⟨HF.out, hb⟩
  · have HF : Hid (∀ u, u = errV (placeErr gs i) → GoneOut gs i (.returned (.tuple #[.bool false, u]))) := fun u hu => Or.inl ⟨hq, by rw [hu]⟩
    rw [errV_some hq] at hck HF
    clear hq HG
    generalize placeErr gs i = q at *
    go_enter Try.func6, Try.ntmps6
    go_wp2_with (go_at_call 12; refine hck.mono ?_; rintro e w1 ⟨rfl, hb⟩)
    go_ret2
    exact ⟨HF.out _ rfl, hb⟩
end Go.Proofs.Ytkbcjhmcbfppkaa
