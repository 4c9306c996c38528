/- The contracts of package groups in handy forms; with one cancelled: what Live asks is the same, and none lives more. -/
import Derived.Test.YtkbcjhmcbfppkaaGrpf
namespace Go.Proofs.Ytkbcjhmcbfppkaa
open Go.RowKit Go.Deep

theorem chk_det {ts : List (Int × List Int)} {p q p' q' : Int} (h : CheckIs ts p q) (h' : CheckIs ts p' q') : p = p' ∧ q = q' := by
  cases h using CheckIs.elim with
  | full hf =>
    cases h' using CheckIs.elim with
    | full => exact ⟨rfl, rfl⟩
    | task k hk => omega
    | ring k hk => omega
    | none hk => omega
  | task k h30 hk hz hne =>
    cases h' using CheckIs.elim with
    | full => omega
    | task k2 _ hk2 hz2 hne2 =>
      have : k = k2 := by
        rcases Nat.lt_trichotomy k k2 with h | h | h
        · exact absurd (hz2 k h) hne
        · exact h
        · exact absurd (hz k2 h) hne2
      subst this; exact ⟨rfl, rfl⟩
    | ring k2 _ hall => exact absurd (hall k hk) hne
    | none _ hall => exact absurd (hall k hk) hne
  | ring k h30 hall hk hf hr =>
    cases h' using CheckIs.elim with
    | full => omega
    | task k2 _ hk2 _ hne2 => exact absurd (hall k2 hk2) hne2
    | ring k2 _ _ hk2 hf2 hr2 =>
      have : k = k2 := by
        rcases Nat.lt_trichotomy k k2 with h | h | h
        · exact absurd hr (hf2 k h)
        · exact h
        · exact absurd hr2 (hf k2 h)
      subst this; exact ⟨rfl, rfl⟩
    | none _ _ hno => exact absurd hr (hno k hk)
  | none h30 hall hno =>
    cases h' using CheckIs.elim with
    | full => omega
    | task k2 _ hk2 _ hne2 => exact absurd (hall k2 hk2) hne2
    | ring k2 _ _ hk2 _ hr2 => exact absurd hr2 (hno k2 hk2)
    | none => exact ⟨rfl, rfl⟩

theorem check_some {v : Value} {ts : List (Int × List Int)} {w : World} (hp : PlanAt w v ts) : ∃ p q, CheckIs ts p q := by
  obtain ⟨e, w', fr, ⟨⟨p, q, -, hc⟩, -⟩, -⟩ := check_any v ts w hp []
  exact ⟨p, q, hc⟩
theorem cancel_ok {v : Value} {gs : List Grp} {i : Int} {w : World} (hg : GrpsAt w v gs) (h : placeErr gs i = 0) :
    Calls Try.prog 5 #[v, .int .i64 i] w fun e w' => ∃ g cap, e = .returned (.tuple #[.slice (some ⟨g, 0, none⟩) gs.length cap, .nilIface]) ∧ RowG w.heap.size w' (.slice (some ⟨g, 0, none⟩) gs.length cap) (setC gs i.toNat) ∧ Below w.heap.size w w' := by
  refine (gCancel_any v gs i w hg).mono ?_
  rintro e w' ⟨h1, hb⟩
  rcases h1 with ⟨h1, -⟩ | ⟨-, g, cap, he, hr⟩
  · exact absurd h h1
  · exact ⟨g, cap, he, hr, hb⟩
theorem cancel_no {v : Value} {gs : List Grp} {i : Int} {w : World} (hg : GrpsAt w v gs) (h : placeErr gs i ≠ 0) :
    Calls Try.prog 5 #[v, .int .i64 i] w fun e w' => e = .returned (.tuple #[.slice none 0 0, .iface 54 (.int .i64 (placeErr gs i))]) ∧ Below w.heap.size w w' := by
  refine (gCancel_any v gs i w hg).mono ?_
  rintro e w' ⟨h1, hb⟩
  rcases h1 with ⟨-, he⟩ | ⟨h1, -⟩
  · rw [errV_some h] at he
    exact ⟨he, hb⟩
  · exact absurd h1 h
theorem gone_ok {v : Value} {gs : List Grp} {i : Int} {w : World} (hg : GrpsAt w v gs) (h : placeErr gs i = 0) :
    Calls Try.prog 6 #[v, .int .i64 i] w fun e w' => e = .returned (.tuple #[.bool (goneG gs i.toNat), .nilIface]) ∧ Below w.heap.size w w' := by
  refine (gGone_any v gs i w hg).mono ?_
  rintro e w' ⟨h1, hb⟩
  rcases h1 with ⟨h1, -⟩ | ⟨-, he⟩
  · exact absurd h h1
  · exact ⟨he, hb⟩
theorem gone_no {v : Value} {gs : List Grp} {i : Int} {w : World} (hg : GrpsAt w v gs) (h : placeErr gs i ≠ 0) :
    Calls Try.prog 6 #[v, .int .i64 i] w fun e w' => e = .returned (.tuple #[.bool false, .iface 54 (.int .i64 (placeErr gs i))]) ∧ Below w.heap.size w w' := by
  refine (gGone_any v gs i w hg).mono ?_
  rintro e w' ⟨h1, hb⟩
  rcases h1 with ⟨-, he⟩ | ⟨h1, -⟩
  · rw [errV_some h] at he
    exact ⟨he, hb⟩
  · exact absurd h1 h
theorem live_ok {pv gv ov : Value} {ts : List (Int × List Int)} {gs : List Grp} {ofs : List Int} {w : World} {p : Int} (hp : PlanAt w pv ts) (hg : GrpsAt w gv gs) (ho : IntsAt w ov ofs) (hc : CheckIs ts p 0) (h : placesErr gs ts.length ofs = 0) :
    Calls Try.prog 7 #[pv, gv, ov] w fun e w' => ∃ b o c, e = .returned (.tuple #[.slice (some ⟨b, o, none⟩) ts.length c, .nilIface]) ∧ BoolsAt w' (.slice (some ⟨b, o, none⟩) ts.length c) ts.length (liveB ts (deadG gs ofs)) ∧ Below w.heap.size w w' := by
  refine (gLive_any pv gv ov ts gs ofs w hp hg ho).mono ?_
  rintro e w' ⟨⟨p', q, hc', h1⟩, hb⟩
  obtain ⟨-, rfl⟩ := chk_det hc' hc
  rcases h1 with ⟨h1, -⟩ | ⟨-, -, bv, he, hB⟩
  · unfold liveErr at h1
    rw [if_pos rfl] at h1
    exact absurd h h1
  · obtain ⟨b, o, c, rfl, h2⟩ := hB
    exact ⟨b, o, c, he, ⟨b, o, c, rfl, h2⟩, hb⟩
theorem live_no {pv gv ov : Value} {ts : List (Int × List Int)} {gs : List Grp} {ofs : List Int} {w : World} {p q : Int} (hp : PlanAt w pv ts) (hg : GrpsAt w gv gs) (ho : IntsAt w ov ofs) (hc : CheckIs ts p q) (h : liveErr q gs ts.length ofs ≠ 0) :
    Calls Try.prog 7 #[pv, gv, ov] w fun e w' => e = .returned (.tuple #[.slice none 0 0, .iface 54 (.int .i64 (liveErr q gs ts.length ofs))]) ∧ Below w.heap.size w w' := by
  refine (gLive_any pv gv ov ts gs ofs w hp hg ho).mono ?_
  rintro e w' ⟨⟨p', q', hc', h1⟩, hb⟩
  obtain ⟨-, rfl⟩ := chk_det hc' hc
  rcases h1 with ⟨-, he⟩ | ⟨h1, h2, -⟩
  · rw [errV_some h] at he
    exact ⟨he, hb⟩
  · exfalso
    refine h ?_
    unfold liveErr
    rw [if_pos h1]
    exact h2

theorem placesErr_set {gs : List Grp} {i : Nat} (hi : i < gs.length) (h : grpErr gs = 0) (n : Nat) (ofs : List Int) : placesErr (setC gs i) n ofs = placesErr gs n ofs := by
  obtain ⟨h12, hr⟩ := grpErr_right h
  unfold placesErr
  rw [if_pos h, if_pos (right_grpErr (by rw [setC_length]; exact h12) (hr.set hi)), setC_length]
theorem dead_more {gs : List Grp} {i : Nat} (hr : RightG gs) (hi : i < gs.length) {ofs : List Int} {m : Nat} (hm : 0 ≤ ofs.getD m 0 ∧ ofs.getD m 0 < gs.length) (h : deadG gs ofs m = true) : deadG (setC gs i) ofs m = true := by
  unfold deadG at h ⊢
  rw [gone_cancel hr hi _ (by omega), h]
  rfl
/-- With one cancelled none lives more. -/
theorem live_less {ts : List (Int × List Int)} {gs : List Grp} {i : Nat} {ofs : List Int} (hrt : InRange ts) (hr : RightG gs) (hi : i < gs.length) (hl : ofs.length = ts.length) (hin : ∀ z, z ∈ ofs → 0 ≤ z ∧ z < gs.length) {k : Nat} (hk : k < ts.length) (h : liveB ts (deadG (setC gs i) ofs) k = true) : liveB ts (deadG gs ofs) k = true := by
  have hof : ∀ m, m < ts.length → 0 ≤ ofs.getD m 0 ∧ ofs.getD m 0 < gs.length := fun m hm => by
    refine hin _ ?_
    rw [List.getD_eq_getElem?_getD, List.getElem?_eq_getElem (by omega)]
    exact List.getElem_mem _
  have hf : ∀ m, m < ts.length → deadG (setC gs i) ofs m = false → deadG gs ofs m = false := fun m hm h0 => by
    cases e : deadG gs ofs m with
    | false => rfl
    | true => rw [dead_more hr hi (hof m hm) e] at h0; cases h0
  have hL := liveB_true.1 h
  refine liveB_true.2 ⟨hf k hk hL.1, fun m hm => hf m ?_ (hL.2 m hm)⟩
  exact Reach.ind (motive := fun y _ => y < ts.length) (fun hn => by have := hrt k hk _ hn; omega) (fun {y z} _ hn ih => by have := hrt _ ih _ hn; omega) hm
theorem live_needs {ts : List (Int × List Int)} {D : Nat → Bool} {k n : Nat} (hn : Need ts k n) (h : liveB ts D k = true) : liveB ts D n = true := liveB_true.2 ((liveB_true.1 h).need hn)
end Go.Proofs.Ytkbcjhmcbfppkaa
