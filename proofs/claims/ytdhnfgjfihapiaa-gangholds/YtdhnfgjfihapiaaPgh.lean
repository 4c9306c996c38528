/- The program's gang: a Step, whatever it does. -/
import Derived.Test.YtdhnfgjfihapiaaPgg
namespace Go.Proofs.Ytdhnfgjfihapiaa
open Go.RowKit Go.Deep Go.Maps

theorem ofAll_len {g : Gs} {n h : Nat} (hh : h < n) : (ofH g h).length ≤ (ofAll g n).length := by
  induction n with
  | zero => omega
  | succ n ih =>
    rw [ofAll, List.length_append]
    by_cases e : h = n
    · subst e; omega
    · have := ih (by omega); omega
theorem Inv.room30 {ts : List (Int × List Int)} {room hands : Nat} {g : Gs} (hI : Inv ts room hands g) {h : Nat} (hh : h < hands) : g.sp.length + (allH (g.near h) (g.ring h)).length ≤ ts.length := by
  have h1 := hI.held_le
  have h2 := ofAll_len (g := g) hh
  unfold heldL at h1
  unfold ofH at h2
  simp only [List.length_append] at h1 h2
  omega
/-- What a program's step comes to. -/
def StepOut (G room hands : Nat) (ts : List (Int × List Int)) (g' : Gs) (ds : List Deed) (own : Nat → Nat) (w : World) (e : Ending) (w' : World) : Prop :=
  ∃ v, e = .returned (.tuple #[v, .nilIface]) ∧ RowD w.heap.size w' v ds ∧ ∃ B' own' Q' wk', Pg B' G room hands ts g' wk' own' Q' w' ∧ WkOk ts hands g' wk' ∧ Went own own' w w'
variable {B : Bs} {G room hands : Nat} {ts : List (Int × List Int)} {g : Gs} {wk : Nat → Int} {own : Nat → Nat} {Q : Qp} {w w' : World}
theorem step_any (hP : Pg B G room hands ts g wk own Q w) (hI : Inv ts room hands g) (hK : WkOk ts hands g wk) (hg : Good ts) (hw : ∀ i, i < ts.length → 1 ≤ workOf ts i ∧ workOf ts i ≤ 1000) (hr1 : 1 ≤ room) (h16 : room ≤ 16) (h6 : hands ≤ 6) (h pick : Nat) (hh : h < hands) (hp63 : pick < 9223372036854775808) :
    Calls Try.prog 6 #[.pointer (some ⟨G, 0, none⟩), .int .i64 h, .int .i64 pick] w (StepOut G room hands ts (gstep ts room hands g h pick) (gdeeds ts hands g h pick) own w) := by
  have hB := hP.rebase
  have h30 := hg.le
  have hO : pick % hands < hands := Nat.mod_lt _ (by omega)
  unfold gstep gdeeds
  by_cases hz : (h : Int) ∈ g.zz
  · rw [if_pos hz, if_pos hz]
    refine (step_asleep hB h pick hh hz).mono ?_
    rintro e w' ⟨rfl, rfl⟩
    exact ⟨_, rfl, RowD.nil _ _, _, _, _, _, hB, hK, hB.went⟩
  rw [if_neg hz, if_neg hz]
  by_cases ht : 0 ≤ g.task h
  · rw [if_pos ht, if_pos ht]
    obtain ⟨i, hti, hi, hrd⟩ := hI.rdy (held_task hh ht)
    have hwo := hI.workOk h hh ht
    have hwi := hK.1 h hh ht
    rw [hti, Int.toNat_natCast] at hwi hwo
    have hwle := hw i hi
    by_cases hk : 1 < g.work h
    · rw [if_pos hk, if_pos hk]
      refine (step_has hB h i pick hh h6 hz hti (R := fun v w' => v = .slice none 0 0 ∧ ∃ own', Pg ⟨fun k => k < w.heap.size ∧ own k = 9, w⟩ G room hands ts g (upd wk i (wk i - 1)) own' Q w') ((workAt_more hB h i hi (by omega) (by omega) h30).mono fun e w' hh2 => ⟨none, 0, 0, hh2.1, rfl, hh2.2⟩)).mono ?_
      rintro e w' ⟨v, rfl, rfl, own', hP'⟩
      exact ⟨_, rfl, RowD.nil _ _, _, _, _, _, hP'.sameWork _, hK.works hI hh hti, hP'.went⟩
    · rw [if_neg hk, if_neg hk]
      have hro := hI.room30 hh
      refine (step_has hB h i pick hh h6 hz hti (R := fun v w' => RowD w.heap.size w' v (endsD ts g h) ∧ ∃ own' Q', Pg ⟨fun k => k < w.heap.size ∧ own k = 9, w⟩ G room hands ts (ends ts room g h) (upd wk i 0) own' Q' w') ((workAt_last hB hg h i hh h6 hi hti hrd hI.down (by omega) (by omega)).mono fun e w' hh2 => by
        obtain ⟨v, rfl, hv, hr⟩ := hh2
        obtain ⟨a, c, rfl⟩ := hv.shape
        exact ⟨a, _, c, rfl, hv, hr⟩)).mono ?_
      rintro e w' ⟨v, rfl, hv, own', Q', hP'⟩
      exact ⟨_, rfl, hv, _, _, _, _, hP', hK.ends hI hh hti 0, hP'.went⟩
  rw [if_neg ht, if_neg ht]
  have htn : g.task h < 0 := by omega
  by_cases hn : g.near h ≠ -1
  · rw [if_pos hn, if_pos hn]
    obtain ⟨i, hni, hi, hrd⟩ := hI.rdy (held_near hh hn)
    have hfr := hI.free_hand hh (x := g.near h) (by rw [allH_some hn]; simp)
    have hf := find_took hB h i ((pick % hands : Nat) : Int) hh h6 (by omega) { g with near := upd g.near h (-1) } htn (fun own1 W hW => by
      have := hW.takeNear hh hn
      rw [hni] at this
      exact this)
    refine (step_free hB h pick _ hh h6 hz htn hp63 rfl 1 h i 0 hf (fun w' own' Q' hp => hp.w1le)).mono ?_
    rintro e w' ⟨v, rfl, hv, own', Q', hP'⟩
    rw [hni]
    rw [hni] at hfr
    exact ⟨_, rfl, hv, _, _, _, _, hP'.sameWork _, hK.takes rfl rfl rfl hh htn hi (ready_parts hrd).1 hfr, hP'.went⟩
  rw [if_neg hn, if_neg hn]
  have hn' : g.near h = -1 := by
    rcases Int.decEq (g.near h) (-1) with e | e
    · exact absurd e hn
    · exact e
  by_cases hr : g.ring h ≠ []
  · rw [if_pos hr, if_pos hr]
    have hmem : (g.ring h).getLastD 0 ∈ g.ring h := by
      have := last_split hr
      rw [this]
      simp
    obtain ⟨i, hni, hi, hrd⟩ := hI.rdy (held_ring hh hmem)
    have hfr := hI.free_hand hh (x := (g.ring h).getLastD 0) (by rw [hn', allH_none]; exact hmem)
    have hf := find_took hB h i ((pick % hands : Nat) : Int) hh h6 (by omega) { g with ring := upd g.ring h (g.ring h).dropLast } htn (fun own1 W hW => by
      have := hW.takeRing hh hn' hr
      rw [hni] at this
      exact this)
    refine (step_free hB h pick _ hh h6 hz htn hp63 rfl 1 h i 0 hf (fun w' own' Q' hp => hp.w1le)).mono ?_
    rintro e w' ⟨v, rfl, hv, own', Q', hP'⟩
    rw [hni]
    rw [hni] at hfr
    exact ⟨_, rfl, hv, _, _, _, _, hP'.sameWork _, hK.takes rfl rfl rfl hh htn hi (ready_parts hrd).1 hfr, hP'.went⟩
  rw [if_neg hr, if_neg hr]
  have hr' : g.ring h = [] := Classical.not_not.1 hr
  by_cases hs : g.sp ≠ []
  · rw [if_pos hs, if_pos hs]
    obtain ⟨x, rest, hx⟩ := List.exists_cons_of_ne_nil hs
    have hmem : x ∈ g.sp := by rw [hx]; simp
    obtain ⟨i, hni, hi, hrd⟩ := hI.rdy (held_sp (hands := hands) hmem)
    subst hni
    have hfr := hI.free_sp hmem
    have hf := find_fetched hB h i ((pick % hands : Nat) : Int) hh h6 (by omega) htn hn' hr' rest hx
    refine (step_free hB h pick _ hh h6 hz htn hp63 rfl 3 h i 0 hf (fun w' own' Q' hp => hp.w1le)).mono ?_
    rintro e w' ⟨v, rfl, hv, own', Q', hP'⟩
    have e1 : g.sp.headD 0 = (i : Int) := by rw [hx]; rfl
    rw [e1]
    exact ⟨_, rfl, hv, _, _, _, _, hP'.sameWork _, hK.takes rfl rfl rfl hh htn hi (ready_parts hrd).1 hfr, hP'.went⟩
  rw [if_neg hs, if_neg hs]
  have hs' : g.sp = [] := Classical.not_not.1 hs
  by_cases ho : pick % hands = h ∨ g.ring (pick % hands) = []
  · rw [if_pos ho, if_pos ho]
    have hf := find_slept hB h (pick % hands) hh hO h6 hn' hr' hs' hz ho
    refine (step_free hB h pick _ hh h6 hz htn hp63 rfl 5 h 0 0 hf (fun w' own' Q' hp => hp.w1le)).mono ?_
    rintro e w' ⟨v, rfl, hv, own', Q', hP'⟩
    exact ⟨_, rfl, hv, _, _, _, _, hP', ⟨hK.1, hK.2⟩, hP'.went⟩
  rw [if_neg ho, if_neg ho]
  have hne : pick % hands ≠ h := fun e => ho (Or.inl e)
  have hro : g.ring (pick % hands) ≠ [] := fun e => ho (Or.inr e)
  have hpos : 0 < (g.ring (pick % hands)).length := List.length_pos_iff.2 hro
  obtain ⟨x, rest, hx⟩ : ∃ x rest, (g.ring (pick % hands)).take (((g.ring (pick % hands)).length + 1) / 2) = x :: rest := List.exists_cons_of_ne_nil (by intro e; rcases List.take_eq_nil_iff.1 e with e | e; { omega }; { exact hro e })
  have hmem : x ∈ g.ring (pick % hands) := List.mem_of_mem_take (i := ((g.ring (pick % hands)).length + 1) / 2) (by rw [hx]; simp)
  obtain ⟨i, hni, hi, hrd⟩ := hI.rdy (held_ring hO hmem)
  subst hni
  have hfr := hI.free_hand hO (x := (i : Int)) (by unfold allH; split <;> simp [hmem])
  have hf := find_stole hB h i (pick % hands) hh hO hne h6 (by omega) htn hn' hr' hs' (by have := hI.ringLe _ hO; omega) (fun y hy => by obtain ⟨j, rfl, -⟩ := hI.rdy (held_ring hO hy); omega) rest hx
  refine (step_free hB h pick _ hh h6 hz htn hp63 rfl 2 h i ((pick % hands : Nat) : Int) hf (fun w' own' Q' hp => hp.w1le)).mono ?_
  rintro e w' ⟨v, rfl, hv, own', Q', hP'⟩
  unfold robs
  rw [hx]
  exact ⟨_, rfl, hv, _, _, _, _, hP'.sameWork _, hK.takes (g1 := puts room { g with ring := upd g.ring (pick % hands) ((g.ring (pick % hands)).drop (((g.ring (pick % hands)).length + 1) / 2)) } h rest) rfl rfl rfl hh htn hi (ready_parts hrd).1 hfr, hP'.went⟩
end Go.Proofs.Ytdhnfgjfihapiaa
