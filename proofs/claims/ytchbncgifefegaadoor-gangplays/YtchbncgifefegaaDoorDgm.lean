/- The document's Step, whatever it does. -/
import Derived.Test.YtchbncgifefegaaDoorDgl
import Derived.Test.YtchbncgifefegaaDoorDgi
import Derived.Test.YtchbncgifefegaaDoorPgk
namespace Go.Proofs.YtchbncgifefegaaDoor
open Go.RowKit Go.Deep
open Spl.Dsp (Gq gArr)

variable {M room hands : Nat} {ts : List (Int × List Int)} {p : Value} {g : Gs} {own : Nat → Nat} {Bd : Bs} {w0 w w' : World}
theorem DgO.rebase (h : DgO own M room hands ts p g Bd w0 w) : DgO own M room hands ts p g ⟨fun k => k < w.heap.size ∧ own k = 9, w⟩ w0 w := by
  obtain ⟨gq, vf, vh, HB, hc, DB, dc, Hk, vk, hp, hD⟩ := h
  exact ⟨gq, vf, vh, HB, hc, DB, dc, Hk, vk, hp, hD.rebase⟩
theorem DgO.e (h : DgO own M room hands ts p g Bd w0 w) : DgE M room hands ts p g Bd w0 w := ⟨own, h⟩
theorem DgE.went (h : DgE M room hands ts p g ⟨fun k => k < w.heap.size ∧ own k = 9, w⟩ w0 w') : ∃ own' Bd', DgO own' M room hands ts p g Bd' w0 w' ∧ Went own own' w w' := by
  obtain ⟨own', gq, vf, vh, HB, hc, DB, dc, Hk, vk, hp, hD⟩ := h
  exact ⟨own', _, ⟨gq, vf, vh, HB, hc, DB, dc, Hk, vk, hp, hD⟩, hD.io.1, hD.io.2.1, hD.io.2.2, hD.w1le, fun k hk ho => ⟨(hD.far k ⟨hk, ho⟩).2.2, (hD.far k ⟨hk, ho⟩).2.1⟩⟩
theorem DgO.away (h : DgO own M room hands ts p g Bd w0 w) (hb : Below w0.heap.size w0 w') (K : Kc own (fun c => c = 9) w w') : DgO (relabel own w.heap.size 9) M room hands ts p g ⟨fun _ => False, w'⟩ w0 w' := by
  obtain ⟨gq, vf, vh, HB, hc, DB, dc, Hk, vk, hp, hD⟩ := h
  exact ⟨gq, vf, vh, HB, hc, DB, dc, Hk, vk, hp, hD.away hb K⟩
theorem DgO.later (h : DgO own M room hands ts p g Bd w0 w) (hb : Below w.heap.size w w') : DgO (relabel own w.heap.size 9) M room hands ts p g Bd w0 w' := by
  obtain ⟨gq, vf, vh, HB, hc, DB, dc, Hk, vk, hp, hD⟩ := h
  exact ⟨gq, vf, vh, HB, hc, DB, dc, Hk, vk, hp, hD.later0 (Kc.of_below hb)⟩
/-- What a document's step comes to. -/
def DStepOut (M room hands : Nat) (ts : List (Int × List Int)) (p : Value) (g' : Gs) (ds : List Deed) (own : Nat → Nat) (w0 w : World) (e : Ending) (w' : World) : Prop :=
  ∃ v, e = .returned v ∧ RowD w.heap.size w' v ds ∧ ∃ own' Bd', DgO own' M room hands ts p g' Bd' w0 w' ∧ Went own own' w w'
theorem dStep_any (hD : DgO own M room hands ts p g Bd w0 w) (hI : Inv ts room hands g) (hg : Good ts) (hw : ∀ i, i < ts.length → 1 ≤ workOf ts i ∧ workOf ts i ≤ 100) (hr1 : 1 ≤ room) (h16 : room ≤ 16) (h6 : hands ≤ 6) (h pick : Nat) (hh : h < hands) (hp63 : pick < 9223372036854775808) :
    Calls Tryd.prog 8 #[.pointer (some ⟨M, 0, none⟩), .int .i64 h, .int .i64 pick] w (DStepOut M room hands ts p (gstep ts room hands g h pick) (gdeeds ts hands g h pick) own w0 w) := by
  have hE := hD.rebase.e
  have h30 := hg.le
  have hO : pick % hands < hands := Nat.mod_lt _ (by omega)
  have fin : ∀ (g' : Gs) (ds : List Deed), (Calls Tryd.prog 8 #[.pointer (some ⟨M, 0, none⟩), .int .i64 h, .int .i64 pick] w fun e w' => (∃ v, e = .returned v ∧ RowD w.heap.size w' v ds) ∧ DgE M room hands ts p g' ⟨fun k => k < w.heap.size ∧ own k = 9, w⟩ w0 w') → Calls Tryd.prog 8 #[.pointer (some ⟨M, 0, none⟩), .int .i64 h, .int .i64 pick] w (DStepOut M room hands ts p g' ds own w0 w) := fun g' ds hc =>
    hc.mono fun e w' ⟨⟨v, he, hv⟩, hd⟩ => ⟨v, he, hv, hd.went⟩
  unfold gstep gdeeds
  by_cases hz : (h : Int) ∈ g.zz
  · rw [if_pos hz, if_pos hz]
    exact fin _ _ (dStep_asleep M room hands ts p g _ w0 w h pick hE hz)
  rw [if_neg hz, if_neg hz]
  by_cases ht : 0 ≤ g.task h
  · rw [if_pos ht, if_pos ht]
    obtain ⟨i, hti, hi, hrd⟩ := hI.rdy (held_task hh ht)
    have hwo := hI.workOk h hh ht
    rw [hti, Int.toNat_natCast] at hwo
    have hwle := hw i hi
    by_cases hk : 1 < g.work h
    · rw [if_pos hk, if_pos hk]
      exact fin _ _ (dStep_works M room hands ts p g _ w0 w h pick hE hh h6 hz ht hk (by omega))
    · rw [if_neg hk, if_neg hk]
      have hro := hI.room30 hh
      exact fin _ _ (dStep_ends M room hands ts p g _ w0 w h pick hE hh h6 h16 hr1 hg hz i hi hti (by omega) hrd hI.down (by omega))
  rw [if_neg ht, if_neg ht]
  by_cases hn : g.near h ≠ -1
  · rw [if_pos hn, if_pos hn]
    obtain ⟨i, hni, hi, hrd⟩ := hI.rdy (held_near hh hn)
    rw [hni]
    exact fin _ _ (dStep_near M room hands ts p g _ w0 w h pick hE hh h6 hz ht hn i hi hni)
  rw [if_neg hn, if_neg hn]
  have hn' : g.near h = -1 := by
    rcases Int.decEq (g.near h) (-1) with e | e
    · exact absurd e hn
    · exact e
  by_cases hr : g.ring h ≠ []
  · rw [if_pos hr, if_pos hr]
    have hmem : (g.ring h).getLastD 0 ∈ g.ring h := by
      have := last_split hr
      rw [this]
      simp
    obtain ⟨i, hni, hi, hrd⟩ := hI.rdy (held_ring hh hmem)
    rw [hni]
    exact fin _ _ (dStep_ring M room hands ts p g _ w0 w h pick hE hh h6 hz ht hn' hr i hi hni)
  rw [if_neg hr, if_neg hr]
  have hr' : g.ring h = [] := Classical.not_not.1 hr
  by_cases hs : g.sp ≠ []
  · rw [if_pos hs, if_pos hs]
    obtain ⟨x, rest, hx⟩ := List.exists_cons_of_ne_nil hs
    obtain ⟨i, hni, hi, hrd⟩ := hI.rdy (held_sp (hands := hands) (x := x) (by rw [hx]; simp))
    subst hni
    have e1 : g.sp.headD 0 = (i : Int) := by rw [hx]; rfl
    rw [e1]
    exact fin _ _ (dStep_fetch M room hands ts p g _ w0 w h pick hE hh h6 h16 hz ht hn' hr' i hi rest hx)
  rw [if_neg hs, if_neg hs]
  have hs' : g.sp = [] := Classical.not_not.1 hs
  by_cases ho : pick % hands = h ∨ g.ring (pick % hands) = []
  · rw [if_pos ho, if_pos ho]
    have hzl : g.zz.length < 6 := by
      have h1 := Prk.nodup_sub_len (l := (h : Int) :: g.zz) (m := (List.range hands).map (fun k : Nat => (k : Int))) (List.nodup_cons.2 ⟨hz, hI.znd⟩) (fun x hx => by
        rcases List.mem_cons.1 hx with e | e
        · exact List.mem_map.2 ⟨h, List.mem_range.2 hh, e.symm⟩
        · obtain ⟨k, h1, h2, -⟩ := hI.zr x e
          exact List.mem_map.2 ⟨k, List.mem_range.2 h1, h2.symm⟩)
      simp at h1
      omega
    exact fin _ _ (dStep_slept M room hands ts p g _ w0 w h pick hE hh h6 h16 hz hzl ht hn' hr' hs' hp63 ho)
  rw [if_neg ho, if_neg ho]
  have hne : pick % hands ≠ h := fun e => ho (Or.inl e)
  have hro : g.ring (pick % hands) ≠ [] := fun e => ho (Or.inr e)
  obtain ⟨ls, hls⟩ : ∃ ls, intsOf ls = (g.ring (pick % hands)).take (((g.ring (pick % hands)).length + 1) / 2) := by
    have : ∀ l : List Int, (∀ x, x ∈ l → 0 ≤ x) → ∃ ls, intsOf ls = l := by
      intro l
      induction l with
      | nil => intro _; exact ⟨[], rfl⟩
      | cons x l ih =>
        intro hx
        obtain ⟨ls, rfl⟩ := ih (fun y hy => hx y (List.mem_cons_of_mem _ hy))
        exact ⟨x.toNat :: ls, by simp [intsOf, Int.toNat_of_nonneg (hx x (List.mem_cons_self ..))]⟩
    exact this _ (fun x hx => by obtain ⟨j, rfl, -⟩ := hI.rdy (held_ring hO (List.mem_of_mem_take hx)); omega)
  have hlen : ls.length = ((g.ring (pick % hands)).length + 1) / 2 := by
    have h1 := congrArg List.length hls
    rw [intsOf_length, List.length_take] at h1
    have : 0 < (g.ring (pick % hands)).length := List.length_pos_iff.2 hro
    omega
  have hpos : 0 < (g.ring (pick % hands)).length := List.length_pos_iff.2 hro
  have hle := hI.ringLe _ hO
  have hst := dStep_robs M room hands ts p g _ w0 w h pick hE hh h6 h16 hr1 hz ht hn' hr' hs' hp63 (pick % hands) rfl hne ls hls (by omega) (by omega) (fun x hx => by
    have hx2 : ((x : Nat) : Int) ∈ (g.ring (pick % hands)).take (((g.ring (pick % hands)).length + 1) / 2) := by rw [← hls]; exact mem_intsOf.2 ⟨x, hx, rfl⟩
    obtain ⟨j, hj, hjl, -⟩ := hI.rdy (held_ring hO (List.mem_of_mem_take hx2))
    omega)
  have e1 : ∀ l : List Nat, (intsOf l).headD 0 = ((l.getD 0 0 : Nat) : Int) := fun l => by cases l <;> rfl
  unfold robs
  dsimp only
  rw [← hls]
  simp only [e1]
  exact fin _ _ hst
end Go.Proofs.YtchbncgifefegaaDoor
