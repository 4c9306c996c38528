/- The program's gang: workAt; Held; Step. The program's gang: Step. The program's gang: a Step, whatever it does. The program's gang: worksOf, emptyHands. The program's gang: New. -/
import Derived.Test.YtlfbdjeojgbniaaGreatDoorRcm33
import Derived.Test.YtlfbdjeojgbniaaGreatDoorRcm12

namespace Go.Proofs.YtlfbdjeojgbniaaGreatDoor
open Go.RowKit Go.Deep Go.Maps

variable {B : Bs} {G room hands : Nat} {ts : List (Int × List Int)} {g : Gs} {wk : Nat → Int} {own : Nat → Nat} {Q : Qp} {w w' : World}
theorem Pg.worked (h : Pg B G room hands ts g wk own Q w) (i : Nat) (x : Int) : Pg B G room hands ts g (updG wk i x) (relabel own w.heap.size 2) Q (w.setCell ⟨Q.WB, i, none⟩ (.int .i64 x)) := by
  refine h.setWk _ ((h.wrow.set i (.int .i64 x)).congr (fun k _ => ?_)) (Kc.store (b := Q.WB) h.lW i _)
  unfold updG
  split <;> rfl
set_option maxHeartbeats 2000000 in
theorem workAt_more (hP : Pg B G room hands ts g wk own Q w) (h i : Nat) (hi : i < ts.length) (hw : 1 < wk i) (hw2 : wk i ≤ 1000) (_h30 : ts.length ≤ 30) :
    Calls Tryz.prog 125 #[.pointer (some ⟨G, 0, none⟩), .int .i64 h, .int .i64 i] w fun e w' => e = .returned (.slice none 0 0) ∧ ∃ own', Pg B G room hands ts g (updG wk i (wk i - 1)) own' Q w' := by
  obtain ⟨-, -, -, -, -, c5⟩ := hP.c
  have ci := hP.wrow.cell hi
  have fi := hP.wrow.frozen i
  have hP2 := hP.worked i (wk i - 1)
  obtain ⟨-, -, -, -, -, d5⟩ := hP2.c
  have di := hP2.wrow.cell hi
  rw [updG_self] at di
  have HP2 : Hid (Pg B G room hands ts g (updG wk i (wk i - 1)) _ Q _) := hP2
  have hii : (i : Int) < (ts.length : Int) := by omega
  obtain ⟨m, hm⟩ : ∃ m : Nat, wk i = (m : Int) + 2 := ⟨(wk i - 2).toNat, by omega⟩
  rw [hm] at ci di d5 hw2 hw ⊢ HP2
  clear hP hP2 hm
  go_enter Tryz.func125, Tryz.ntmps125
  go_wp2
  go_ret
  exact ⟨rfl, _, HP2.out⟩
set_option maxHeartbeats 2000000 in
theorem workAt_last (hP : Pg B G room hands ts g wk own Q w) (hg : Good ts) (h i : Nat) (hh : h < hands) (h6 : hands ≤ 6) (hi : i < ts.length) (ht : g.task h = (i : Int)) (hrd : readyB ts g.S i = true) (hdn : Down ts g.S) (hsp : g.sp.length + (allH (g.near h) (g.ring h)).length ≤ 30) (hw : wk i = 1) :
    Calls Tryz.prog 125 #[.pointer (some ⟨G, 0, none⟩), .int .i64 h, .int .i64 i] w fun e w' => ∃ v, e = .returned v ∧ RowD w.heap.size w' v (endsD ts g h) ∧ ∃ own' Q', Pg B G room hands ts (ends ts room g h) (updG wk i 0) own' Q' w' := by
  obtain ⟨-, -, -, -, -, c5⟩ := hP.c
  have ci := hP.wrow.cell hi
  have fi := hP.wrow.frozen i
  have hP2 := hP.worked i 0
  obtain ⟨-, -, -, -, -, d5⟩ := hP2.c
  have di := hP2.wrow.cell hi
  rw [updG_self] at di
  have hfin := finish_any hP2 hg h i hh h6 hi ht hrd hdn hsp
  have hii : (i : Int) < (ts.length : Int) := by omega
  have h30 := hg.le
  rw [hw] at ci
  have hsz : (w.setCell ⟨Q.WB, i, none⟩ (.int .i64 0)).heap.size = w.heap.size := by simp
  rw [hsz] at hfin
  clear hP hP2 hg hrd hdn hsp ht hw hsz
  go_enter Tryz.func125, Tryz.ntmps125
  go_wp2_with (first | (go_at_call 156; refine hfin.mono ?_; clear hfin; rintro e w3 ⟨v, rfl, hv, own3, Q3, hP3⟩; have HV : Hid (RowD w.heap.size w3 v (endsD ts g h)) := hv; have HP3 : Hid (Pg B G room hands ts (ends ts room g h) (updG wk i 0) own3 Q3 w3) := hP3; obtain ⟨a, c, rfl⟩ := hv.shape; clear hv hP3))
  go_ret
  exact ⟨_, rfl, HV.out, own3, Q3, HP3.out⟩
end Go.Proofs.YtlfbdjeojgbniaaGreatDoor

namespace Go.Proofs.YtlfbdjeojgbniaaGreatDoor
open Go.RowKit Go.Deep Go.Maps

theorem zeroInt (w : World) : (zeroValue 3).run Tryz.prog w = .ok (.int .i64 0) w := by kernel_rfl
variable {B : Bs} {G room hands : Nat} {ts : List (Int × List Int)} {g : Gs} {wk : Nat → Int} {own : Nat → Nat} {Q : Qp} {w w' : World}
theorem step_range (hP : Pg B G room hands ts g wk own Q w) (h pick : Int) (hh : h < 0 ∨ (hands : Int) ≤ h) :
    Calls Tryz.prog 92 #[.pointer (some ⟨G, 0, none⟩), .int .i64 h, .int .i64 pick] w fun e w' => e = .returned (.tuple #[.slice none 0 0, .iface 97 (.int .i64 1)]) ∧ w' = w := by
  obtain ⟨-, -, c2, -, -, -⟩ := hP.c
  have haw := Prk.Awake_bad Q.Kb hands g.zz Q.vz h w hP.pk hh
  unfold Prk.errV at haw
  clear hP hh
  go_enter Tryz.func92, Tryz.ntmps92
  go_wp2_with (first | (go_at_call 124; refine haw.mono ?_; clear haw; rintro e w ⟨rfl, rfl⟩))
  go_ret2
  exact ⟨rfl, rfl⟩
theorem step_pick (hP : Pg B G room hands ts g wk own Q w) (h : Nat) (pick : Int) (hh : h < hands) (hp : pick < 0) :
    Calls Tryz.prog 92 #[.pointer (some ⟨G, 0, none⟩), .int .i64 h, .int .i64 pick] w fun e w' => e = .returned (.tuple #[.slice none 0 0, .iface 97 (.int .i64 1)]) ∧ w' = w := by
  obtain ⟨-, -, c2, -, -, -⟩ := hP.c
  have haw := Prk.Awake_good Q.Kb hands g.zz Q.vz h w hP.pk (by omega) (by omega)
  generalize Prk.memB g.zz (h : Int) = m at haw
  clear hP hh
  go_enter Tryz.func92, Tryz.ntmps92
  go_wp2_with (first | (go_at_call 124; refine haw.mono ?_; clear haw; rintro e w ⟨rfl, rfl⟩))
  go_ret2
  exact ⟨rfl, rfl⟩
theorem step_asleep (hP : Pg B G room hands ts g wk own Q w) (h pick : Nat) (hh : h < hands) (hz : (h : Int) ∈ g.zz) :
    Calls Tryz.prog 92 #[.pointer (some ⟨G, 0, none⟩), .int .i64 h, .int .i64 pick] w fun e w' => e = .returned (.tuple #[.slice none 0 0, .nilIface]) ∧ w' = w := by
  obtain ⟨-, -, c2, -, -, -⟩ := hP.c
  have haw := Prk.Awake_good Q.Kb hands g.zz Q.vz h w hP.pk (by omega) (by omega)
  have hm : Prk.memB g.zz (h : Int) = true := by simp [Prk.memB, hz]
  rw [hm] at haw
  simp only [Bool.not_true] at haw
  have hp0 : ¬ (pick : Int) < 0 := by omega
  clear hP hh hm hz
  go_enter Tryz.func92, Tryz.ntmps92
  go_wp2_with (first | (go_at_call 124; refine haw.mono ?_; clear haw; rintro e w ⟨rfl, rfl⟩))
  go_ret2
  exact ⟨rfl, rfl⟩
set_option maxRecDepth 100000 in
set_option maxHeartbeats 4000000 in
theorem step_has (hP : Pg B G room hands ts g wk own Q w) (h i pick : Nat) (hh : h < hands) (h6 : hands ≤ 6) (hz : (h : Int) ∉ g.zz) (ht : g.task h = (i : Int)) {R : Value → World → Prop}
    (hwk : Calls Tryz.prog 125 #[.pointer (some ⟨G, 0, none⟩), .int .i64 h, .int .i64 i] w fun e w' => ∃ a n c, e = .returned (.slice a n c) ∧ R (.slice a n c) w') :
    Calls Tryz.prog 92 #[.pointer (some ⟨G, 0, none⟩), .int .i64 h, .int .i64 pick] w fun e w' => ∃ v, e = .returned (.tuple #[v, .nilIface]) ∧ R v w' := by
  obtain ⟨-, -, c2, -, c4, -⟩ := hP.c
  have haw := Prk.Awake_good Q.Kb hands g.zz Q.vz h w hP.pk (by omega) (by omega)
  have hm : Prk.memB g.zz (h : Int) = false := by simp [Prk.memB, hz]
  rw [hm] at haw
  simp only [Bool.not_false] at haw
  have hp0 : ¬ (pick : Int) < 0 := by omega
  obtain ⟨n, D, hown, hn, hs, hD⟩ := hP.has.le
  have hkey := key_nat (y := h) (by omega)
  have hhas : Maps.has D (.int .i64 h) = true := by rw [(hD h hh).1, ht]; simp
  have hat0 := (hD h hh).2 (by rw [ht]; omega) (.lit (.int .i64 0))
  rw [ht] at hat0
  have HAT : Hid (D.atKey (.int .i64 h) (.lit (.int .i64 0)) = .lit (.int .i64 (i : Int))) := hat0
  clear hP hh hm hz hD hs hat0 ht
  go_enter Tryz.func92, Tryz.ntmps92
  go_wp2_with (first | (go_at_call 124; refine haw.mono ?_; clear haw; rintro e w ⟨rfl, rfl⟩) | (at_lookup; refine wpList_lookup_own_ok_int _ rfl _ _ 118 rfl 3 3 .i64 keyed3 Tryz.underlying118 Tryz.underlying3 (zeroInt _) Q.Mb n D rfl hown _ _ rfl hkey ?_; intro c hat hwc; rw [hhas]; obtain rfl : c = (i : Int) := by { have e := hat.symm.trans HAT.out; injection e with e; injection e }; clear hat hwc hown) | (go_at_call 125; refine hwk.mono ?_; clear hwk; rintro e w1 ⟨a, m, c, rfl, hR⟩; have HR : Hid (R (.slice a m c) w1) := hR; clear hR))
  go_ret2
  exact ⟨_, rfl, HR.out⟩
set_option maxRecDepth 100000 in
set_option maxHeartbeats 4000000 in
theorem step_free (hP : Pg B G room hands ts g wk own Q w) (h pick o : Nat) (hh : h < hands) (h6 : hands ≤ 6) (hz : (h : Int) ∉ g.zz) (ht : g.task h < 0) (hp63 : pick < 9223372036854775808) (ho : o = pick % hands) (a1 a2 a3 a4 : Int) {g' : Gs}
    (hfd : Calls Tryz.prog 126 #[.pointer (some ⟨G, 0, none⟩), .int .i64 h, .int .i64 o] w fun e w' => e = .returned (.agg #[.int .i64 a1, .int .i64 a2, .int .i64 a3, .int .i64 a4]) ∧ ∃ own' Q', Pg B G room hands ts g' wk own' Q' w') (hsz : ∀ (w' : World) own' Q', Pg B G room hands ts g' wk own' Q' w' → w.heap.size ≤ w'.heap.size) :
    Calls Tryz.prog 92 #[.pointer (some ⟨G, 0, none⟩), .int .i64 h, .int .i64 pick] w fun e w' => ∃ v, e = .returned (.tuple #[v, .nilIface]) ∧ RowD w.heap.size w' v [(a1, a2, a3, a4)] ∧ ∃ own' Q', Pg B G room hands ts g' wk own' Q' w' := by
  obtain ⟨-, -, c2, c3, c4, -⟩ := hP.c
  have haw := Prk.Awake_good Q.Kb hands g.zz Q.vz h w hP.pk (by omega) (by omega)
  have hm : Prk.memB g.zz (h : Int) = false := by simp [Prk.memB, hz]
  rw [hm] at haw
  simp only [Bool.not_false] at haw
  have hp0 : ¬ (pick : Int) < 0 := by omega
  obtain ⟨n, D, hown, hn, hs, hD⟩ := hP.has.le
  have hkey := key_nat (y := h) (by omega)
  have hhas : Maps.has D (.int .i64 h) = false := by rw [(hD h hh).1]; simp; omega
  have hmod : (pick : Int).tmod (hands : Int) = (o : Int) := by rw [ho]; exact Int.ofNat_tmod pick hands
  have hol : o < hands := by rw [ho]; exact Nat.mod_lt _ (by omega)
  have HSZ : Hid (∀ (w' : World) own' Q', Pg B G room hands ts g' wk own' Q' w' → w.heap.size ≤ w'.heap.size) := hsz
  have hh0 : ((hands : Int) == 0) = false := by simp; omega
  clear hP hm hz hD hs ht ho hsz
  go_enter Tryz.func92, Tryz.ntmps92
  go_wp2_with (first | (go_at_call 124; refine haw.mono ?_; clear haw; rintro e w ⟨rfl, rfl⟩) | (at_lookup; refine wpList_lookup_own_ok_int _ rfl _ _ 118 rfl 3 3 .i64 keyed3 Tryz.underlying118 Tryz.underlying3 (zeroInt _) Q.Mb n D rfl hown _ _ rfl hkey ?_; intro c hat hwc; rw [hhas]; clear hat hwc hown) | (go_at_call 126; refine hfd.mono ?_; clear hfd; rintro e w1 ⟨rfl, hR⟩; have HR : Hid (∃ own' Q', Pg B G room hands ts g' wk own' Q' w1) := hR; clear hR))
  go_ret2
  obtain ⟨own', Q', hP1⟩ := HR.out
  exact ⟨_, rfl, (RowD.one w1 (a1, a2, a3, a4)).mono (HSZ.out _ _ _ hP1), _, _, hP1.later0 (Kc.of_below ((Below.refl _ _).alloc (Nat.le_refl _) _))⟩
end Go.Proofs.YtlfbdjeojgbniaaGreatDoor

namespace Go.Proofs.YtlfbdjeojgbniaaGreatDoor
open Go.RowKit Go.Deep Go.Maps

theorem ofAll_len {g : Gs} {n h : Nat} (hh : h < n) : (ofH g h).length ≤ (ofAll g n).length := by
  induction n with
  | zero => omega
  | succ n ih =>
    rw [ofAll, List.length_append]
    by_cases e : h = n
    · subst e; omega
    · have := ih (by omega); omega
theorem Inv.room30 {ts : List (Int × List Int)} {room hands : Nat} {g : Gs} (hI : Inv ts room hands g) {h : Nat} (hh : h < hands) : g.sp.length + (allH (g.near h) (g.ring h)).length ≤ ts.length := by
  have h1 := hI.held_le
  have h2 := ofAll_len (g := g) hh
  unfold heldL at h1
  unfold ofH at h2
  simp only [List.length_append] at h1 h2
  omega
/-- What a program's step comes to. -/
def StepOut (G room hands : Nat) (ts : List (Int × List Int)) (g' : Gs) (ds : List Deed) (own : Nat → Nat) (w : World) (e : Ending) (w' : World) : Prop :=
  ∃ v, e = .returned (.tuple #[v, .nilIface]) ∧ RowD w.heap.size w' v ds ∧ ∃ B' own' Q' wk', Pg B' G room hands ts g' wk' own' Q' w' ∧ WkOk ts hands g' wk' ∧ Went own own' w w'
variable {B : Bs} {G room hands : Nat} {ts : List (Int × List Int)} {g : Gs} {wk : Nat → Int} {own : Nat → Nat} {Q : Qp} {w w' : World}
theorem step_any (hP : Pg B G room hands ts g wk own Q w) (hI : Inv ts room hands g) (hK : WkOk ts hands g wk) (hg : Good ts) (hw : ∀ i, i < ts.length → 1 ≤ workOf ts i ∧ workOf ts i ≤ 1000) (hr1 : 1 ≤ room) (h16 : room ≤ 16) (h6 : hands ≤ 6) (h pick : Nat) (hh : h < hands) (hp63 : pick < 9223372036854775808) :
    Calls Tryz.prog 92 #[.pointer (some ⟨G, 0, none⟩), .int .i64 h, .int .i64 pick] w (StepOut G room hands ts (gstep ts room hands g h pick) (gdeeds ts hands g h pick) own w) := by
  have hB := hP.rebase
  have h30 := hg.le
  have hO : pick % hands < hands := Nat.mod_lt _ (by omega)
  unfold gstep gdeeds
  by_cases hz : (h : Int) ∈ g.zz
  · rw [if_pos hz, if_pos hz]
    refine (step_asleep hB h pick hh hz).mono ?_
    rintro e w' ⟨rfl, rfl⟩
    exact ⟨_, rfl, RowD.nil _ _, _, _, _, _, hB, hK, hB.went⟩
  rw [if_neg hz, if_neg hz]
  by_cases ht : 0 ≤ g.task h
  · rw [if_pos ht, if_pos ht]
    obtain ⟨i, hti, hi, hrd⟩ := hI.rdy (held_task hh ht)
    have hwo := hI.workOk h hh ht
    have hwi := hK.1 h hh ht
    rw [hti, Int.toNat_natCast] at hwi hwo
    have hwle := hw i hi
    by_cases hk : 1 < g.work h
    · rw [if_pos hk, if_pos hk]
      refine (step_has hB h i pick hh h6 hz hti (R := fun v w' => v = .slice none 0 0 ∧ ∃ own', Pg ⟨fun k => k < w.heap.size ∧ own k = 9, w⟩ G room hands ts g (updG wk i (wk i - 1)) own' Q w') ((workAt_more hB h i hi (by omega) (by omega) h30).mono fun e w' hh2 => ⟨none, 0, 0, hh2.1, rfl, hh2.2⟩)).mono ?_
      rintro e w' ⟨v, rfl, rfl, own', hP'⟩
      exact ⟨_, rfl, RowD.nil _ _, _, _, _, _, hP'.sameWork _, hK.works hI hh hti, hP'.went⟩
    · rw [if_neg hk, if_neg hk]
      have hro := hI.room30 hh
      refine (step_has hB h i pick hh h6 hz hti (R := fun v w' => RowD w.heap.size w' v (endsD ts g h) ∧ ∃ own' Q', Pg ⟨fun k => k < w.heap.size ∧ own k = 9, w⟩ G room hands ts (ends ts room g h) (updG wk i 0) own' Q' w') ((workAt_last hB hg h i hh h6 hi hti hrd hI.down (by omega) (by omega)).mono fun e w' hh2 => by
        obtain ⟨v, rfl, hv, hr⟩ := hh2
        obtain ⟨a, c, rfl⟩ := hv.shape
        exact ⟨a, _, c, rfl, hv, hr⟩)).mono ?_
      rintro e w' ⟨v, rfl, hv, own', Q', hP'⟩
      exact ⟨_, rfl, hv, _, _, _, _, hP', hK.ends hI hh hti 0, hP'.went⟩
  rw [if_neg ht, if_neg ht]
  have htn : g.task h < 0 := by omega
  by_cases hn : g.near h ≠ -1
  · rw [if_pos hn, if_pos hn]
    obtain ⟨i, hni, hi, hrd⟩ := hI.rdy (held_near hh hn)
    have hfr := hI.free_hand hh (x := g.near h) (by rw [allH_some hn]; simp)
    have hf := find_took hB h i ((pick % hands : Nat) : Int) hh h6 (by omega) { g with near := updG g.near h (-1) } htn (fun own1 W hW => by
      have := hW.takeNear hh hn
      rw [hni] at this
      exact this)
    refine (step_free hB h pick _ hh h6 hz htn hp63 rfl 1 h i 0 hf (fun w' own' Q' hp => hp.w1le)).mono ?_
    rintro e w' ⟨v, rfl, hv, own', Q', hP'⟩
    rw [hni]
    rw [hni] at hfr
    exact ⟨_, rfl, hv, _, _, _, _, hP'.sameWork _, hK.takes rfl rfl rfl hh htn hi (ready_parts hrd).1 hfr, hP'.went⟩
  rw [if_neg hn, if_neg hn]
  have hn' : g.near h = -1 := by
    rcases Int.decEq (g.near h) (-1) with e | e
    · exact absurd e hn
    · exact e
  by_cases hr : g.ring h ≠ []
  · rw [if_pos hr, if_pos hr]
    have hmem : (g.ring h).getLastD 0 ∈ g.ring h := by
      have := last_split hr
      rw [this]
      simp
    obtain ⟨i, hni, hi, hrd⟩ := hI.rdy (held_ring hh hmem)
    have hfr := hI.free_hand hh (x := (g.ring h).getLastD 0) (by rw [hn', allH_none]; exact hmem)
    have hf := find_took hB h i ((pick % hands : Nat) : Int) hh h6 (by omega) { g with ring := updG g.ring h (g.ring h).dropLast } htn (fun own1 W hW => by
      have := hW.takeRing hh hn' hr
      rw [hni] at this
      exact this)
    refine (step_free hB h pick _ hh h6 hz htn hp63 rfl 1 h i 0 hf (fun w' own' Q' hp => hp.w1le)).mono ?_
    rintro e w' ⟨v, rfl, hv, own', Q', hP'⟩
    rw [hni]
    rw [hni] at hfr
    exact ⟨_, rfl, hv, _, _, _, _, hP'.sameWork _, hK.takes rfl rfl rfl hh htn hi (ready_parts hrd).1 hfr, hP'.went⟩
  rw [if_neg hr, if_neg hr]
  have hr' : g.ring h = [] := Classical.not_not.1 hr
  by_cases hs : g.sp ≠ []
  · rw [if_pos hs, if_pos hs]
    obtain ⟨x, rest, hx⟩ := List.exists_cons_of_ne_nil hs
    have hmem : x ∈ g.sp := by rw [hx]; simp
    obtain ⟨i, hni, hi, hrd⟩ := hI.rdy (held_sp (hands := hands) hmem)
    subst hni
    have hfr := hI.free_sp hmem
    have hf := find_fetched hB h i ((pick % hands : Nat) : Int) hh h6 (by omega) htn hn' hr' rest hx
    refine (step_free hB h pick _ hh h6 hz htn hp63 rfl 3 h i 0 hf (fun w' own' Q' hp => hp.w1le)).mono ?_
    rintro e w' ⟨v, rfl, hv, own', Q', hP'⟩
    have e1 : g.sp.headD 0 = (i : Int) := by rw [hx]; rfl
    rw [e1]
    exact ⟨_, rfl, hv, _, _, _, _, hP'.sameWork _, hK.takes rfl rfl rfl hh htn hi (ready_parts hrd).1 hfr, hP'.went⟩
  rw [if_neg hs, if_neg hs]
  have hs' : g.sp = [] := Classical.not_not.1 hs
  by_cases ho : pick % hands = h ∨ g.ring (pick % hands) = []
  · rw [if_pos ho, if_pos ho]
    have hf := find_slept hB h (pick % hands) hh hO h6 hn' hr' hs' hz ho
    refine (step_free hB h pick _ hh h6 hz htn hp63 rfl 5 h 0 0 hf (fun w' own' Q' hp => hp.w1le)).mono ?_
    rintro e w' ⟨v, rfl, hv, own', Q', hP'⟩
    exact ⟨_, rfl, hv, _, _, _, _, hP', ⟨hK.1, hK.2⟩, hP'.went⟩
  rw [if_neg ho, if_neg ho]
  have hne : pick % hands ≠ h := fun e => ho (Or.inl e)
  have hro : g.ring (pick % hands) ≠ [] := fun e => ho (Or.inr e)
  have hpos : 0 < (g.ring (pick % hands)).length := List.length_pos_iff.2 hro
  obtain ⟨x, rest, hx⟩ : ∃ x rest, (g.ring (pick % hands)).take (((g.ring (pick % hands)).length + 1) / 2) = x :: rest := List.exists_cons_of_ne_nil (by intro e; rcases List.take_eq_nil_iff.1 e with e | e; { omega }; { exact hro e })
  have hmem : x ∈ g.ring (pick % hands) := List.mem_of_mem_take (i := ((g.ring (pick % hands)).length + 1) / 2) (by rw [hx]; simp)
  obtain ⟨i, hni, hi, hrd⟩ := hI.rdy (held_ring hO hmem)
  subst hni
  have hfr := hI.free_hand hO (x := (i : Int)) (by unfold allH; split <;> simp [hmem])
  have hf := find_stole hB h i (pick % hands) hh hO hne h6 (by omega) htn hn' hr' hs' (by have := hI.ringLe _ hO; omega) (fun y hy => by obtain ⟨j, rfl, -⟩ := hI.rdy (held_ring hO hy); omega) rest hx
  refine (step_free hB h pick _ hh h6 hz htn hp63 rfl 2 h i ((pick % hands : Nat) : Int) hf (fun w' own' Q' hp => hp.w1le)).mono ?_
  rintro e w' ⟨v, rfl, hv, own', Q', hP'⟩
  unfold robs
  rw [hx]
  exact ⟨_, rfl, hv, _, _, _, _, hP'.sameWork _, hK.takes (g1 := puts room { g with ring := updG g.ring (pick % hands) ((g.ring (pick % hands)).drop (((g.ring (pick % hands)).length + 1) / 2)) } h rest) rfl rfl rfl hh htn hi (ready_parts hrd).1 hfr, hP'.went⟩
end Go.Proofs.YtlfbdjeojgbniaaGreatDoor

namespace Go.Proofs.YtlfbdjeojgbniaaGreatDoor
open Go.RowKit Go.Deep Go.Maps

theorem PlanAt.task {w : World} {v : Value} {ts : List (Int × List Int)} (h : PlanAt w v ts) {k : Nat} (hk : k < ts.length) : ∃ b o c nv, v = .slice (some ⟨b, o, none⟩) ts.length c ∧ b < w.heap.size ∧ w.cell? ⟨b, o + k * 2, none⟩ = some (.int .i64 (workOf ts k)) ∧ w.cell? ⟨b, o + k * 2 + 1, none⟩ = some nv ∧ IntsAt w nv (needsOf ts k) := by
  obtain ⟨hl, a, c, rfl, h⟩ := h
  rcases h with e | ⟨b, o, rfl, hb, hc⟩
  · subst e; simp at hk
  · obtain ⟨h1, nv, h2, h3⟩ := hc k hk
    exact ⟨b, o, c, nv, rfl, hb, h1, h2, h3⟩
theorem Tryz.infoHandP : (Tryz.prog.info? 162).map (fun i => (i.zero, i.size, i.bytes)) = some (some (.pointer none), 1, 8) := by kernel_rfl
set_option maxRecDepth 100000 in
set_option maxHeartbeats 4000000 in
theorem worksOf_any (v : Value) (ts : List (Int × List Int)) (w : World) (hp : PlanAt w v ts) (h30 : ts.length ≤ 30) :
    Calls Tryz.prog 47 #[v] w fun e w' => e = .returned (.slice (some ⟨w.heap.size, 0, none⟩) ts.length ts.length) ∧ w'.rowIs w.heap.size 3 ts.length (fun k => .int .i64 (workOf ts k)) ∧ Below w.heap.size w w' := by
  have HP : Hid (PlanAt w v ts) := hp
  obtain ⟨a, c, rfl⟩ : ∃ a c, v = .slice a ts.length c := by obtain ⟨hl, a, c, hv, -⟩ := hp; exact ⟨a, c, hv⟩
  clear hp
  have hmk := fun wx => run_make_row' (P := Tryz.prog) 73 3 (.int .i64 0) 8 Tryz.underlying73 Tryz.info3 rfl .i64 .i64 ts.length (by omega) (by omega) wx
  go_enter Tryz.func47, Tryz.ntmps47
  go_upto_region 2 with fail
  obtain ⟨W, hW⟩ : ∃ W, W = w.alloc (.cells (madeCells #[.int .i64 0] ts.length) 3) := ⟨_, rfl⟩
  rw [← hW]
  have HW : Hid (W.rowIs w.heap.size 3 ts.length (fun k => if k < 0 then .int .i64 (workOf ts k) else .int .i64 0) ∧ Below w.heap.size w W ∧ w.heap.size < W.heap.size) := by
    rw [hW]
    exact ⟨⟨_, heap_alloc_new w _, size_madeCells _ _, fun i hi => by simp [madeCells, hi, Nat.mod_one]⟩, (Below.refl _ _).alloc (Nat.le_refl _) _, by simp⟩
  clear hW hmk
  go_wp2
  go_loopw [11] (fun s11 wr => ∃ k : Nat, s11 = .int .i64 k ∧ k ≤ ts.length ∧ Hid (wr.rowIs w.heap.size 3 ts.length (fun j => if j < k then .int .i64 (workOf ts j) else .int .i64 0) ∧ Below w.heap.size w wr ∧ w.heap.size < wr.heap.size)) (fun s11 _ => ts.length - (intOf s11).toNat)
  case atStart => exact ⟨0, rfl, Nat.zero_le _, HW⟩
  case round =>
    clear HW
    obtain ⟨k, rfl, hk, hR⟩ := hrel
    by_cases hkl : k < ts.length
    · have hkl' : (k : Int) < (ts.length : Int) := by omega
      obtain ⟨b, o, c', nv, hv, hbl, hcw, hcn, hi⟩ := (HP.out.later (hR.out.2.1)).task hkl
      simp only [Value.slice.injEq, true_and] at hv
      obtain ⟨rfl, rfl⟩ := hv
      obtain ⟨na, nl, nc, rfl⟩ : ∃ na nl nc, nv = .slice na nl nc := by obtain ⟨_, a, c, hv, _⟩ := hi; exact ⟨a, _, c, hv⟩
      obtain ⟨x, hx⟩ : ∃ x, x = workOf ts k := ⟨_, rfl⟩
      rw [← hx] at hcw
      have hfz := hR.out.1.frozen k
      have hck := hR.out.1.cell hkl
      rw [if_neg (by omega)] at hck
      have hlt := hR.out.2.2
      have HX : Hid (x = workOf ts k) := hx
      clear hx hi
      go_wp2
      refine ⟨⟨k + 1, by go_num, by omega, ?_⟩, by simp [intOf]; omega⟩
      show _ ∧ _ ∧ _
      refine ⟨((hR.out.1.set k (.int .i64 x)).of_block (Below.heap_alloc _ _ _ (by simp; omega))).congr (fun j _ => ?_), (hR.out.2.1.setCell (p := ⟨w.heap.size, k, none⟩) (Nat.le_refl _) _).alloc (by simp; omega) _, by simp; omega⟩
      by_cases e : j = k
      · subst e
        rw [if_pos rfl, if_pos (by omega), HX.out]
      · rw [if_neg e]
        by_cases e2 : j < k
        · rw [if_pos e2, if_pos (by omega)]
        · rw [if_neg e2, if_neg (by omega)]
    · have hkl' : ¬ (k : Int) < (ts.length : Int) := by omega
      go_wp2
      go_ret
      exact ⟨rfl, hR.out.1.congr (fun j hj => by rw [if_pos (by omega)]), hR.out.2.1⟩
/-- So many hands, one behind the other, none of which has anything. -/
structure EmH (s count room : Nat) (w0 w : World) : Prop where
  row : w.rowIs s 162 count (fun j => .pointer (some ⟨s + 2 + 2 * j, 0, none⟩))
  hand : ∀ j, j < count → Hnd.Hd (s + 2 + 2 * j) (s + 1 + 2 * j) room (-1) [] w
  size : w.heap.size = s + 1 + 2 * count
  below : Below w0.heap.size w0 w
set_option maxRecDepth 100000 in
set_option maxHeartbeats 4000000 in
theorem emptyHands_any (count room : Nat) (w : World) (h6 : count ≤ 6) (h1 : 1 ≤ room) (h16 : room ≤ 16) :
    Calls Tryz.prog 44 #[.int .i64 count, .int .i64 room] w fun e w' => e = .returned (.tuple #[.slice (some ⟨w.heap.size, 0, none⟩) count count, .nilIface]) ∧ EmH w.heap.size count room w w' := by
  have hmk := fun wx => run_make_row' (P := Tryz.prog) 113 162 (.pointer none) 8 Tryz.underlying113 Tryz.infoHandP rfl .i64 .i64 count (by omega) (by omega) wx
  go_enter Tryz.func44, Tryz.ntmps44
  go_upto_region 2 with fail
  obtain ⟨W, hW⟩ : ∃ W, W = w.alloc (.cells (madeCells #[.pointer none] count) 162) := ⟨_, rfl⟩
  rw [← hW]
  have HW : Hid (W.rowIs w.heap.size 162 count (fun j => if j < 0 then .pointer (some ⟨w.heap.size + 2 + 2 * j, 0, none⟩) else .pointer none) ∧ (∀ j, j < 0 → Hnd.Hd (w.heap.size + 2 + 2 * j) (w.heap.size + 1 + 2 * j) room (-1) [] W) ∧ W.heap.size = w.heap.size + 1 + 2 * 0 ∧ Below w.heap.size w W) := by
    rw [hW]
    exact ⟨⟨_, heap_alloc_new w _, size_madeCells _ _, fun i hi => by simp [madeCells, hi, Nat.mod_one]⟩, fun j hj => by omega, by simp, (Below.refl _ _).alloc (Nat.le_refl _) _⟩
  clear hW hmk
  go_wp2
  go_loopw [14, 9] (fun s14 s9 wr => ∃ k : Nat, s14 = .int .i64 k ∧ k ≤ count ∧ Hid (wr.rowIs w.heap.size 162 count (fun j => if j < k then .pointer (some ⟨w.heap.size + 2 + 2 * j, 0, none⟩) else .pointer none) ∧ (∀ j, j < k → Hnd.Hd (w.heap.size + 2 + 2 * j) (w.heap.size + 1 + 2 * j) room (-1) [] wr) ∧ wr.heap.size = w.heap.size + 1 + 2 * k ∧ Below w.heap.size w wr)) (fun s14 _ _ => count - (intOf s14).toNat)
  case atStart => exact ⟨0, rfl, Nat.zero_le _, HW⟩
  case round =>
    clear HW
    obtain ⟨k, rfl, hk, hR⟩ := hrel
    by_cases hkl : k < count
    · have hkl' : (k : Int) < (count : Int) := by omega
      have hn := Hnd.hNew_good room wr h1 h16
      go_wp2_with (first | (go_at_call 83; refine hn.mono ?_; clear hn; rintro e w2 ⟨rfl, hH, hb, hs⟩; have hr2 := hR.out.1.of_block (hb.block _ hR.out.1.lt); have hfz := hr2.frozen k; have hck := hr2.cell hkl; rw [if_neg (by omega)] at hck; have HH : Hid (Hnd.Hd (wr.heap.size + 1) wr.heap.size room (-1) [] w2 ∧ Below wr.heap.size wr w2 ∧ w2.heap.size = wr.heap.size + 2) := ⟨hH, hb, hs⟩; clear hH hb hs hr2))
      have hsz := hR.out.2.2.1
      refine ⟨⟨k + 1, by go_num, by omega, ?_⟩, by simp [intOf]; omega⟩
      obtain ⟨hH, hb, hs⟩ := HH.out
      have hne : ∀ b, b ≠ w.heap.size → (w2.setCell ⟨w.heap.size, k, none⟩ (.pointer (some ⟨wr.heap.size + 1, 0, none⟩))).heap[b]? = w2.heap[b]? := fun b hb => Below.heap_setCell _ _ _ _ (by show b ≠ w.heap.size; exact hb)
      show _ ∧ _ ∧ _ ∧ _
      refine ⟨((hR.out.1.of_block (hb.block _ hR.out.1.lt)).set k _).congr (fun j _ => ?_), fun j hj => ?_, by simp; omega, (hR.out.2.2.2.trans (hb.mono hR.out.2.2.2.size)).setCell (p := ⟨w.heap.size, k, none⟩) (Nat.le_refl _) _⟩
      · by_cases e : j = k
        · subst e
          rw [if_pos rfl, if_pos (by omega), hsz]
          congr 3
          omega
        · rw [if_neg e]
          by_cases e2 : j < k
          · rw [if_pos e2, if_pos (by omega)]
          · rw [if_neg e2, if_neg (by omega)]
      · by_cases e : j = k
        · subst e
          have := hH.of_blocks (hne _ (by omega)) (hne _ (by omega))
          generalize (w2.setCell ⟨w.heap.size, j, none⟩ (.pointer (some ⟨wr.heap.size + 1, 0, none⟩))) = W3 at this ⊢
          rw [hsz] at this
          rw [show w.heap.size + 2 + 2 * j = w.heap.size + 1 + 2 * j + 1 by omega]
          exact this
        · have hj2 := hR.out.2.1 j (by omega)
          exact (hj2.of_blocks (hb.block _ hj2.row.lt) (hb.block _ hj2.ring.lt)).of_blocks (hne _ (by omega)) (hne _ (by omega))
    · have hkl' : ¬ (k : Int) < (count : Int) := by omega
      obtain rfl : k = count := by omega
      go_wp2
      go_ret2
      exact ⟨rfl, hR.out.1.congr (fun j hj => by rw [if_pos (by omega)]), hR.out.2.1, hR.out.2.2.1, hR.out.2.2.2⟩
end Go.Proofs.YtlfbdjeojgbniaaGreatDoor

namespace Go.Proofs.YtlfbdjeojgbniaaGreatDoor
open Go.RowKit Go.Deep Go.Maps

theorem LbA.on {own own' : Nat → Nat} {A n : Nat} {w w' : World} (h : LbA own A n w) (hs : w.heap.size ≤ w'.heap.size) (hA : w'.heap[A]? = w.heap[A]?) (ho : ∀ b, b < w.heap.size → own' b = own b) : LbA own' A n w' := fun k v b hk hv hb => by
  have := h k v b hk ((World.cell?_of_block (a := ⟨A, k, none⟩) hA).symm.trans hv) hb
  exact ⟨Nat.lt_of_lt_of_le this.1 hs, (ho b this.1).trans this.2⟩
/-- Labels of what New makes, by where each part begins. -/
def ownN (s0 s1 s2 s3 s4 s5 s6 s7 s8 : Nat) : Nat → Nat := fun k =>
  if k < s0 then 9 else if k < s1 then 7 else if k < s2 then 4 else if k < s3 then 6 else if k = s3 then 1 else if k < s4 then 10 + (k - s3 - 1) / 2 else if k < s5 then 8 else if k < s6 then 6 else if k < s7 then 3 else if k < s8 then 2 else 0
/-- What New has made is a gang. -/
theorem gang_made {J M A D C hands room : Nat} {ts : List (Int × List Int)} {vs : Value} {w w1 w2 w3 w4 w5 w6 W7 w8 : World} (h6 : hands ≤ 6) (_r1 : 1 ≤ room)
    (HJ1 : JnT J M A D C ts (fun _ => false) w1 ∧ (w.heap.size ≤ J ∧ w.heap.size ≤ M ∧ w.heap.size ≤ A ∧ w.heap.size ≤ D) ∧ Below w.heap.size w w1)
    (HP2 : Prk.Pk w1.heap.size hands [] (.slice none 0 0) w2 ∧ Below w1.heap.size w1 w2) (HS3 : Spl.Sp w2.heap.size room [] (.slice none 0 0) w3 ∧ Below w2.heap.size w2 w3)
    (HE4 : EmH w3.heap.size hands room w3 w4 ∧ JnT J M A D C ts (fun _ => false) w4) (_HB5 : Below w4.heap.size w4 w5)
    (HS6 : Spl.Sp w2.heap.size room ([] ++ intsOf (readyTo ts (fun _ => false) ts.length)) vs w6 ∧ Spl.Ks w2.heap.size (Value.slice none 0 0).ownBlock w5 w6 ∧ Spl.Near w5.heap.size (.slice none 0 0) vs)
    (HALL : HasAt W7 w6.heap.size hands (fun _ => -1) ∧ (∀ k, k < w4.heap.size → k ≠ w2.heap.size → W7.heap[k]? = w4.heap[k]?) ∧ Below w.heap.size w W7 ∧ Below w6.heap.size w6 W7)
    (HSZ : w1.heap.size ≤ w2.heap.size ∧ w2.heap.size ≤ w3.heap.size ∧ w4.heap.size = w3.heap.size + 1 + 2 * hands ∧ w4.heap.size ≤ w5.heap.size ∧ w5.heap.size ≤ w6.heap.size ∧ W7.heap.size = w6.heap.size + 1 ∧ w1.heap.size < w2.heap.size ∧ w2.heap.size < w3.heap.size ∧ w.heap.size ≤ w1.heap.size)
    (HW8 : w8.rowIs W7.heap.size 3 ts.length (fun k => .int .i64 (workOf ts k)) ∧ Below W7.heap.size W7 w8) :
    ∃ own Q, Pg ⟨fun k => k < w.heap.size, w⟩ w8.heap.size room hands ts (gnew ts) (workOf ts) own Q (w8.alloc (.cells #[.pointer (some ⟨J, 0, none⟩), .pointer (some ⟨w2.heap.size, 0, none⟩), .pointer (some ⟨w1.heap.size, 0, none⟩), .slice (some ⟨w3.heap.size, 0, none⟩) hands hands, .map (some w6.heap.size), .slice (some ⟨W7.heap.size, 0, none⟩) ts.length ts.length] 121)) := by
  obtain ⟨hJ1, ⟨j1, j2, j3, j4⟩, b01⟩ := HJ1
  obtain ⟨hP2, b12⟩ := HP2
  obtain ⟨hS3, b23⟩ := HS3
  obtain ⟨hE4, hJ4⟩ := HE4
  obtain ⟨hS6, k6, hn6⟩ := HS6
  obtain ⟨hhas, k47, b07, b67⟩ := HALL
  obtain ⟨s12, s23, s34, s45, s56, s67, t12, t23, s01⟩ := HSZ
  obtain ⟨hw8, b78⟩ := HW8
  have s78 := b78.size
  have hWlt := hw8.lt
  obtain ⟨W9, hW9⟩ : ∃ W9, W9 = w8.alloc (.cells #[.pointer (some ⟨J, 0, none⟩), .pointer (some ⟨w2.heap.size, 0, none⟩), .pointer (some ⟨w1.heap.size, 0, none⟩), .slice (some ⟨w3.heap.size, 0, none⟩) hands hands, .map (some w6.heap.size), .slice (some ⟨W7.heap.size, 0, none⟩) ts.length ts.length] 121) := ⟨_, rfl⟩
  rw [← hW9]
  have k89 : ∀ k, k < w8.heap.size → W9.heap[k]? = w8.heap[k]? := fun k hk => by rw [hW9]; exact Below.heap_alloc _ _ _ hk
  have s89 : W9.heap.size = w8.heap.size + 1 := by rw [hW9]; simp
  have k79 : ∀ k, k < W7.heap.size → W9.heap[k]? = W7.heap[k]? := fun k hk => (k89 k (by omega)).trans (b78.block k hk)
  have k49 : ∀ k, k < w4.heap.size → k ≠ w2.heap.size → W9.heap[k]? = w4.heap[k]? := fun k hk hne => (k79 k (by omega)).trans (k47 k hk hne)
  have k69 : ∀ k, k < w6.heap.size → W9.heap[k]? = w6.heap[k]? := fun k hk => (k79 k (by omega)).trans (b67.block k hk)
  have b34 := hE4.below
  have k14 : ∀ k, k < w1.heap.size → w4.heap[k]? = w1.heap[k]? := fun k hk => (b34.block k (by omega)).trans ((b23.block k (by omega)).trans (b12.block k hk))
  have k24 : ∀ k, k < w2.heap.size → w4.heap[k]? = w2.heap[k]? := fun k hk => (b34.block k (by omega)).trans (b23.block k (by omega))
  obtain ⟨own, hown⟩ : ∃ own, own = ownN w.heap.size w1.heap.size w2.heap.size w3.heap.size w4.heap.size w5.heap.size w6.heap.size W7.heap.size w8.heap.size := ⟨_, rfl⟩
  have l9 : ∀ k, k < w.heap.size → own k = 9 := fun k h => by rw [hown]; unfold ownN; rw [if_pos h]
  have l7 : ∀ k, w.heap.size ≤ k → k < w1.heap.size → own k = 7 := fun k h1 h2 => by rw [hown]; unfold ownN; rw [if_neg (by omega), if_pos (by omega)]
  have l4 : ∀ k, w1.heap.size ≤ k → k < w2.heap.size → own k = 4 := fun k h1 h2 => by rw [hown]; unfold ownN; rw [if_neg (by omega), if_neg (by omega), if_pos (by omega)]
  have l6 : ∀ k, w2.heap.size ≤ k → k < w3.heap.size → own k = 6 := fun k h1 h2 => by rw [hown]; unfold ownN; rw [if_neg (by omega), if_neg (by omega), if_neg (by omega), if_pos (by omega)]
  have l1 : own w3.heap.size = 1 := by rw [hown]; unfold ownN; rw [if_neg (by omega), if_neg (by omega), if_neg (by omega), if_neg (by omega), if_pos rfl]
  have lh : ∀ k, w3.heap.size < k → k < w4.heap.size → own k = 10 + (k - w3.heap.size - 1) / 2 := fun k h1 h2 => by rw [hown]; unfold ownN; rw [if_neg (by omega), if_neg (by omega), if_neg (by omega), if_neg (by omega), if_neg (by omega), if_pos (by omega)]
  have l66 : ∀ k, w5.heap.size ≤ k → k < w6.heap.size → own k = 6 := fun k h1 h2 => by rw [hown]; unfold ownN; rw [if_neg (by omega), if_neg (by omega), if_neg (by omega), if_neg (by omega), if_neg (by omega), if_neg (by omega), if_neg (by omega), if_pos (by omega)]
  have l3 : own w6.heap.size = 3 := by rw [hown]; unfold ownN; rw [if_neg (by omega), if_neg (by omega), if_neg (by omega), if_neg (by omega), if_neg (by omega), if_neg (by omega), if_neg (by omega), if_neg (by omega), if_pos (by omega)]
  have l2 : own W7.heap.size = 2 := by rw [hown]; unfold ownN; rw [if_neg (by omega), if_neg (by omega), if_neg (by omega), if_neg (by omega), if_neg (by omega), if_neg (by omega), if_neg (by omega), if_neg (by omega), if_neg (by omega), if_pos (by omega)]
  have l0 : own w8.heap.size = 0 := by rw [hown]; unfold ownN; rw [if_neg (by omega), if_neg (by omega), if_neg (by omega), if_neg (by omega), if_neg (by omega), if_neg (by omega), if_neg (by omega), if_neg (by omega), if_neg (by omega), if_neg (by omega)]
  clear hown
  have jJ := (Jn.row hJ1).lt
  have jM := (Jn.miss hJ1).lt
  have jA := Jn.ltA hJ1
  have jD := (Jn.done hJ1).lt
  have k19 : ∀ k, k < w1.heap.size → W9.heap[k]? = w1.heap[k]? := fun k hk => (k49 k (by omega) (by omega)).trans (k14 k hk)
  rw [List.nil_append] at hS6
  have hvs : ∀ k, vs.ownBlock = some k → w5.heap.size ≤ k ∧ k < w6.heap.size := fun k e => by
    rcases hn6 k e with h | h
    · simp [Value.ownBlock] at h
    · exact ⟨h, (hS6.row.low e).2⟩
  refine ⟨own, ⟨J, M, A, D, C, w2.heap.size, vs, w1.heap.size, .slice none 0 0, w3.heap.size, fun j => w3.heap.size + 2 + 2 * j, fun j => w3.heap.size + 1 + 2 * j, w6.heap.size, W7.heap.size⟩, ?_⟩
  refine { row := ?_, lG := l0, jn := ?_, lJ := ⟨l7 _ j1 jJ, l7 _ j2 jM, l7 _ j3 jA, l7 _ j4 jD⟩, lA := ?_, sp := ?_, lS := ⟨l6 _ (Nat.le_refl _) t23, fun k e => l66 k (hvs k e).1 (hvs k e).2⟩, pk := ?_, lK := ⟨l4 _ (Nat.le_refl _) t12, fun k e => by simp [Value.ownBlock] at e⟩, hrow := ?_, lHB := l1, hand := ?_, lH := ?_, has := ?_, lM := l3, wrow := ?_, lW := l2, far := ?_, w1le := ?_, io := ?_ }
  · rw [hW9]
    refine World.rowIs_alloc _ _ _ _ ?_
    intro i hi
    change i < 6 at hi
    rcases (by omega : i = 0 ∨ i = 1 ∨ i = 2 ∨ i = 3 ∨ i = 4 ∨ i = 5) with rfl | rfl | rfl | rfl | rfl | rfl <;> rfl
  · exact Jn.of_blocks hJ1 (k19 _ jJ) (k19 _ jM) (k19 _ jA) (k19 _ jD) (fun k _ hk => k19 k hk)
  · intro k v b hk hv hb
    have hv1 := (World.cell?_of_block (a := ⟨A, k, none⟩) (k19 _ jA)).symm.trans hv
    obtain ⟨av, ha⟩ := Jn.aft hJ1
    have e := (ha.row.cell hk).symm.trans hv1
    simp only [Option.some.injEq] at e
    subst e
    have hl := (ha.own k hk).low hb
    have hC := Jn.lt hJ1
    exact ⟨by omega, l7 b (by omega) hl.2⟩
  · exact hS6.of_blocks (k69 _ (by omega)) (fun k e => k69 k (hvs k e).2)
  · exact hP2.of_blocks ((k49 _ (by omega) (by omega)).trans (k24 _ t12)) (fun k e => by simp [Value.ownBlock] at e)
  · exact hE4.row.of_block (k49 _ (by omega) (by omega))
  · intro k hk
    exact (hE4.hand k hk).of_blocks (k49 _ (by omega) (by omega)) (k49 _ (by omega) (by omega))
  · intro k hk
    exact ⟨by show own (w3.heap.size + 2 + 2 * k) = 10 + k; rw [lh _ (by omega) (by omega)]; omega, by show own (w3.heap.size + 1 + 2 * k) = 10 + k; rw [lh _ (by omega) (by omega)]; omega⟩
  · exact hhas.of_block (k79 _ (by omega))
  · exact hw8.of_block (k89 _ hw8.lt)
  · intro k hk
    exact ⟨hk, l9 k hk, (k79 k (by omega)).trans (b07.block k hk)⟩
  · show w.heap.size ≤ W9.heap.size
    omega
  · rw [hW9]
    exact ⟨b78.os.trans b07.os, b78.tape.trans b07.tape, b78.output.trans b07.output⟩

/-- What New tells. -/
def GangOut (room hands : Nat) (ts : List (Int × List Int)) (w : World) (e : Ending) (w' : World) : Prop :=
  ∃ G own Q, e = .returned (.tuple #[.pointer (some ⟨G, 0, none⟩), .nilIface]) ∧ Pg ⟨fun k => k < w.heap.size, w⟩ G room hands ts (gnew ts) (workOf ts) own Q w' ∧ w.heap.size ≤ G ∧ Below w.heap.size w w'
set_option maxRecDepth 100000 in
set_option maxHeartbeats 4000000 in
theorem gNew_good (v : Value) (ts : List (Int × List Int)) (w : World) (hp : PlanAt w v ts) (hc : CheckIs ts 0 0) (hands room : Nat) (h1 : 1 ≤ hands) (h6 : hands ≤ 6) (r1 : 1 ≤ room) (r16 : room ≤ 16) :
    Calls Tryz.prog 13 #[v, .int .i64 hands, .int .i64 room] w (GangOut room hands ts w) := by
  have hjn := new_good v ts w hp hc
  have h30 := hc.good.le
  have HP : Hid (PlanAt w v ts) := hp
  obtain ⟨pa, pc, rfl⟩ : ∃ a c, v = .slice a ts.length c := by obtain ⟨hl, a, c, hv, -⟩ := hp; exact ⟨a, c, hv⟩
  have hmk : ∀ wx, Sem.run Tryz.prog (Instr.makeMap 118 none) wx = .ok (.map (some wx.heap.size)) (wx.alloc (.map #[] 0)) := fun wx => by kernel_rfl
  clear hp hc
  go_enter Tryz.func13, Tryz.ntmps13
  go_upto_region 16 with (first
    | (go_at_call 12; refine hjn.mono ?_; clear hjn; rintro e w1 ⟨J, M, A, D, C, rfl, hJ1, hlow, hb1⟩; have hpk := Prk.New_good hands w1 h1 h6; have HJ1 : Hid (JnT J M A D C ts (fun _ => false) w1 ∧ (w.heap.size ≤ J ∧ w.heap.size ≤ M ∧ w.heap.size ≤ A ∧ w.heap.size ≤ D) ∧ Below w.heap.size w w1) := ⟨hJ1, hlow, hb1⟩; clear hJ1 hlow hb1)
    | (go_at_call 42; refine hpk.mono ?_; clear hpk; rintro e w2 ⟨rfl, hP2, hb2⟩; have hsp := Spl.New_good room w2 r1 r16; have HP2 : Hid (Prk.Pk w1.heap.size hands [] (.slice none 0 0) w2 ∧ Below w1.heap.size w1 w2) := ⟨hP2, hb2⟩; clear hP2 hb2)
    | (go_at_call 43; refine hsp.mono ?_; clear hsp; rintro e w3 ⟨rfl, hS3, hb3⟩; have hem := emptyHands_any hands room w3 h6 r1 r16; have HS3 : Hid (Spl.Sp w2.heap.size room [] (.slice none 0 0) w3 ∧ Below w2.heap.size w2 w3) := ⟨hS3, hb3⟩; clear hS3 hb3)
    | (go_at_call 44; refine hem.mono ?_; clear hem; rintro e w4 ⟨rfl, hE4⟩; have hJ4 := ((HJ1.out.1.later HP2.out.2).later HS3.out.2).later hE4.below; have hrd := jready_any J M A D C ts (fun _ => false) w4 hJ4; have HE4 : Hid (EmH w3.heap.size hands room w3 w4 ∧ JnT J M A D C ts (fun _ => false) w4) := ⟨hE4, hJ4⟩; clear hE4 hJ4)
    | (go_at_call 46; refine hrd.mono ?_; clear hrd; rintro e w5 ⟨⟨rv, rfl, hr5⟩, hb5⟩; obtain ⟨ra, rc, rfl⟩ := hr5.shape; have hput := Spl.Put_good w2.heap.size room [] (intsOf (readyTo ts (fun _ => false) ts.length)) (.slice none 0 0) _ _ w5 ((HS3.out.1.later HE4.out.1.below).later hb5) hr5.rds (by have := readyTo_len ts (fun _ => false) ts.length; rw [intsOf_length]; simp; omega); have HB5 : Hid (Below w4.heap.size w4 w5) := hb5; clear hb5 hr5)
    | (go_at_call 45; refine hput.mono ?_; clear hput; rintro e w6 ⟨rfl, vs, hS6, hk6, hn6⟩; have HS6 : Hid (Spl.Sp w2.heap.size room ([] ++ intsOf (readyTo ts (fun _ => false) ts.length)) vs w6 ∧ Spl.Ks w2.heap.size (Value.slice none 0 0).ownBlock w5 w6 ∧ Spl.Near w5.heap.size (.slice none 0 0) vs) := ⟨hS6, hk6, hn6⟩; clear hS6 hk6 hn6))
  obtain ⟨W7, hW7⟩ : ∃ W7, W7 = w6.alloc (.map #[] 0) := ⟨_, rfl⟩
  have s12 := HP2.out.2.size
  have s23 := HS3.out.2.size
  have s4e := HE4.out.1.size
  have s45 := HB5.out.size
  have s56 := HS6.out.2.1.size
  have s67 : W7.heap.size = w6.heap.size + 1 := by rw [hW7]; simp
  have k46 : ∀ k, k < w4.heap.size → k ≠ w2.heap.size → w6.heap[k]? = w4.heap[k]? := fun k hk hne => (HS6.out.2.1.block k (by omega) hne (by simp [Value.ownBlock])).trans (HB5.out.block k hk)
  have hKb := HP2.out.1.lt
  have hSb := HS3.out.1.lt
  have hJlt := Jn.row HE4.out.2 |>.lt
  have b01 := HJ1.out.2.2
  have s01 := b01.size
  have b04 : Below w.heap.size w w4 := ((b01.trans (HP2.out.2.mono s01)).trans (HS3.out.2.mono (by omega))).trans (HE4.out.1.below.mono (by omega))
  have b06 : Below w.heap.size w w6 := ⟨HS6.out.2.1.os.trans (HB5.out.os.trans b04.os), HS6.out.2.1.tape.trans (HB5.out.tape.trans b04.tape), HS6.out.2.1.output.trans (HB5.out.output.trans b04.output), by omega, fun k hk => (k46 k (by omega) (by omega)).trans (b04.block k hk)⟩
  have b07 : Below w.heap.size w W7 := by rw [hW7]; exact b06.alloc (by omega) _
  have hwo := worksOf_any _ ts W7 (HP.out.later b07) h30
  have hhas : HasAt W7 w6.heap.size hands (fun _ => -1) := by rw [hW7]; exact HasAt.start w6 hands
  have k47 : ∀ k, k < w4.heap.size → k ≠ w2.heap.size → W7.heap[k]? = w4.heap[k]? := fun k hk hne => by rw [hW7]; exact (Below.heap_alloc _ _ _ (by omega)).trans (k46 k hk hne)
  have b67 : Below w6.heap.size w6 W7 := by rw [hW7]; exact (Below.refl _ _).alloc (Nat.le_refl _) _
  have HALL : Hid (HasAt W7 w6.heap.size hands (fun _ => -1) ∧ (∀ k, k < w4.heap.size → k ≠ w2.heap.size → W7.heap[k]? = w4.heap[k]?) ∧ Below w.heap.size w W7 ∧ Below w6.heap.size w6 W7) := ⟨hhas, k47, b07, b67⟩
  have HW7 : Hid (W7 = w6.alloc (.map #[] 0)) := hW7
  have HSZ : Hid (w1.heap.size ≤ w2.heap.size ∧ w2.heap.size ≤ w3.heap.size ∧ w4.heap.size = w3.heap.size + 1 + 2 * hands ∧ w4.heap.size ≤ w5.heap.size ∧ w5.heap.size ≤ w6.heap.size ∧ W7.heap.size = w6.heap.size + 1 ∧ w1.heap.size < w2.heap.size ∧ w2.heap.size < w3.heap.size ∧ w.heap.size ≤ w1.heap.size) := ⟨s12, s23, s4e, s45, s56, s67, hKb, hSb, s01⟩
  clear hW7 k46 k47 b06 b07 b67 hhas s12 s23 s4e s45 s56 s67 hKb hSb b01 s01 b04 hJlt
  go_wp2_with (first | (go_at_call 47; rw [← HW7.out]; refine hwo.mono ?_; clear hwo; rintro e w8 ⟨rfl, hw8, hb8⟩; have HW8 : Hid (w8.rowIs W7.heap.size 3 ts.length (fun k => .int .i64 (workOf ts k)) ∧ Below W7.heap.size W7 w8) := ⟨hw8, hb8⟩; clear hw8 hb8))
  go_ret2
  obtain ⟨own, Q, hG⟩ := gang_made h6 r1 HJ1.out HP2.out HS3.out HE4.out HB5.out HS6.out HALL.out HSZ.out HW8.out
  have hs78 := HW8.out.2.size
  have hs07 := HALL.out.2.2.1.size
  exact ⟨_, own, Q, rfl, hG, by omega, (HALL.out.2.2.1.trans (HW8.out.2.mono hs07)).alloc (by omega) _⟩
end Go.Proofs.YtlfbdjeojgbniaaGreatDoor
