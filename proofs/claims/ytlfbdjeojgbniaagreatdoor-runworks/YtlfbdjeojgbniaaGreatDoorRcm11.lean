/- Plain: a step of a gang keeps what it holds. No word of the program. Plain: in so many rounds as there is work, and tasks, all are done. No word of the program. -/
import Derived.Test.YtlfbdjeojgbniaaGreatDoorRcm10

namespace Go.Proofs.YtlfbdjeojgbniaaGreatDoor
variable {ts : List (Int × List Int)} {room hands : Nat} {g : Gs}

theorem intsOf_nodup {l : List Nat} (h : l.Nodup) : (intsOf l).Nodup := by
  unfold intsOf
  exact List.Pairwise.map _ (fun a b hab e => hab (by have e2 : ((a : Nat) : Int) = ((b : Nat) : Int) := e; omega)) h
theorem mem_intsOf {l : List Nat} {x : Int} : x ∈ intsOf l ↔ ∃ k, k ∈ l ∧ x = ((k : Nat) : Int) := by
  unfold intsOf
  rw [List.mem_map]
  constructor
  · rintro ⟨k, h, rfl⟩; exact ⟨k, h, rfl⟩
  · rintro ⟨k, h, rfl⟩; exact ⟨k, h, rfl⟩
theorem perm_of_mem {l m : List Nat} (hl : l.Nodup) (hm : m.Nodup) (h : ∀ k, k ∈ l ↔ k ∈ m) : l.Perm m := (List.perm_ext_iff_of_nodup hl hm).2 h

theorem ready_mark {S : Nat → Bool} {i k : Nat} (h : readyB ts S k = true) (hk : k ≠ i) : readyB ts (mark S i) k = true := by
  obtain ⟨h1, h2⟩ := ready_parts h
  unfold readyB
  rw [mark_ne hk, h1, missN_zero.2 (fun y hy => mark_mono (missN_zero.1 h2 y hy))]
  rfl
/-- Those that are ready behind it, and it, are those that were ready, and the new ones. -/
theorem ready_after (hg : Good ts) {S : Nat → Bool} (hd : Down ts S) {i : Nat} (hi : i < ts.length) (hr : readyB ts S i = true) :
    (i :: readyTo ts (mark S i) ts.length).Perm (newL ts S i ++ readyTo ts S ts.length) := by
  have hS := (ready_parts hr).1
  have hni : readyB ts (mark S i) i = false := by simp [readyB, mark_self]
  refine perm_of_mem (List.nodup_cons.2 ⟨fun h => ?_, readyTo_nodup _ _ _⟩) (List.nodup_append.2 ⟨newL_nodup _ _ _, readyTo_nodup _ _ _, fun a ha b hb e => ?_⟩) (fun k => ?_)
  · have := (mem_readyTo.1 h).2
    rw [hni] at this
    cases this
  · subst e
    have h1 := ((mem_newL hg hd hi hS).1 ha).2.2
    have h2 := (mem_readyTo.1 hb).2
    rw [h1] at h2
    cases h2
  · rw [List.mem_cons, List.mem_append, mem_newL hg hd hi hS, mem_readyTo, mem_readyTo]
    constructor
    · rintro (rfl | ⟨h1, h2⟩)
      · exact Or.inr ⟨hi, hr⟩
      · cases h3 : readyB ts S k with
        | false => exact Or.inl ⟨h1, h2, rfl⟩
        | true => exact Or.inr ⟨h1, rfl⟩
    · rintro (⟨h1, h2, _⟩ | ⟨h1, h2⟩)
      · exact Or.inr ⟨h1, h2⟩
      · by_cases e : k = i
        · exact Or.inl e
        · exact Or.inr ⟨h1, ready_mark h2 e⟩

theorem int_ne {x h : Nat} (e : x ≠ h) : ((x : Nat) : Int) ≠ ((h : Nat) : Int) := by omega
/-- Who sleeps is another one than who is awake. -/
theorem Inv.other (hI : Inv ts room hands g) {h : Nat} (hz : (h : Int) ∉ g.zz) {x : Int} (hx : x ∈ g.zz) : ∃ k, k < hands ∧ x = ((k : Nat) : Int) ∧ k ≠ h ∧ g.task k = -1 ∧ g.near k = -1 ∧ g.ring k = [] := by
  obtain ⟨k, h1, h2, h3⟩ := hI.zr x hx
  refine ⟨k, h1, h2, fun e => hz ?_, h3⟩
  rw [← e, ← h2]
  exact hx

theorem held_sub {g' : Gs} (hp : (heldL g' hands).Perm (heldL g hands)) (hS : g'.S = g.S) (hI : Inv ts room hands g) : (heldL g' hands).Perm (intsOf (readyTo ts g'.S ts.length)) := by
  rw [hS]
  exact hp.trans hI.held

/-- A hand without a task has one of those that were held. -/
theorem Inv.takes (hI : Inv ts room hands g) (hw : ∀ i, i < ts.length → 1 ≤ workOf ts i) {g1 : Gs} {h : Nat} (hh : h < hands) (hz : (h : Int) ∉ g.zz) (i : Int) (hi : i ∈ heldL g hands)
    (hS : g1.S = g.S) (hzz : g1.zz = g.zz) (ht : g1.task = g.task) (hwk : g1.work = g.work) (hn : ∀ k, k ≠ h → g1.near k = g.near k ∨ False) (hr : ∀ k, k < hands → (g1.ring k).length ≤ room) (hrz : ∀ k, k ≠ h → g.ring k = [] → g1.ring k = [])
    (hp : (heldL (takes ts g1 h i) hands).Perm (heldL g hands)) : Inv ts room hands (takes ts g1 h i) := by
  obtain ⟨k, rfl, hk, hrd⟩ := hI.rdy hi
  have hn' : ∀ k, k ≠ h → g1.near k = g.near k := fun k e => (hn k e).elim id False.elim
  refine ⟨held_sub hp (show g1.S = g.S from hS) hI, ?_, fun x hx => ?_, ?_, fun _ => ⟨h, hh, ?_⟩, hr, fun k2 hk2 ht2 => ?_, fun k2 hk2 => ?_⟩
  · show Down ts g1.S
    rw [hS]; exact hI.down
  · have hx' : x ∈ g.zz := by rw [← hzz]; exact hx
    obtain ⟨a, h1, h2, h3, h4, h5, h6⟩ := hI.other hz hx'
    refine ⟨a, h1, h2, ?_, ?_, ?_⟩
    · show updG g1.task h _ a = -1
      rw [updG_ne _ _ h3, ht]; exact h4
    · show g1.near a = -1
      rw [hn' a h3]; exact h5
    · exact hrz a h3 h6
  · show g1.zz.Nodup
    rw [hzz]; exact hI.znd
  · show (h : Int) ∉ g1.zz
    rw [hzz]; exact hz
  · have ht2' : 0 ≤ updG g1.task h ((k : Nat) : Int) k2 := ht2
    show 1 ≤ updG g1.work h (workOf ts ((k : Nat) : Int).toNat) k2 ∧ updG g1.work h (workOf ts ((k : Nat) : Int).toNat) k2 ≤ workOf ts (updG g1.task h ((k : Nat) : Int) k2).toNat
    by_cases e : k2 = h
    · subst e
      rw [updG_self, updG_self]
      exact ⟨hw _ (by simpa using hk), Int.le_refl _⟩
    · rw [updG_ne _ _ e] at ht2'
      rw [updG_ne _ _ e, updG_ne _ _ e, hwk, ht]
      rw [ht] at ht2'
      exact hI.workOk k2 hk2 ht2'
  · show -1 ≤ updG g1.task h ((k : Nat) : Int) k2
    by_cases e : k2 = h
    · subst e; rw [updG_self]; omega
    · rw [updG_ne _ _ e, ht]; exact hI.taskM k2 hk2

/-- The hand alone has changed. -/
theorem held_one {g' : Gs} {h : Nat} (hh : h < hands) (he : ∀ k, k ≠ h → ofH g' k = ofH g k) (hs : g'.sp = g.sp) (hp : (ofH g' h).Perm (ofH g h)) : (heldL g' hands).Perm (heldL g hands) := by
  unfold heldL
  rw [hs]
  have := ofAll_one (g := g) (g' := g') hh he [] [] (by simpa using hp)
  simpa using this.append_right g.sp

theorem Inv.tookNear (hI : Inv ts room hands g) (hw : ∀ i, i < ts.length → 1 ≤ workOf ts i) {h : Nat} (hh : h < hands) (hz : (h : Int) ∉ g.zz) (ht : ¬ 0 ≤ g.task h) (hn : g.near h ≠ -1) :
    Inv ts room hands (YtlfbdjeojgbniaaGreatDoor.takes ts { g with near := updG g.near h (-1) } h (g.near h)) := by
  obtain ⟨k, hk, -, -⟩ := hI.rdy (held_near hh hn)
  refine hI.takes hw hh hz _ (held_near hh hn) rfl rfl rfl rfl (fun k e => Or.inl (updG_ne _ _ e)) (fun k hk => hI.ringLe k hk) (fun k e h => h) (held_one hh (fun k e => ?_) rfl ?_)
  · show oneT (updG g.task h _ k) ++ allH (updG g.near h _ k) (g.ring k) = _
    rw [updG_ne _ _ e, updG_ne _ _ e]; rfl
  · show (oneT (updG g.task h (g.near h) h) ++ allH (updG g.near h (-1) h) (g.ring h)).Perm (oneT (g.task h) ++ allH (g.near h) (g.ring h))
    have h0 : oneT (g.task h) = [] := by simp [oneT, ht]
    rw [updG_self, updG_self, allH_none, allH_some hn, h0, oneT_some (by omega)]
    simpa using (List.perm_append_singleton (g.near h) (g.ring h)).symm
theorem last_split {l : List Int} (h : l ≠ []) : l = l.dropLast ++ [l.getLastD 0] := by
  rw [List.getLastD_eq_getLast?, List.getLast?_eq_some_getLast h]
  exact (List.dropLast_concat_getLast h).symm
theorem Inv.tookRing (hI : Inv ts room hands g) (hw : ∀ i, i < ts.length → 1 ≤ workOf ts i) {h : Nat} (hh : h < hands) (hz : (h : Int) ∉ g.zz) (ht : ¬ 0 ≤ g.task h) (hn : g.near h = -1) (hr : g.ring h ≠ []) :
    Inv ts room hands (YtlfbdjeojgbniaaGreatDoor.takes ts { g with ring := updG g.ring h (g.ring h).dropLast } h ((g.ring h).getLastD 0)) := by
  have hs := last_split hr
  have hmem : (g.ring h).getLastD 0 ∈ heldL g hands := held_ring hh (by rw [hs]; simp)
  obtain ⟨k, hk, -, -⟩ := hI.rdy hmem
  refine hI.takes hw hh hz _ hmem rfl rfl rfl rfl (fun k e => Or.inl rfl) (fun k hk2 => ?_) (fun k e h => by show updG g.ring _ _ k = []; rw [updG_ne _ _ e]; exact h) (held_one hh (fun k e => ?_) rfl ?_)
  · show (updG g.ring h _ k).length ≤ room
    by_cases e : k = h
    · subst e; rw [updG_self]; have := hI.ringLe k hk2; simp; omega
    · rw [updG_ne _ _ e]; exact hI.ringLe k hk2
  · show oneT (updG g.task h _ k) ++ allH (g.near k) (updG g.ring h _ k) = _
    rw [updG_ne _ _ e, updG_ne _ _ e]; rfl
  · show (oneT (updG g.task h _ h) ++ allH (g.near h) (updG g.ring h _ h)).Perm (oneT (g.task h) ++ allH (g.near h) (g.ring h))
    have h0 : oneT (g.task h) = [] := by simp [oneT, ht]
    rw [updG_self, updG_self, hn, allH_none, allH_none, h0, oneT_some (by omega)]
    rw [List.nil_append]
    conv => rhs; rw [hs]
    simpa using (List.perm_append_singleton ((g.ring h).getLastD 0) (g.ring h).dropLast).symm
theorem Inv.fetched (hI : Inv ts room hands g) (hw : ∀ i, i < ts.length → 1 ≤ workOf ts i) {h : Nat} (hh : h < hands) (hz : (h : Int) ∉ g.zz) (ht : ¬ 0 ≤ g.task h) (hs : g.sp ≠ []) :
    Inv ts room hands (YtlfbdjeojgbniaaGreatDoor.takes ts { g with sp := g.sp.tail } h (g.sp.headD 0)) := by
  obtain ⟨x, r, hx⟩ := List.exists_cons_of_ne_nil hs
  have hmem : g.sp.headD 0 ∈ heldL g hands := held_sp (by rw [hx]; simp)
  obtain ⟨k, hk, -, -⟩ := hI.rdy hmem
  refine hI.takes hw hh hz _ hmem rfl rfl rfl rfl (fun k e => Or.inl rfl) (fun k hk => hI.ringLe k hk) (fun k e h => h) ?_
  have h0 : oneT (g.task h) = [] := by simp [oneT, ht]
  have hone := ofAll_one (g := g) (g' := YtlfbdjeojgbniaaGreatDoor.takes ts { g with sp := g.sp.tail } h (g.sp.headD 0)) hh (fun k e => ?_) [] [g.sp.headD 0] ?_
  · unfold heldL
    have hsp : (YtlfbdjeojgbniaaGreatDoor.takes ts { g with sp := g.sp.tail } h (g.sp.headD 0)).sp = g.sp.tail := rfl
    rw [hsp]
    refine (hone.append_right _).trans ?_
    rw [hx]
    simp only [List.headD_cons, List.tail_cons]
    show (x :: ofAll g hands ++ r).Perm (ofAll g hands ++ x :: r)
    exact List.perm_middle.symm
  · show oneT (updG g.task h _ k) ++ allH (g.near k) (g.ring k) = _
    rw [updG_ne _ _ e]; rfl
  · show ([] ++ (oneT (updG g.task h _ h) ++ allH (g.near h) (g.ring h))).Perm ([g.sp.headD 0] ++ (oneT (g.task h) ++ allH (g.near h) (g.ring h)))
    rw [updG_self, h0, oneT_some (by omega)]
    exact List.Perm.refl _

theorem Inv.works (hI : Inv ts room hands g) {h : Nat} (hw : 1 < g.work h) : Inv ts room hands { g with work := updG g.work h (g.work h - 1) } := by
  refine ⟨held_sub (g := g) ?_ rfl hI, hI.down, hI.zr, hI.znd, hI.awake, hI.ringLe, fun k hk ht => ?_, hI.taskM⟩
  · exact (List.Perm.of_eq (ofAll_congr (g := g) (g' := { g with work := updG g.work h (g.work h - 1) }) (fun k _ => rfl))).append_right g.sp
  · have h1 := hI.workOk k hk ht
    show 1 ≤ updG g.work h (g.work h - 1) k ∧ updG g.work h (g.work h - 1) k ≤ workOf ts (g.task k).toNat
    by_cases e : k = h
    · subst e; rw [updG_self]; omega
    · rw [updG_ne _ _ e]; exact h1

theorem Inv.slept (hI : Inv ts room hands g) {h : Nat} (hh : h < hands) (hz : (h : Int) ∉ g.zz) (ht : ¬ 0 ≤ g.task h) (hn : g.near h = -1) (hr : g.ring h = []) (hs : g.sp = []) : Inv ts room hands { g with zz := g.zz ++ [(h : Int)] } := by
  refine ⟨held_sub (g := g) ?_ rfl hI, hI.down, fun x hx => ?_, ?_, fun e => absurd hs e, hI.ringLe, hI.workOk, hI.taskM⟩
  · exact (List.Perm.of_eq (ofAll_congr (g := g) (g' := { g with zz := g.zz ++ [(h : Int)] }) (fun k _ => rfl))).append_right g.sp
  · rcases List.mem_append.1 hx with hx | hx
    · exact hI.zr x hx
    · exact ⟨h, hh, List.mem_singleton.1 hx, by have := hI.taskM h hh; show g.task h = -1; omega, hn, hr⟩
  · refine List.nodup_append.2 ⟨hI.znd, by simp, fun a ha b hb e => hz ?_⟩
    rw [← List.mem_singleton.1 hb, ← e]
    exact ha

theorem Inv.ends (hI : Inv ts room hands g) (hg : Good ts) (hr1 : 1 ≤ room) {h : Nat} (hh : h < hands) (hz : (h : Int) ∉ g.zz) (ht : 0 ≤ g.task h) : Inv ts room hands (YtlfbdjeojgbniaaGreatDoor.ends ts room g h) := by
  obtain ⟨i, hti, hil, hrd⟩ := hI.rdy (held_task hh ht)
  have hi : (g.task h).toNat = i := by omega
  have hS := (ready_parts hrd).1
  obtain ⟨l, hl⟩ : ∃ l, l = newL ts g.S i := ⟨_, rfl⟩
  obtain ⟨r, hr⟩ : ∃ r, r = putAll room (g.near h, g.ring h, g.sp) (intsOf l) := ⟨_, rfl⟩
  have he : YtlfbdjeojgbniaaGreatDoor.ends ts room g h = { S := mark g.S i, task := updG g.task h (-1), work := updG g.work h (g.work h - 1), near := updG g.near h r.1, ring := updG g.ring h r.2.1, sp := r.2.2, zz := g.zz.drop l.length } := by
    unfold YtlfbdjeojgbniaaGreatDoor.ends
    rw [hi, hr, hl]
  have hpos : ∀ n, n ∈ intsOf l → n ≠ -1 := fun n hn => by
    obtain ⟨k, -, rfl⟩ := mem_intsOf.1 hn
    omega
  have hpp := putAll_perm room (intsOf l) (g.near h, g.ring h, g.sp) hpos
  rw [← hr] at hpp
  rw [he]
  have hone := ofAll_one (g := g) (g' := { S := mark g.S i, task := updG g.task h (-1), work := updG g.work h (g.work h - 1), near := updG g.near h r.1, ring := updG g.ring h r.2.1, sp := r.2.2, zz := g.zz.drop l.length }) hh (fun k e => ?_) ((i : Int) :: r.2.2) (intsOf l ++ g.sp) ?_
  · have hall : ((i : Int) :: heldL { S := mark g.S i, task := updG g.task h (-1), work := updG g.work h (g.work h - 1), near := updG g.near h r.1, ring := updG g.ring h r.2.1, sp := r.2.2, zz := g.zz.drop l.length } hands).Perm (intsOf l ++ heldL g hands) := by
      unfold heldL
      refine List.Perm.trans ?_ (hone.trans ?_)
      · show ((i : Int) :: (ofAll _ hands ++ r.2.2)).Perm ((i : Int) :: (r.2.2 ++ ofAll _ hands))
        exact List.Perm.cons _ List.perm_append_comm
      · rw [List.append_assoc]
        exact List.Perm.append_left _ List.perm_append_comm
    have hrd2 := ready_after hg hI.down hil hrd
    have hrd3 : (intsOf (i :: readyTo ts (mark g.S i) ts.length)).Perm (intsOf (newL ts g.S i ++ readyTo ts g.S ts.length)) := hrd2.map _
    rw [intsOf_append, ← hl] at hrd3
    have hrd4 : ((i : Int) :: intsOf (readyTo ts (mark g.S i) ts.length)).Perm (intsOf l ++ intsOf (readyTo ts g.S ts.length)) := hrd3
    refine ⟨List.Perm.cons_inv (hall.trans ((List.Perm.append_left _ hI.held).trans hrd4.symm)), hI.down.mark hrd, fun x hx => ?_, hI.znd.sublist (List.drop_sublist _ _), fun _ => ⟨h, hh, fun hx => hz (List.mem_of_mem_drop hx)⟩, fun k hk => ?_, fun k hk ht2 => ?_, fun k hk => ?_⟩
    · obtain ⟨k, h1, h2, h3, h4, h5, h6⟩ := hI.other hz (List.mem_of_mem_drop hx)
      refine ⟨k, h1, h2, ?_, ?_, ?_⟩
      · show updG g.task h (-1) k = -1
        rw [updG_ne _ _ h3]; exact h4
      · show updG g.near h r.1 k = -1
        rw [updG_ne _ _ h3]; exact h5
      · show updG g.ring h r.2.1 k = []
        rw [updG_ne _ _ h3]; exact h6
    · show (updG g.ring h r.2.1 k).length ≤ room
      by_cases e : k = h
      · subst e
        rw [updG_self, hr]
        exact putAll_len hr1 _ _ (hI.ringLe k hk)
      · rw [updG_ne _ _ e]; exact hI.ringLe k hk
    · have ht3 : 0 ≤ updG g.task h (-1) k := ht2
      show 1 ≤ updG g.work h (g.work h - 1) k ∧ updG g.work h (g.work h - 1) k ≤ workOf ts (updG g.task h (-1) k).toNat
      by_cases e : k = h
      · subst e; rw [updG_self] at ht3; omega
      · rw [updG_ne _ _ e] at ht3
        rw [updG_ne _ _ e, updG_ne _ _ e]
        exact hI.workOk k hk ht3
    · show -1 ≤ updG g.task h (-1) k
      by_cases e : k = h
      · subst e; rw [updG_self]; omega
      · rw [updG_ne _ _ e]; exact hI.taskM k hk
  · show oneT (updG g.task h _ k) ++ allH (updG g.near h _ k) (updG g.ring h _ k) = _
    rw [updG_ne _ _ e, updG_ne _ _ e, updG_ne _ _ e]; rfl
  · show ((i : Int) :: r.2.2 ++ (oneT (updG g.task h (-1) h) ++ allH (updG g.near h r.1 h) (updG g.ring h r.2.1 h))).Perm (intsOf l ++ g.sp ++ (oneT (g.task h) ++ allH (g.near h) (g.ring h)))
    rw [updG_self, updG_self, updG_self, oneT_none, List.nil_append, oneT_some ht, hti]
    have h1 : ((i : Int) :: (r.2.2 ++ allH r.1 r.2.1)).Perm ((i : Int) :: (g.sp ++ allH (g.near h) (g.ring h) ++ intsOf l)) := List.Perm.cons _ hpp
    refine h1.trans ?_
    have h2 : ((i : Int) :: (g.sp ++ allH (g.near h) (g.ring h) ++ intsOf l)).Perm ((i : Int) :: (intsOf l ++ (g.sp ++ allH (g.near h) (g.ring h)))) := List.Perm.cons _ List.perm_append_comm
    refine h2.trans ?_
    rw [← List.append_assoc]
    show ((i : Int) :: ((intsOf l ++ g.sp) ++ allH (g.near h) (g.ring h))).Perm ((intsOf l ++ g.sp) ++ ((i : Int) :: allH (g.near h) (g.ring h)))
    exact List.perm_middle.symm

theorem half_len {n : Nat} (h : 0 < n) : 1 ≤ (n + 1) / 2 ∧ (n + 1) / 2 ≤ n := by omega
theorem Inv.robs (hI : Inv ts room hands g) (hw : ∀ i, i < ts.length → 1 ≤ workOf ts i) {h o : Nat} (hh : h < hands) (ho : o < hands) (hz : (h : Int) ∉ g.zz) (ht : ¬ 0 ≤ g.task h) (hn : g.near h = -1) (hr : g.ring h = []) (hoh : o ≠ h) (hor : g.ring o ≠ []) :
    Inv ts room hands (YtlfbdjeojgbniaaGreatDoor.robs ts room g h o) := by
  obtain ⟨k, hk⟩ : ∃ k, k = ((g.ring o).length + 1) / 2 := ⟨_, rfl⟩
  have hpos : 0 < (g.ring o).length := List.length_pos_iff.2 hor
  have hk1 : 1 ≤ k ∧ k ≤ (g.ring o).length := by rw [hk]; exact half_len hpos
  obtain ⟨x, l, hxl⟩ : ∃ x l, (g.ring o).take k = x :: l := List.exists_cons_of_ne_nil (by intro e; rcases List.take_eq_nil_iff.1 e with e | e; { omega }; { exact hor e })
  have hsub : ∀ y, y ∈ x :: l → y ∈ heldL g hands := fun y hy => held_ring ho (List.mem_of_mem_take (by rw [hxl]; exact hy))
  have hll : l.length + 1 = k := by
    have := congrArg List.length hxl
    simp at this
    omega
  obtain ⟨r, hrr⟩ : ∃ r, r = putAll room (-1, [], []) l := ⟨_, rfl⟩
  have hole := hI.ringLe o ho
  have hne : ∀ n, n ∈ l → n ≠ -1 := fun n hn => by
    obtain ⟨j, rfl, -⟩ := hI.rdy (hsub n (List.mem_cons_of_mem _ hn))
    omega
  have hp0 := putAll_perm room l (-1, [], []) hne
  have hnone := putAll_none room l (-1, [], []) (by simp; omega)
  rw [← hrr] at hp0 hnone
  rw [hnone] at hp0
  simp only [allH_none, List.nil_append] at hp0
  have hrl : r.2.1.length ≤ room := by
    rw [hrr]
    exact putAll_len (by omega) l _ (by simp)
  obtain ⟨g1, hg1⟩ : ∃ g1 : Gs, g1 = { g with near := updG g.near h r.1, ring := updG (updG g.ring o ((g.ring o).drop k)) h r.2.1 } := ⟨_, rfl⟩
  have he : YtlfbdjeojgbniaaGreatDoor.robs ts room g h o = YtlfbdjeojgbniaaGreatDoor.takes ts g1 h x := by
    unfold YtlfbdjeojgbniaaGreatDoor.robs
    have h1 : (updG g.ring o ((g.ring o).drop k)) h = [] := by rw [updG_ne _ _ (fun e => hoh e.symm)]; exact hr
    simp only [← hk, h1, hn, hxl, List.tail_cons, List.headD_cons, ← hrr]
    rw [hg1]
  rw [he]
  have hringo : g1.ring o = (g.ring o).drop k := by rw [hg1]; show updG _ h _ o = _; rw [updG_ne _ _ hoh, updG_self]
  have hringk : ∀ j, j ≠ h → j ≠ o → g1.ring j = g.ring j := fun j e1 e2 => by rw [hg1]; show updG _ h _ j = _; rw [updG_ne _ _ e1, updG_ne _ _ e2]
  have hringh : g1.ring h = r.2.1 := by rw [hg1]; exact updG_self _ _ _
  have hnear : ∀ j, j ≠ h → g1.near j = g.near j := fun j e => by rw [hg1]; exact updG_ne _ _ e
  have hnearh : g1.near h = r.1 := by rw [hg1]; exact updG_self _ _ _
  obtain ⟨g2, hg2⟩ : ∃ g2 : Gs, g2 = { g with ring := updG g.ring o ((g.ring o).drop k) } := ⟨_, rfl⟩
  have hx : x ∈ heldL g hands := hsub x (List.mem_cons_self ..)
  obtain ⟨j, hxj, -⟩ := hI.rdy hx
  refine hI.takes hw hh hz x hx (by rw [hg1]) (by rw [hg1]) (by rw [hg1]) (by rw [hg1]) (fun j e => Or.inl (hnear j e)) (fun j hj => ?_) (fun j e hj => ?_) ?_
  · by_cases e : j = h
    · subst e; rw [hringh]; exact hrl
    · by_cases e2 : j = o
      · subst e2; rw [hringo]; simp; omega
      · rw [hringk j e e2]; exact hI.ringLe j hj
  · by_cases e2 : j = o
    · subst e2; exact absurd hj hor
    · rw [hringk j e e2]; exact hj
  · have s1 := ofAll_one (g := g) (g' := g2) ho (fun j e => by rw [hg2]; show oneT (g.task j) ++ allH (g.near j) (updG g.ring o _ j) = _; rw [updG_ne _ _ e]; rfl) (x :: l) [] (by
      rw [hg2]
      show ((x :: l) ++ (oneT (g.task o) ++ allH (g.near o) (updG g.ring o ((g.ring o).drop k) o))).Perm ([] ++ (oneT (g.task o) ++ allH (g.near o) (g.ring o)))
      rw [updG_self, List.nil_append, ← hxl]
      refine (List.perm_append_comm_assoc _ _ _).trans (List.Perm.append_left _ ?_)
      unfold allH
      split
      · rw [List.take_append_drop]
      · rw [← List.append_assoc, List.take_append_drop])
    have s2 := ofAll_one (g := g2) (g' := YtlfbdjeojgbniaaGreatDoor.takes ts g1 h x) hh (fun j e => by
      show oneT (updG g1.task h x j) ++ allH (g1.near j) (g1.ring j) = oneT (g2.task j) ++ allH (g2.near j) (g2.ring j)
      rw [updG_ne _ _ e, hnear j e, hg2]
      have ht1 : g1.task j = g.task j := by rw [hg1]
      rw [ht1]
      congr 2
      show g1.ring j = updG g.ring o ((g.ring o).drop k) j
      by_cases e2 : j = o
      · subst e2; rw [hringo, updG_self]
      · rw [hringk j e e2, updG_ne _ _ e2]) [] (x :: l) (by
      show ([] ++ (oneT (updG g1.task h x h) ++ allH (g1.near h) (g1.ring h))).Perm ((x :: l) ++ (oneT (g2.task h) ++ allH (g2.near h) (g2.ring h)))
      have e1 : g2.ring h = [] := by rw [hg2]; show updG g.ring o _ h = []; rw [updG_ne _ _ (fun e => hoh e.symm)]; exact hr
      have e2 : g2.near h = -1 := by rw [hg2]; exact hn
      have e3 : g2.task h = g.task h := by rw [hg2]
      have h0 : oneT (g.task h) = [] := by simp [oneT, ht]
      rw [updG_self, e1, e2, e3, h0, hnearh, hringh, allH_none, oneT_some (by omega)]
      simpa using hp0)
    have hsp : (YtlfbdjeojgbniaaGreatDoor.takes ts g1 h x).sp = g.sp := by show g1.sp = g.sp; rw [hg1]
    unfold heldL
    rw [hsp]
    refine List.Perm.append_right _ ?_
    have := s2.trans s1
    simpa using this

/-- Whatever step is done. -/
theorem Inv.step (hI : Inv ts room hands g) (hg : Good ts) (hw : ∀ i, i < ts.length → 1 ≤ workOf ts i) (hr1 : 1 ≤ room) {h : Nat} (hh : h < hands) (pick : Nat) : Inv ts room hands (gstep ts room hands g h pick) := by
  unfold gstep
  by_cases hz : (h : Int) ∈ g.zz
  · rw [if_pos hz]; exact hI
  rw [if_neg hz]
  by_cases ht : 0 ≤ g.task h
  · rw [if_pos ht]
    by_cases hk : 1 < g.work h
    · rw [if_pos hk]; exact hI.works hk
    · rw [if_neg hk]; exact hI.ends hg hr1 hh hz ht
  rw [if_neg ht]
  by_cases hn : g.near h = -1
  · rw [if_neg (by simpa using hn)]
    by_cases hr : g.ring h = []
    · rw [if_neg (by simpa using hr)]
      by_cases hs : g.sp = []
      · rw [if_neg (by simpa using hs)]
        by_cases hp : pick % hands = h ∨ g.ring (pick % hands) = []
        · rw [if_pos hp]; exact hI.slept hh hz ht hn hr hs
        · rw [if_neg hp]
          exact hI.robs hw hh (Nat.mod_lt _ (by omega)) hz ht hn hr (fun e => hp (Or.inl e)) (fun e => hp (Or.inr e))
      · rw [if_pos hs]; exact hI.fetched hw hh hz ht hs
    · rw [if_pos hr]; exact hI.tookRing hw hh hz ht hn hr
  · rw [if_pos hn]; exact hI.tookNear hw hh hz ht hn
end Go.Proofs.YtlfbdjeojgbniaaGreatDoor

namespace Go.Proofs.YtlfbdjeojgbniaaGreatDoor
variable {ts : List (Int × List Int)} {room hands : Nat} {g : Gs}

theorem Inv.nodup (hI : Inv ts room hands g) : (heldL g hands).Nodup := hI.held.symm.nodup (intsOf_nodup (readyTo_nodup _ _ _))
theorem ofAll_apart {n : Nat} (hd : (ofAll g n).Nodup) : ∀ {h k : Nat}, h < n → k < n → h ≠ k → ∀ {x : Int}, x ∈ ofH g h → x ∈ ofH g k → False := by
  induction n with
  | zero => intro h k hh; omega
  | succ n ih =>
    intro h k hh hk hne x hx hy
    rw [ofAll] at hd
    have hd' := List.nodup_append.1 hd
    by_cases e : h = n
    · subst e
      exact hd'.2.2 x (mem_ofAll.2 ⟨k, by omega, hy⟩) x hx rfl
    · by_cases e2 : k = n
      · subst e2
        exact hd'.2.2 x (mem_ofAll.2 ⟨h, by omega, hx⟩) x hy rfl
      · exact ih hd'.1 (by omega) (by omega) hne hx hy
theorem ofAll_part {n : Nat} (hd : (ofAll g n).Nodup) : ∀ {h : Nat}, h < n → (ofH g h).Nodup := by
  induction n with
  | zero => intro h hh; omega
  | succ n ih =>
    intro h hh
    rw [ofAll] at hd
    have hd' := List.nodup_append.1 hd
    by_cases e : h = n
    · subst e; exact hd'.2.1
    · exact ih hd'.1 (by omega)
theorem Inv.oneHas (hI : Inv ts room hands g) {h k : Nat} (hh : h < hands) (hk : k < hands) (ht : 0 ≤ g.task h) (e : g.task k = g.task h) : k = h := by
  rcases Nat.decEq k h with hne | e2
  · exact absurd (ofAll_apart (List.nodup_append.1 hI.nodup).1 hk hh hne (x := g.task h) (by simp [ofH, ← e, oneT_some (show 0 ≤ g.task k by omega)]) (by simp [ofH, oneT_some ht])) id
  · exact e2
theorem Inv.free_hand (hI : Inv ts room hands g) {o : Nat} (ho : o < hands) {x : Int} (hx : x ∈ allH (g.near o) (g.ring o)) : ∀ k, k < hands → g.task k ≠ x := by
  intro k hk e
  have hmem : x ∈ heldL g hands := List.mem_append.2 (Or.inl (mem_ofAll.2 ⟨o, ho, by simp [ofH, hx]⟩))
  obtain ⟨j, hj, -⟩ := hI.rdy hmem
  have ht : 0 ≤ g.task k := by omega
  have hk1 : x ∈ oneT (g.task k) := by rw [oneT_some ht, e]; simp
  have hd := (List.nodup_append.1 hI.nodup).1
  by_cases e2 : k = o
  · subst e2
    exact (List.nodup_append.1 (ofAll_part hd hk)).2.2 x hk1 x hx rfl
  · exact ofAll_apart hd hk ho e2 (x := x) (by simp [ofH, hk1]) (by simp [ofH, hx])
theorem Inv.free_sp (hI : Inv ts room hands g) {x : Int} (hx : x ∈ g.sp) : ∀ k, k < hands → g.task k ≠ x := by
  intro k hk e
  obtain ⟨j, hj, -⟩ := hI.rdy (held_sp (hands := hands) hx)
  have ht : 0 ≤ g.task k := by omega
  have hd := List.nodup_append.1 hI.nodup
  exact hd.2.2 x (mem_ofAll.2 ⟨k, hk, by rw [ofH, oneT_some ht, e]; simp⟩) x hx rfl

def sumN (R : Nat → Nat) : Nat → Nat
  | 0 => 0
  | n + 1 => sumN R n + R n
theorem sumN_out (R : Nat → Nat) (i x : Nat) : ∀ n, n ≤ i → sumN (updG R i x) n = sumN R n := by
  intro n
  induction n with
  | zero => intro _; rfl
  | succ n ih => intro h; rw [sumN, sumN, ih (by omega), updG_ne _ _ (by omega)]
theorem sumN_in (R : Nat → Nat) {i x : Nat} (hx : x + 1 = R i) : ∀ n, i < n → sumN (updG R i x) n + 1 = sumN R n := by
  intro n
  induction n with
  | zero => intro h; omega
  | succ n ih =>
    intro h
    rw [sumN, sumN]
    by_cases e : n = i
    · subst e; rw [sumN_out R n x n (Nat.le_refl _), updG_self]; omega
    · rw [updG_ne _ _ e]; have := ih (by omega); omega
theorem sumN_zero {R : Nat → Nat} : ∀ {n : Nat}, sumN R n = 0 → ∀ i, i < n → R i = 0 := by
  intro n
  induction n with
  | zero => intro _ i hi; omega
  | succ n ih =>
    intro h i hi
    rw [sumN] at h
    by_cases e : i = n
    · subst e; omega
    · exact ih (by omega) i (by omega)
theorem sumN_all {R : Nat → Nat} {n : Nat} (h : ∀ i, i < n → R i = 0) : sumN R n = 0 := by
  induction n with
  | zero => rfl
  | succ n ih => rw [sumN, ih (fun i hi => h i (by omega)), h n (by omega)]

/-- How many times each task is still to be had, or a unit of it to be done. -/
structure Rem (ts : List (Int × List Int)) (hands : Nat) (g : Gs) (R : Nat → Nat) : Prop where
  dn : ∀ i, i < ts.length → g.S i = true → R i = 0
  had : ∀ h, h < hands → 0 ≤ g.task h → (R (g.task h).toNat : Int) = g.work h
  free : ∀ i, i < ts.length → g.S i = false → (∀ h, h < hands → g.task h ≠ ((i : Nat) : Int)) → (R i : Int) = 1 + workOf ts i
/-- None is left if and only if all are done. -/
theorem Rem.zero {R : Nat → Nat} (hR : Rem ts hands g R) (hI : Inv ts room hands g) (hw : ∀ i, i < ts.length → 1 ≤ workOf ts i) (h : sumN R ts.length = 0) : ∀ i, i < ts.length → g.S i = true := by
  intro i hi
  have h0 := sumN_zero h i hi
  cases hS : g.S i with
  | true => rfl
  | false =>
    exfalso
    by_cases hex : ∃ k, k < hands ∧ g.task k = ((i : Nat) : Int)
    · obtain ⟨k, hk, e⟩ := hex
      have h1 := hR.had k hk (by omega)
      have h2 := (hI.workOk k hk (by omega)).1
      rw [e] at h1
      simp at h1
      omega
    · have := hR.free i hi hS (fun k hk e => hex ⟨k, hk, e⟩)
      have := hw i hi
      omega
theorem Rem.done {R : Nat → Nat} (hR : Rem ts hands g R) (h : ∀ i, i < ts.length → g.S i = true) : sumN R ts.length = 0 := sumN_all (fun i hi => hR.dn i hi (h i hi))

theorem Rem.takes {R : Nat → Nat} (hR : Rem ts hands g R) (hI : Inv ts room hands g) (hw : ∀ i, i < ts.length → 1 ≤ workOf ts i) {g1 : Gs} {h : Nat} (hh : h < hands) (ht : ¬ 0 ≤ g.task h) {x : Int} (hx : x ∈ heldL g hands) (hfree : ∀ k, k < hands → g.task k ≠ x)
    (hS : g1.S = g.S) (hta : g1.task = g.task) (hwk : g1.work = g.work) : ∃ R', Rem ts hands (YtlfbdjeojgbniaaGreatDoor.takes ts g1 h x) R' ∧ sumN R' ts.length + 1 = sumN R ts.length := by
  obtain ⟨i, rfl, hi, hrd⟩ := hI.rdy hx
  have hSi := (ready_parts hrd).1
  have hRi := hR.free i hi hSi hfree
  have hwi := hw i hi
  refine ⟨updG R i (workOf ts i).toNat, ⟨fun j hj hSj => ?_, fun k hk htk => ?_, fun j hj hSj hfj => ?_⟩, sumN_in R (by omega) _ hi⟩
  · have hSj' : g.S j = true := by rw [← hS]; exact hSj
    have hne : j ≠ i := fun e => by rw [e, hSi] at hSj'; cases hSj'
    rw [updG_ne _ _ hne]
    exact hR.dn j hj hSj'
  · have htk' : 0 ≤ updG g1.task h ((i : Nat) : Int) k := htk
    show ((updG R i (workOf ts i).toNat (updG g1.task h ((i : Nat) : Int) k).toNat : Nat) : Int) = updG g1.work h (workOf ts ((i : Nat) : Int).toNat) k
    by_cases e : k = h
    · subst e
      rw [updG_self, updG_self]
      simp only [Int.toNat_natCast, updG_self]
      omega
    · rw [updG_ne _ _ e] at htk'
      rw [updG_ne _ _ e, updG_ne _ _ e, hta, hwk]
      rw [hta] at htk'
      have hne : (g.task k).toNat ≠ i := fun e2 => hfree k hk (by omega)
      rw [updG_ne _ _ hne]
      exact hR.had k hk htk'
  · have hSj' : g.S j = false := by rw [← hS]; exact hSj
    have hne : j ≠ i := fun e => by
      have := hfj h hh
      apply this
      show updG g1.task h ((i : Nat) : Int) h = _
      rw [updG_self, e]
    rw [updG_ne _ _ hne]
    refine hR.free j hj hSj' (fun k hk e => ?_)
    by_cases e2 : k = h
    · subst e2; omega
    · apply hfj k hk
      show updG g1.task h ((i : Nat) : Int) k = _
      rw [updG_ne _ _ e2, hta]; exact e

theorem Rem.works {R : Nat → Nat} (hR : Rem ts hands g R) (hI : Inv ts room hands g) {h : Nat} (hh : h < hands) (ht : 0 ≤ g.task h) (hk : 1 < g.work h) : ∃ R', Rem ts hands { g with work := updG g.work h (g.work h - 1) } R' ∧ sumN R' ts.length + 1 = sumN R ts.length := by
  obtain ⟨i, hti, hi, hrd⟩ := hI.rdy (held_task hh ht)
  have hSi := (ready_parts hrd).1
  have hRi := hR.had h hh ht
  have hin : (g.task h).toNat = i := by omega
  rw [hin] at hRi
  refine ⟨updG R i (R i - 1), ⟨fun j hj hSj => ?_, fun k hk2 htk => ?_, fun j hj hSj hfj => ?_⟩, sumN_in R (by omega) _ hi⟩
  · have hne : j ≠ i := fun e => by have h2 : g.S j = true := hSj; rw [e, hSi] at h2; cases h2
    rw [updG_ne _ _ hne]
    exact hR.dn j hj hSj
  · show ((updG R i (R i - 1) (g.task k).toNat : Nat) : Int) = updG g.work h (g.work h - 1) k
    by_cases e : k = h
    · subst e
      rw [hin, updG_self, updG_self]
      omega
    · have htk' : 0 ≤ g.task k := htk
      have hne : (g.task k).toNat ≠ i := fun e2 => e (hI.oneHas hh hk2 ht (by omega))
      rw [updG_ne _ _ hne, updG_ne _ _ e]
      exact hR.had k hk2 htk'
  · have hne : j ≠ i := fun e => hfj h hh (by show g.task h = _; rw [hti, e])
    rw [updG_ne _ _ hne]
    exact hR.free j hj hSj hfj
theorem Rem.ends {R : Nat → Nat} (hR : Rem ts hands g R) (hI : Inv ts room hands g) {h : Nat} (hh : h < hands) (ht : 0 ≤ g.task h) (hk : ¬ 1 < g.work h) : ∃ R', Rem ts hands (YtlfbdjeojgbniaaGreatDoor.ends ts room g h) R' ∧ sumN R' ts.length + 1 = sumN R ts.length := by
  obtain ⟨i, hti, hi, hrd⟩ := hI.rdy (held_task hh ht)
  have hSi := (ready_parts hrd).1
  have hRi := hR.had h hh ht
  have hw1 := (hI.workOk h hh ht).1
  have hin : (g.task h).toNat = i := by omega
  rw [hin] at hRi
  refine ⟨updG R i 0, ⟨fun j hj hSj => ?_, fun k hk2 htk => ?_, fun j hj hSj hfj => ?_⟩, sumN_in R (by omega) _ hi⟩
  · have hSj' : mark g.S (g.task h).toNat j = true := hSj
    rw [hin] at hSj'
    by_cases e : j = i
    · subst e; exact updG_self _ _ _
    · rw [mark_ne e] at hSj'
      rw [updG_ne _ _ e]
      exact hR.dn j hj hSj'
  · have htk' : 0 ≤ updG g.task h (-1) k := htk
    show ((updG R i 0 (updG g.task h (-1) k).toNat : Nat) : Int) = updG g.work h (g.work h - 1) k
    by_cases e : k = h
    · subst e; rw [updG_self] at htk'; omega
    · rw [updG_ne _ _ e] at htk'
      rw [updG_ne _ _ e, updG_ne _ _ e]
      have hne : (g.task k).toNat ≠ i := fun e2 => e (hI.oneHas hh hk2 ht (by omega))
      rw [updG_ne _ _ hne]
      exact hR.had k hk2 htk'
  · have hSj' : mark g.S (g.task h).toNat j = false := hSj
    rw [hin] at hSj'
    have hne : j ≠ i := fun e => by rw [e, mark_self] at hSj'; cases hSj'
    rw [mark_ne hne] at hSj'
    rw [updG_ne _ _ hne]
    refine hR.free j hj hSj' (fun k hk2 e => ?_)
    by_cases e2 : k = h
    · subst e2; omega
    · apply hfj k hk2
      show updG g.task h (-1) k = _
      rw [updG_ne _ _ e2]; exact e

/-- A step is one of those that are to be done, or nothing but that one falls asleep. -/
theorem step_dec {R : Nat → Nat} (hR : Rem ts hands g R) (hI : Inv ts room hands g) (hw : ∀ i, i < ts.length → 1 ≤ workOf ts i) {h : Nat} (hh : h < hands) (pick : Nat) :
    (∃ R', Rem ts hands (gstep ts room hands g h pick) R' ∧ sumN R' ts.length + 1 = sumN R ts.length)
      ∨ (gstep ts room hands g h pick = g ∧ (h : Int) ∈ g.zz)
      ∨ (gstep ts room hands g h pick = { g with zz := g.zz ++ [(h : Int)] } ∧ (h : Int) ∉ g.zz ∧ ¬ 0 ≤ g.task h ∧ g.near h = -1 ∧ g.ring h = [] ∧ g.sp = []) := by
  unfold gstep
  by_cases hz : (h : Int) ∈ g.zz
  · rw [if_pos hz]; exact Or.inr (Or.inl ⟨rfl, hz⟩)
  rw [if_neg hz]
  by_cases ht : 0 ≤ g.task h
  · rw [if_pos ht]
    by_cases hk : 1 < g.work h
    · rw [if_pos hk]; exact Or.inl (hR.works hI hh ht hk)
    · rw [if_neg hk]; exact Or.inl (hR.ends hI hh ht hk)
  rw [if_neg ht]
  by_cases hn : g.near h = -1
  · rw [if_neg (by simpa using hn)]
    by_cases hr : g.ring h = []
    · rw [if_neg (by simpa using hr)]
      by_cases hs : g.sp = []
      · rw [if_neg (by simpa using hs)]
        by_cases hp : pick % hands = h ∨ g.ring (pick % hands) = []
        · rw [if_pos hp]; exact Or.inr (Or.inr ⟨rfl, hz, ht, hn, hr, hs⟩)
        · rw [if_neg hp]
          have ho : pick % hands < hands := Nat.mod_lt _ (by omega)
          have hor : g.ring (pick % hands) ≠ [] := fun e => hp (Or.inr e)
          obtain ⟨x, l, hxl⟩ : ∃ x l, (g.ring (pick % hands)).take (((g.ring (pick % hands)).length + 1) / 2) = x :: l := List.exists_cons_of_ne_nil (by
            intro e
            have hpos := List.length_pos_iff.2 hor
            rcases List.take_eq_nil_iff.1 e with e | e
            · omega
            · exact hor e)
          have hxr : x ∈ g.ring (pick % hands) := List.mem_of_mem_take (by rw [hxl]; simp)
          refine Or.inl ?_
          unfold YtlfbdjeojgbniaaGreatDoor.robs
          simp only [hxl, List.headD_cons]
          exact hR.takes hI hw hh ht (held_ring ho hxr) (hI.free_hand ho (by unfold allH; split <;> simp [hxr])) rfl rfl rfl
      · rw [if_pos hs]
        obtain ⟨x, r, hx⟩ := List.exists_cons_of_ne_nil hs
        have hxs : g.sp.headD 0 ∈ g.sp := by rw [hx]; simp
        exact Or.inl (hR.takes hI hw hh ht (held_sp hxs) (hI.free_sp hxs) rfl rfl rfl)
    · rw [if_pos hr]
      have hxr : (g.ring h).getLastD 0 ∈ g.ring h := by
        have h2 : (g.ring h).getLastD 0 ∈ (g.ring h).dropLast ++ [(g.ring h).getLastD 0] := List.mem_append_right _ (List.mem_singleton_self _)
        rw [← last_split hr] at h2
        exact h2
      exact Or.inl (hR.takes hI hw hh ht (held_ring hh hxr) (hI.free_hand hh (by rw [hn, allH_none]; exact hxr)) rfl rfl rfl)
  · rw [if_pos hn]
    exact Or.inl (hR.takes hI hw hh ht (held_near hh hn) (hI.free_hand hh (by rw [allH_some hn]; simp)) rfl rfl rfl)

/-- Each of the first so many hands does a step. -/
def grun (ts : List (Int × List Int)) (room hands pick : Nat) (g : Gs) : Nat → Gs
  | 0 => g
  | k + 1 => gstep ts room hands (grun ts room hands pick g k) k pick
theorem Inv.run (hI : Inv ts room hands g) (hg : Good ts) (hw : ∀ i, i < ts.length → 1 ≤ workOf ts i) (hr1 : 1 ≤ room) (pick : Nat) : ∀ k, k ≤ hands → Inv ts room hands (grun ts room hands pick g k) := by
  intro k
  induction k with
  | zero => intro _; exact hI
  | succ k ih => intro h; exact (ih (by omega)).step hg hw hr1 (by omega) pick

/-- While not all are done one that is awake has something to do. -/
theorem Inv.busy (hI : Inv ts room hands g) (hg : Good ts) (hn : ¬ ∀ i, i < ts.length → g.S i = true) : ∃ h, h < hands ∧ (h : Int) ∉ g.zz ∧ (0 ≤ g.task h ∨ g.near h ≠ -1 ∨ g.ring h ≠ [] ∨ g.sp ≠ []) := by
  have hr := ready_some hg (S := g.S) (fun h => hn (unseen_all _ _ h))
  have hne : heldL g hands ≠ [] := fun e => by
    have := hI.held.length_eq
    rw [e, intsOf_length] at this
    exact hr (List.eq_nil_of_length_eq_zero this.symm)
  by_cases hs : g.sp = []
  · obtain ⟨x, r, hx⟩ := List.exists_cons_of_ne_nil hne
    have hxm : x ∈ ofAll g hands := by
      have : x ∈ heldL g hands := by rw [hx]; simp
      unfold heldL at this
      rw [hs, List.append_nil] at this
      exact this
    obtain ⟨h, hh, hxh⟩ := mem_ofAll.1 hxm
    have hhas : 0 ≤ g.task h ∨ g.near h ≠ -1 ∨ g.ring h ≠ [] := by
      unfold ofH at hxh
      rcases List.mem_append.1 hxh with h1 | h1
      · unfold oneT at h1
        split at h1
        · exact Or.inl (by assumption)
        · simp at h1
      · unfold allH at h1
        split at h1
        · exact Or.inr (Or.inr (fun e => by rw [e] at h1; simp at h1))
        · exact Or.inr (Or.inl (by assumption))
    refine ⟨h, hh, fun hz => ?_, ?_⟩
    · obtain ⟨k, h1, h2, h3, h4, h5⟩ := hI.zr _ hz
      obtain rfl : k = h := by omega
      rcases hhas with e | e | e
      · omega
      · exact e h4
      · exact e h5
    · rcases hhas with e | e | e
      · exact Or.inl e
      · exact Or.inr (Or.inl e)
      · exact Or.inr (Or.inr (Or.inl e))
  · obtain ⟨h, hh, hz⟩ := hI.awake hs
    exact ⟨h, hh, hz, Or.inr (Or.inr (Or.inr hs))⟩

theorem Rem.zz {R : Nat → Nat} (hR : Rem ts hands g R) (z : List Int) : Rem ts hands { g with zz := z } R := ⟨hR.dn, hR.had, hR.free⟩
/-- Up to there something was done, or nothing but that some fell asleep. -/
theorem run_dec {R : Nat → Nat} (hR : Rem ts hands g R) (hI : Inv ts room hands g) (hg : Good ts) (hw : ∀ i, i < ts.length → 1 ≤ workOf ts i) (hr1 : 1 ≤ room) (pick : Nat) : ∀ k, k ≤ hands →
    (∃ R', Rem ts hands (grun ts room hands pick g k) R' ∧ sumN R' ts.length < sumN R ts.length)
      ∨ ∃ z, grun ts room hands pick g k = { g with zz := z } ∧ (∀ h, h < hands → k ≤ h → ((h : Int) ∈ z ↔ (h : Int) ∈ g.zz)) ∧ ∀ h, h < k → (h : Int) ∉ g.zz → ¬ 0 ≤ g.task h ∧ g.near h = -1 ∧ g.ring h = [] ∧ g.sp = [] := by
  intro k
  induction k with
  | zero => intro _; exact Or.inr ⟨g.zz, rfl, fun h _ _ => Iff.rfl, fun h hk => by omega⟩
  | succ k ih =>
    intro hk
    have hIk := hI.run hg hw hr1 pick k (by omega)
    rcases ih (by omega) with ⟨R', hR', hlt⟩ | ⟨z, he, hz, hall⟩
    · refine Or.inl ?_
      show ∃ R'', Rem ts hands (gstep ts room hands (grun ts room hands pick g k) k pick) R'' ∧ _
      rcases step_dec hR' hIk hw (by omega : k < hands) pick with ⟨R2, h2, h3⟩ | ⟨e, -⟩ | ⟨e, -⟩
      · exact ⟨R2, h2, by omega⟩
      · rw [e]; exact ⟨R', hR', hlt⟩
      · rw [e]; exact ⟨R', hR'.zz _, hlt⟩
    · have hRk : Rem ts hands (grun ts room hands pick g k) R := by rw [he]; exact hR.zz z
      rcases step_dec hRk hIk hw (by omega : k < hands) pick with ⟨R2, h2, h3⟩ | ⟨e, h2⟩ | ⟨e, h2, h3⟩
      · exact Or.inl ⟨R2, h2, by omega⟩
      · refine Or.inr ⟨z, e.trans he, fun h hh hkh => hz h hh (by omega), fun h hlt hnz => ?_⟩
        by_cases e2 : h = k
        · subst e2
          rw [he] at h2
          exact absurd ((hz h (by omega) (Nat.le_refl _)).1 h2) hnz
        · exact hall h (by omega) hnz
      · refine Or.inr ⟨z ++ [(k : Int)], by show gstep ts room hands (grun ts room hands pick g k) k pick = _; rw [e, he], fun h hh hkh => ?_, fun h hlt hnz => ?_⟩
        · rw [List.mem_append, hz h hh (by omega)]
          constructor
          · rintro (h1 | h1)
            · exact h1
            · have := List.mem_singleton.1 h1
              omega
          · exact Or.inl
        · by_cases e2 : h = k
          · subst e2
            rw [he] at h3
            exact h3
          · exact hall h (by omega) hnz
/-- In a round, while not all are done, something is done. -/
theorem round_dec {R : Nat → Nat} (hR : Rem ts hands g R) (hI : Inv ts room hands g) (hg : Good ts) (hw : ∀ i, i < ts.length → 1 ≤ workOf ts i) (hr1 : 1 ≤ room) (pick : Nat) :
    ∃ R', Rem ts hands (grun ts room hands pick g hands) R' ∧ sumN R' ts.length ≤ sumN R ts.length - 1 := by
  by_cases hall : ∀ i, i < ts.length → g.S i = true
  · have h0 := hR.done hall
    rcases run_dec hR hI hg hw hr1 pick hands (Nat.le_refl _) with ⟨R', hR', hlt⟩ | ⟨z, he, -⟩
    · omega
    · exact ⟨R, by rw [he]; exact hR.zz z, by omega⟩
  · obtain ⟨h, hh, hz, hb⟩ := hI.busy hg hall
    rcases run_dec hR hI hg hw hr1 pick hands (Nat.le_refl _) with ⟨R', hR', hlt⟩ | ⟨z, he, -, hno⟩
    · exact ⟨R', hR', by omega⟩
    · exfalso
      obtain ⟨h1, h2, h3, h4⟩ := hno h hh hz
      rcases hb with e | e | e | e
      · exact h1 e
      · exact e h2
      · exact e h3
      · exact e h4
/-- So many rounds, with whatever picks. -/
def grounds (ts : List (Int × List Int)) (room hands : Nat) (pick : Nat → Nat) (g : Gs) : Nat → Gs
  | 0 => g
  | r + 1 => grun ts room hands (pick r) (grounds ts room hands pick g r) hands
theorem rounds_dec {R : Nat → Nat} (hR : Rem ts hands g R) (hI : Inv ts room hands g) (hg : Good ts) (hw : ∀ i, i < ts.length → 1 ≤ workOf ts i) (hr1 : 1 ≤ room) (pick : Nat → Nat) : ∀ r,
    Inv ts room hands (grounds ts room hands pick g r) ∧ ∃ R', Rem ts hands (grounds ts room hands pick g r) R' ∧ sumN R' ts.length ≤ sumN R ts.length - r := by
  intro r
  induction r with
  | zero => exact ⟨hI, R, hR, by omega⟩
  | succ r ih =>
    obtain ⟨hI2, R2, hR2, hle⟩ := ih
    obtain ⟨R3, hR3, hle3⟩ := round_dec hR2 hI2 hg hw hr1 (pick r)
    exact ⟨hI2.run hg hw hr1 (pick r) hands (Nat.le_refl _), R3, hR3, by omega⟩
theorem Rem.new : Rem ts hands (gnew ts) (fun i => (1 + workOf ts i).toNat) ∨ ¬ ∀ i, i < ts.length → 1 ≤ workOf ts i := by
  by_cases hw : ∀ i, i < ts.length → 1 ≤ workOf ts i
  · refine Or.inl ⟨fun i _ h => by simp [gnew] at h, fun h _ ht => by simp [gnew] at ht, fun i hi _ _ => ?_⟩
    have := hw i hi
    show (((1 + workOf ts i).toNat : Nat) : Int) = 1 + workOf ts i
    omega
  · exact Or.inr hw
/-- Behind any steps, in so many rounds as there is work, and tasks, all are done, and nothing is held. -/
theorem all_done {R : Nat → Nat} (hR : Rem ts hands g R) (hI : Inv ts room hands g) (hg : Good ts) (hw : ∀ i, i < ts.length → 1 ≤ workOf ts i) (hr1 : 1 ≤ room) (pick : Nat → Nat) {r : Nat} (hr : sumN R ts.length ≤ r) :
    (∀ i, i < ts.length → (grounds ts room hands pick g r).S i = true) ∧ heldL (grounds ts room hands pick g r) hands = [] := by
  obtain ⟨hI2, R2, hR2, hle⟩ := rounds_dec hR hI hg hw hr1 pick r
  have hd := hR2.zero hI2 hw (by omega)
  refine ⟨hd, ?_⟩
  have hp := hI2.held
  rw [ready_end (unseen_zero _ _ hd)] at hp
  exact List.Perm.eq_nil hp
end Go.Proofs.YtlfbdjeojgbniaaGreatDoor
