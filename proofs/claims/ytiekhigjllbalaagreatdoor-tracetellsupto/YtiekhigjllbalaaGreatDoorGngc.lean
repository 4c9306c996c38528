/- Plain: a step of a gang keeps what it holds. No word of the program. -/
import Derived.Test.YtiekhigjllbalaaGreatDoorGngb
namespace Go.Proofs.YtiekhigjllbalaaGreatDoor
variable {ts : List (Int × List Int)} {room hands : Nat} {g : Gs}

theorem intsOf_nodup {l : List Nat} (h : l.Nodup) : (intsOf l).Nodup := by
  unfold intsOf
  exact List.Pairwise.map _ (fun a b hab e => hab (by have e2 : ((a : Nat) : Int) = ((b : Nat) : Int) := e; omega)) h
theorem mem_intsOf {l : List Nat} {x : Int} : x ∈ intsOf l ↔ ∃ k, k ∈ l ∧ x = ((k : Nat) : Int) := by
  unfold intsOf
  rw [List.mem_map]
  constructor
  · rintro ⟨k, h, rfl⟩; exact ⟨k, h, rfl⟩
  · rintro ⟨k, h, rfl⟩; exact ⟨k, h, rfl⟩
theorem perm_of_mem {l m : List Nat} (hl : l.Nodup) (hm : m.Nodup) (h : ∀ k, k ∈ l ↔ k ∈ m) : l.Perm m := (List.perm_ext_iff_of_nodup hl hm).2 h

theorem ready_mark {S : Nat → Bool} {i k : Nat} (h : readyB ts S k = true) (hk : k ≠ i) : readyB ts (mark S i) k = true := by
  obtain ⟨h1, h2⟩ := ready_parts h
  unfold readyB
  rw [mark_ne hk, h1, missN_zero.2 (fun y hy => mark_mono (missN_zero.1 h2 y hy))]
  rfl
/-- Those that are ready behind it, and it, are those that were ready, and the new ones. -/
theorem ready_after (hg : Good ts) {S : Nat → Bool} (hd : Down ts S) {i : Nat} (hi : i < ts.length) (hr : readyB ts S i = true) :
    (i :: readyTo ts (mark S i) ts.length).Perm (newL ts S i ++ readyTo ts S ts.length) := by
  have hS := (ready_parts hr).1
  have hni : readyB ts (mark S i) i = false := by simp [readyB, mark_self]
  refine perm_of_mem (List.nodup_cons.2 ⟨fun h => ?_, readyTo_nodup _ _ _⟩) (List.nodup_append.2 ⟨newL_nodup _ _ _, readyTo_nodup _ _ _, fun a ha b hb e => ?_⟩) (fun k => ?_)
  · have := (mem_readyTo.1 h).2
    rw [hni] at this
    cases this
  · subst e
    have h1 := ((mem_newL hg hd hi hS).1 ha).2.2
    have h2 := (mem_readyTo.1 hb).2
    rw [h1] at h2
    cases h2
  · rw [List.mem_cons, List.mem_append, mem_newL hg hd hi hS, mem_readyTo, mem_readyTo]
    constructor
    · rintro (rfl | ⟨h1, h2⟩)
      · exact Or.inr ⟨hi, hr⟩
      · cases h3 : readyB ts S k with
        | false => exact Or.inl ⟨h1, h2, rfl⟩
        | true => exact Or.inr ⟨h1, rfl⟩
    · rintro (⟨h1, h2, _⟩ | ⟨h1, h2⟩)
      · exact Or.inr ⟨h1, h2⟩
      · by_cases e : k = i
        · exact Or.inl e
        · exact Or.inr ⟨h1, ready_mark h2 e⟩

theorem int_ne {x h : Nat} (e : x ≠ h) : ((x : Nat) : Int) ≠ ((h : Nat) : Int) := by omega
/-- Who sleeps is another one than who is awake. -/
theorem Inv.other (hI : Inv ts room hands g) {h : Nat} (hz : (h : Int) ∉ g.zz) {x : Int} (hx : x ∈ g.zz) : ∃ k, k < hands ∧ x = ((k : Nat) : Int) ∧ k ≠ h ∧ g.task k = -1 ∧ g.near k = -1 ∧ g.ring k = [] := by
  obtain ⟨k, h1, h2, h3⟩ := hI.zr x hx
  refine ⟨k, h1, h2, fun e => hz ?_, h3⟩
  rw [← e, ← h2]
  exact hx

theorem held_sub {g' : Gs} (hp : (heldL g' hands).Perm (heldL g hands)) (hS : g'.S = g.S) (hI : Inv ts room hands g) : (heldL g' hands).Perm (intsOf (readyTo ts g'.S ts.length)) := by
  rw [hS]
  exact hp.trans hI.held

/-- A hand without a task has one of those that were held. -/
theorem Inv.takes (hI : Inv ts room hands g) (hw : ∀ i, i < ts.length → 1 ≤ workOf ts i) {g1 : Gs} {h : Nat} (hh : h < hands) (hz : (h : Int) ∉ g.zz) (i : Int) (hi : i ∈ heldL g hands)
    (hS : g1.S = g.S) (hzz : g1.zz = g.zz) (ht : g1.task = g.task) (hwk : g1.work = g.work) (hn : ∀ k, k ≠ h → g1.near k = g.near k ∨ False) (hr : ∀ k, k < hands → (g1.ring k).length ≤ room) (hrz : ∀ k, k ≠ h → g.ring k = [] → g1.ring k = [])
    (hp : (heldL (takes ts g1 h i) hands).Perm (heldL g hands)) : Inv ts room hands (takes ts g1 h i) := by
  obtain ⟨k, rfl, hk, hrd⟩ := hI.rdy hi
  have hn' : ∀ k, k ≠ h → g1.near k = g.near k := fun k e => (hn k e).elim id False.elim
  refine ⟨held_sub hp (show g1.S = g.S from hS) hI, ?_, fun x hx => ?_, ?_, fun _ => ⟨h, hh, ?_⟩, hr, fun k2 hk2 ht2 => ?_, fun k2 hk2 => ?_⟩
  · show Down ts g1.S
    rw [hS]; exact hI.down
  · have hx' : x ∈ g.zz := by rw [← hzz]; exact hx
    obtain ⟨a, h1, h2, h3, h4, h5, h6⟩ := hI.other hz hx'
    refine ⟨a, h1, h2, ?_, ?_, ?_⟩
    · show upd g1.task h _ a = -1
      rw [upd_ne _ _ h3, ht]; exact h4
    · show g1.near a = -1
      rw [hn' a h3]; exact h5
    · exact hrz a h3 h6
  · show g1.zz.Nodup
    rw [hzz]; exact hI.znd
  · show (h : Int) ∉ g1.zz
    rw [hzz]; exact hz
  · have ht2' : 0 ≤ upd g1.task h ((k : Nat) : Int) k2 := ht2
    show 1 ≤ upd g1.work h (workOf ts ((k : Nat) : Int).toNat) k2 ∧ upd g1.work h (workOf ts ((k : Nat) : Int).toNat) k2 ≤ workOf ts (upd g1.task h ((k : Nat) : Int) k2).toNat
    by_cases e : k2 = h
    · subst e
      rw [upd_self, upd_self]
      exact ⟨hw _ (by simpa using hk), Int.le_refl _⟩
    · rw [upd_ne _ _ e] at ht2'
      rw [upd_ne _ _ e, upd_ne _ _ e, hwk, ht]
      rw [ht] at ht2'
      exact hI.workOk k2 hk2 ht2'
  · show -1 ≤ upd g1.task h ((k : Nat) : Int) k2
    by_cases e : k2 = h
    · subst e; rw [upd_self]; omega
    · rw [upd_ne _ _ e, ht]; exact hI.taskM k2 hk2

/-- The hand alone has changed. -/
theorem held_one {g' : Gs} {h : Nat} (hh : h < hands) (he : ∀ k, k ≠ h → ofH g' k = ofH g k) (hs : g'.sp = g.sp) (hp : (ofH g' h).Perm (ofH g h)) : (heldL g' hands).Perm (heldL g hands) := by
  unfold heldL
  rw [hs]
  have := ofAll_one (g := g) (g' := g') hh he [] [] (by simpa using hp)
  simpa using this.append_right g.sp

theorem Inv.tookNear (hI : Inv ts room hands g) (hw : ∀ i, i < ts.length → 1 ≤ workOf ts i) {h : Nat} (hh : h < hands) (hz : (h : Int) ∉ g.zz) (ht : ¬ 0 ≤ g.task h) (hn : g.near h ≠ -1) :
    Inv ts room hands (YtiekhigjllbalaaGreatDoor.takes ts { g with near := upd g.near h (-1) } h (g.near h)) := by
  obtain ⟨k, hk, -, -⟩ := hI.rdy (held_near hh hn)
  refine hI.takes hw hh hz _ (held_near hh hn) rfl rfl rfl rfl (fun k e => Or.inl (upd_ne _ _ e)) (fun k hk => hI.ringLe k hk) (fun k e h => h) (held_one hh (fun k e => ?_) rfl ?_)
  · show oneT (upd g.task h _ k) ++ allH (upd g.near h _ k) (g.ring k) = _
    rw [upd_ne _ _ e, upd_ne _ _ e]; rfl
  · show (oneT (upd g.task h (g.near h) h) ++ allH (upd g.near h (-1) h) (g.ring h)).Perm (oneT (g.task h) ++ allH (g.near h) (g.ring h))
    have h0 : oneT (g.task h) = [] := by simp [oneT, ht]
    rw [upd_self, upd_self, allH_none, allH_some hn, h0, oneT_some (by omega)]
    simpa using (List.perm_append_singleton (g.near h) (g.ring h)).symm
theorem last_split {l : List Int} (h : l ≠ []) : l = l.dropLast ++ [l.getLastD 0] := by
  rw [List.getLastD_eq_getLast?, List.getLast?_eq_some_getLast h]
  exact (List.dropLast_concat_getLast h).symm
theorem Inv.tookRing (hI : Inv ts room hands g) (hw : ∀ i, i < ts.length → 1 ≤ workOf ts i) {h : Nat} (hh : h < hands) (hz : (h : Int) ∉ g.zz) (ht : ¬ 0 ≤ g.task h) (hn : g.near h = -1) (hr : g.ring h ≠ []) :
    Inv ts room hands (YtiekhigjllbalaaGreatDoor.takes ts { g with ring := upd g.ring h (g.ring h).dropLast } h ((g.ring h).getLastD 0)) := by
  have hs := last_split hr
  have hmem : (g.ring h).getLastD 0 ∈ heldL g hands := held_ring hh (by rw [hs]; simp)
  obtain ⟨k, hk, -, -⟩ := hI.rdy hmem
  refine hI.takes hw hh hz _ hmem rfl rfl rfl rfl (fun k e => Or.inl rfl) (fun k hk2 => ?_) (fun k e h => by show upd g.ring _ _ k = []; rw [upd_ne _ _ e]; exact h) (held_one hh (fun k e => ?_) rfl ?_)
  · show (upd g.ring h _ k).length ≤ room
    by_cases e : k = h
    · subst e; rw [upd_self]; have := hI.ringLe k hk2; simp; omega
    · rw [upd_ne _ _ e]; exact hI.ringLe k hk2
  · show oneT (upd g.task h _ k) ++ allH (g.near k) (upd g.ring h _ k) = _
    rw [upd_ne _ _ e, upd_ne _ _ e]; rfl
  · show (oneT (upd g.task h _ h) ++ allH (g.near h) (upd g.ring h _ h)).Perm (oneT (g.task h) ++ allH (g.near h) (g.ring h))
    have h0 : oneT (g.task h) = [] := by simp [oneT, ht]
    rw [upd_self, upd_self, hn, allH_none, allH_none, h0, oneT_some (by omega)]
    rw [List.nil_append]
    conv => rhs; rw [hs]
    simpa using (List.perm_append_singleton ((g.ring h).getLastD 0) (g.ring h).dropLast).symm
theorem Inv.fetched (hI : Inv ts room hands g) (hw : ∀ i, i < ts.length → 1 ≤ workOf ts i) {h : Nat} (hh : h < hands) (hz : (h : Int) ∉ g.zz) (ht : ¬ 0 ≤ g.task h) (hs : g.sp ≠ []) :
    Inv ts room hands (YtiekhigjllbalaaGreatDoor.takes ts { g with sp := g.sp.tail } h (g.sp.headD 0)) := by
  obtain ⟨x, r, hx⟩ := List.exists_cons_of_ne_nil hs
  have hmem : g.sp.headD 0 ∈ heldL g hands := held_sp (by rw [hx]; simp)
  obtain ⟨k, hk, -, -⟩ := hI.rdy hmem
  refine hI.takes hw hh hz _ hmem rfl rfl rfl rfl (fun k e => Or.inl rfl) (fun k hk => hI.ringLe k hk) (fun k e h => h) ?_
  have h0 : oneT (g.task h) = [] := by simp [oneT, ht]
  have hone := ofAll_one (g := g) (g' := YtiekhigjllbalaaGreatDoor.takes ts { g with sp := g.sp.tail } h (g.sp.headD 0)) hh (fun k e => ?_) [] [g.sp.headD 0] ?_
  · unfold heldL
    have hsp : (YtiekhigjllbalaaGreatDoor.takes ts { g with sp := g.sp.tail } h (g.sp.headD 0)).sp = g.sp.tail := rfl
    rw [hsp]
    refine (hone.append_right _).trans ?_
    rw [hx]
    simp only [List.headD_cons, List.tail_cons]
    show (x :: ofAll g hands ++ r).Perm (ofAll g hands ++ x :: r)
    exact List.perm_middle.symm
  · show oneT (upd g.task h _ k) ++ allH (g.near k) (g.ring k) = _
    rw [upd_ne _ _ e]; rfl
  · show ([] ++ (oneT (upd g.task h _ h) ++ allH (g.near h) (g.ring h))).Perm ([g.sp.headD 0] ++ (oneT (g.task h) ++ allH (g.near h) (g.ring h)))
    rw [upd_self, h0, oneT_some (by omega)]
    exact List.Perm.refl _

theorem Inv.works (hI : Inv ts room hands g) {h : Nat} (hw : 1 < g.work h) : Inv ts room hands { g with work := upd g.work h (g.work h - 1) } := by
  refine ⟨held_sub (g := g) ?_ rfl hI, hI.down, hI.zr, hI.znd, hI.awake, hI.ringLe, fun k hk ht => ?_, hI.taskM⟩
  · exact (List.Perm.of_eq (ofAll_congr (g := g) (g' := { g with work := upd g.work h (g.work h - 1) }) (fun k _ => rfl))).append_right g.sp
  · have h1 := hI.workOk k hk ht
    show 1 ≤ upd g.work h (g.work h - 1) k ∧ upd g.work h (g.work h - 1) k ≤ workOf ts (g.task k).toNat
    by_cases e : k = h
    · subst e; rw [upd_self]; omega
    · rw [upd_ne _ _ e]; exact h1

theorem Inv.slept (hI : Inv ts room hands g) {h : Nat} (hh : h < hands) (hz : (h : Int) ∉ g.zz) (ht : ¬ 0 ≤ g.task h) (hn : g.near h = -1) (hr : g.ring h = []) (hs : g.sp = []) : Inv ts room hands { g with zz := g.zz ++ [(h : Int)] } := by
  refine ⟨held_sub (g := g) ?_ rfl hI, hI.down, fun x hx => ?_, ?_, fun e => absurd hs e, hI.ringLe, hI.workOk, hI.taskM⟩
  · exact (List.Perm.of_eq (ofAll_congr (g := g) (g' := { g with zz := g.zz ++ [(h : Int)] }) (fun k _ => rfl))).append_right g.sp
  · rcases List.mem_append.1 hx with hx | hx
    · exact hI.zr x hx
    · exact ⟨h, hh, List.mem_singleton.1 hx, by have := hI.taskM h hh; show g.task h = -1; omega, hn, hr⟩
  · refine List.nodup_append.2 ⟨hI.znd, by simp, fun a ha b hb e => hz ?_⟩
    rw [← List.mem_singleton.1 hb, ← e]
    exact ha

theorem Inv.ends (hI : Inv ts room hands g) (hg : Good ts) (hr1 : 1 ≤ room) {h : Nat} (hh : h < hands) (hz : (h : Int) ∉ g.zz) (ht : 0 ≤ g.task h) : Inv ts room hands (YtiekhigjllbalaaGreatDoor.ends ts room g h) := by
  obtain ⟨i, hti, hil, hrd⟩ := hI.rdy (held_task hh ht)
  have hi : (g.task h).toNat = i := by omega
  have hS := (ready_parts hrd).1
  obtain ⟨l, hl⟩ : ∃ l, l = newL ts g.S i := ⟨_, rfl⟩
  obtain ⟨r, hr⟩ : ∃ r, r = putAll room (g.near h, g.ring h, g.sp) (intsOf l) := ⟨_, rfl⟩
  have he : YtiekhigjllbalaaGreatDoor.ends ts room g h = { S := mark g.S i, task := upd g.task h (-1), work := upd g.work h (g.work h - 1), near := upd g.near h r.1, ring := upd g.ring h r.2.1, sp := r.2.2, zz := g.zz.drop l.length } := by
    unfold YtiekhigjllbalaaGreatDoor.ends
    rw [hi, hr, hl]
  have hpos : ∀ n, n ∈ intsOf l → n ≠ -1 := fun n hn => by
    obtain ⟨k, -, rfl⟩ := mem_intsOf.1 hn
    omega
  have hpp := putAll_perm room (intsOf l) (g.near h, g.ring h, g.sp) hpos
  rw [← hr] at hpp
  rw [he]
  have hone := ofAll_one (g := g) (g' := { S := mark g.S i, task := upd g.task h (-1), work := upd g.work h (g.work h - 1), near := upd g.near h r.1, ring := upd g.ring h r.2.1, sp := r.2.2, zz := g.zz.drop l.length }) hh (fun k e => ?_) ((i : Int) :: r.2.2) (intsOf l ++ g.sp) ?_
  · have hall : ((i : Int) :: heldL { S := mark g.S i, task := upd g.task h (-1), work := upd g.work h (g.work h - 1), near := upd g.near h r.1, ring := upd g.ring h r.2.1, sp := r.2.2, zz := g.zz.drop l.length } hands).Perm (intsOf l ++ heldL g hands) := by
      unfold heldL
      refine List.Perm.trans ?_ (hone.trans ?_)
      · show ((i : Int) :: (ofAll _ hands ++ r.2.2)).Perm ((i : Int) :: (r.2.2 ++ ofAll _ hands))
        exact List.Perm.cons _ List.perm_append_comm
      · rw [List.append_assoc]
        exact List.Perm.append_left _ List.perm_append_comm
    have hrd2 := ready_after hg hI.down hil hrd
    have hrd3 : (intsOf (i :: readyTo ts (mark g.S i) ts.length)).Perm (intsOf (newL ts g.S i ++ readyTo ts g.S ts.length)) := hrd2.map _
    rw [intsOf_append, ← hl] at hrd3
    have hrd4 : ((i : Int) :: intsOf (readyTo ts (mark g.S i) ts.length)).Perm (intsOf l ++ intsOf (readyTo ts g.S ts.length)) := hrd3
    refine ⟨List.Perm.cons_inv (hall.trans ((List.Perm.append_left _ hI.held).trans hrd4.symm)), hI.down.mark hrd, fun x hx => ?_, hI.znd.sublist (List.drop_sublist _ _), fun _ => ⟨h, hh, fun hx => hz (List.mem_of_mem_drop hx)⟩, fun k hk => ?_, fun k hk ht2 => ?_, fun k hk => ?_⟩
    · obtain ⟨k, h1, h2, h3, h4, h5, h6⟩ := hI.other hz (List.mem_of_mem_drop hx)
      refine ⟨k, h1, h2, ?_, ?_, ?_⟩
      · show upd g.task h (-1) k = -1
        rw [upd_ne _ _ h3]; exact h4
      · show upd g.near h r.1 k = -1
        rw [upd_ne _ _ h3]; exact h5
      · show upd g.ring h r.2.1 k = []
        rw [upd_ne _ _ h3]; exact h6
    · show (upd g.ring h r.2.1 k).length ≤ room
      by_cases e : k = h
      · subst e
        rw [upd_self, hr]
        exact putAll_len hr1 _ _ (hI.ringLe k hk)
      · rw [upd_ne _ _ e]; exact hI.ringLe k hk
    · have ht3 : 0 ≤ upd g.task h (-1) k := ht2
      show 1 ≤ upd g.work h (g.work h - 1) k ∧ upd g.work h (g.work h - 1) k ≤ workOf ts (upd g.task h (-1) k).toNat
      by_cases e : k = h
      · subst e; rw [upd_self] at ht3; omega
      · rw [upd_ne _ _ e] at ht3
        rw [upd_ne _ _ e, upd_ne _ _ e]
        exact hI.workOk k hk ht3
    · show -1 ≤ upd g.task h (-1) k
      by_cases e : k = h
      · subst e; rw [upd_self]; omega
      · rw [upd_ne _ _ e]; exact hI.taskM k hk
  · show oneT (upd g.task h _ k) ++ allH (upd g.near h _ k) (upd g.ring h _ k) = _
    rw [upd_ne _ _ e, upd_ne _ _ e, upd_ne _ _ e]; rfl
  · show ((i : Int) :: r.2.2 ++ (oneT (upd g.task h (-1) h) ++ allH (upd g.near h r.1 h) (upd g.ring h r.2.1 h))).Perm (intsOf l ++ g.sp ++ (oneT (g.task h) ++ allH (g.near h) (g.ring h)))
    rw [upd_self, upd_self, upd_self, oneT_none, List.nil_append, oneT_some ht, hti]
    have h1 : ((i : Int) :: (r.2.2 ++ allH r.1 r.2.1)).Perm ((i : Int) :: (g.sp ++ allH (g.near h) (g.ring h) ++ intsOf l)) := List.Perm.cons _ hpp
    refine h1.trans ?_
    have h2 : ((i : Int) :: (g.sp ++ allH (g.near h) (g.ring h) ++ intsOf l)).Perm ((i : Int) :: (intsOf l ++ (g.sp ++ allH (g.near h) (g.ring h)))) := List.Perm.cons _ List.perm_append_comm
    refine h2.trans ?_
    rw [← List.append_assoc]
    show ((i : Int) :: ((intsOf l ++ g.sp) ++ allH (g.near h) (g.ring h))).Perm ((intsOf l ++ g.sp) ++ ((i : Int) :: allH (g.near h) (g.ring h)))
    exact List.perm_middle.symm

theorem half_len {n : Nat} (h : 0 < n) : 1 ≤ (n + 1) / 2 ∧ (n + 1) / 2 ≤ n := by omega
theorem Inv.robs (hI : Inv ts room hands g) (hw : ∀ i, i < ts.length → 1 ≤ workOf ts i) {h o : Nat} (hh : h < hands) (ho : o < hands) (hz : (h : Int) ∉ g.zz) (ht : ¬ 0 ≤ g.task h) (hn : g.near h = -1) (hr : g.ring h = []) (hoh : o ≠ h) (hor : g.ring o ≠ []) :
    Inv ts room hands (YtiekhigjllbalaaGreatDoor.robs ts room g h o) := by
  obtain ⟨k, hk⟩ : ∃ k, k = ((g.ring o).length + 1) / 2 := ⟨_, rfl⟩
  have hpos : 0 < (g.ring o).length := List.length_pos_iff.2 hor
  have hk1 : 1 ≤ k ∧ k ≤ (g.ring o).length := by rw [hk]; exact half_len hpos
  obtain ⟨x, l, hxl⟩ : ∃ x l, (g.ring o).take k = x :: l := List.exists_cons_of_ne_nil (by intro e; rcases List.take_eq_nil_iff.1 e with e | e; { omega }; { exact hor e })
  have hsub : ∀ y, y ∈ x :: l → y ∈ heldL g hands := fun y hy => held_ring ho (List.mem_of_mem_take (by rw [hxl]; exact hy))
  have hll : l.length + 1 = k := by
    have := congrArg List.length hxl
    simp at this
    omega
  obtain ⟨r, hrr⟩ : ∃ r, r = putAll room (-1, [], []) l := ⟨_, rfl⟩
  have hole := hI.ringLe o ho
  have hne : ∀ n, n ∈ l → n ≠ -1 := fun n hn => by
    obtain ⟨j, rfl, -⟩ := hI.rdy (hsub n (List.mem_cons_of_mem _ hn))
    omega
  have hp0 := putAll_perm room l (-1, [], []) hne
  have hnone := putAll_none room l (-1, [], []) (by simp; omega)
  rw [← hrr] at hp0 hnone
  rw [hnone] at hp0
  simp only [allH_none, List.nil_append] at hp0
  have hrl : r.2.1.length ≤ room := by
    rw [hrr]
    exact putAll_len (by omega) l _ (by simp)
  obtain ⟨g1, hg1⟩ : ∃ g1 : Gs, g1 = { g with near := upd g.near h r.1, ring := upd (upd g.ring o ((g.ring o).drop k)) h r.2.1 } := ⟨_, rfl⟩
  have he : YtiekhigjllbalaaGreatDoor.robs ts room g h o = YtiekhigjllbalaaGreatDoor.takes ts g1 h x := by
    unfold YtiekhigjllbalaaGreatDoor.robs
    have h1 : (upd g.ring o ((g.ring o).drop k)) h = [] := by rw [upd_ne _ _ (fun e => hoh e.symm)]; exact hr
    simp only [← hk, h1, hn, hxl, List.tail_cons, List.headD_cons, ← hrr]
    rw [hg1]
  rw [he]
  have hringo : g1.ring o = (g.ring o).drop k := by rw [hg1]; show upd _ h _ o = _; rw [upd_ne _ _ hoh, upd_self]
  have hringk : ∀ j, j ≠ h → j ≠ o → g1.ring j = g.ring j := fun j e1 e2 => by rw [hg1]; show upd _ h _ j = _; rw [upd_ne _ _ e1, upd_ne _ _ e2]
  have hringh : g1.ring h = r.2.1 := by rw [hg1]; exact upd_self _ _ _
  have hnear : ∀ j, j ≠ h → g1.near j = g.near j := fun j e => by rw [hg1]; exact upd_ne _ _ e
  have hnearh : g1.near h = r.1 := by rw [hg1]; exact upd_self _ _ _
  obtain ⟨g2, hg2⟩ : ∃ g2 : Gs, g2 = { g with ring := upd g.ring o ((g.ring o).drop k) } := ⟨_, rfl⟩
  have hx : x ∈ heldL g hands := hsub x (List.mem_cons_self ..)
  obtain ⟨j, hxj, -⟩ := hI.rdy hx
  refine hI.takes hw hh hz x hx (by rw [hg1]) (by rw [hg1]) (by rw [hg1]) (by rw [hg1]) (fun j e => Or.inl (hnear j e)) (fun j hj => ?_) (fun j e hj => ?_) ?_
  · by_cases e : j = h
    · subst e; rw [hringh]; exact hrl
    · by_cases e2 : j = o
      · subst e2; rw [hringo]; simp; omega
      · rw [hringk j e e2]; exact hI.ringLe j hj
  · by_cases e2 : j = o
    · subst e2; exact absurd hj hor
    · rw [hringk j e e2]; exact hj
  · have s1 := ofAll_one (g := g) (g' := g2) ho (fun j e => by rw [hg2]; show oneT (g.task j) ++ allH (g.near j) (upd g.ring o _ j) = _; rw [upd_ne _ _ e]; rfl) (x :: l) [] (by
      rw [hg2]
      show ((x :: l) ++ (oneT (g.task o) ++ allH (g.near o) (upd g.ring o ((g.ring o).drop k) o))).Perm ([] ++ (oneT (g.task o) ++ allH (g.near o) (g.ring o)))
      rw [upd_self, List.nil_append, ← hxl]
      refine (List.perm_append_comm_assoc _ _ _).trans (List.Perm.append_left _ ?_)
      unfold allH
      split
      · rw [List.take_append_drop]
      · rw [← List.append_assoc, List.take_append_drop])
    have s2 := ofAll_one (g := g2) (g' := YtiekhigjllbalaaGreatDoor.takes ts g1 h x) hh (fun j e => by
      show oneT (upd g1.task h x j) ++ allH (g1.near j) (g1.ring j) = oneT (g2.task j) ++ allH (g2.near j) (g2.ring j)
      rw [upd_ne _ _ e, hnear j e, hg2]
      have ht1 : g1.task j = g.task j := by rw [hg1]
      rw [ht1]
      congr 2
      show g1.ring j = upd g.ring o ((g.ring o).drop k) j
      by_cases e2 : j = o
      · subst e2; rw [hringo, upd_self]
      · rw [hringk j e e2, upd_ne _ _ e2]) [] (x :: l) (by
      show ([] ++ (oneT (upd g1.task h x h) ++ allH (g1.near h) (g1.ring h))).Perm ((x :: l) ++ (oneT (g2.task h) ++ allH (g2.near h) (g2.ring h)))
      have e1 : g2.ring h = [] := by rw [hg2]; show upd g.ring o _ h = []; rw [upd_ne _ _ (fun e => hoh e.symm)]; exact hr
      have e2 : g2.near h = -1 := by rw [hg2]; exact hn
      have e3 : g2.task h = g.task h := by rw [hg2]
      have h0 : oneT (g.task h) = [] := by simp [oneT, ht]
      rw [upd_self, e1, e2, e3, h0, hnearh, hringh, allH_none, oneT_some (by omega)]
      simpa using hp0)
    have hsp : (YtiekhigjllbalaaGreatDoor.takes ts g1 h x).sp = g.sp := by show g1.sp = g.sp; rw [hg1]
    unfold heldL
    rw [hsp]
    refine List.Perm.append_right _ ?_
    have := s2.trans s1
    simpa using this

/-- Whatever step is done. -/
theorem Inv.step (hI : Inv ts room hands g) (hg : Good ts) (hw : ∀ i, i < ts.length → 1 ≤ workOf ts i) (hr1 : 1 ≤ room) {h : Nat} (hh : h < hands) (pick : Nat) : Inv ts room hands (gstep ts room hands g h pick) := by
  unfold gstep
  by_cases hz : (h : Int) ∈ g.zz
  · rw [if_pos hz]; exact hI
  rw [if_neg hz]
  by_cases ht : 0 ≤ g.task h
  · rw [if_pos ht]
    by_cases hk : 1 < g.work h
    · rw [if_pos hk]; exact hI.works hk
    · rw [if_neg hk]; exact hI.ends hg hr1 hh hz ht
  rw [if_neg ht]
  by_cases hn : g.near h = -1
  · rw [if_neg (by simpa using hn)]
    by_cases hr : g.ring h = []
    · rw [if_neg (by simpa using hr)]
      by_cases hs : g.sp = []
      · rw [if_neg (by simpa using hs)]
        by_cases hp : pick % hands = h ∨ g.ring (pick % hands) = []
        · rw [if_pos hp]; exact hI.slept hh hz ht hn hr hs
        · rw [if_neg hp]
          exact hI.robs hw hh (Nat.mod_lt _ (by omega)) hz ht hn hr (fun e => hp (Or.inl e)) (fun e => hp (Or.inr e))
      · rw [if_pos hs]; exact hI.fetched hw hh hz ht hs
    · rw [if_pos hr]; exact hI.tookRing hw hh hz ht hn hr
  · rw [if_pos hn]; exact hI.tookNear hw hh hz ht hn
end Go.Proofs.YtiekhigjllbalaaGreatDoor
