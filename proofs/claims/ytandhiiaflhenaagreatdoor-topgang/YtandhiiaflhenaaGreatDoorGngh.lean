/- Plain: the order in which a gang finishes tasks is one in which nobody stands before whom it needs; its deeds are right by themselves, and not many. No word of the program. -/
import Derived.Test.YtandhiiaflhenaaGreatDoorGnfg
import Derived.Test.YtandhiiaflhenaaGreatDoorCla
namespace Go.Proofs.YtandhiiaflhenaaGreatDoor
variable {ts : List (Int × List Int)} {room hands : Nat} {g : Gs}

/-- The tasks that deeds finish, in order. -/
def finOf (l : List Deed) : List Nat := (l.filter (fun d => decide (d.1 = 4))).map (fun d => d.2.2.1.toNat)
theorem finOf_append (l m : List Deed) : finOf (l ++ m) = finOf l ++ finOf m := by simp [finOf]
theorem finOf_wokes (l : List Int) : finOf (l.map wokeD) = [] := by
  induction l with
  | nil => rfl
  | cons x l ih => rw [List.map_cons]; show finOf (wokeD x :: l.map wokeD) = []; unfold finOf at ih ⊢; simp [wokeD] at ih ⊢
theorem finOf_ends (h : Nat) : finOf (endsD ts g h) = [(g.task h).toNat] := by
  rw [ends_deeds]
  show finOf ([((4 : Int), (h : Int), g.task h, (0 : Int))] ++ _) = _
  rw [finOf_append, finOf_wokes]
  simp [finOf]
/-- What was finished, in order. -/
structure FI (ts : List (Int × List Int)) (g : Gs) (ord : List Nat) : Prop where
  mem : ∀ i, g.S i = true ↔ i ∈ ord
  nd : ord.Nodup
  bh : Behind ts ord
  lt : ∀ x, x ∈ ord → x < ts.length
theorem FI.new (ts : List (Int × List Int)) : FI ts (gnew ts) [] := ⟨fun i => by simp [gnew], List.nodup_nil, fun m hm => by simp at hm, fun x hx => by simp at hx⟩
theorem behind_snoc {l : List Nat} {i : Nat} (h : Behind ts l) (hy : ∀ y, Need ts i y → y ∈ l) : Behind ts (l ++ [i]) := by
  intro m hm y hn
  by_cases e : m < l.length
  · rw [List.take_append_of_le_length (by omega)]
    refine h m e y ?_
    rw [List.getD_eq_getElem?_getD, List.getElem?_append_left e, ← List.getD_eq_getElem?_getD] at hn
    exact hn
  · have hme : m = l.length := by simp at hm; omega
    subst hme
    rw [List.take_left' rfl]
    refine hy y ?_
    simpa using hn
theorem FI.same {g' : Gs} {ord : List Nat} (h : FI ts g ord) (hS : g'.S = g.S) : FI ts g' (ord ++ []) := by
  rw [List.append_nil]
  exact ⟨fun i => by rw [hS]; exact h.mem i, h.nd, h.bh, h.lt⟩
theorem FI.step {ord : List Nat} (hF : FI ts g ord) (hI : Inv ts room hands g) {h : Nat} (hh : h < hands) (pick : Nat) : FI ts (gstep ts room hands g h pick) (ord ++ finOf (gdeeds ts hands g h pick)) := by
  unfold gstep gdeeds
  by_cases hz : (h : Int) ∈ g.zz
  · simp only [if_pos hz]; exact hF.same rfl
  simp only [if_neg hz]
  by_cases ht : 0 ≤ g.task h
  · simp only [if_pos ht]
    by_cases hk : 1 < g.work h
    · simp only [if_pos hk]; exact hF.same rfl
    · simp only [if_neg hk]
      obtain ⟨i, he, hil, hrb⟩ := hI.rdy (held_task hh ht)
      obtain ⟨hS, hmn⟩ := ready_parts hrb
      have hms := missN_zero.1 hmn
      rw [finOf_ends, he, Int.toNat_natCast]
      have hnm : ¬ i ∈ ord := fun hm => by
        have := (hF.mem i).2 hm
        rw [hS] at this
        cases this
      refine ⟨fun j => ?_, ?_, behind_snoc hF.bh (fun y hy => ?_), fun x hx => ?_⟩
      · show mark g.S (g.task h).toNat j = true ↔ _
        rw [he, Int.toNat_natCast, List.mem_append, List.mem_singleton, ← hF.mem j]
        unfold mark
        split
        · rename_i e; simp [e]
        · rename_i e; simp [e]
      · refine List.nodup_append.2 ⟨hF.nd, by simp, fun a ha b hb e => ?_⟩
        rw [List.mem_singleton.1 hb] at e
        exact hnm (e ▸ ha)
      · have := hms (y : Int) hy
        rw [Int.toNat_natCast] at this
        exact (hF.mem y).1 this
      · rcases List.mem_append.1 hx with hx | hx
        · exact hF.lt x hx
        · rw [List.mem_singleton.1 hx]; exact hil
  simp only [if_neg ht]
  by_cases hn : g.near h ≠ -1
  · simp only [if_pos hn]; exact hF.same rfl
  simp only [if_neg hn]
  by_cases hr : g.ring h ≠ []
  · simp only [if_pos hr]; exact hF.same rfl
  simp only [if_neg hr]
  by_cases hs : g.sp ≠ []
  · simp only [if_pos hs]; exact hF.same rfl
  simp only [if_neg hs]
  by_cases hp : pick % hands = h ∨ g.ring (pick % hands) = []
  · simp only [if_pos hp]; exact hF.same rfl
  · simp only [if_neg hp]; exact hF.same rfl
/-- How many hands have a task. -/
def busyY (g : Gs) : Nat → Nat
  | 0 => 0
  | n + 1 => busyY g n + if 0 ≤ g.task n then 1 else 0
theorem busyY_congr {g' : Gs} {n : Nat} (h : ∀ k, k < n → g'.task k = g.task k) : busyY g' n = busyY g n := by
  induction n with
  | zero => rfl
  | succ n ih => show busyY g' n + _ = busyY g n + _; rw [ih (fun k hk => h k (by omega)), h n (by omega)]
theorem busyY_one {g' : Gs} {n h : Nat} (hh : h < n) (he : ∀ k, k ≠ h → g'.task k = g.task k) : busyY g' n + (if 0 ≤ g.task h then 1 else 0) = busyY g n + if 0 ≤ g'.task h then 1 else 0 := by
  induction n with
  | zero => omega
  | succ n ih =>
    show busyY g' n + _ + _ = busyY g n + _ + _
    by_cases e : n = h
    · subst e
      rw [busyY_congr (fun k hk => he k (by omega))]
      omega
    · have := ih (by omega)
      rw [he n e]
      omega
theorem busyY_le (g : Gs) (n : Nat) : busyY g n ≤ (ofAll g n).length := by
  induction n with
  | zero => exact Nat.zero_le _
  | succ n ih =>
    show busyY g n + _ ≤ (ofAll g n ++ ofH g n).length
    rw [List.length_append]
    have : (if 0 ≤ g.task n then 1 else 0) ≤ (ofH g n).length := by
      unfold ofH oneT
      split <;> simp
    omega
theorem nodup_len : ∀ (n : Nat) (l : List Nat), l.Nodup → (∀ x, x ∈ l → x < n) → l.length ≤ n := by
  intro n
  induction n with
  | zero =>
    intro l _ hx
    cases l with
    | nil => exact Nat.le_refl _
    | cons a r => have := hx a (by simp); omega
  | succ n ih =>
    intro l hd hx
    by_cases hn : n ∈ l
    · have hm : ∀ y, y ∈ l.erase n ↔ y ≠ n ∧ y ∈ l := fun y => List.Nodup.mem_erase_iff hd
      have := ih (l.erase n) (List.Nodup.erase n hd) (fun y hy => by
        have h1 := (hm y).1 hy
        have h2 := hx y h1.2
        have := h1.1
        omega)
      rw [List.length_erase_of_mem hn] at this
      omega
    · have := ih l hd (fun y hy => by
        have h2 := hx y hy
        have : y ≠ n := fun e => hn (e ▸ hy)
        omega)
      omega
/-- How many deeds there may have been. -/
def CI (ts : List (Int × List Int)) (hands : Nat) (g : Gs) (ord : List Nat) (n : Nat) : Prop := ∃ wk : Nat, n = 2 * ord.length + busyY g hands + 2 * wk + g.zz.length ∧ wk ≤ (readyTo ts g.S ts.length).length + ord.length
theorem CI.le {ord : List Nat} {n : Nat} (h : CI ts hands g ord n) (hF : FI ts g ord) (hI : Inv ts room hands g) (hzz : g.zz.length ≤ hands) : n ≤ 4 * ts.length + hands := by
  obtain ⟨wk, rfl, hw⟩ := h
  have h1 : (readyTo ts g.S ts.length).length + ord.length ≤ ts.length := by
    rw [← List.length_append]
    have hnd : (readyTo ts g.S ts.length ++ ord).Nodup := List.nodup_append.2 ⟨readyTo_nodup _ _ _, hF.nd, fun a ha b hb e => by
      subst e
      have h2 := (ready_parts (mem_readyTo.1 ha).2).1
      rw [(hF.mem a).2 hb] at h2
      cases h2⟩
    exact nodup_len ts.length _ hnd (fun x hx => by
      rcases List.mem_append.1 hx with hx | hx
      · exact (mem_readyTo.1 hx).1
      · exact hF.lt x hx)
  have h2 := busyY_le g hands
  have h3 : (ofAll g hands).length ≤ (readyTo ts g.S ts.length).length := by
    have := hI.held.length_eq
    rw [intsOf_length] at this
    unfold heldL at this
    rw [List.length_append] at this
    omega
  omega
theorem CI.new (hands : Nat) (ts : List (Int × List Int)) : CI ts hands (gnew ts) [] 0 := by
  refine ⟨0, ?_, Nat.zero_le _⟩
  have h0 : ∀ n, busyY (gnew ts) n = 0 := by
    intro n
    induction n with
    | zero => rfl
    | succ n ih => show busyY (gnew ts) n + _ = 0; rw [ih]; simp [gnew]
  rw [h0]
  simp [gnew]
theorem CI.step {ord : List Nat} {n : Nat} (hC : CI ts hands g ord n) (hI : Inv ts room hands g) (hg : Good ts) (_hw : ∀ i, i < ts.length → 1 ≤ workOf ts i) {h : Nat} (hh : h < hands) (pick : Nat) :
    CI ts hands (gstep ts room hands g h pick) (ord ++ finOf (gdeeds ts hands g h pick)) (n + (gdeeds ts hands g h pick).length) := by
  obtain ⟨wk, rfl, hwk⟩ := hC
  have take : ∀ (g1 : Gs) (i : Int) (d : Deed), g1.S = g.S → g1.zz = g.zz → g1.task = g.task → 0 ≤ i → ¬ 0 ≤ g.task h → d.1 ≠ 4 → CI ts hands (takes ts g1 h i) (ord ++ finOf [d]) (2 * ord.length + busyY g hands + 2 * wk + g.zz.length + [d].length) := fun g1 i d h1 h2 h3 hi ht hd => by
    have hf : finOf [d] = [] := by simp [finOf, hd]
    have hb := busyY_one (g := g) (g' := takes ts g1 h i) hh (fun k hk => by show updG g1.task h i k = _; rw [updG_ne _ _ hk, h3])
    rw [if_neg ht, if_pos (show 0 ≤ (takes ts g1 h i).task h by show 0 ≤ updG g1.task h i h; rw [updG_self]; exact hi)] at hb
    rw [hf, List.append_nil]
    refine ⟨wk, ?_, by show wk ≤ (readyTo ts g1.S ts.length).length + _; rw [h1]; exact hwk⟩
    show _ = 2 * ord.length + busyY (takes ts g1 h i) hands + 2 * wk + g1.zz.length
    rw [h2]
    simp
    omega
  unfold gstep gdeeds
  by_cases hz : (h : Int) ∈ g.zz
  · simp only [if_pos hz]; exact ⟨wk, by simp [finOf], by simpa [finOf] using hwk⟩
  simp only [if_neg hz]
  by_cases ht : 0 ≤ g.task h
  · simp only [if_pos ht]
    by_cases hk : 1 < g.work h
    · simp only [if_pos hk]
      have hb : busyY ({ g with work := updG g.work h (g.work h - 1) } : Gs) hands = busyY g hands := busyY_congr (fun _ _ => rfl)
      exact ⟨wk, by rw [hb]; simp [finOf], by simpa [finOf] using hwk⟩
    · simp only [if_neg hk]
      obtain ⟨i, he, hil, hrb⟩ := hI.rdy (held_task hh ht)
      have hp := (ready_after hg hI.down hil hrb).length_eq
      have hb := busyY_one (g := g) (g' := ends ts room g h) hh (fun k hk => by show updG g.task h (-1) k = _; rw [updG_ne _ _ hk])
      rw [if_pos ht, if_neg (show ¬ 0 ≤ (ends ts room g h).task h by show ¬ 0 ≤ updG g.task h (-1) h; rw [updG_self]; omega)] at hb
      have hd : (endsD ts g h).length = 1 + min (newL ts g.S i).length g.zz.length := by
        rw [ends_deeds, he, Int.toNat_natCast]
        simp
        omega
      have hzz : (ends ts room g h).zz.length = g.zz.length - (newL ts g.S i).length := by
        show (g.zz.drop (newL ts g.S (g.task h).toNat).length).length = _
        rw [he, Int.toNat_natCast, List.length_drop]
      rw [finOf_ends, hd]
      refine ⟨wk + min (newL ts g.S i).length g.zz.length, ?_, ?_⟩
      · rw [hzz, List.length_append]
        simp only [List.length_singleton]
        omega
      · show _ ≤ (readyTo ts (mark g.S (g.task h).toNat) ts.length).length + _
        rw [he, Int.toNat_natCast, List.length_append]
        simp only [List.length_cons, List.length_append, List.length_nil] at hp ⊢
        omega
  simp only [if_neg ht]
  by_cases hn : g.near h ≠ -1
  · simp only [if_pos hn]
    obtain ⟨k, e, _⟩ := hI.rdy (held_near hh hn)
    exact take _ _ _ rfl rfl rfl (by omega) ht (by show ¬ _ = _; simp)
  simp only [if_neg hn]
  by_cases hr : g.ring h ≠ []
  · simp only [if_pos hr]
    obtain ⟨k, e, _⟩ := hI.rdy (held_ring hh (x := (g.ring h).getLastD 0) (by rw [last_split hr]; simp))
    exact take _ _ _ rfl rfl rfl (by omega) ht (by show ¬ _ = _; simp)
  simp only [if_neg hr]
  by_cases hs : g.sp ≠ []
  · simp only [if_pos hs]
    obtain ⟨k, e, _⟩ := hI.rdy (held_sp (hands := hands) (x := g.sp.headD 0) (by
      cases hc : g.sp with
      | nil => exact absurd hc hs
      | cons x r => simp))
    exact take _ _ _ rfl rfl rfl (by omega) ht (by show ¬ _ = _; simp)
  simp only [if_neg hs]
  by_cases hp : pick % hands = h ∨ g.ring (pick % hands) = []
  · simp only [if_pos hp]
    refine ⟨wk, ?_, by simpa [finOf] using hwk⟩
    have hb : busyY ({ g with zz := g.zz ++ [(h : Int)] } : Gs) hands = busyY g hands := busyY_congr (fun _ _ => rfl)
    rw [hb]
    simp [finOf]
    omega
  · simp only [if_neg hp]
    have hpl : pick % hands < hands := Nat.mod_lt _ (by omega)
    have hhd : ((g.ring (pick % hands)).take (((g.ring (pick % hands)).length + 1) / 2)).headD 0 ∈ g.ring (pick % hands) := by
      have hlen : 0 < (g.ring (pick % hands)).length := List.length_pos_iff.2 (fun e => hp (Or.inr e))
      refine List.mem_of_mem_take (i := ((g.ring (pick % hands)).length + 1) / 2) ?_
      cases hc : (g.ring (pick % hands)).take (((g.ring (pick % hands)).length + 1) / 2) with
      | nil =>
        have h2 := congrArg List.length hc
        rw [List.length_take] at h2
        have h3 : min (((g.ring (pick % hands)).length + 1) / 2) (g.ring (pick % hands)).length = 0 := h2
        omega
      | cons x r => simp
    obtain ⟨k, e, _⟩ := hI.rdy (held_ring hpl hhd)
    exact take _ _ _ rfl rfl rfl (by omega) ht (by show ¬ _ = _; simp)
/-- A gang's deeds are right by themselves. -/
theorem deeds_right (hI : Inv ts room hands g) (hg : Good ts) (h6 : hands ≤ 6) {h : Nat} (hh : h < hands) (pick : Nat) : ∀ d, d ∈ gdeeds ts hands g h pick → deedE d = 0 := by
  have hle := hg.le
  have one : ∀ (i : Int) (a o : Int), i ∈ heldL g hands → 1 ≤ a ∧ a ≤ 4 → (a = 2 ∧ 0 ≤ o ∧ o < (hands : Int)) ∨ (a ≠ 2 ∧ o = 0) → deedE (a, (h : Int), i, o) = 0 := fun i a o hi ha ho => by
    obtain ⟨k, rfl, hk, _⟩ := hI.rdy hi
    unfold deedE
    dsimp only
    rw [if_neg (by omega), if_neg (by omega)]
  intro d hd
  unfold gdeeds at hd
  by_cases hz : (h : Int) ∈ g.zz
  · simp only [if_pos hz] at hd; cases hd
  simp only [if_neg hz] at hd
  by_cases ht : 0 ≤ g.task h
  · simp only [if_pos ht] at hd
    by_cases hk : 1 < g.work h
    · simp only [if_pos hk] at hd; cases hd
    · simp only [if_neg hk] at hd
      rw [ends_deeds] at hd
      rcases List.mem_cons.1 hd with rfl | hd
      · exact one _ 4 0 (held_task hh ht) ⟨by omega, by omega⟩ (Or.inr ⟨by omega, rfl⟩)
      · obtain ⟨x, hx, rfl⟩ := List.mem_map.1 hd
        obtain ⟨k, hk, rfl, _⟩ := hI.zr x (List.mem_of_mem_take hx)
        unfold deedE wokeD
        dsimp only
        rw [if_neg (by omega), if_neg (by omega)]
  simp only [if_neg ht] at hd
  by_cases hn : g.near h ≠ -1
  · simp only [if_pos hn] at hd
    rw [List.mem_singleton.1 hd]
    exact one _ 1 0 (held_near hh hn) ⟨by omega, by omega⟩ (Or.inr ⟨by omega, rfl⟩)
  simp only [if_neg hn] at hd
  by_cases hr : g.ring h ≠ []
  · simp only [if_pos hr] at hd
    rw [List.mem_singleton.1 hd]
    exact one _ 1 0 (held_ring hh (by rw [last_split hr]; simp)) ⟨by omega, by omega⟩ (Or.inr ⟨by omega, rfl⟩)
  simp only [if_neg hr] at hd
  by_cases hs : g.sp ≠ []
  · simp only [if_pos hs] at hd
    rw [List.mem_singleton.1 hd]
    refine one _ 3 0 (held_sp ?_) ⟨by omega, by omega⟩ (Or.inr ⟨by omega, rfl⟩)
    cases hc : g.sp with
    | nil => exact absurd hc hs
    | cons x r => simp
  simp only [if_neg hs] at hd
  by_cases hp : pick % hands = h ∨ g.ring (pick % hands) = []
  · simp only [if_pos hp] at hd
    rw [List.mem_singleton.1 hd]
    unfold deedE
    dsimp only
    rw [if_neg (by omega), if_neg (by omega)]
  · simp only [if_neg hp] at hd
    rw [List.mem_singleton.1 hd]
    have hpl : pick % hands < hands := Nat.mod_lt _ (by omega)
    refine one _ 2 _ (held_ring hpl ?_) ⟨by omega, by omega⟩ (Or.inl ⟨rfl, by omega, by omega⟩)
    have hlen : 0 < (g.ring (pick % hands)).length := List.length_pos_iff.2 (fun e => hp (Or.inr e))
    refine List.mem_of_mem_take (i := ((g.ring (pick % hands)).length + 1) / 2) ?_
    cases hc : (g.ring (pick % hands)).take (((g.ring (pick % hands)).length + 1) / 2) with
    | nil =>
      have h2 := congrArg List.length hc
      rw [List.length_take] at h2
      have h3 : min (((g.ring (pick % hands)).length + 1) / 2) (g.ring (pick % hands)).length = 0 := h2
      omega
    | cons x r => simp
end Go.Proofs.YtandhiiaflhenaaGreatDoor
