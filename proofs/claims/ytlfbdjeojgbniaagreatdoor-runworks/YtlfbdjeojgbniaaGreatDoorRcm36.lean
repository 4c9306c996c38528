/- Plain: the order in which a gang finishes tasks is one in which nobody stands before whom it needs; its deeds are right by themselves, and not many. No word of the program. A gang beside other things: which blocks are not its own. A session in memory: what it holds, what is kept, what may change. -/
import Derived.Test.YtlfbdjeojgbniaaGreatDoorRcm35
import Derived.Test.YtlfbdjeojgbniaaGreatDoorRcm17
import Derived.Test.YtlfbdjeojgbniaaGreatDoorRcm09

namespace Go.Proofs.YtlfbdjeojgbniaaGreatDoor
variable {ts : List (Int × List Int)} {room hands : Nat} {g : Gs}

/-- The tasks that deeds finish, in order. -/
def finOf (l : List Deed) : List Nat := (l.filter (fun d => decide (d.1 = 4))).map (fun d => d.2.2.1.toNat)
theorem finOf_append (l m : List Deed) : finOf (l ++ m) = finOf l ++ finOf m := by simp [finOf]
theorem finOf_wokes (l : List Int) : finOf (l.map wokeD) = [] := by
  induction l with
  | nil => rfl
  | cons x l ih => rw [List.map_cons]; show finOf (wokeD x :: l.map wokeD) = []; unfold finOf at ih ⊢; simp [wokeD] at ih ⊢
theorem finOf_ends (h : Nat) : finOf (endsD ts g h) = [(g.task h).toNat] := by
  rw [ends_deeds]
  show finOf ([((4 : Int), (h : Int), g.task h, (0 : Int))] ++ _) = _
  rw [finOf_append, finOf_wokes]
  simp [finOf]
/-- What was finished, in order. -/
structure FI (ts : List (Int × List Int)) (g : Gs) (ord : List Nat) : Prop where
  mem : ∀ i, g.S i = true ↔ i ∈ ord
  nd : ord.Nodup
  bh : Behind ts ord
  lt : ∀ x, x ∈ ord → x < ts.length
theorem FI.new (ts : List (Int × List Int)) : FI ts (gnew ts) [] := ⟨fun i => by simp [gnew], List.nodup_nil, fun m hm => by simp at hm, fun x hx => by simp at hx⟩
theorem behind_snoc {l : List Nat} {i : Nat} (h : Behind ts l) (hy : ∀ y, Need ts i y → y ∈ l) : Behind ts (l ++ [i]) := by
  intro m hm y hn
  by_cases e : m < l.length
  · rw [List.take_append_of_le_length (by omega)]
    refine h m e y ?_
    rw [List.getD_eq_getElem?_getD, List.getElem?_append_left e, ← List.getD_eq_getElem?_getD] at hn
    exact hn
  · have hme : m = l.length := by simp at hm; omega
    subst hme
    rw [List.take_left' rfl]
    refine hy y ?_
    simpa using hn
theorem FI.same {g' : Gs} {ord : List Nat} (h : FI ts g ord) (hS : g'.S = g.S) : FI ts g' (ord ++ []) := by
  rw [List.append_nil]
  exact ⟨fun i => by rw [hS]; exact h.mem i, h.nd, h.bh, h.lt⟩
theorem FI.step {ord : List Nat} (hF : FI ts g ord) (hI : Inv ts room hands g) {h : Nat} (hh : h < hands) (pick : Nat) : FI ts (gstep ts room hands g h pick) (ord ++ finOf (gdeeds ts hands g h pick)) := by
  unfold gstep gdeeds
  by_cases hz : (h : Int) ∈ g.zz
  · simp only [if_pos hz]; exact hF.same rfl
  simp only [if_neg hz]
  by_cases ht : 0 ≤ g.task h
  · simp only [if_pos ht]
    by_cases hk : 1 < g.work h
    · simp only [if_pos hk]; exact hF.same rfl
    · simp only [if_neg hk]
      obtain ⟨i, he, hil, hrb⟩ := hI.rdy (held_task hh ht)
      obtain ⟨hS, hmn⟩ := ready_parts hrb
      have hms := missN_zero.1 hmn
      rw [finOf_ends, he, Int.toNat_natCast]
      have hnm : ¬ i ∈ ord := fun hm => by
        have := (hF.mem i).2 hm
        rw [hS] at this
        cases this
      refine ⟨fun j => ?_, ?_, behind_snoc hF.bh (fun y hy => ?_), fun x hx => ?_⟩
      · show mark g.S (g.task h).toNat j = true ↔ _
        rw [he, Int.toNat_natCast, List.mem_append, List.mem_singleton, ← hF.mem j]
        unfold mark
        split
        · rename_i e; simp [e]
        · rename_i e; simp [e]
      · refine List.nodup_append.2 ⟨hF.nd, by simp, fun a ha b hb e => ?_⟩
        rw [List.mem_singleton.1 hb] at e
        exact hnm (e ▸ ha)
      · have := hms (y : Int) hy
        rw [Int.toNat_natCast] at this
        exact (hF.mem y).1 this
      · rcases List.mem_append.1 hx with hx | hx
        · exact hF.lt x hx
        · rw [List.mem_singleton.1 hx]; exact hil
  simp only [if_neg ht]
  by_cases hn : g.near h ≠ -1
  · simp only [if_pos hn]; exact hF.same rfl
  simp only [if_neg hn]
  by_cases hr : g.ring h ≠ []
  · simp only [if_pos hr]; exact hF.same rfl
  simp only [if_neg hr]
  by_cases hs : g.sp ≠ []
  · simp only [if_pos hs]; exact hF.same rfl
  simp only [if_neg hs]
  by_cases hp : pick % hands = h ∨ g.ring (pick % hands) = []
  · simp only [if_pos hp]; exact hF.same rfl
  · simp only [if_neg hp]; exact hF.same rfl
/-- How many hands have a task. -/
def busyY (g : Gs) : Nat → Nat
  | 0 => 0
  | n + 1 => busyY g n + if 0 ≤ g.task n then 1 else 0
theorem busyY_congr {g' : Gs} {n : Nat} (h : ∀ k, k < n → g'.task k = g.task k) : busyY g' n = busyY g n := by
  induction n with
  | zero => rfl
  | succ n ih => show busyY g' n + _ = busyY g n + _; rw [ih (fun k hk => h k (by omega)), h n (by omega)]
theorem busyY_one {g' : Gs} {n h : Nat} (hh : h < n) (he : ∀ k, k ≠ h → g'.task k = g.task k) : busyY g' n + (if 0 ≤ g.task h then 1 else 0) = busyY g n + if 0 ≤ g'.task h then 1 else 0 := by
  induction n with
  | zero => omega
  | succ n ih =>
    show busyY g' n + _ + _ = busyY g n + _ + _
    by_cases e : n = h
    · subst e
      rw [busyY_congr (fun k hk => he k (by omega))]
      omega
    · have := ih (by omega)
      rw [he n e]
      omega
theorem busyY_le (g : Gs) (n : Nat) : busyY g n ≤ (ofAll g n).length := by
  induction n with
  | zero => exact Nat.zero_le _
  | succ n ih =>
    show busyY g n + _ ≤ (ofAll g n ++ ofH g n).length
    rw [List.length_append]
    have : (if 0 ≤ g.task n then 1 else 0) ≤ (ofH g n).length := by
      unfold ofH oneT
      split <;> simp
    omega
theorem nodup_len : ∀ (n : Nat) (l : List Nat), l.Nodup → (∀ x, x ∈ l → x < n) → l.length ≤ n := by
  intro n
  induction n with
  | zero =>
    intro l _ hx
    cases l with
    | nil => exact Nat.le_refl _
    | cons a r => have := hx a (by simp); omega
  | succ n ih =>
    intro l hd hx
    by_cases hn : n ∈ l
    · have hm : ∀ y, y ∈ l.erase n ↔ y ≠ n ∧ y ∈ l := fun y => List.Nodup.mem_erase_iff hd
      have := ih (l.erase n) (List.Nodup.erase n hd) (fun y hy => by
        have h1 := (hm y).1 hy
        have h2 := hx y h1.2
        have := h1.1
        omega)
      rw [List.length_erase_of_mem hn] at this
      omega
    · have := ih l hd (fun y hy => by
        have h2 := hx y hy
        have : y ≠ n := fun e => hn (e ▸ hy)
        omega)
      omega
/-- How many deeds there may have been. -/
def CI (ts : List (Int × List Int)) (hands : Nat) (g : Gs) (ord : List Nat) (n : Nat) : Prop := ∃ wk : Nat, n = 2 * ord.length + busyY g hands + 2 * wk + g.zz.length ∧ wk ≤ (readyTo ts g.S ts.length).length + ord.length
theorem CI.le {ord : List Nat} {n : Nat} (h : CI ts hands g ord n) (hF : FI ts g ord) (hI : Inv ts room hands g) (hzz : g.zz.length ≤ hands) : n ≤ 4 * ts.length + hands := by
  obtain ⟨wk, rfl, hw⟩ := h
  have h1 : (readyTo ts g.S ts.length).length + ord.length ≤ ts.length := by
    rw [← List.length_append]
    have hnd : (readyTo ts g.S ts.length ++ ord).Nodup := List.nodup_append.2 ⟨readyTo_nodup _ _ _, hF.nd, fun a ha b hb e => by
      subst e
      have h2 := (ready_parts (mem_readyTo.1 ha).2).1
      rw [(hF.mem a).2 hb] at h2
      cases h2⟩
    exact nodup_len ts.length _ hnd (fun x hx => by
      rcases List.mem_append.1 hx with hx | hx
      · exact (mem_readyTo.1 hx).1
      · exact hF.lt x hx)
  have h2 := busyY_le g hands
  have h3 : (ofAll g hands).length ≤ (readyTo ts g.S ts.length).length := by
    have := hI.held.length_eq
    rw [intsOf_length] at this
    unfold heldL at this
    rw [List.length_append] at this
    omega
  omega
theorem CI.new (hands : Nat) (ts : List (Int × List Int)) : CI ts hands (gnew ts) [] 0 := by
  refine ⟨0, ?_, Nat.zero_le _⟩
  have h0 : ∀ n, busyY (gnew ts) n = 0 := by
    intro n
    induction n with
    | zero => rfl
    | succ n ih => show busyY (gnew ts) n + _ = 0; rw [ih]; simp [gnew]
  rw [h0]
  simp [gnew]
theorem CI.step {ord : List Nat} {n : Nat} (hC : CI ts hands g ord n) (hI : Inv ts room hands g) (hg : Good ts) (_hw : ∀ i, i < ts.length → 1 ≤ workOf ts i) {h : Nat} (hh : h < hands) (pick : Nat) :
    CI ts hands (gstep ts room hands g h pick) (ord ++ finOf (gdeeds ts hands g h pick)) (n + (gdeeds ts hands g h pick).length) := by
  obtain ⟨wk, rfl, hwk⟩ := hC
  have take : ∀ (g1 : Gs) (i : Int) (d : Deed), g1.S = g.S → g1.zz = g.zz → g1.task = g.task → 0 ≤ i → ¬ 0 ≤ g.task h → d.1 ≠ 4 → CI ts hands (takes ts g1 h i) (ord ++ finOf [d]) (2 * ord.length + busyY g hands + 2 * wk + g.zz.length + [d].length) := fun g1 i d h1 h2 h3 hi ht hd => by
    have hf : finOf [d] = [] := by simp [finOf, hd]
    have hb := busyY_one (g := g) (g' := takes ts g1 h i) hh (fun k hk => by show updG g1.task h i k = _; rw [updG_ne _ _ hk, h3])
    rw [if_neg ht, if_pos (show 0 ≤ (takes ts g1 h i).task h by show 0 ≤ updG g1.task h i h; rw [updG_self]; exact hi)] at hb
    rw [hf, List.append_nil]
    refine ⟨wk, ?_, by show wk ≤ (readyTo ts g1.S ts.length).length + _; rw [h1]; exact hwk⟩
    show _ = 2 * ord.length + busyY (takes ts g1 h i) hands + 2 * wk + g1.zz.length
    rw [h2]
    simp
    omega
  unfold gstep gdeeds
  by_cases hz : (h : Int) ∈ g.zz
  · simp only [if_pos hz]; exact ⟨wk, by simp [finOf], by simpa [finOf] using hwk⟩
  simp only [if_neg hz]
  by_cases ht : 0 ≤ g.task h
  · simp only [if_pos ht]
    by_cases hk : 1 < g.work h
    · simp only [if_pos hk]
      have hb : busyY ({ g with work := updG g.work h (g.work h - 1) } : Gs) hands = busyY g hands := busyY_congr (fun _ _ => rfl)
      exact ⟨wk, by rw [hb]; simp [finOf], by simpa [finOf] using hwk⟩
    · simp only [if_neg hk]
      obtain ⟨i, he, hil, hrb⟩ := hI.rdy (held_task hh ht)
      have hp := (ready_after hg hI.down hil hrb).length_eq
      have hb := busyY_one (g := g) (g' := ends ts room g h) hh (fun k hk => by show updG g.task h (-1) k = _; rw [updG_ne _ _ hk])
      rw [if_pos ht, if_neg (show ¬ 0 ≤ (ends ts room g h).task h by show ¬ 0 ≤ updG g.task h (-1) h; rw [updG_self]; omega)] at hb
      have hd : (endsD ts g h).length = 1 + min (newL ts g.S i).length g.zz.length := by
        rw [ends_deeds, he, Int.toNat_natCast]
        simp
        omega
      have hzz : (ends ts room g h).zz.length = g.zz.length - (newL ts g.S i).length := by
        show (g.zz.drop (newL ts g.S (g.task h).toNat).length).length = _
        rw [he, Int.toNat_natCast, List.length_drop]
      rw [finOf_ends, hd]
      refine ⟨wk + min (newL ts g.S i).length g.zz.length, ?_, ?_⟩
      · rw [hzz, List.length_append]
        simp only [List.length_singleton]
        omega
      · show _ ≤ (readyTo ts (mark g.S (g.task h).toNat) ts.length).length + _
        rw [he, Int.toNat_natCast, List.length_append]
        simp only [List.length_cons, List.length_append, List.length_nil] at hp ⊢
        omega
  simp only [if_neg ht]
  by_cases hn : g.near h ≠ -1
  · simp only [if_pos hn]
    obtain ⟨k, e, _⟩ := hI.rdy (held_near hh hn)
    exact take _ _ _ rfl rfl rfl (by omega) ht (by show ¬ _ = _; simp)
  simp only [if_neg hn]
  by_cases hr : g.ring h ≠ []
  · simp only [if_pos hr]
    obtain ⟨k, e, _⟩ := hI.rdy (held_ring hh (x := (g.ring h).getLastD 0) (by rw [last_split hr]; simp))
    exact take _ _ _ rfl rfl rfl (by omega) ht (by show ¬ _ = _; simp)
  simp only [if_neg hr]
  by_cases hs : g.sp ≠ []
  · simp only [if_pos hs]
    obtain ⟨k, e, _⟩ := hI.rdy (held_sp (hands := hands) (x := g.sp.headD 0) (by
      cases hc : g.sp with
      | nil => exact absurd hc hs
      | cons x r => simp))
    exact take _ _ _ rfl rfl rfl (by omega) ht (by show ¬ _ = _; simp)
  simp only [if_neg hs]
  by_cases hp : pick % hands = h ∨ g.ring (pick % hands) = []
  · simp only [if_pos hp]
    refine ⟨wk, ?_, by simpa [finOf] using hwk⟩
    have hb : busyY ({ g with zz := g.zz ++ [(h : Int)] } : Gs) hands = busyY g hands := busyY_congr (fun _ _ => rfl)
    rw [hb]
    simp [finOf]
    omega
  · simp only [if_neg hp]
    have hpl : pick % hands < hands := Nat.mod_lt _ (by omega)
    have hhd : ((g.ring (pick % hands)).take (((g.ring (pick % hands)).length + 1) / 2)).headD 0 ∈ g.ring (pick % hands) := by
      have hlen : 0 < (g.ring (pick % hands)).length := List.length_pos_iff.2 (fun e => hp (Or.inr e))
      refine List.mem_of_mem_take (i := ((g.ring (pick % hands)).length + 1) / 2) ?_
      cases hc : (g.ring (pick % hands)).take (((g.ring (pick % hands)).length + 1) / 2) with
      | nil =>
        have h2 := congrArg List.length hc
        rw [List.length_take] at h2
        have h3 : min (((g.ring (pick % hands)).length + 1) / 2) (g.ring (pick % hands)).length = 0 := h2
        omega
      | cons x r => simp
    obtain ⟨k, e, _⟩ := hI.rdy (held_ring hpl hhd)
    exact take _ _ _ rfl rfl rfl (by omega) ht (by show ¬ _ = _; simp)
/-- A gang's deeds are right by themselves. -/
theorem deeds_right (hI : Inv ts room hands g) (hg : Good ts) (h6 : hands ≤ 6) {h : Nat} (hh : h < hands) (pick : Nat) : ∀ d, d ∈ gdeeds ts hands g h pick → deedE d = 0 := by
  have hle := hg.le
  have one : ∀ (i : Int) (a o : Int), i ∈ heldL g hands → 1 ≤ a ∧ a ≤ 4 → (a = 2 ∧ 0 ≤ o ∧ o < (hands : Int)) ∨ (a ≠ 2 ∧ o = 0) → deedE (a, (h : Int), i, o) = 0 := fun i a o hi ha ho => by
    obtain ⟨k, rfl, hk, _⟩ := hI.rdy hi
    unfold deedE
    dsimp only
    rw [if_neg (by omega), if_neg (by omega)]
  intro d hd
  unfold gdeeds at hd
  by_cases hz : (h : Int) ∈ g.zz
  · simp only [if_pos hz] at hd; cases hd
  simp only [if_neg hz] at hd
  by_cases ht : 0 ≤ g.task h
  · simp only [if_pos ht] at hd
    by_cases hk : 1 < g.work h
    · simp only [if_pos hk] at hd; cases hd
    · simp only [if_neg hk] at hd
      rw [ends_deeds] at hd
      rcases List.mem_cons.1 hd with rfl | hd
      · exact one _ 4 0 (held_task hh ht) ⟨by omega, by omega⟩ (Or.inr ⟨by omega, rfl⟩)
      · obtain ⟨x, hx, rfl⟩ := List.mem_map.1 hd
        obtain ⟨k, hk, rfl, _⟩ := hI.zr x (List.mem_of_mem_take hx)
        unfold deedE wokeD
        dsimp only
        rw [if_neg (by omega), if_neg (by omega)]
  simp only [if_neg ht] at hd
  by_cases hn : g.near h ≠ -1
  · simp only [if_pos hn] at hd
    rw [List.mem_singleton.1 hd]
    exact one _ 1 0 (held_near hh hn) ⟨by omega, by omega⟩ (Or.inr ⟨by omega, rfl⟩)
  simp only [if_neg hn] at hd
  by_cases hr : g.ring h ≠ []
  · simp only [if_pos hr] at hd
    rw [List.mem_singleton.1 hd]
    exact one _ 1 0 (held_ring hh (by rw [last_split hr]; simp)) ⟨by omega, by omega⟩ (Or.inr ⟨by omega, rfl⟩)
  simp only [if_neg hr] at hd
  by_cases hs : g.sp ≠ []
  · simp only [if_pos hs] at hd
    rw [List.mem_singleton.1 hd]
    refine one _ 3 0 (held_sp ?_) ⟨by omega, by omega⟩ (Or.inr ⟨by omega, rfl⟩)
    cases hc : g.sp with
    | nil => exact absurd hc hs
    | cons x r => simp
  simp only [if_neg hs] at hd
  by_cases hp : pick % hands = h ∨ g.ring (pick % hands) = []
  · simp only [if_pos hp] at hd
    rw [List.mem_singleton.1 hd]
    unfold deedE
    dsimp only
    rw [if_neg (by omega), if_neg (by omega)]
  · simp only [if_neg hp] at hd
    rw [List.mem_singleton.1 hd]
    have hpl : pick % hands < hands := Nat.mod_lt _ (by omega)
    refine one _ 2 _ (held_ring hpl ?_) ⟨by omega, by omega⟩ (Or.inl ⟨rfl, by omega, by omega⟩)
    have hlen : 0 < (g.ring (pick % hands)).length := List.length_pos_iff.2 (fun e => hp (Or.inr e))
    refine List.mem_of_mem_take (i := ((g.ring (pick % hands)).length + 1) / 2) ?_
    cases hc : (g.ring (pick % hands)).take (((g.ring (pick % hands)).length + 1) / 2) with
    | nil =>
      have h2 := congrArg List.length hc
      rw [List.length_take] at h2
      have h3 : min (((g.ring (pick % hands)).length + 1) / 2) (g.ring (pick % hands)).length = 0 := h2
      omega
    | cons x r => simp
end Go.Proofs.YtlfbdjeojgbniaaGreatDoor

namespace Go.Proofs.YtlfbdjeojgbniaaGreatDoor
open Go.RowKit Go.Deep

theorem least (P : Nat → Prop) : ∀ n, P n → ∃ k, P k ∧ ∀ j, j < k → ¬ P j := by
  intro n
  induction n using Nat.strongRecOn with
  | _ n ih =>
    intro hn
    by_cases h : ∃ j, j < n ∧ P j
    · obtain ⟨j, hj, hp⟩ := h
      exact ih j hj hp
    · exact ⟨n, hn, fun j hj hp => h ⟨j, hj, hp⟩⟩
theorem check_exists (ts : List (Int × List Int)) : ∃ p q, CheckIs ts p q := by
  by_cases h30 : 30 < ts.length
  · exact ⟨_, _, CheckIs.full h30⟩
  by_cases he : ∃ k, k < ts.length ∧ errOf ts k ≠ 0
  · obtain ⟨k0, h0⟩ := he
    obtain ⟨k, ⟨h1, h2⟩, h3⟩ := least (fun k => k < ts.length ∧ errOf ts k ≠ 0) k0 h0
    refine ⟨_, _, CheckIs.task k (by omega) h1 (fun j hj => ?_) h2⟩
    by_cases e : errOf ts j = 0
    · exact e
    · exact absurd ⟨by omega, e⟩ (h3 j hj)
  have hall : ∀ j, j < ts.length → errOf ts j = 0 := fun j hj => by
    by_cases e : errOf ts j = 0
    · exact e
    · exact absurd ⟨j, hj, e⟩ he
  by_cases hr : ∃ k, k < ts.length ∧ Reach ts k k
  · obtain ⟨k0, h0⟩ := hr
    obtain ⟨k, ⟨h1, h2⟩, h3⟩ := least (fun k => k < ts.length ∧ Reach ts k k) k0 h0
    exact ⟨_, _, CheckIs.ring k (by omega) hall h1 (fun j hj e => h3 j hj ⟨by omega, e⟩) h2⟩
  · exact ⟨_, _, CheckIs.none (by omega) hall (fun j hj e => hr ⟨j, hj, e⟩)⟩
theorem below_kx {X : Nat → Prop} {w w' : World} (h : Below w.heap.size w w') : Kx X w w' := ⟨h.os, h.tape, h.output, h.size, fun k hk _ => h.block k hk⟩
/-- A block of deeds. -/
def DeedB (w : World) (k : Nat) : Prop := ∃ cur fr, w.heap[k]? = some (.cells cur 91 fr)
theorem RowD.deedB {b : Nat} {w : World} {v : Value} {l : List Deed} (h : RowD b w v l) {k : Nat} (hk : v.ownBlock = some k) : DeedB w k := by
  rcases h.2 with ⟨rfl, _⟩ | ⟨g, cap, cur, rfl, _, hh, _⟩
  · cases hk
  · have : g = k := by simpa [Value.ownBlock] using hk
    subst this
    exact ⟨cur, _, hh⟩
theorem rowIs_ne {w : World} {b n k : Nat} {t : TypeId} {f : Nat → Value} (h : w.rowIs b t n f) (hk : DeedB w k) (ht : t ≠ 91) : b ≠ k := by
  intro e
  subst e
  obtain ⟨c, h1, _⟩ := h
  obtain ⟨cur, fr, h2⟩ := hk
  rw [h1] at h2
  simp at h2
  exact ht h2.2.1
theorem cells_ne {w : World} {b k : Nat} {t : TypeId} {c : Array Value} {fr : Nat × Nat} (h : w.heap[b]? = some (.cells c t fr)) (hk : DeedB w k) (ht : t ≠ 91) : b ≠ k := by
  intro e
  subst e
  obtain ⟨cur, fr, h2⟩ := hk
  rw [h] at h2
  simp at h2
  exact ht h2.2.1
theorem ints_ne {w : World} {b k j : Nat} {v : Value} {zs : List Int} (h : w.ownsRow b 3 1 v zs.length (zs.map (Value.int .i64))) (hk : DeedB w k) (hv : v.ownBlock = some j) : j ≠ k := by
  rcases h.2 with ⟨rfl, _⟩ | ⟨g, cap, cur, rfl, _, hh, _⟩
  · cases hv
  · have : g = j := by simpa [Value.ownBlock] using hv
    subst this
    exact cells_ne hh hk (by decide)
theorem map_ne {w : World} {b k : Nat} {es : Array _} {c : Nat} (h : w.heap[b]? = some (.map es c)) (hk : DeedB w k) : b ≠ k := by
  intro e
  subst e
  obtain ⟨cur, fr, h2⟩ := hk
  rw [h] at h2
  cases h2
variable {B : Bs} {G room hands : Nat} {ts : List (Int × List Int)} {g : Gs} {wk : Nat → Int} {own : Nat → Nat} {Q : Qp} {w w' : World}
/-- No block of deeds is the gang's. -/
theorem Pg.deedB (h : Pg B G room hands ts g wk own Q w) {k : Nat} (hk : DeedB w k) : Pg B G room hands ts g wk (updG own k 9) Q w := by
  have hjn : Jn Q.J Q.M Q.A Q.D Q.C ts.length _ _ _ w := h.jn
  obtain ⟨av, haf⟩ := hjn.aft
  obtain ⟨m, D, ⟨es, clock, hmb, _⟩, _⟩ := hjn.done
  obtain ⟨m2, D2, ⟨es2, clock2, hmb2, _⟩, _⟩ := h.has
  exact { h with
    lG := by rw [updG_ne _ _ (rowIs_ne h.row hk (by decide))]; exact h.lG
    lJ := by
      rw [updG_ne _ _ (rowIs_ne hjn.row hk (by decide)), updG_ne _ _ (rowIs_ne hjn.miss hk (by decide)), updG_ne _ _ (rowIs_ne haf.row hk (by decide)), updG_ne _ _ (map_ne hmb hk)]
      exact h.lJ
    lA := fun i v b hi hv hb => by
      obtain ⟨h1, h2⟩ := h.lA i v b hi hv hb
      have hc := haf.row.cell hi
      rw [hv] at hc
      have he : v = av i := Option.some.inj hc
      refine ⟨h1, ?_⟩
      rw [updG_ne _ _ (ints_ne (haf.own i hi) hk (by rw [← he]; exact hb))]
      exact h2
    lS := ⟨by rw [updG_ne _ _ (cells_ne h.sp.cells hk (by decide))]; exact h.lS.1, fun j hj => by rw [updG_ne _ _ (ints_ne h.sp.row hk hj)]; exact h.lS.2 j hj⟩
    lK := ⟨by rw [updG_ne _ _ (cells_ne h.pk.cells hk (by decide))]; exact h.lK.1, fun j hj => by rw [updG_ne _ _ (ints_ne h.pk.row hk hj)]; exact h.lK.2 j hj⟩
    lHB := by rw [updG_ne _ _ (rowIs_ne h.hrow hk (by decide))]; exact h.lHB
    lH := fun j hj => by
      obtain ⟨gg, f, hrg⟩ := (h.hand j hj).ring
      rw [updG_ne _ _ (rowIs_ne (h.hand j hj).row hk (by decide)), updG_ne _ _ (rowIs_ne hrg.row hk (by decide))]
      exact h.lH j hj
    lM := by rw [updG_ne _ _ (map_ne hmb2 hk)]; exact h.lM
    lW := by rw [updG_ne _ _ (rowIs_ne h.wrow hk (by decide))]; exact h.lW
    far := fun j hj => by
      obtain ⟨h1, h2, h3⟩ := h.far j hj
      refine ⟨h1, ?_, h3⟩
      by_cases e : j = k
      · subst e; exact updG_self _ _ _
      · rw [updG_ne _ _ e]; exact h2 }

/-- A gang; the blocks of X are not its own. -/
def GX (X : Nat → Prop) (G room hands : Nat) (ts : List (Int × List Int)) (g : Gs) (w : World) : Prop :=
  ∃ B own Q wk, Pg B G room hands ts g wk own Q w ∧ WkOk ts hands g wk ∧ Inv ts room hands g ∧ ∀ k, X k → k < w.heap.size ∧ own k = 9
variable {X Y : Nat → Prop}
theorem GX.sub (h : GX X G room hands ts g w) (hs : ∀ k, Y k → X k) : GX Y G room hands ts g w := by
  obtain ⟨B, own, Q, wk, hP, hK, hI, hX⟩ := h
  exact ⟨B, own, Q, wk, hP, hK, hI, fun k hk => hX k (hs k hk)⟩
theorem GX.inv (h : GX X G room hands ts g w) : Inv ts room hands g := by
  obtain ⟨B, own, Q, wk, hP, hK, hI, hX⟩ := h
  exact hI
theorem GX.lt (h : GX X G room hands ts g w) {k : Nat} (hk : X k) : k < w.heap.size := by
  obtain ⟨B, own, Q, wk, hP, hK, hI, hX⟩ := h
  exact (hX k hk).1
/-- Other things may change, and new ones come. -/
theorem GX.away (h : GX X G room hands ts g w) (K : Kx X w w') : GX (fun k => X k ∨ (w.heap.size ≤ k ∧ k < w'.heap.size)) G room hands ts g w' := by
  obtain ⟨B, own, Q, wk, hP, hK, hI, hX⟩ := h
  refine ⟨_, _, Q, wk, hP.away ⟨K.os, K.tape, K.output, K.size, fun k hk hC => K.block k hk (fun e => hC (hX k e).2)⟩, hK, hI, fun k hk => ?_⟩
  rcases hk with hk | ⟨h1, h2⟩
  · have := hX k hk
    exact ⟨Nat.lt_of_lt_of_le this.1 K.size, by rw [relabel_lt this.1]; exact this.2⟩
  · exact ⟨h2, relabel_ge h1⟩
theorem GX.later (h : GX X G room hands ts g w) (hb : Below w.heap.size w w') : GX X G room hands ts g w' := (h.away (below_kx hb)).sub (fun _ hk => Or.inl hk)
/-- A block of deeds is not its own. -/
theorem GX.deeds (h : GX X G room hands ts g w) {k : Nat} (hk : DeedB w k) : GX (fun j => X j ∨ j = k) G room hands ts g w := by
  obtain ⟨B, own, Q, wk, hP, hK, hI, hX⟩ := h
  refine ⟨B, _, Q, wk, hP.deedB hk, hK, hI, fun j hj => ?_⟩
  have hlt : k < w.heap.size := by
    obtain ⟨cur, fr, h2⟩ := hk
    exact lt_of_block h2
  by_cases e : j = k
  · subst e; exact ⟨hlt, updG_self _ _ _⟩
  · rw [updG_ne _ _ e]
    rcases hj with hj | hj
    · exact hX j hj
    · exact absurd hj e
/-- What a step keeps. -/
structure KeptX (X : Nat → Prop) (w w' : World) : Prop where
  os : w'.os = w.os
  tape : w'.tape = w.tape
  output : w'.output = w.output
  size : w.heap.size ≤ w'.heap.size
  block : ∀ k, X k → w'.heap[k]? = w.heap[k]?
theorem GX.step (h : GX X G room hands ts g w) (hg : Good ts) (hw : ∀ i, i < ts.length → 1 ≤ workOf ts i ∧ workOf ts i ≤ 1000) (hr1 : 1 ≤ room) (h16 : room ≤ 16) (h6 : hands ≤ 6) (j pick : Nat) (hj : j < hands) (hp63 : pick < 9223372036854775808) :
    Calls Tryz.prog 92 #[.pointer (some ⟨G, 0, none⟩), .int .i64 j, .int .i64 pick] w fun e w' => ∃ v, e = .returned (.tuple #[v, .nilIface]) ∧ RowD w.heap.size w' v (gdeeds ts hands g j pick) ∧ GX X G room hands ts (gstep ts room hands g j pick) w' ∧ KeptX X w w' := by
  obtain ⟨B, own, Q, wk, hP, hK, hI, hX⟩ := h
  refine (step_any hP hI hK hg hw hr1 h16 h6 j pick hj hp63).mono ?_
  rintro e w' ⟨v, rfl, hv, B', own', Q', wk', hP', hK', hW⟩
  exact ⟨v, rfl, hv, ⟨B', own', Q', wk', hP', hK', hI.step hg (fun i hi => (hw i hi).1) hr1 hj pick, fun k hk => ⟨Nat.lt_of_lt_of_le (hX k hk).1 hW.size, (hW.block k (hX k hk).1 (hX k hk).2).2⟩⟩, hW.os, hW.tape, hW.output, hW.size, fun k hk => (hW.block k (hX k hk).1 (hX k hk).2).1⟩
theorem GX.refused (h : GX X G room hands ts g w) (x y : Int) (hno : x < 0 ∨ (hands : Int) ≤ x ∨ y < 0) :
    Calls Tryz.prog 92 #[.pointer (some ⟨G, 0, none⟩), .int .i64 x, .int .i64 y] w fun e w' => e = .returned (.tuple #[.slice none 0 0, .iface 97 (.int .i64 1)]) ∧ w' = w := by
  obtain ⟨B, own, Q, wk, hP, hK, hI, hX⟩ := h
  by_cases hr : x < 0 ∨ (hands : Int) ≤ x
  · exact step_range hP x y hr
  · obtain ⟨j, rfl⟩ : ∃ j : Nat, x = j := ⟨x.toNat, by omega⟩
    exact step_pick hP j y (by omega) (by omega)
theorem gLeft_any (hP : Pg B G room hands ts g wk own Q w) :
    Calls Tryz.prog 15 #[.pointer (some ⟨G, 0, none⟩)] w fun e w' => e = .returned (.int .i64 (unseen g.S ts.length)) ∧ ∃ q, w' = w.drewN q := by
  have c0 := hP.c.1
  have hl := left_any Q.J Q.M Q.A Q.D Q.C ts g.S w hP.jn
  clear hP
  go_enter Tryz.func15, Tryz.ntmps15
  go_wp2_with (first | (go_at_call 14; refine hl.mono ?_; clear hl; rintro e w1 ⟨rfl, q, rfl⟩))
  go_ret
  exact ⟨rfl, _, rfl⟩
theorem GX.left (h : GX X G room hands ts g w) :
    Calls Tryz.prog 15 #[.pointer (some ⟨G, 0, none⟩)] w fun e w' => e = .returned (.int .i64 (unseen g.S ts.length)) ∧ Below w.heap.size w w' := by
  obtain ⟨B, own, Q, wk, hP, hK, hI, hX⟩ := h
  refine (gLeft_any hP).mono ?_
  rintro e w' ⟨rfl, q, rfl⟩
  exact ⟨rfl, rfl, rfl, rfl, Nat.le_refl _, fun _ _ => rfl⟩
theorem gx_new {v : Value} (hp : PlanAt w v ts) (hc : CheckIs ts 0 0) (h1 : 1 ≤ hands) (h6 : hands ≤ 6) (r1 : 1 ≤ room) (r16 : room ≤ 16) :
    Calls Tryz.prog 13 #[v, .int .i64 hands, .int .i64 room] w fun e w' => ∃ G, e = .returned (.tuple #[.pointer (some ⟨G, 0, none⟩), .nilIface]) ∧ GX (fun k => k < w.heap.size) G room hands ts (gnew ts) w' ∧ Below w.heap.size w w' := by
  refine (gNew_good v ts w hp hc hands room h1 h6 r1 r16).mono ?_
  rintro e w' ⟨G, own, Q, rfl, hP, hG, hb⟩
  exact ⟨G, rfl, ⟨_, own, Q, _, hP, WkOk.new ts hands, Inv.new h1, fun k hk => ⟨by have hk' : k < w.heap.size := hk; have := hb.size; omega, (hP.far k hk).2.1⟩⟩, hb⟩
/-- New is refused: by what is wrong with the plan, or the hands, or the room. -/
theorem gNew_no (v : Value) (ts : List (Int × List Int)) (w : World) (hp : PlanAt w v ts) (hands room : Int) (hno : ¬ (CheckIs ts 0 0 ∧ 1 ≤ hands ∧ hands ≤ 6 ∧ 1 ≤ room ∧ room ≤ 16)) :
    Calls Tryz.prog 13 #[v, .int .i64 hands, .int .i64 room] w fun e w' => (∃ q : Int, e = .returned (.tuple #[.pointer none, .iface 97 (.int .i64 q)])) ∧ Below w.heap.size w w' := by
  by_cases hc : CheckIs ts 0 0
  · by_cases hh : hands < 1 ∨ 6 < hands
    · have hjn := new_good v ts w hp hc
      have HPK : Hid (∀ w1, Calls Tryz.prog 42 #[.int .i64 hands] w1 fun e w' => e = .returned (.tuple #[.pointer none, .iface 97 (.int .i64 1)]) ∧ w' = w1) := fun w1 => Prk.New_bad hands w1 hh
      obtain ⟨pa, pc, rfl⟩ : ∃ a c, v = .slice a ts.length c := by obtain ⟨hl, a, c, hv, -⟩ := hp; exact ⟨a, c, hv⟩
      clear hp hc hh hno
      go_enter Tryz.func13, Tryz.ntmps13
      go_wp2_with (first | (go_at_call 12; refine hjn.mono ?_; clear hjn; rintro e w1 ⟨J, M, A, D, C, rfl, -, -, hb1⟩; have hpk := HPK.out w1; clear HPK) | (go_at_call 42; refine hpk.mono ?_; clear hpk; rintro e w1 ⟨rfl, rfl⟩))
      go_ret2
      exact ⟨⟨1, rfl⟩, hb1⟩
    · obtain ⟨hn, rfl⟩ : ∃ hn : Nat, hands = hn := ⟨hands.toNat, by omega⟩
      have hr : room < 1 ∨ 16 < room := by
        apply Classical.byContradiction
        intro hc2
        exact hno ⟨hc, by omega, by omega, by omega, by omega⟩
      have hjn := new_good v ts w hp hc
      have HPK : Hid (∀ w1, Calls Tryz.prog 42 #[.int .i64 hn] w1 fun e w' => e = .returned (.tuple #[.pointer (some ⟨w1.heap.size, 0, none⟩), .nilIface]) ∧ Prk.Pk w1.heap.size hn [] (.slice none 0 0) w' ∧ Below w1.heap.size w1 w') := fun w1 => Prk.New_good hn w1 (by omega) (by omega)
      have HSP : Hid (∀ w1, Calls Tryz.prog 43 #[.int .i64 room] w1 fun e w' => e = .returned (.tuple #[.pointer none, .iface 97 (.int .i64 1)]) ∧ w' = w1) := fun w1 => Spl.New_bad room w1 hr
      obtain ⟨pa, pc, rfl⟩ : ∃ a c, v = .slice a ts.length c := by obtain ⟨hl, a, c, hv, -⟩ := hp; exact ⟨a, c, hv⟩
      clear hp hc hr hno hh
      go_enter Tryz.func13, Tryz.ntmps13
      go_wp2_with (first | (go_at_call 12; refine hjn.mono ?_; clear hjn; rintro e w1 ⟨J, M, A, D, C, rfl, -, -, hb1⟩; have hpk := HPK.out w1; clear HPK) | (go_at_call 42; refine hpk.mono ?_; clear hpk; rintro e w2 ⟨rfl, -, hb2⟩; have hsp := HSP.out w2; clear HSP) | (go_at_call 43; refine hsp.mono ?_; clear hsp; rintro e w2 ⟨rfl, rfl⟩))
      go_ret2
      exact ⟨⟨1, rfl⟩, hb1.trans (hb2.mono hb1.size)⟩
  · obtain ⟨a, q, hcq⟩ := check_exists ts
    have hq : q ≠ 0 := fun e => by
      have h0 := (hcq.ok e).1
      rw [e, h0] at hcq
      exact hc hcq
    have hjn := new_bad v ts w hp hcq hq
    obtain ⟨pa, pc, rfl⟩ : ∃ a c, v = .slice a ts.length c := by obtain ⟨hl, a, c, hv, -⟩ := hp; exact ⟨a, c, hv⟩
    have e1 : errV q = .iface 97 (.int .i64 q) := by unfold errV; simp [hq]
    rw [e1] at hjn
    clear hp hc hcq e1 hno hq
    go_enter Tryz.func13, Tryz.ntmps13
    go_wp2_with (first | (go_at_call 12; refine hjn.mono ?_; clear hjn; rintro e w1 ⟨rfl, hb1⟩))
    go_ret2
    exact ⟨⟨q, rfl⟩, hb1⟩
end Go.Proofs.YtlfbdjeojgbniaaGreatDoor

namespace Go.Proofs.YtlfbdjeojgbniaaGreatDoor
open Go.RowKit Go.Deep

/-- A plan that lies in blocks of Y alone. -/
def PlanY (Y : Nat → Prop) (w : World) (pv : Value) (ts : List (Int × List Int)) : Prop := ∀ W : World, (∀ k, Y k → W.heap[k]? = w.heap[k]?) → PlanAt W pv ts
theorem PlanY.at {Y : Nat → Prop} {w : World} {pv : Value} {ts : List (Int × List Int)} (h : PlanY Y w pv ts) : PlanAt w pv ts := h w (fun _ _ => rfl)
theorem PlanY.kept {Y : Nat → Prop} {w w' : World} {pv : Value} {ts : List (Int × List Int)} (h : PlanY Y w pv ts) (e : ∀ k, Y k → w'.heap[k]? = w.heap[k]?) : PlanY Y w' pv ts := fun W hW => h W (fun k hk => (hW k hk).trans (e k hk))
theorem PlanY.more {Y Y' : Nat → Prop} {w : World} {pv : Value} {ts : List (Int × List Int)} (h : PlanY Y w pv ts) (e : ∀ k, Y k → Y' k) : PlanY Y' w pv ts := fun W hW => h W (fun k hk => hW k (e k hk))
theorem PlanY.nil (Y : Nat → Prop) (w : World) : PlanY Y w (.slice none 0 0) [] := fun W _ => ⟨by simp, none, 0, rfl, Or.inl rfl⟩
/-- A session's gang. -/
def GangV (X : Nat → Prop) : Option (List (Int × List Int) × Nat × Gs) → Value → World → Prop
  | none, gv, _ => gv = .pointer none
  | some (ts, hands, g), gv, w => ∃ G, gv = .pointer (some ⟨G, 0, none⟩) ∧ GX X G 4 hands ts g w
/-- A session in block S; X: what is not its gang's; Y: what lines leave as it is (its plan's, and what its asks are made of). -/
structure DeskAt (W0 : World) (Y X : Nat → Prop) (S : Nat) (d : Desk) (w : World) : Prop where
  low : ∀ k, X k → k < w.heap.size
  old : ∀ k, k < W0.heap.size → X k
  sz : W0.heap.size ≤ S
  xS : X S
  yX : ∀ k, Y k → X k ∧ k ≠ S
  bel : Below W0.heap.size W0 w
  mem : ∃ pv gv, w.heap[S]? = some (.cells #[pv, gv] 51 (0, 0)) ∧ PlanY Y w pv d.ts ∧ GangV X d.gang gv w
  ok : d.Ok
variable {W0 : World} {Y X Z : Nat → Prop} {S : Nat} {d d' : Desk} {w w' w'' : World}
theorem GangV.away {o : Option (List (Int × List Int) × Nat × Gs)} {gv : Value} (h : GangV X o gv w) (K : Kx X w w') : GangV (fun k => X k ∨ (w.heap.size ≤ k ∧ k < w'.heap.size)) o gv w' := by
  cases o with
  | none => exact h
  | some x =>
    obtain ⟨G, h1, h2⟩ := h
    exact ⟨G, h1, h2.away K⟩
theorem GangV.sub {o : Option (List (Int × List Int) × Nat × Gs)} {gv : Value} (h : GangV X o gv w) (e : ∀ k, Z k → X k) : GangV Z o gv w := by
  cases o with
  | none => exact h
  | some x =>
    obtain ⟨G, h1, h2⟩ := h
    exact ⟨G, h1, h2.sub e⟩
/-- What was not the gang's, and what came since. -/
def andNew (X : Nat → Prop) (a b : Nat) : Nat → Prop := fun k => X k ∨ (a ≤ k ∧ k < b)
/-- Blocks change that are neither the session's nor its gang's. -/
theorem DeskAt.away (h : DeskAt W0 Y X S d w) (K : Kx Z w w') (hX : ∀ k, Z k → X k) (hY : ∀ k, Z k → ¬ Y k ∧ k ≠ S ∧ W0.heap.size ≤ k) : DeskAt W0 Y (andNew X w.heap.size w'.heap.size) S d w' := by
  obtain ⟨pv, gv, h1, h2, h3⟩ := h.mem
  have hs : ∀ k, X k → ¬ Z k → w'.heap[k]? = w.heap[k]? := fun k hx hz => K.block k (h.low k hx) hz
  refine ⟨fun k hk => ?_, fun k hk => Or.inl (h.old k hk), h.sz, Or.inl h.xS, fun k hk => ⟨Or.inl (h.yX k hk).1, (h.yX k hk).2⟩, ?_, ⟨pv, gv, ?_, ?_, ?_⟩, h.ok⟩
  · rcases hk with hk | hk
    · exact Nat.lt_of_lt_of_le (h.low k hk) K.size
    · exact hk.2
  · exact ⟨K.os.trans h.bel.os, K.tape.trans h.bel.tape, K.output.trans h.bel.output, Nat.le_trans h.bel.size K.size, fun k hk => (hs k (h.old k hk) (fun hz => by have := (hY k hz).2.2; omega)).trans (h.bel.block k hk)⟩
  · exact (hs S h.xS (fun hz => (hY S hz).2.1 rfl)).trans h1
  · exact h2.kept (fun k hk => hs k (h.yX k hk).1 (fun hz => (hY k hz).1 hk))
  · exact h3.away ⟨K.os, K.tape, K.output, K.size, fun k hk hx => K.block k hk (fun hz => hx (hX k hz))⟩
theorem DeskAt.later (h : DeskAt W0 Y X S d w) (hb : Below w.heap.size w w') : DeskAt W0 Y (andNew X w.heap.size w'.heap.size) S d w' :=
  h.away (Z := fun _ => False) ⟨hb.os, hb.tape, hb.output, hb.size, fun k hk _ => hb.block k hk⟩ (fun _ h => h.elim) (fun _ h => h.elim)
/-- A session moved from one world to another: by a line. -/
def Moved (W0 : World) (Y X : Nat → Prop) (S : Nat) (d' : Desk) (w w' : World) : Prop :=
  ∃ Y' X' : Nat → Prop, DeskAt W0 Y' X' S d' w' ∧ (∀ k, Y k → Y' k) ∧ (∀ k, X k → X' k) ∧ (∀ k, Y' k → Y k ∨ w.heap.size ≤ k) ∧ KeptX (fun k => X k ∧ k ≠ S) w w'
theorem DeskAt.stays (h : DeskAt W0 Y X S d w) (hb : Below w.heap.size w w') : Moved W0 Y X S d w w' :=
  ⟨Y, _, h.later hb, fun _ hk => hk, fun _ hk => Or.inl hk, fun _ hk => Or.inl hk, hb.os, hb.tape, hb.output, hb.size, fun k hk => hb.block k (h.low k hk.1)⟩
theorem Moved.later (h : Moved W0 Y X S d w w') (hb : Below w'.heap.size w' w'') : Moved W0 Y X S d w w'' := by
  obtain ⟨Y', X', h1, h2, h3, h4, h5⟩ := h
  exact ⟨Y', _, h1.later hb, h2, fun k hk => Or.inl (h3 k hk), h4, hb.os.trans h5.os, hb.tape.trans h5.tape, hb.output.trans h5.output, Nat.le_trans h5.size hb.size, fun k hk => (hb.block k (h1.low k (h3 k hk.1))).trans (h5.block k hk)⟩
/-- A world ahead in which nothing was turned. -/
theorem Moved.ahead (h : Moved W0 Y (andNew X w.heap.size w'.heap.size) S d w' w'') (hb : Below w.heap.size w w') (hl : ∀ k, X k → k < w.heap.size) : Moved W0 Y X S d w w'' := by
  obtain ⟨Y', X', h1, h2, h3, h4, h5⟩ := h
  exact ⟨Y', X', h1, h2, fun k hk => h3 k (Or.inl hk), fun k hk => (h4 k hk).imp id (Nat.le_trans hb.size), h5.os.trans hb.os, h5.tape.trans hb.tape, h5.output.trans hb.output, Nat.le_trans hb.size h5.size, fun k hk => (h5.block k ⟨Or.inl hk.1, hk.2⟩).trans (hb.block k (hl k hk.1))⟩
theorem kx_store (S : Nat) (w : World) (j : Nat) (u : Value) : Kx (fun k => k = S) w (w.setCell ⟨S, j, none⟩ u) :=
  ⟨rfl, rfl, rfl, by simp, fun k _ hk => Below.heap_setCell _ _ _ _ (by show k ≠ S; exact hk)⟩
theorem sess_set0 {w : World} {pv gv u : Value} (h : w.heap[S]? = some (.cells #[pv, gv] 51 (0, 0))) : (w.setCell ⟨S, 0, none⟩ u).heap[S]? = some (.cells #[u, gv] 51 (0, 0)) := by
  simp [World.setCell, Array.getElem?_modify, h]
theorem sess_set1 {w : World} {pv gv u : Value} (h : w.heap[S]? = some (.cells #[pv, gv] 51 (0, 0))) : (w.setCell ⟨S, 1, none⟩ u).heap[S]? = some (.cells #[pv, u] 51 (0, 0)) := by
  simp [World.setCell, Array.getElem?_modify, h]
/-- A new plan is put in its place. -/
theorem DeskAt.putPlan (h : DeskAt W0 Y X S d w) (hb : Below w.heap.size w w') {v : Value} {ts : List (Int × List Int)} (hp : PlanNew w.heap.size w' v ts) (hc : CheckIs ts 0 0) : Moved W0 Y X S { d with ts := ts } w (w'.setCell ⟨S, 0, none⟩ v) := by
  have h2 := h.later hb
  obtain ⟨pv, gv, e1, e2, e3⟩ := h2.mem
  have hS : S < w.heap.size := h.low S h.xS
  have hkk : ∀ k, k ≠ S → (w'.setCell ⟨S, 0, none⟩ v).heap[k]? = w'.heap[k]? := fun k hk => Below.heap_setCell _ _ _ _ hk
  refine ⟨andNew Y w.heap.size w'.heap.size, andNew X w.heap.size w'.heap.size, ⟨fun k hk => ?_, fun k hk => Or.inl (h.old k hk), h.sz, Or.inl h.xS, fun k hk => ?_, ?_, ⟨v, gv, sess_set0 e1, ?_, ?_⟩, ⟨hc, h.ok.gg⟩⟩, fun k hk => Or.inl hk, fun k hk => Or.inl hk, fun k hk => hk.imp id (fun e => e.1), hb.os, hb.tape, hb.output, by simpa using hb.size, fun k hk => ?_⟩
  · have := h2.low k hk; simpa using this
  · rcases hk with hk | hk
    · exact ⟨Or.inl (h.yX k hk).1, (h.yX k hk).2⟩
    · exact ⟨Or.inr hk, fun e => by omega⟩
  · exact h2.bel.setCell (p := ⟨S, 0, none⟩) h.sz v
  · intro W hW
    refine hp W (fun k h3 h4 => ?_)
    refine (hW k (Or.inr ⟨h3, h4⟩)).trans (hkk k (by omega))
  · refine (e3.away ((kx_store S w' 0 v).trans (Kx.refl _ _) (fun _ hj => Or.inl hj) |> fun K => ⟨K.os, K.tape, K.output, K.size, fun k hk hx => K.block k hk (fun e => hx (by rw [e]; exact h2.xS))⟩)).sub (fun k hk => Or.inl hk)
  · exact (hkk k hk.2).trans (hb.block k (h.low k hk.1))
/-- A new gang is put in its place. -/
theorem DeskAt.putGang (h : DeskAt W0 Y X S d w) (hb : Below w.heap.size w w') {G hands : Nat} (hg : GX (fun k => k < w.heap.size) G 4 hands d.ts (gnew d.ts) w') (h1 : 1 ≤ hands) (h6 : hands ≤ 6) : Moved W0 Y X S { d with gang := some (d.ts, hands, gnew d.ts) } w (w'.setCell ⟨S, 1, none⟩ (.pointer (some ⟨G, 0, none⟩))) := by
  have h2 := h.later hb
  obtain ⟨pv, gv, e1, e2, e3⟩ := h2.mem
  have hS : S < w.heap.size := h.low S h.xS
  have hkk : ∀ k, k ≠ S → (w'.setCell ⟨S, 1, none⟩ (.pointer (some ⟨G, 0, none⟩))).heap[k]? = w'.heap[k]? := fun k hk => Below.heap_setCell _ _ _ _ hk
  refine ⟨Y, fun k => k < w.heap.size, ⟨fun k hk => ?_, fun k hk => h.low k (h.old k hk), h.sz, hS, fun k hk => ⟨h.low k (h.yX k hk).1, (h.yX k hk).2⟩, ?_, ⟨pv, _, sess_set1 e1, ?_, G, rfl, ?_⟩, ⟨h.ok.pl, fun t hands' g' e => ?_⟩⟩, fun k hk => hk, fun k hk => h.low k hk, fun k hk => Or.inl hk, hb.os, hb.tape, hb.output, by simpa using hb.size, fun k hk => ?_⟩
  · have := hb.size
    have hk' : k < w.heap.size := hk
    simp only [World.size_setCell]; omega
  · exact h2.bel.setCell (p := ⟨S, 1, none⟩) h.sz _
  · exact e2.kept (fun k hy => hkk k (h.yX k hy).2)
  · exact (hg.away (w' := w'.setCell ⟨S, 1, none⟩ (.pointer (some ⟨G, 0, none⟩))) ((kx_store S w' 1 _).trans (Kx.refl _ _) (fun _ hj => Or.inl hj) |> fun K => ⟨K.os, K.tape, K.output, K.size, fun k hk hx => K.block k hk (fun e => hx (by rw [e]; exact hS))⟩)).sub (fun k hk => Or.inl hk)
  · cases e
    exact ⟨h.ok.pl, h1, h6, Inv.new h1⟩
  · exact (hkk k hk.2).trans (hb.block k (h.low k hk.1))
/-- A step of the gang. -/
theorem DeskAt.stepped (h : DeskAt W0 Y X S d w) {ts : List (Int × List Int)} {hands G : Nat} {g' : Gs} {pv : Value} (hm : w.heap[S]? = some (.cells #[pv, .pointer (some ⟨G, 0, none⟩)] 51 (0, 0))) (hp : PlanY Y w pv d.ts) (hk : KeptX X w w') (hg : GX X G 4 hands ts g' w') (ho : ({ d with gang := some (ts, hands, g') } : Desk).Ok) : Moved W0 Y X S { d with gang := some (ts, hands, g') } w w' := by
  refine ⟨Y, X, ⟨fun k hx => Nat.lt_of_lt_of_le (h.low k hx) hk.size, h.old, h.sz, h.xS, h.yX, ⟨hk.os.trans h.bel.os, hk.tape.trans h.bel.tape, hk.output.trans h.bel.output, Nat.le_trans h.bel.size hk.size, fun k hx => (hk.block k (h.old k hx)).trans (h.bel.block k hx)⟩, ⟨pv, _, (hk.block S h.xS).trans hm, hp.kept (fun k hy => hk.block k (h.yX k hy).1), G, rfl, hg⟩, ho⟩, fun _ e => e, fun _ e => e, fun _ e => Or.inl e, hk.os, hk.tape, hk.output, hk.size, fun k hx => hk.block k hx.1⟩
end Go.Proofs.YtlfbdjeojgbniaaGreatDoor
