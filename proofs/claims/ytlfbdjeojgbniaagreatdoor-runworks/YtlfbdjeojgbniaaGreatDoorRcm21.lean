/- The contract of Print. What PlanBack asks, call by call. Deeds in memory: in a row of their own, read; append of deeds. Plain: what is wrong with deeds, by themselves and as they were told. No word of the program. The contracts of slices.IndexFunc and slices.ContainsFunc at []int, handed a function that may change memory. -/
import Derived.Test.YtlfbdjeojgbniaaGreatDoorRcm20
import Derived.Test.YtlfbdjeojgbniaaGreatDoorRcm06
import Derived.Test.YtlfbdjeojgbniaaGreatDoorRcm11
import Derived.Test.YtlfbdjeojgbniaaGreatDoorRcm13
import Derived.Maps.AppendAt
import Derived.BigQuiet
import Derived.Test.YtlfbdjeojgbniaaGreatDoorRcm12
import Derived.Test.YtlfbdjeojgbniaaGreatDoorRcm01

namespace Go.Proofs.YtlfbdjeojgbniaaGreatDoor
open Go.RowKit Go.Deep

theorem rising_ge (zs : List Int) (hr : rising zs = true) (h0 : ∀ z, z ∈ zs → 0 ≤ z) : ∀ k, k < zs.length → (k : Int) ≤ zs.getD k 0 := by
  intro k
  induction k with
  | zero =>
    intro hk
    have hm : zs.getD 0 0 ∈ zs := by rw [List.getD_eq_getElem?_getD, List.getElem?_eq_getElem hk]; exact List.getElem_mem hk
    have := h0 _ hm
    simpa using this
  | succ k ih =>
    intro hk
    have h1 := ih (by omega)
    have h2 := (rising_iff zs).1 hr k hk
    omega
theorem rising_len (zs : List Int) (n : Nat) (hr : rising zs = true) (h : ∀ z, z ∈ zs → 0 ≤ z ∧ z < n) : zs.length ≤ n := by
  by_cases h0 : zs.length = 0
  · omega
  · have h1 := rising_ge zs hr (fun z hz => (h z hz).1) (zs.length - 1) (by omega)
    have hm : zs.getD (zs.length - 1) 0 ∈ zs := by rw [List.getD_eq_getElem?_getD, List.getElem?_eq_getElem (by omega)]; exact List.getElem_mem _
    have := (h _ hm).2
    omega

/-- What a task that is right by itself is. -/
theorem errOf_zero {ts : List (Int × List Int)} {k : Nat} (h : errOf ts k = 0) : (1 ≤ (ts.getD k (0, [])).1 ∧ (ts.getD k (0, [])).1 ≤ 20) ∧ (∀ z, z ∈ needsOf ts k → 0 ≤ z ∧ z < ts.length) ∧ rising (needsOf ts k) = true := by
  unfold errOf taskErr at h
  split at h
  · simp at h
  · rename_i hw
    split at h
    · simp at h
    · rename_i hn
      split at h
      · rename_i hr
        refine ⟨by omega, fun z hz => ?_, hr⟩
        cases hc : inRange z ts.length with
        | true => simpa [inRange] using hc
        | false => exact absurd (List.any_eq_true.2 ⟨z, hz, by simp [hc]⟩) hn
      · simp at h

/-- The text of the first k tasks. -/
def planTextK (ts : List (Int × List Int)) (k : Nat) : List UInt8 := joinC 32 ((ts.take k).map taskText)
theorem planTextK_zero (ts : List (Int × List Int)) : planTextK ts 0 = [] := rfl
theorem planTextK_all (ts : List (Int × List Int)) : planTextK ts ts.length = planText ts := by unfold planTextK planText; rw [List.take_length]
theorem planTextK_succ (ts : List (Int × List Int)) (k : Nat) (hk : k < ts.length) : planTextK ts (k + 1) = (if k = 0 then planTextK ts k else planTextK ts k ++ [UInt8.ofNat 32]) ++ taskText (ts.getD k (0, [])) := by
  have he : ts.getD k (0, []) = ts[k] := by rw [List.getD_eq_getElem?_getD, List.getElem?_eq_getElem hk]; rfl
  unfold planTextK
  rw [List.take_succ_eq_append_getElem hk, List.map_append, List.map_singleton, joinC_snoc, he]
  by_cases h0 : k = 0
  · subst h0; simp [joinC]
  · have h1 : (ts.take k).map taskText ≠ [] := by
      intro e
      have := congrArg List.length e
      simp only [List.length_map, List.length_take, List.length_nil] at this; omega
    rw [if_neg h1, if_neg h0]
    simp

theorem taskText_len (t : Int × List Int) (h : Small t) (hl : t.2.length ≤ 30) : (taskText t).length ≤ 92 := by
  obtain ⟨w, zs⟩ := t
  have h1 := digsP_len w h.1
  have h2 := needsText_len zs h.2 zs.length (Nat.le_refl _)
  have e : taskText (w, zs) = digs w ++ needsText zs zs.length := by unfold taskText; rw [needsText_all]
  rw [e, List.length_append]
  simp at hl; omega

theorem planTextK_len (ts : List (Int × List Int)) (h : ∀ k, k < ts.length → (taskText (ts.getD k (0, []))).length ≤ 92) : ∀ k, k ≤ ts.length → (planTextK ts k).length ≤ 93 * k := by
  intro k
  induction k with
  | zero => intro _; rw [planTextK_zero]; simp
  | succ k ih =>
    intro hk
    rw [planTextK_succ ts k (by omega), List.length_append]
    have h1 := h k (by omega)
    have h2 := ih (by omega)
    split
    · omega
    · rw [List.length_append, List.length_singleton]; omega

set_option maxRecDepth 100000 in
set_option maxHeartbeats 4000000 in
theorem printP_any (v : Value) (ts : List (Int × List Int)) (w : World) (hp : PlanAt w v ts) :
    Calls Tryz.prog 90 #[v] w fun e w' => (∃ p q, CheckIs ts p q ∧ ((q ≠ 0 ∧ e = .returned (.tuple #[.string ⟨#[]⟩, errV q])) ∨ (q = 0 ∧ e = .returned (.tuple #[.string ⟨(planText ts).toArray⟩, .nilIface])))) ∧ Below w.heap.size w w' := by
  have hck := check_any v ts w hp
  obtain ⟨hl, a, c, rfl, hp⟩ := hp
  go_enter Tryz.func90, Tryz.ntmps90
  go_wp2_with fail
  refine hck.mono ?_
  rintro e w1 ⟨⟨p, q, rfl, hc⟩, hb1⟩
  clear hck
  by_cases hq : q = 0
  · subst hq
    rw [errV_zero]
    have h30 := (hc.ok rfl).2.1
    have herr := (hc.ok rfl).2.2.1
    have HC : Hid (CheckIs ts p 0) := hc
    clear hc
    have HSm : Hid (∀ k, k < ts.length → Small ((ts.getD k (0, [])).1, needsOf ts k) ∧ (needsOf ts k).length ≤ 30) := fun k hk => by
      obtain ⟨h1, h2, h3⟩ := errOf_zero (herr k hk)
      have := rising_len _ _ h3 h2
      exact ⟨⟨by simp only; omega, fun z hz => by have := h2 z hz; omega⟩, by omega⟩
    have HTL : Hid (∀ k, k ≤ ts.length → (planTextK ts k).length ≤ 93 * k) := planTextK_len ts (fun k hk => by
      have := HSm.out k hk
      exact taskText_len _ this.1 this.2)
    clear herr
    have hbu0 : BuildsAt w.heap.size w1.heap.size (w1.alloc (.cells #[.pointer none, .slice none 0 0] 56)) [] :=
      Or.inl ⟨hb1.size, .slice none 0 0, blk_alloc_new _ _, World.ownsRow_nil _ _ _ _, by simp [Value.ownBlock]⟩
    have hB0 : Below w.heap.size w (w1.alloc (.cells #[.pointer none, .slice none 0 0] 56)) := hb1.alloc hb1.size _
    go_wp2
    go_loopw [19] (fun s19 wr => ∃ k : Nat, k ≤ ts.length ∧ s19 = .int .i64 k ∧ Hid (BuildsAt w.heap.size w1.heap.size wr (planTextK ts k)) ∧ Below w.heap.size w wr) (fun s19 _ => ts.length - (intOf s19).toNat)
    case atStart => exact ⟨0, Nat.zero_le _, rfl, hbu0, hB0⟩
    case round =>
      clear hbu0 hB0
      obtain ⟨k, hk, rfl, hbu, hB⟩ := hrel
      by_cases hkl : k < ts.length
      · rcases hp with rfl | ⟨b, o, rfl, hbl, hcs⟩
        · simp at hkl
        obtain ⟨hc1, nv, hc2, hin⟩ := hcs k hkl
        obtain ⟨a2, c2, rfl⟩ : ∃ a2 c2, nv = .slice a2 (needsOf ts k).length c2 := by
          obtain ⟨_, a2, c2, h, _⟩ := hin
          exact ⟨a2, c2, h⟩
        have hc1' := (hB.cell (p := ⟨b, o + k * 2, none⟩) hbl).trans hc1
        have hc2' := (hB.cell (p := ⟨b, o + k * 2 + 1, none⟩) hbl).trans hc2
        obtain ⟨hsm, hnl⟩ := HSm.out k hkl
        have htl := HTL.out k hk
        have HST : Hid (planTextK ts (k + 1) = (if k = 0 then planTextK ts k else planTextK ts k ++ [UInt8.ofNat 32]) ++ taskText ((ts.getD k (0, [])).1, needsOf ts k)) := planTextK_succ ts k hkl
        have HIN : Hid (IntsAt w (.slice a2 (needsOf ts k).length c2) (needsOf ts k)) := hin
        have HS1 : Hid (Small ((ts.getD k (0, [])).1, needsOf ts k)) := hsm
        clear hcs hc1 hc2 hin hsm
        generalize (ts.getD k (0, [])).1 = wk at *
        have hbT : Below wr.heap.size wr (wr.alloc (.cells #[.int .i64 wk, .slice a2 (needsOf ts k).length c2] 94)) := (Below.refl _ _).alloc (Nat.le_refl _) _
        have hBT : Below w.heap.size w (wr.alloc (.cells #[.int .i64 wk, .slice a2 (needsOf ts k).length c2] 94)) := hB.trans (hbT.mono hB.size)
        have hbuT := hbu.out.later hbT
        by_cases hk0 : k = 0
        · have hki : ¬ (0 : Int) < (k : Int) := by omega
          have HST0 : Hid (planTextK ts (k + 1) = planTextK ts k ++ taskText (wk, needsOf ts k)) := by rw [HST.out, if_pos hk0]; rfl
          have hwt := writeTask_any w _ w1.heap.size _ wk _ (needsOf ts k) hBT hbuT HIN.out HS1.out.1 HS1.out.2 (by omega) (by omega)
          have HK0 : Hid (k = 0) := hk0
          clear hk0 hbuT hbu HST
          go_wp2_with (go_at_call 121; refine hwt.mono ?_; rintro e w2 ⟨rfl, h2, hb2⟩)
          go_roundw
          case rel => exact ⟨k + 1, by omega, by go_num, by rw [HST0.out]; exact h2, hb2⟩
          case measure => simp [intOf]; omega
        · have hki : (0 : Int) < (k : Int) := by omega
          have HST0 : Hid (planTextK ts (k + 1) = (planTextK ts k ++ [UInt8.ofNat 32]) ++ taskText (wk, needsOf ts k)) := by rw [HST.out, if_neg hk0]; rfl
          have hpb := putByte w.heap.size w1.heap.size (planTextK ts k) 32 (by omega) _ hbuT (by omega) hBT.size
          have hblk : (wr.alloc (.cells #[.int .i64 wk, .slice a2 (needsOf ts k).length c2] 94)).heap[wr.heap.size]? = some (.cells #[.int .i64 wk, .slice a2 (needsOf ts k).length c2] 94 (0, 0)) := blk_alloc_new _ _
          have hne : wr.heap.size ≠ w1.heap.size := by
            have : w1.heap.size < wr.heap.size := by
              rcases hbu.out with h | h
              · exact h.lt
              · exact h.lt
            omega
          clear hbuT hbu HST hk0
          go_wp2_with fail
          refine hpb.mono ?_
          rintro e w2 ⟨rfl, h2, hb2, hkp⟩
          have hblk2 := hkp _ _ _ hblk (by decide) hne
          have d0 : w2.cell? ⟨wr.heap.size, 0, none⟩ = some (.int .i64 wk) := by simp [World.cell?, hblk2]
          have d1 : w2.cell? ⟨wr.heap.size, 1, none⟩ = some (.slice a2 (needsOf ts k).length c2) := by simp [World.cell?, hblk2]
          have hB2 : Below w.heap.size w w2 := hBT.trans hb2
          have hwt := writeTask_any w w2 w1.heap.size _ wk _ (needsOf ts k) hB2 h2 HIN.out HS1.out.1 HS1.out.2 (by simp only [List.length_append, List.length_singleton]; omega) (by omega)
          clear hpb hblk hblk2 hkp h2 hb2
          go_wp2_with (go_at_call 121; refine hwt.mono ?_; rintro e w3 ⟨rfl, h3, hb3⟩)
          go_roundw
          case rel => exact ⟨k + 1, by omega, by go_num, by rw [HST0.out]; exact h3, hb3⟩
          case measure => simp [intOf]; omega
      · have hke : k = ts.length := by omega
        have hst := Tryz.Builder_String_any w.heap.size w1.heap.size (planTextK ts k) wr hbu.out hB.size
        have HT : Hid (planTextK ts k = planText ts) := by rw [hke, planTextK_all]; rfl
        clear hke hp
        go_wp2_with (go_at_call 22; refine hst.mono ?_; rintro e w2 ⟨rfl, hb2⟩)
        go_ret2
        exact ⟨⟨p, 0, HC.out, Or.inr ⟨rfl, by rw [← HT.out]; rfl⟩⟩, hB.trans hb2⟩
  · have hev := errV_some hq
    rw [hev]
    have HV : Hid (errV q = .iface 97 (.int .i64 q)) := hev
    clear hev hp
    go_wp2
    go_ret2
    exact ⟨⟨p, q, hc, Or.inl ⟨hq, by rw [HV.out]; rfl⟩⟩, hb1⟩
end Go.Proofs.YtlfbdjeojgbniaaGreatDoor

namespace Go.Proofs.YtlfbdjeojgbniaaGreatDoor
open Go.RowKit Go.Deep

/-- A text that is no plan, or one that is: then the plan lies there, and its text is the text. -/
theorem parse_back (l : List UInt8) (w : World) (hl : l.length ≤ 1048576) (he : Synt w) (hm : Lens w) :
    Calls Tryz.prog 10 #[.string ⟨l.toArray⟩] w fun e w' => ((∃ q, q ≠ 0 ∧ e = .returned (.tuple #[.slice none 0 0, errV q])) ∨ (∃ ts v, e = .returned (.tuple #[v, .nilIface]) ∧ tasksOf l = some ts ∧ CheckIs ts 0 0 ∧ PlanNew w.heap.size w' v ts)) ∧ Below w.heap.size w w' := by
  refine (parseP_any l w hl he hm).mono ?_
  rintro e w' ⟨h, hb⟩
  refine ⟨?_, hb⟩
  rcases h with ⟨_, rfl⟩ | ⟨ts, p, q, ht, _, hc, h⟩
  · exact Or.inl ⟨2, by decide, rfl⟩
  · rcases h with ⟨hq, rfl⟩ | ⟨rfl, v, rfl, hp⟩
    · exact Or.inl ⟨q, hq, rfl⟩
    · obtain ⟨rfl, h30, _, _⟩ := hc.ok rfl
      have hlen : ts.length ≤ 30 := by simp at h30; omega
      have htk : ts.take 31 = ts := List.take_of_length_le (by omega)
      rw [htk] at hc hp
      exact Or.inr ⟨ts, v, rfl, ht, hc, hp⟩

/-- The text of a plan that Check passes is read as the plan. -/
theorem parse_text (ts : List (Int × List Int)) (w : World) (hc : CheckIs ts 0 0) (he : Synt w) (hm : Lens w) :
    Calls Tryz.prog 10 #[.string ⟨(planText ts).toArray⟩] w fun e w' => (∃ v, e = .returned (.tuple #[v, .nilIface]) ∧ PlanNew w.heap.size w' v ts) ∧ Below w.heap.size w w' := by
  obtain ⟨_, h30, herr, _⟩ := hc.ok rfl
  have hsm : ∀ k, k < ts.length → Small ((ts.getD k (0, [])).1, needsOf ts k) ∧ (needsOf ts k).length ≤ 30 := fun k hk => by
    obtain ⟨h1, h2, h3⟩ := errOf_zero (herr k hk)
    have := rising_len _ _ h3 h2
    exact ⟨⟨by simp only; omega, fun z hz => by have := h2 z hz; omega⟩, by omega⟩
  have hsm2 : ∀ t, t ∈ ts → Small t := fun t ht => by
    obtain ⟨k, hk, he⟩ := List.getElem_of_mem ht
    have := (hsm k hk).1
    have e2 : ts.getD k (0, []) = t := by rw [List.getD_eq_getElem?_getD, List.getElem?_eq_getElem hk]; exact he
    unfold needsOf at this
    rw [e2] at this
    exact this
  have hlen : (planText ts).length ≤ 93 * ts.length := by
    have := planTextK_len ts (fun k hk => taskText_len _ (hsm k hk).1 (hsm k hk).2) ts.length (Nat.le_refl _)
    rwa [planTextK_all] at this
  refine (parseP_any (planText ts) w (by omega) he hm).mono ?_
  rintro e w' ⟨h, hb⟩
  refine ⟨?_, hb⟩
  rw [tasks_text ts hsm2] at h
  rcases h with ⟨h, _⟩ | ⟨ts', p, q, ht, _, hc', h⟩
  · simp at h
  · obtain rfl := Option.some.inj ht
    have htk : ts.take 31 = ts := List.take_of_length_le (by omega)
    rw [htk] at hc' h
    obtain ⟨_, rfl⟩ := hc.det hc'
    rcases h with ⟨h, _⟩ | ⟨_, v, rfl, hp⟩
    · exact absurd rfl h
    · exact ⟨v, rfl, hp⟩

/-- A plan that Check passes, as text. -/
theorem print_right (v : Value) (ts : List (Int × List Int)) (w : World) (hp : PlanAt w v ts) (hc : CheckIs ts 0 0) :
    Calls Tryz.prog 90 #[v] w fun e w' => e = .returned (.tuple #[.string ⟨(planText ts).toArray⟩, .nilIface]) ∧ Below w.heap.size w w' := by
  refine (printP_any v ts w hp).mono ?_
  rintro e w' ⟨⟨p, q, hc', h⟩, hb⟩
  obtain ⟨_, rfl⟩ := hc.det hc'
  rcases h with ⟨h, _⟩ | ⟨_, h⟩
  · exact absurd rfl h
  · exact ⟨h, hb⟩

theorem check_again (v : Value) (ts : List (Int × List Int)) (w : World) (p q : Int) (hc : CheckIs ts p q) (hp : PlanAt w v ts) :
    Calls Tryz.prog 40 #[v] w fun e w' => e = .returned (.tuple #[.int .i64 p, errV q]) ∧ Below w.heap.size w w' := by
  refine (check_any v ts w hp).mono ?_
  rintro e w' ⟨⟨p', q', rfl, hc'⟩, hb⟩
  obtain ⟨rfl, rfl⟩ := hc.det hc'
  exact ⟨rfl, hb⟩

end Go.Proofs.YtlfbdjeojgbniaaGreatDoor

namespace Go.Proofs.YtlfbdjeojgbniaaGreatDoor
open Go.RowKit Go.Deep

/-- A deed's cells. -/
def deedV (s : Deed) : List Value := [.int .i64 s.1, .int .i64 s.2.1, .int .i64 s.2.2.1, .int .i64 s.2.2.2]
/-- Deeds as cells. -/
def flat4 (l : List Deed) : List Value := l.flatMap deedV
theorem flat4_append (a b : List Deed) : flat4 (a ++ b) = flat4 a ++ flat4 b := by simp [flat4]
theorem flat4_one (s : Deed) : flat4 [s] = deedV s := by simp [flat4]
theorem flat4_length (l : List Deed) : (flat4 l).length = l.length * 4 := by
  induction l with
  | nil => rfl
  | cons b r ih =>
    have : flat4 (b :: r) = flat4 [b] ++ flat4 r := flat4_append [b] r
    rw [this, List.length_append, ih, flat4_one]
    simp [deedV]; omega
theorem flat4_at {l : List Deed} {k : Nat} (hk : k < l.length) : ∀ j, j < 4 → (flat4 l)[k * 4 + j]? = (deedV (l.getD k (0, 0, 0, 0)))[j]? := by
  induction l generalizing k with
  | nil => simp at hk
  | cons b r ih =>
    intro j hj
    have e : flat4 (b :: r) = deedV b ++ flat4 r := by rw [← flat4_one]; exact flat4_append [b] r
    have hl : (deedV b).length = 4 := rfl
    rw [e]
    cases k with
    | zero =>
      rw [List.getElem?_append_left (by rw [hl]; omega)]
      simp
    | succ k =>
      rw [List.getElem?_append_right (by rw [hl]; omega), hl]
      rw [show (k + 1) * 4 + j - 4 = k * 4 + j by omega]
      simpa using ih (k := k) (by simp at hk; omega) j hj

/-- Deeds in a row of their own, from block b on. -/
def RowD (b : Nat) (w : World) (v : Value) (l : List Deed) : Prop := w.ownsRow b 91 4 v l.length (flat4 l)
theorem RowD.of_blocks {b : Nat} {w w' : World} {v : Value} {l : List Deed} (h : RowD b w v l) (hk : ∀ k, v.ownBlock = some k → w'.heap[k]? = w.heap[k]?) : RowD b w' v l := by
  rcases h.2 with ⟨rfl, hn⟩ | ⟨g, cap, cur, rfl, hb, hh, hr⟩
  · exact ⟨h.1, Or.inl ⟨rfl, hn⟩⟩
  · exact ⟨h.1, Or.inr ⟨g, cap, cur, rfl, hb, (hk g rfl).trans hh, hr⟩⟩
theorem RowD.mono {b b' : Nat} {w : World} {v : Value} {l : List Deed} (h : RowD b w v l) (hb : b' ≤ b) : RowD b' w v l := by
  rcases h.2 with hn | ⟨g, cap, cur, hv, hg, r⟩
  · exact ⟨h.1, Or.inl hn⟩
  · exact ⟨h.1, Or.inr ⟨g, cap, cur, hv, Nat.le_trans hb hg, r⟩⟩
theorem RowD.low {b : Nat} {w : World} {v : Value} {l : List Deed} (h : RowD b w v l) {k : Nat} (hk : v.ownBlock = some k) : b ≤ k ∧ k < w.heap.size := World.ownsRow.lt h k hk
theorem RowD.shape {b : Nat} {w : World} {v : Value} {l : List Deed} (h : RowD b w v l) : ∃ a c, v = .slice a l.length c := by
  rcases h.2 with ⟨rfl, hn⟩ | ⟨g, cap, cur, rfl, _, _, hc, _⟩
  · exact ⟨none, 0, by rw [hn]⟩
  · exact ⟨_, _, rfl⟩
theorem RowD.later {b : Nat} {w w' : World} {v : Value} {l : List Deed} (h : RowD b w v l) (hb : Below w.heap.size w w') : RowD b w' v l := h.of_blocks (fun _ e => hb.block _ (h.low e).2)
theorem RowD.full {b : Nat} {w : World} {v : Value} {l : List Deed} (h : RowD b w v l) (hz : 0 < l.length) : ∃ g c, v = .slice (some ⟨g, 0, none⟩) l.length c ∧ b ≤ g ∧ g < w.heap.size ∧ l.length ≤ c ∧ ∀ k, k < l.length → ∀ j, j < 4 → w.cell? ⟨g, k * 4 + j, none⟩ = (deedV (l.getD k (0, 0, 0, 0)))[j]? := by
  rcases h.2 with ⟨_, h0⟩ | ⟨g, cap, cur, hv, hb, hh, hc, hm, _⟩
  · omega
  · subst hv
    exact ⟨g, cap, rfl, hb, (Array.getElem?_eq_some_iff.1 hh).1, hc, fun k hk j hj => (World.ownsRow.cellAt h (k * 4 + j) (by omega)).trans (flat4_at hk j hj)⟩
theorem RowD.nil (b : Nat) (w : World) : RowD b w (.slice none 0 0) [] := World.ownsRow_nil _ _ _ _
/-- One deed, new. -/
theorem RowD.one (w : World) (d : Deed) : RowD w.heap.size (w.alloc (.cells #[.int .i64 d.1, .int .i64 d.2.1, .int .i64 d.2.2.1, .int .i64 d.2.2.2] 91)) (.slice (some ⟨w.heap.size, 0, none⟩) 1 1) [d] :=
  ⟨by simp [flat4, deedV], Or.inr ⟨w.heap.size, 1, _, rfl, Nat.le_refl _, blk_alloc_new w _, Nat.le_refl _, by unfold maxLen; omega, by simp, by simp [flat4, deedV]⟩⟩

theorem cell_four_new (w : World) (q : Nat) (hq : q = w.heap.size) (a b c d : Value) (t : TypeId) : ∀ j u, [a, b, c, d][j]? = some u → (w.alloc (.cells #[a, b, c, d] t)).cell? ((⟨q, 0, none⟩ : Addr).add j) = some u := by
  intro j u hu
  subst hq
  rw [Addr.add_lit, Nat.zero_add]
  unfold World.cell?
  dsimp only
  rw [blk_alloc_new]
  show (#[a, b, c, d])[j]? = some u
  simpa using hu
theorem Tryz.infoDeed : (Tryz.prog.info? 91).map (fun i => (i.zero, i.size, i.bytes)) = some (some (.agg #[.int .i64 0, .int .i64 0, .int .i64 0, .int .i64 0]), 4, 32) := by kernel_rfl

theorem append_zeroD (ty : TypeId) (b : Option Addr) (n c : Nat) (a : Option Addr) (c' : Nat) (w : World) (h : n ≤ c) : (Builtin.append_ #[87, 87] ty #[.slice b n c, .slice a 0 c']).run Tryz.prog w = .ok (.slice b n c) w := by
  unfold Builtin.append_
  cases b with
  | none =>
    cases a with
    | none => go_simp
    | some a => go_simp
  | some b =>
    cases a with
    | none => go_simp
    | some a => go_simp
theorem RowD.cap {B : Nat} {w : World} {v : Value} {l : List Deed} (h : RowD B w v l) : ∃ a c, v = .slice a l.length c ∧ l.length ≤ c := by
  rcases h.2 with ⟨rfl, hn⟩ | ⟨g, cap, cur, rfl, _, _, hc, _⟩
  · exact ⟨none, 0, by rw [hn], by omega⟩
  · exact ⟨_, _, rfl, hc⟩
theorem flat4_ones (l : List Deed) : ∀ u ∈ flat4 l, u.oneCell' = true := by
  intro u hu
  obtain ⟨d, _, h⟩ := List.mem_flatMap.1 hu
  simp [deedV] at h
  rcases h with rfl | rfl | rfl | rfl <;> rfl
theorem run_append_deeds (ty : TypeId) {B B' : Nat} {v x : Value} {ds dl : List Deed} {w : World} (hv : RowD B w v ds) (hx : RowD B' w x dl) (hb : ds.length + dl.length ≤ 1000000) (hB : B ≤ w.heap.size) :
    ∃ v' w', (Builtin.append_ #[87, 87] ty #[v, x]).run Tryz.prog w = .ok v' w' ∧ RowD B w' v' (ds ++ dl) ∧ w.grownBy w' v.ownBlock ∧ (v'.ownBlock = v.ownBlock ∨ v'.ownBlock = some w.heap.size) := by
  by_cases hy : dl = []
  · subst hy
    obtain ⟨a, c, rfl, _⟩ := hx.cap
    obtain ⟨b, d, rfl, hd⟩ := hv.cap
    refine ⟨_, w, append_zeroD ty b _ d a c w hd, by rw [List.append_nil]; exact hv, ⟨rfl, rfl, rfl, Nat.le_refl _, fun _ _ _ => rfl⟩, Or.inl rfl⟩
  · have hpos : 0 < dl.length := List.length_pos_iff.2 hy
    rcases hx.2 with ⟨_, h0⟩ | ⟨g, cap, cur, rfl, _, hh, hcap, _, hsz, htk⟩
    · omega
    obtain ⟨i3, hi3, hz0, hz1, hz2⟩ := info_parts Tryz.infoDeed
    have hcl : ∀ j u, (flat4 dl)[j]? = some u → w.cell? ((⟨g, 0, none⟩ : Addr).add j) = some u := fun j u hu => by
      have hj : j < dl.length * 4 := by rw [← flat4_length]; exact (List.getElem?_eq_some_iff.1 hu).1
      have e : (⟨g, 0, none⟩ : Addr).add j = ⟨g, j, none⟩ := by unfold Addr.add; split <;> simp_all
      rw [e, World.ownsRow.cellAt hx j hj]
      exact hu
    obtain ⟨v', w', h1, h2, h3, h4, h5⟩ := run_append_own_at (P := Tryz.prog) w B 87 ty 91 i3 _ 4 32 Tryz.underlying87 hi3 hz0 hz1 hz2 rfl (by decide) v ds.length (flat4 ds) hv ⟨g, 0, none⟩ dl.length cap (flat4 dl) (flat4_length dl) hcl (flat4_ones dl) (by unfold maxLen; omega) (by omega) hB
    refine ⟨v', w', h1, ?_, h3, h5⟩
    show w'.ownsRow B 91 4 v' (ds ++ dl).length (flat4 (ds ++ dl))
    rw [List.length_append, flat4_append]
    exact h2
theorem wpList_append_deeds {ops : Array Oper} {rest : List Oper} {o : Oper} {a : Act} {Q : Exit → Act → World → Prop} {w : World} (hgd : o.guard = none) (s x : Operand) (ho : o.op = .call { callee := .builtin .append, args := #[s, x], argTypes := #[87, 87] })
    (B B' : Nat) (v xv : Value) (ds dl : List Deed) (hs : a.eval s = v) (hx : a.eval x = xv) (hv : RowD B w v ds) (hxv : RowD B' w xv dl) (hb : ds.length + dl.length ≤ 1000000) (hB : B ≤ w.heap.size)
    (h : ∀ v' w', RowD B w' v' (ds ++ dl) → w.grownBy w' v.ownBlock → (v'.ownBlock = v.ownBlock ∨ v'.ownBlock = some w.heap.size) → wpList Tryz.prog ops Q rest (a.put o.dst v') w') : wpList Tryz.prog ops Q (o :: rest) a w := by
  refine wpList_plain hgd fun K hK => ?_
  obtain ⟨v', w', hr, h2, h3, h4⟩ := run_append_deeds o.type hv hxv hb hB
  unfold Oper.wp execOp
  simp only [ho, resolve, invoke, builtin, Sem.run_bind, Sem.run_pure, Result.andThen_ok, List.map_toArray, List.map_cons, List.map_nil, hs, hx, hr]
  exact hK _ _ (h v' w' h2 h3 h4)

/-- A slice value whose elements are these deeds. -/
def DeedsAt (w : World) (v : Value) (ds : List Deed) : Prop :=
  ds.length * 32 ≤ 140737488351232 ∧ ∃ a c, v = .slice a ds.length c ∧ (ds = [] ∨ ∃ b o, a = some ⟨b, o, none⟩ ∧ b < w.heap.size ∧ ∀ k, k < ds.length → ∀ j, j < 4 → w.cell? ⟨b, o + k * 4 + j, none⟩ = (deedV (ds.getD k (0, 0, 0, 0)))[j]?)
theorem RowD.at {b : Nat} {w : World} {v : Value} {ds : List Deed} (h : RowD b w v ds) (hl : ds.length * 32 ≤ 140737488351232) : DeedsAt w v ds := by
  refine ⟨hl, ?_⟩
  by_cases h0 : ds = []
  · obtain ⟨a, c, rfl⟩ := h.shape
    exact ⟨a, c, rfl, Or.inl h0⟩
  · obtain ⟨g, c, rfl, _, hlt, _, hc⟩ := h.full (List.length_pos_iff.2 h0)
    exact ⟨_, c, rfl, Or.inr ⟨g, 0, rfl, hlt, fun k hk j hj => by rw [Nat.zero_add]; exact hc k hk j hj⟩⟩
theorem DeedsAt.later {w w' : World} {v : Value} {ds : List Deed} (h : DeedsAt w v ds) (hb : Below w.heap.size w w') : DeedsAt w' v ds := by
  obtain ⟨hl, a, c, hv, h⟩ := h
  refine ⟨hl, a, c, hv, ?_⟩
  rcases h with h | ⟨b, o, ha, hlt, hc⟩
  · exact Or.inl h
  · exact Or.inr ⟨b, o, ha, Nat.lt_of_lt_of_le hlt hb.size, fun k hk j hj => (hb.cell (p := ⟨b, o + k * 4 + j, none⟩) hlt).trans (hc k hk j hj)⟩
/-- The four numbers of a deed that is read. -/
theorem DeedsAt.four {w : World} {a : Option Addr} {n c : Nat} {ds : List Deed} (h : DeedsAt w (.slice a n c) ds) {k : Nat} (hk : k < ds.length) : ∃ b o, a = some ⟨b, o, none⟩ ∧ b < w.heap.size ∧ w.cell? ⟨b, o + k * 4, none⟩ = some (.int .i64 (ds.getD k (0, 0, 0, 0)).1) ∧ w.cell? ⟨b, o + k * 4 + 1, none⟩ = some (.int .i64 (ds.getD k (0, 0, 0, 0)).2.1) ∧ w.cell? ⟨b, o + k * 4 + 2, none⟩ = some (.int .i64 (ds.getD k (0, 0, 0, 0)).2.2.1) ∧ w.cell? ⟨b, o + k * 4 + 3, none⟩ = some (.int .i64 (ds.getD k (0, 0, 0, 0)).2.2.2) := by
  obtain ⟨_, a2, c2, hv, h⟩ := h
  simp only [Value.slice.injEq] at hv
  obtain ⟨rfl, _, _⟩ := hv
  rcases h with h | ⟨b, o, ha, hlt, hc⟩
  · rw [h] at hk; simp at hk
  · exact ⟨b, o, ha, hlt, hc k hk 0 (by omega), hc k hk 1 (by omega), hc k hk 2 (by omega), hc k hk 3 (by omega)⟩
theorem new_deed (w : World) (a b c d : Int) : (w.alloc (.cells #[.int .i64 a, .int .i64 b, .int .i64 c, .int .i64 d] 91)).cell? ⟨w.heap.size, 0, none⟩ = some (.int .i64 a) ∧ (w.alloc (.cells #[.int .i64 a, .int .i64 b, .int .i64 c, .int .i64 d] 91)).cell? ⟨w.heap.size, 1, none⟩ = some (.int .i64 b) ∧ (w.alloc (.cells #[.int .i64 a, .int .i64 b, .int .i64 c, .int .i64 d] 91)).cell? ⟨w.heap.size, 2, none⟩ = some (.int .i64 c) ∧ (w.alloc (.cells #[.int .i64 a, .int .i64 b, .int .i64 c, .int .i64 d] 91)).cell? ⟨w.heap.size, 3, none⟩ = some (.int .i64 d) := by
  unfold World.cell?
  dsimp only
  rw [blk_alloc_new]
  exact ⟨rfl, rfl, rfl, rfl⟩
end Go.Proofs.YtlfbdjeojgbniaaGreatDoor

namespace Go.Proofs.YtlfbdjeojgbniaaGreatDoor

/-- What is wrong with the first that has a fault. -/
def firstE : List Deed → Int
  | [] => 0
  | d :: r => if deedE d = 0 then firstE r else deedE d
def deedsErr (ds : List Deed) : Int := if 1000 < ds.length then 4 else firstE ds
theorem firstE_at : ∀ (l : List Deed) (k : Nat), k < l.length → (∀ j, j < k → deedE (l.getD j (0, 0, 0, 0)) = 0) → deedE (l.getD k (0, 0, 0, 0)) ≠ 0 → firstE l = deedE (l.getD k (0, 0, 0, 0)) := by
  intro l
  induction l with
  | nil => intro k hk; simp at hk
  | cons a r ih =>
    intro k hk hj hf
    rw [firstE]
    cases k with
    | zero => exact if_neg hf
    | succ k =>
      have h0 : deedE a = 0 := hj 0 (by omega)
      rw [if_pos h0]
      exact ih k (by simpa using hk) (fun j h => hj (j + 1) (by omega)) hf
theorem firstE_none : ∀ (l : List Deed), (∀ j, j < l.length → deedE (l.getD j (0, 0, 0, 0)) = 0) → firstE l = 0 := by
  intro l
  induction l with
  | nil => intro _; rfl
  | cons a r ih =>
    intro h
    have h0 : deedE a = 0 := h 0 (by simp)
    rw [firstE, if_pos h0]
    exact ih (fun j hj => h (j + 1) (by simpa using hj))
theorem firstE_zero : ∀ {l : List Deed}, firstE l = 0 → ∀ d, d ∈ l → deedE d = 0 := by
  intro l
  induction l with
  | nil => intro _ d hd; simp at hd
  | cons a r ih =>
    intro h d hd
    rw [firstE] at h
    by_cases h0 : deedE a = 0
    · rw [if_pos h0] at h
      rcases List.mem_cons.1 hd with rfl | hd
      · exact h0
      · exact ih h d hd
    · rw [if_neg h0] at h; exact absurd h h0
theorem deedsErr_zero {ds : List Deed} (h : deedsErr ds = 0) : ds.length ≤ 1000 ∧ ∀ d, d ∈ ds → deedE d = 0 := by
  unfold deedsErr at h
  by_cases h1 : 1000 < ds.length
  · rw [if_pos h1] at h; omega
  · rw [if_neg h1] at h; exact ⟨by omega, firstE_zero h⟩
theorem deedE_one {a h t o : Int} (hc : a < 1 ∨ 6 < a ∨ h < 0 ∨ 5 < h ∨ t < 0 ∨ 29 < t ∨ (a = 2 ∧ (o < 0 ∨ 5 < o))) : deedE (a, h, t, o) = 1 := if_pos hc
theorem deedE_three {a h t o : Int} (hn : ¬ (a < 1 ∨ 6 < a ∨ h < 0 ∨ 5 < h ∨ t < 0 ∨ 29 < t ∨ (a = 2 ∧ (o < 0 ∨ 5 < o)))) (hc : (a ≠ 2 ∧ o ≠ 0) ∨ (4 < a ∧ t ≠ 0)) : deedE (a, h, t, o) = 3 := by
  unfold deedE
  rw [if_neg hn, if_pos hc]
theorem deedE_none {a h t o : Int} (hn : ¬ (a < 1 ∨ 6 < a ∨ h < 0 ∨ 5 < h ∨ t < 0 ∨ 29 < t ∨ (a = 2 ∧ (o < 0 ∨ 5 < o)))) (hc : ¬ ((a ≠ 2 ∧ o ≠ 0) ∨ (4 < a ∧ t ≠ 0))) : deedE (a, h, t, o) = 0 := by
  unfold deedE
  rw [if_neg hn, if_neg hc]
/-- What is wrong with deeds of a plan that is right. -/
def toldErr (ts : List (Int × List Int)) (hands : Nat) (ds : List Deed) : Int := if deedsErr ds = 0 then trErrs ts hands trNew ds else deedsErr ds
theorem trErrs_hit {ts : List (Int × List Int)} {hands : Nat} {ds : List Deed} {k : Nat} {q : Int} (hk : k < ds.length) (h0 : trErrs ts hands trNew (ds.take k) = 0) (hq : trErr ts hands (trEnd trNew (ds.take k)) (ds.getD k (0, 0, 0, 0)) = q) (hn : q ≠ 0) : trErrs ts hands trNew ds = q := by
  have e : ds = ds.take k ++ ds.getD k (0, 0, 0, 0) :: ds.drop (k + 1) := by
    conv => lhs; rw [← List.take_append_drop k ds]
    congr 1
    rw [List.drop_eq_getElem_cons hk, List.getD_eq_getElem?_getD, List.getElem?_eq_getElem hk]
    rfl
  rw [e, trErrs_append _ _ _ h0, trErrs, if_neg (by rw [hq]; exact hn), hq]
theorem trErrs_more {ts : List (Int × List Int)} {hands : Nat} {ds : List Deed} {k : Nat} (hk : k < ds.length) (h0 : trErrs ts hands trNew (ds.take k) = 0) (hq : trErr ts hands (trEnd trNew (ds.take k)) (ds.getD k (0, 0, 0, 0)) = 0) : trErrs ts hands trNew (ds.take (k + 1)) = 0 ∧ trEnd trNew (ds.take (k + 1)) = trNext (trEnd trNew (ds.take k)) (ds.getD k (0, 0, 0, 0)) := by
  have e : ds.take (k + 1) = ds.take k ++ [ds.getD k (0, 0, 0, 0)] := by
    rw [List.take_succ_eq_append_getElem hk, List.getD_eq_getElem?_getD, List.getElem?_eq_getElem hk]
    rfl
  rw [e, trErrs_append _ _ _ h0]
  refine ⟨?_, by simp [trEnd]⟩
  rw [trErrs, if_pos hq]
  rfl
theorem deed_parts {d : Deed} (h : deedE d = 0) : (1 ≤ d.1 ∧ d.1 ≤ 6) ∧ (0 ≤ d.2.1 ∧ d.2.1 ≤ 5) ∧ (0 ≤ d.2.2.1 ∧ d.2.2.1 ≤ 29) ∧ 0 ≤ d.2.2.2 := by
  unfold deedE at h
  by_cases hc : d.1 < 1 ∨ 6 < d.1 ∨ d.2.1 < 0 ∨ 5 < d.2.1 ∨ d.2.2.1 < 0 ∨ 29 < d.2.2.1 ∨ (d.1 = 2 ∧ (d.2.2.2 < 0 ∨ 5 < d.2.2.2))
  · rw [if_pos hc] at h; omega
  · rw [if_neg hc] at h
    by_cases hc2 : (d.1 ≠ 2 ∧ d.2.2.2 ≠ 0) ∨ (4 < d.1 ∧ d.2.2.1 ≠ 0)
    · rw [if_pos hc2] at h; omega
    · omega
theorem trErr_at {ts : List (Int × List Int)} {hands : Nat} {s : Tr} {x1 : Int} {x2 x3 x4 : Nat} (hp : ¬ ((hands : Int) ≤ (x2 : Int) ∨ (hands : Int) ≤ (x4 : Int) ∨ (x1 < 5 ∧ (ts.length : Int) ≤ (x3 : Int)))) : trErr ts hands s (x1, (x2 : Int), (x3 : Int), (x4 : Int)) =
    if x1 < 4 then (if 0 ≤ s.has x2 ∨ s.had x3 = true then 7 else if s.slp x2 = true ∨ (needsOf ts x3).any (fun y => !s.dn y.toNat) = true then 6 else if x1 = 2 ∧ (x4 : Int) = (x2 : Int) then 3 else 0)
    else if x1 = 4 then (if s.has x2 = (x3 : Int) then 0 else 6) else if x1 = 5 then (if 0 ≤ s.has x2 ∨ s.slp x2 = true then 6 else 0) else if s.slp x2 = true then 0 else 6 := by
  unfold trErr
  rw [if_neg hp]
  rfl
end Go.Proofs.YtlfbdjeojgbniaaGreatDoor

namespace Go.Proofs.YtlfbdjeojgbniaaGreatDoor
open Go.RowKit Go.Deep

set_option maxHeartbeats 800000 in
theorem cfIndex (v : Value) (zs : List Int) (g : Nat) (lb : Array Value) (J : Nat → World → Prop) (Qt : World → Prop) (w : World) (hz : IntsAt w v zs) (eg : ∀ args w, (callFunc g args).run Tryz.prog w = .ok (.enter g args) w) (h0 : J 0 w)
    (hJ : ∀ k w', J k w' → IntsAt w' v zs)
    (hs : ∀ k w', k < zs.length → J k w' → Calls Tryz.prog g (#[.int .i64 (zs.getD k 0)] ++ lb) w' fun e w'' => (e = .returned (.bool true) ∧ Qt w'') ∨ (e = .returned (.bool false) ∧ J (k + 1) w'')) :
    Calls Tryz.prog 147 #[v, .func (.func g) #[] lb] w fun e w' => (∃ r : Nat, e = .returned (.int .i64 r) ∧ Qt w') ∨ (e = .returned (.int .i64 (-1)) ∧ J zs.length w') := by
  have HJ : Hid (∀ k w', J k w' → IntsAt w' v zs) := hJ
  have HS : Hid (∀ k w', k < zs.length → J k w' → Calls Tryz.prog g (#[.int .i64 (zs.getD k 0)] ++ lb) w' fun e w'' => (e = .returned (.bool true) ∧ Qt w'') ∨ (e = .returned (.bool false) ∧ J (k + 1) w'')) := hs
  have H0 : Hid (J 0 w) := h0
  clear hJ hs h0
  obtain ⟨hl, a, c, rfl, hz⟩ := hz
  clear hz
  go_enter Tryz.func147, Tryz.ntmps147
  go_wp2
  go_loopw [8] (fun i wr => ∃ k : Nat, k ≤ zs.length ∧ i = .int .i64 k ∧ Hid (J k wr)) (fun i _ => zs.length - (intOf i).toNat)
  case atStart => exact ⟨0, Nat.zero_le _, rfl, H0⟩
  case round =>
    obtain ⟨k, hk, rfl, hj⟩ := hrel
    by_cases hlt : k < zs.length
    · obtain ⟨_, a', c', he, hz⟩ := HJ.out k wr hj.out
      simp only [Value.slice.injEq] at he
      obtain ⟨rfl, _, rfl⟩ := he
      have hcall := HS.out k wr hlt hj.out
      rcases hz with rfl | ⟨b, o, rfl, hbl, hc⟩
      · simp at hlt
      have hck := hc k hlt
      clear hc
      generalize zs.getD k 0 = y at *
      go_wp2_with (fail)
      refine hcall.mono ?_
      rintro e w' (⟨rfl, hq⟩ | ⟨rfl, hj'⟩)
      · go_wp2
        go_ret
        exact Or.inl ⟨k, rfl, hq⟩
      · have HJ' : Hid (J (k + 1) w') := hj'
        clear hj'
        go_wp2
        go_roundw
        case rel => exact ⟨k + 1, by omega, by go_num, HJ'⟩
        case measure => simp [intOf]; omega
    · have hke : k = zs.length := by omega
      subst hke
      go_wp2
      go_ret
      exact Or.inr ⟨rfl, hj.out⟩

theorem cfState (v : Value) (zs : List Int) (g : Nat) (lb : Array Value) (J : Nat → World → Prop) (Qt : World → Prop) (w : World) (hz : IntsAt w v zs) (eg : ∀ args w, (callFunc g args).run Tryz.prog w = .ok (.enter g args) w) (h0 : J 0 w)
    (hJ : ∀ k w', J k w' → IntsAt w' v zs)
    (hs : ∀ k w', k < zs.length → J k w' → Calls Tryz.prog g (#[.int .i64 (zs.getD k 0)] ++ lb) w' fun e w'' => (e = .returned (.bool true) ∧ Qt w'') ∨ (e = .returned (.bool false) ∧ J (k + 1) w'')) :
    Calls Tryz.prog 111 #[v, .func (.func g) #[] lb] w fun e w' => (e = .returned (.bool true) ∧ Qt w') ∨ (e = .returned (.bool false) ∧ J zs.length w') := by
  have hcall := cfIndex v zs g lb J Qt w hz eg h0 hJ hs
  clear hs hJ h0 hz
  go_enter Tryz.func111, Tryz.ntmps111
  go_wp2_with fail
  refine hcall.mono ?_
  rintro e w' (⟨r, rfl, hq⟩ | ⟨rfl, hj⟩)
  · have hr : (0 : Int) ≤ (r : Int) := by omega
    go_wp2
    go_ret
    exact Or.inl ⟨ret_bool (by simp), hq⟩
  · go_wp2
    go_ret
    exact Or.inr ⟨rfl, hj⟩
/-- ContainsFunc with a function that only reads, and may draw. -/
theorem cfReads (v : Value) (zs : List Int) (g : Nat) (lb : Array Value) (p : Int → Bool) (w : World) (hz : IntsAt w v zs) (eg : ∀ args w, (callFunc g args).run Tryz.prog w = .ok (.enter g args) w)
    (hp : ∀ x, x ∈ zs → ∀ w', Below w.heap.size w w' → Calls Tryz.prog g (#[.int .i64 x] ++ lb) w' fun e w2 => e = .returned (.bool (p x)) ∧ Below w'.heap.size w' w2) :
    Calls Tryz.prog 111 #[v, .func (.func g) #[] lb] w fun e w' => e = .returned (.bool (zs.any p)) ∧ Below w.heap.size w w' := by
  refine (cfState v zs g lb (fun j w' => (∀ x, x ∈ zs.take j → p x = false) ∧ Below w.heap.size w w') (fun w' => zs.any p = true ∧ Below w.heap.size w w') w hz eg ⟨fun x hx => by simp at hx, Below.refl _ _⟩ (fun k w' h => hz.later h.2) (fun k w' hk h => ?_)).mono ?_
  · have hm : zs.getD k 0 ∈ zs := by rw [List.getD_eq_getElem?_getD, List.getElem?_eq_getElem hk]; exact List.getElem_mem hk
    refine (hp _ hm w' h.2).mono ?_
    rintro e w2 ⟨rfl, hb⟩
    have hb2 := h.2.trans (hb.mono h.2.size)
    cases hq : p (zs.getD k 0)
    · exact Or.inr ⟨rfl, take_succ_all p zs k hk h.1 hq, hb2⟩
    · exact Or.inl ⟨rfl, List.any_eq_true.2 ⟨_, hm, hq⟩, hb2⟩
  · rintro e w' (⟨rfl, h1, h2⟩ | ⟨rfl, h1, h2⟩)
    · exact ⟨by rw [h1], h2⟩
    · refine ⟨ret_bool (Eq.symm ?_), h2⟩
      rw [List.any_eq_false]
      intro x hx
      have := h1 x (by rw [List.take_of_length_le (Nat.le_refl _)]; exact hx)
      simp [this]

end Go.Proofs.YtlfbdjeojgbniaaGreatDoor
