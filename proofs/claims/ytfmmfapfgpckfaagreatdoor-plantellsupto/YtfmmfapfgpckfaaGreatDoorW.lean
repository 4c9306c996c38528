/- The contract of Print. -/
import Derived.Test.YtfmmfapfgpckfaaGreatDoorV
namespace Go.Proofs.YtfmmfapfgpckfaaGreatDoor
open Go.RowKit Go.Deep

theorem rising_ge (zs : List Int) (hr : rising zs = true) (h0 : ∀ z, z ∈ zs → 0 ≤ z) : ∀ k, k < zs.length → (k : Int) ≤ zs.getD k 0 := by
  intro k
  induction k with
  | zero =>
    intro hk
    have hm : zs.getD 0 0 ∈ zs := by rw [List.getD_eq_getElem?_getD, List.getElem?_eq_getElem hk]; exact List.getElem_mem hk
    have := h0 _ hm
    simpa using this
  | succ k ih =>
    intro hk
    have h1 := ih (by omega)
    have h2 := (rising_iff zs).1 hr k hk
    omega
theorem rising_len (zs : List Int) (n : Nat) (hr : rising zs = true) (h : ∀ z, z ∈ zs → 0 ≤ z ∧ z < n) : zs.length ≤ n := by
  by_cases h0 : zs.length = 0
  · omega
  · have h1 := rising_ge zs hr (fun z hz => (h z hz).1) (zs.length - 1) (by omega)
    have hm : zs.getD (zs.length - 1) 0 ∈ zs := by rw [List.getD_eq_getElem?_getD, List.getElem?_eq_getElem (by omega)]; exact List.getElem_mem _
    have := (h _ hm).2
    omega

/-- What a task that is right by itself is. -/
theorem errOf_zero {ts : List (Int × List Int)} {k : Nat} (h : errOf ts k = 0) : (1 ≤ (ts.getD k (0, [])).1 ∧ (ts.getD k (0, [])).1 ≤ 20) ∧ (∀ z, z ∈ needsOf ts k → 0 ≤ z ∧ z < ts.length) ∧ rising (needsOf ts k) = true := by
  unfold errOf taskErr at h
  split at h
  · simp at h
  · rename_i hw
    split at h
    · simp at h
    · rename_i hn
      split at h
      · rename_i hr
        refine ⟨by omega, fun z hz => ?_, hr⟩
        cases hc : inRange z ts.length with
        | true => simpa [inRange] using hc
        | false => exact absurd (List.any_eq_true.2 ⟨z, hz, by simp [hc]⟩) hn
      · simp at h

/-- The text of the first k tasks. -/
def planTextK (ts : List (Int × List Int)) (k : Nat) : List UInt8 := joinC 32 ((ts.take k).map taskText)
theorem planTextK_zero (ts : List (Int × List Int)) : planTextK ts 0 = [] := rfl
theorem planTextK_all (ts : List (Int × List Int)) : planTextK ts ts.length = planText ts := by unfold planTextK planText; rw [List.take_length]
theorem planTextK_succ (ts : List (Int × List Int)) (k : Nat) (hk : k < ts.length) : planTextK ts (k + 1) = (if k = 0 then planTextK ts k else planTextK ts k ++ [UInt8.ofNat 32]) ++ taskText (ts.getD k (0, [])) := by
  have he : ts.getD k (0, []) = ts[k] := by rw [List.getD_eq_getElem?_getD, List.getElem?_eq_getElem hk]; rfl
  unfold planTextK
  rw [List.take_succ_eq_append_getElem hk, List.map_append, List.map_singleton, joinC_snoc, he]
  by_cases h0 : k = 0
  · subst h0; simp [joinC]
  · have h1 : (ts.take k).map taskText ≠ [] := by
      intro e
      have := congrArg List.length e
      simp only [List.length_map, List.length_take, List.length_nil] at this; omega
    rw [if_neg h1, if_neg h0]
    simp

theorem taskText_len (t : Int × List Int) (h : Small t) (hl : t.2.length ≤ 30) : (taskText t).length ≤ 92 := by
  obtain ⟨w, zs⟩ := t
  have h1 := digs_len w h.1
  have h2 := needsText_len zs h.2 zs.length (Nat.le_refl _)
  have e : taskText (w, zs) = digs w ++ needsText zs zs.length := by unfold taskText; rw [needsText_all]
  rw [e, List.length_append]
  simp at hl; omega

theorem planTextK_len (ts : List (Int × List Int)) (h : ∀ k, k < ts.length → (taskText (ts.getD k (0, []))).length ≤ 92) : ∀ k, k ≤ ts.length → (planTextK ts k).length ≤ 93 * k := by
  intro k
  induction k with
  | zero => intro _; rw [planTextK_zero]; simp
  | succ k ih =>
    intro hk
    rw [planTextK_succ ts k (by omega), List.length_append]
    have h1 := h k (by omega)
    have h2 := ih (by omega)
    split
    · omega
    · rw [List.length_append, List.length_singleton]; omega

set_option maxRecDepth 100000 in
set_option maxHeartbeats 4000000 in
theorem print_any (v : Value) (ts : List (Int × List Int)) (w : World) (hp : PlanAt w v ts) :
    Calls Tryz.prog 11 #[v] w fun e w' => (∃ p q, CheckIs ts p q ∧ ((q ≠ 0 ∧ e = .returned (.tuple #[.string ⟨#[]⟩, errV q])) ∨ (q = 0 ∧ e = .returned (.tuple #[.string ⟨(planText ts).toArray⟩, .nilIface])))) ∧ Below w.heap.size w w' := by
  have hck := check_any v ts w hp
  obtain ⟨hl, a, c, rfl, hp⟩ := hp
  go_enter Tryz.func11, Tryz.ntmps11
  go_wp2_with fail
  refine hck.mono ?_
  rintro e w1 ⟨⟨p, q, rfl, hc⟩, hb1⟩
  clear hck
  by_cases hq : q = 0
  · subst hq
    rw [errV_zero]
    have h30 := (hc.ok rfl).2.1
    have herr := (hc.ok rfl).2.2.1
    have HC : Hid (CheckIs ts p 0) := hc
    clear hc
    have HSm : Hid (∀ k, k < ts.length → Small ((ts.getD k (0, [])).1, needsOf ts k) ∧ (needsOf ts k).length ≤ 30) := fun k hk => by
      obtain ⟨h1, h2, h3⟩ := errOf_zero (herr k hk)
      have := rising_len _ _ h3 h2
      exact ⟨⟨by simp only; omega, fun z hz => by have := h2 z hz; omega⟩, by omega⟩
    have HTL : Hid (∀ k, k ≤ ts.length → (planTextK ts k).length ≤ 93 * k) := planTextK_len ts (fun k hk => by
      have := HSm.out k hk
      exact taskText_len _ this.1 this.2)
    clear herr
    have hbu0 : BuildsAt w.heap.size w1.heap.size (w1.alloc (.cells #[.pointer none, .slice none 0 0] 62)) [] :=
      Or.inl ⟨hb1.size, .slice none 0 0, blk_alloc_new _ _, World.ownsRow_nil _ _ _ _, by simp [Value.ownBlock]⟩
    have hB0 : Below w.heap.size w (w1.alloc (.cells #[.pointer none, .slice none 0 0] 62)) := hb1.alloc hb1.size _
    go_wp2
    go_loopw [19] (fun s19 wr => ∃ k : Nat, k ≤ ts.length ∧ s19 = .int .i64 k ∧ Hid (BuildsAt w.heap.size w1.heap.size wr (planTextK ts k)) ∧ Below w.heap.size w wr) (fun s19 _ => ts.length - (intOf s19).toNat)
    case atStart => exact ⟨0, Nat.zero_le _, rfl, hbu0, hB0⟩
    case round =>
      clear hbu0 hB0
      obtain ⟨k, hk, rfl, hbu, hB⟩ := hrel
      by_cases hkl : k < ts.length
      · rcases hp with rfl | ⟨b, o, rfl, hbl, hcs⟩
        · simp at hkl
        obtain ⟨hc1, nv, hc2, hin⟩ := hcs k hkl
        obtain ⟨a2, c2, rfl⟩ : ∃ a2 c2, nv = .slice a2 (needsOf ts k).length c2 := by
          obtain ⟨_, a2, c2, h, _⟩ := hin
          exact ⟨a2, c2, h⟩
        have hc1' := (hB.cell (p := ⟨b, o + k * 2, none⟩) hbl).trans hc1
        have hc2' := (hB.cell (p := ⟨b, o + k * 2 + 1, none⟩) hbl).trans hc2
        obtain ⟨hsm, hnl⟩ := HSm.out k hkl
        have htl := HTL.out k hk
        have HST : Hid (planTextK ts (k + 1) = (if k = 0 then planTextK ts k else planTextK ts k ++ [UInt8.ofNat 32]) ++ taskText ((ts.getD k (0, [])).1, needsOf ts k)) := planTextK_succ ts k hkl
        have HIN : Hid (IntsAt w (.slice a2 (needsOf ts k).length c2) (needsOf ts k)) := hin
        have HS1 : Hid (Small ((ts.getD k (0, [])).1, needsOf ts k)) := hsm
        clear hcs hc1 hc2 hin hsm
        generalize (ts.getD k (0, [])).1 = wk at *
        have hbT : Below wr.heap.size wr (wr.alloc (.cells #[.int .i64 wk, .slice a2 (needsOf ts k).length c2] 48)) := (Below.refl _ _).alloc (Nat.le_refl _) _
        have hBT : Below w.heap.size w (wr.alloc (.cells #[.int .i64 wk, .slice a2 (needsOf ts k).length c2] 48)) := hB.trans (hbT.mono hB.size)
        have hbuT := hbu.out.later hbT
        by_cases hk0 : k = 0
        · have hki : ¬ (0 : Int) < (k : Int) := by omega
          have HST0 : Hid (planTextK ts (k + 1) = planTextK ts k ++ taskText (wk, needsOf ts k)) := by rw [HST.out, if_pos hk0]; rfl
          have hwt := writeTask_any w _ w1.heap.size _ wk _ (needsOf ts k) hBT hbuT HIN.out HS1.out.1 HS1.out.2 (by omega) (by omega)
          have HK0 : Hid (k = 0) := hk0
          clear hk0 hbuT hbu HST
          go_wp2_with (go_at_call 25; refine hwt.mono ?_; rintro e w2 ⟨rfl, h2, hb2⟩)
          go_roundw
          case rel => exact ⟨k + 1, by omega, by go_num, by rw [HST0.out]; exact h2, hb2⟩
          case measure => simp [intOf]; omega
        · have hki : (0 : Int) < (k : Int) := by omega
          have HST0 : Hid (planTextK ts (k + 1) = (planTextK ts k ++ [UInt8.ofNat 32]) ++ taskText (wk, needsOf ts k)) := by rw [HST.out, if_neg hk0]; rfl
          have hpb := putByte w.heap.size w1.heap.size (planTextK ts k) 32 (by omega) _ hbuT (by omega) hBT.size
          have hblk : (wr.alloc (.cells #[.int .i64 wk, .slice a2 (needsOf ts k).length c2] 48)).heap[wr.heap.size]? = some (.cells #[.int .i64 wk, .slice a2 (needsOf ts k).length c2] 48 (0, 0)) := blk_alloc_new _ _
          have hne : wr.heap.size ≠ w1.heap.size := by
            have : w1.heap.size < wr.heap.size := by
              rcases hbu.out with h | h
              · exact h.lt
              · exact h.lt
            omega
          clear hbuT hbu HST hk0
          go_wp2_with fail
          refine hpb.mono ?_
          rintro e w2 ⟨rfl, h2, hb2, hkp⟩
          have hblk2 := hkp _ _ _ hblk (by decide) hne
          have d0 : w2.cell? ⟨wr.heap.size, 0, none⟩ = some (.int .i64 wk) := by simp [World.cell?, hblk2]
          have d1 : w2.cell? ⟨wr.heap.size, 1, none⟩ = some (.slice a2 (needsOf ts k).length c2) := by simp [World.cell?, hblk2]
          have hB2 : Below w.heap.size w w2 := hBT.trans hb2
          have hwt := writeTask_any w w2 w1.heap.size _ wk _ (needsOf ts k) hB2 h2 HIN.out HS1.out.1 HS1.out.2 (by simp only [List.length_append, List.length_singleton]; omega) (by omega)
          clear hpb hblk hblk2 hkp h2 hb2
          go_wp2_with (go_at_call 25; refine hwt.mono ?_; rintro e w3 ⟨rfl, h3, hb3⟩)
          go_roundw
          case rel => exact ⟨k + 1, by omega, by go_num, by rw [HST0.out]; exact h3, hb3⟩
          case measure => simp [intOf]; omega
      · have hke : k = ts.length := by omega
        have hst := Tryz.Builder_String_any w.heap.size w1.heap.size (planTextK ts k) wr hbu.out hB.size
        have HT : Hid (planTextK ts k = planText ts) := by rw [hke, planTextK_all]; rfl
        clear hke hp
        go_wp2_with (go_at_call 26; refine hst.mono ?_; rintro e w2 ⟨rfl, hb2⟩)
        go_ret2
        exact ⟨⟨p, 0, HC.out, Or.inr ⟨rfl, by rw [← HT.out]; rfl⟩⟩, hB.trans hb2⟩
  · have hev := errV_some hq
    rw [hev]
    have HV : Hid (errV q = .iface 52 (.int .i64 q)) := hev
    clear hev hp
    go_wp2
    go_ret2
    exact ⟨⟨p, q, hc, Or.inl ⟨hq, by rw [HV.out]; rfl⟩⟩, hb1⟩
end Go.Proofs.YtfmmfapfgpckfaaGreatDoor
