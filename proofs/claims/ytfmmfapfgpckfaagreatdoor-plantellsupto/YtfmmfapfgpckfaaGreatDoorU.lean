/- The contract of Parse. -/
import Derived.Test.YtfmmfapfgpckfaaGreatDoorT
namespace Go.Proofs.YtfmmfapfgpckfaaGreatDoor
open Go.RowKit Go.Deep

/-- Tasks in a row of the call's own, their needs in rows of their own. -/
def OwnTasks (N : Nat) (w : World) (v : Value) (ts : List (Int × List Int)) : Prop :=
  ∃ xs, w.ownsRow N 48 2 v ts.length xs ∧ ∀ j, j < ts.length → xs[j * 2]? = some (.int .i64 (ts.getD j (0, [])).1) ∧ ∃ nv, xs[j * 2 + 1]? = some nv ∧ NeedsRow w nv (needsOf ts j)

theorem NeedsRow.grown {w w' : World} {nv v : Value} {zs : List Int} {N n : Nat} {xs : List Value} (h : NeedsRow w nv zs) (ho : w.ownsRow N 48 2 v n xs) (hg : w.grownBy w' v.ownBlock) : NeedsRow w' nv zs := by
  refine World.ownsRow.kept h hg ?_
  rcases ho.2 with ⟨hv, _⟩ | ⟨g, cap, cur, hv, _, hh, _⟩
  · subst hv; cases nv.ownBlock <;> simp [Value.ownBlock]
  · subst hv
    rcases h.2 with ⟨hv2, _⟩ | ⟨g2, cap2, cur2, hv2, _, hh2, _⟩
    · subst hv2; exact Or.inl rfl
    · subst hv2
      right
      simp only [Value.ownBlock, ne_eq, Option.some.injEq]
      rintro rfl
      rw [hh] at hh2
      simp at hh2

theorem OwnTasks.nil (N : Nat) (w : World) : OwnTasks N w (.slice none 0 0) [] := ⟨[], World.ownsRow_nil _ _ _ _, fun j hj => by simp at hj⟩
theorem OwnTasks.later {N : Nat} {w w' : World} {v : Value} {ts : List (Int × List Int)} (h : OwnTasks N w v ts) (hb : Below w.heap.size w w') : OwnTasks N w' v ts := by
  obtain ⟨xs, ho, hx⟩ := h
  refine ⟨xs, ho.kept (row := none) ⟨hb.os, hb.tape, hb.output, hb.size, fun k hk _ => hb.block k hk⟩ (by cases v.ownBlock <;> simp), fun j hj => ?_⟩
  obtain ⟨h1, nv, h2, h3⟩ := hx j hj
  exact ⟨h1, nv, h2, h3.later hb⟩
theorem OwnTasks.shape {N : Nat} {w : World} {v : Value} {ts : List (Int × List Int)} (h : OwnTasks N w v ts) : ∃ a c, v = .slice a ts.length c := by
  obtain ⟨xs, ho, _⟩ := h
  rcases ho.2 with ⟨hv, h0⟩ | ⟨g, cap, cur, hv, _⟩
  · exact ⟨none, 0, by rw [hv, h0]⟩
  · exact ⟨_, _, hv⟩
theorem OwnTasks.append {N : Nat} {w w' : World} {v v' nv : Value} {ts : List (Int × List Int)} {xs : List Value} {wk : Int} {zs : List Int}
    (ho : w.ownsRow N 48 2 v ts.length xs) (hx : ∀ j, j < ts.length → xs[j * 2]? = some (.int .i64 (ts.getD j (0, [])).1) ∧ ∃ nv, xs[j * 2 + 1]? = some nv ∧ NeedsRow w nv (needsOf ts j))
    (hn : NeedsRow w nv zs) (ho' : w'.ownsRow N 48 2 v' (ts.length + 1) (xs ++ [.int .i64 wk, nv])) (hg : w.grownBy w' v.ownBlock) : OwnTasks N w' v' (ts ++ [(wk, zs)]) := by
  have hl : xs.length = ts.length * 2 := ho.1
  refine ⟨xs ++ [.int .i64 wk, nv], by simpa using ho', fun j hj => ?_⟩
  simp at hj
  by_cases e : j = ts.length
  · subst e
    unfold needsOf
    rw [getD_snoc_at]
    refine ⟨by rw [← hl]; simp, nv, by rw [← hl]; simp, hn.grown ho hg⟩
  · have hlt : j < ts.length := by omega
    obtain ⟨h1, nv2, h2, h3⟩ := hx j hlt
    unfold needsOf at h3 ⊢
    rw [getD_snoc _ _ _ _ hlt]
    exact ⟨by rw [List.getElem?_append_left (by omega)]; exact h1, nv2, by rw [List.getElem?_append_left (by omega)]; exact h2, h3.grown ho hg⟩
theorem NeedsRow.ints {w : World} {nv : Value} {zs : List Int} (h : NeedsRow w nv zs) (hl : zs.length * 8 ≤ 140737488351232) : IntsAt w nv zs := by
  refine ⟨hl, ?_⟩
  rcases h.2 with ⟨hv, h0⟩ | ⟨g, cap, cur, hv, _, hh, _⟩
  · exact ⟨none, 0, by rw [hv, h0], Or.inl (List.eq_nil_of_length_eq_zero h0)⟩
  · subst hv
    refine ⟨_, _, rfl, Or.inr ⟨g, 0, rfl, lt_of_block hh, fun k hk => ?_⟩⟩
    have := World.ownsRow.cellAt h k (by omega)
    rw [Nat.zero_add, this]
    simp [hk]
theorem OwnTasks.planAt {N : Nat} {w : World} {v : Value} {ts : List (Int × List Int)} (h : OwnTasks N w v ts) (hl : ts.length * 32 ≤ 140737488351232) (hn : ∀ j, j < ts.length → (needsOf ts j).length * 8 ≤ 140737488351232) : PlanAt w v ts := by
  obtain ⟨xs, ho, hx⟩ := h
  refine ⟨hl, ?_⟩
  rcases ho.2 with ⟨hv, h0⟩ | ⟨g, cap, cur, hv, _, hh, _⟩
  · exact ⟨none, 0, by rw [hv, h0], Or.inl (List.eq_nil_of_length_eq_zero h0)⟩
  · subst hv
    refine ⟨_, _, rfl, Or.inr ⟨g, 0, rfl, lt_of_block hh, fun k hk => ?_⟩⟩
    obtain ⟨h1, nv, h2, h3⟩ := hx k hk
    have e1 := ho.cellAt (k * 2) (by omega)
    have e2 := ho.cellAt (k * 2 + 1) (by omega)
    rw [Nat.zero_add]
    exact ⟨by rw [e1]; exact h1, nv, by rw [e2]; exact h2, h3.ints (hn k hk)⟩

theorem splitC_len (c : UInt8) (l : List UInt8) : (splitC c l).length ≤ l.length + 1 := by
  induction l with
  | nil => simp [splitC]
  | cons b r ih =>
    rw [splitC_cons]
    split
    · simp; omega
    · cases hs : splitC c r with
      | nil => simp
      | cons x xs => rw [hs] at ih; simp at ih ⊢; omega
theorem allOf_len {α β : Type} (f : α → Option β) (l : List α) (ys : List β) (h : allOf f l = some ys) : ys.length = l.length := by
  induction l generalizing ys with
  | nil => simp [allOf] at h; subst h; rfl
  | cons a r ih =>
    simp only [allOf] at h
    cases ha : f a with
    | none => simp [ha] at h
    | some b =>
      cases hr : allOf f r with
      | none => simp [ha, hr] at h
      | some bs => simp [ha, hr] at h; subst h; simp [ih bs hr]
theorem taskOf_len (l : List UInt8) (t : Int × List Int) (h : taskOf l = some t) : t.2.length ≤ l.length + 1 := by
  unfold taskOf at h
  cases hn : numOf (cutB 60 l).1 with
  | none => simp [hn] at h
  | some w =>
    rw [hn] at h
    simp only at h
    split at h
    · obtain ⟨zs, hz, rfl⟩ := Option.map_eq_some_iff.1 h
      unfold numsOf at hz
      obtain ⟨ns, hns, rfl⟩ := Option.map_eq_some_iff.1 hz
      have h1 := allOf_len _ _ _ hns
      have h2 := splitC_len 44 (cutB 60 l).2.1
      have h3 := cutB_le2 60 l
      simp; omega
    · simp at h; subst h; simp

/-- All needs are not too many. -/
def Few (ts : List (Int × List Int)) : Prop := ∀ t, t ∈ ts → t.2.length ≤ 1048577
theorem Few.needs {ts : List (Int × List Int)} (h : Few ts) (j : Nat) : (needsOf ts j).length ≤ 1048577 := by
  unfold needsOf
  by_cases hj : j < ts.length
  · rw [List.getD_eq_getElem?_getD, List.getElem?_eq_getElem hj]; exact h _ (List.getElem_mem hj)
  · rw [List.getD_eq_getElem?_getD, List.getElem?_eq_none (by omega)]; simp
theorem Few.take {ts : List (Int × List Int)} (h : Few ts) (n : Nat) : Few (ts.take n) := fun t ht => h t (List.mem_of_mem_take ht)

/-- Where the reading of a plan stands. -/
def StandsT (l : List UInt8) (done : List (List UInt8)) (rest : List UInt8) (more : Bool) : Prop :=
  tasksOf l = allOf taskOf (done ++ (if more then splitC 32 rest else []))
theorem StandsT.start (l : List UInt8) : StandsT l [] l (!l.isEmpty) := by
  unfold StandsT tasksOf
  cases l with
  | nil => rfl
  | cons b r => simp
theorem StandsT.step {l : List UInt8} {done : List (List UInt8)} {rest : List UInt8} (h : StandsT l done rest true) : StandsT l (done ++ [(cutB 32 rest).1]) (cutB 32 rest).2.1 (cutB 32 rest).2.2 := by
  unfold StandsT at h ⊢
  rw [h, List.append_assoc]
  simp only [↓reduceIte]
  conv => lhs; rw [splitC_cut 32 rest]
  rfl
theorem StandsT.bad {l : List UInt8} {done : List (List UInt8)} {rest : List UInt8} (h : StandsT l done rest true) (hx : taskOf (cutB 32 rest).1 = none) : tasksOf l = none := by
  unfold StandsT at h
  rw [h]
  simp only [↓reduceIte]
  rw [splitC_cut 32 rest]
  exact allOf_bad taskOf _ _ _ hx

set_option maxRecDepth 100000 in
set_option maxHeartbeats 4000000 in
theorem parse_any (l : List UInt8) (w : World) (hl : l.length ≤ 1048576) (he : Synt w) (hm : Lens w) :
    Calls Tryz.prog 15 #[.string ⟨l.toArray⟩] w fun e w' => ((tasksOf l = none ∧ e = .returned (.tuple #[.slice none 0 0, errV 2])) ∨
      (∃ ts p q, tasksOf l = some ts ∧ Few ts ∧ CheckIs (ts.take 31) p q ∧ ((q ≠ 0 ∧ e = .returned (.tuple #[.slice none 0 0, errV q])) ∨ (q = 0 ∧ ∃ v, e = .returned (.tuple #[v, .nilIface]) ∧ PlanAt w' v (ts.take 31))))) ∧ Below w.heap.size w w' := by
  obtain ⟨i30, hi30, hz0, hz1, hz2⟩ := info_parts Tryz.info48
  have HE : Hid (Synt w) := he
  have HM : Hid (Lens w) := hm
  clear he hm
  go_enter Tryz.func15, Tryz.ntmps15
  go_wp2
  go_loopg [4, 6, 7] (l.length + 1) (fun gg s4 s6 s7 wr => ∃ done rest more ts, s6 = .string ⟨(rest : List UInt8).toArray⟩ ∧ s7 = .bool more ∧ Hid (OwnTasks w.heap.size wr s4 (ts.take 31)) ∧ Hid (StandsT l done rest more) ∧ Hid (allOf taskOf done = some ts) ∧ Hid (Few ts) ∧ Below w.heap.size w wr ∧ rest.length ≤ l.length ∧ restOf rest more ≤ gg)
  case atStart => exact ⟨[], l, _, [], rfl, rfl, OwnTasks.nil _ _, StandsT.start l, rfl, fun t ht => by simp at ht, Below.refl _ _, Nat.le_refl _, by unfold restOf; split <;> omega⟩
  case round =>
    obtain ⟨done, rest, more, ts, rfl, rfl, hown, hst, hall, hfew, hb, hrl, hg⟩ := hrel
    cases more
    · have HT : Hid (tasksOf l = some ts) := by
        have := hst.out
        unfold StandsT at this
        simp only [Bool.false_eq_true, ↓reduceIte, List.append_nil] at this
        rw [this.trans hall.out]; rfl
      have hlen : (ts.take 31).length ≤ 31 := by simp; omega
      have hpa : PlanAt wr _ (ts.take 31) := hown.out.planAt (by omega) (fun j _ => by have := (hfew.out.take 31).needs j; omega)
      have hck := check_any _ _ wr hpa
      have HP : Hid (PlanAt wr _ (ts.take 31)) := hpa
      clear hpa hst hall hown
      go_wp2_with fail
      refine hck.mono ?_
      rintro e w2 ⟨⟨p, q, rfl, hc⟩, hb2⟩
      clear hck
      have hB2 : Below w.heap.size w w2 := hb.trans (hb2.mono hb.size)
      by_cases hq : q = 0
      · subst hq
        rw [errV_zero]
        go_wp2
        go_ret2
        exact ⟨Or.inr ⟨ts, p, 0, HT.out, hfew.out, hc, Or.inr ⟨rfl, _, rfl, HP.out.later hb2⟩⟩, hB2⟩
      · have hev := errV_some hq
        rw [hev]
        have HV : Hid (errV q = .iface 52 (.int .i64 q)) := hev
        clear hev
        go_wp2
        go_ret2
        exact ⟨Or.inr ⟨ts, p, q, HT.out, hfew.out, hc, Or.inl ⟨hq, by rw [HV.out]; rfl⟩⟩, hB2⟩
    · have hcut := cut_any rest 32 wr (by omega) (HM.out.later hb)
      have hr := restOf_step 32 rest
      have hl1 := cutB_le1 32 rest
      have hl2 := cutB_le2 32 rest
      have HBad : Hid (taskOf (cutB 32 rest).1 = none → tasksOf l = none) := fun h => hst.out.bad h
      have HStep : Hid (StandsT l (done ++ [(cutB 32 rest).1]) (cutB 32 rest).2.1 (cutB 32 rest).2.2) := hst.out.step
      generalize hc1 : (cutB 32 rest).1 = word at *
      generalize hc2 : (cutB 32 rest).2.1 = rest2 at *
      generalize hc3 : (cutB 32 rest).2.2 = more2 at *
      clear hc1 hc2 hc3 hst
      go_wp2_with fail
      refine hcut.mono ?_
      rintro e w2 ⟨rfl, hb2⟩
      have hB2 : Below w.heap.size w w2 := hb.trans (hb2.mono hb.size)
      have hrt := readTask_any word w2 (by omega) (HE.out.later hB2) (HM.out.later hB2)
      clear hcut
      go_wp2_with fail
      refine hrt.mono ?_
      rintro e w3 ⟨hres, hb3⟩
      clear hrt
      have hB3 : Below w.heap.size w w3 := hB2.trans (hb3.mono hB2.size)
      have hown3 := (hown.out.later hb2).later hb3
      rcases hres with ⟨wk, nv, zs, htask, rfl, hrow⟩ | ⟨htask, rfl⟩
      · have HA : Hid (allOf taskOf (done ++ [word]) = some (ts ++ [(wk, zs)])) := allOf_snoc _ _ _ _ _ hall.out htask
        have HF : Hid (Few (ts ++ [(wk, zs)])) := by
          intro t ht
          rcases List.mem_append.1 ht with h | h
          · exact hfew.out t h
          · have := taskOf_len word _ htask
            rw [List.mem_singleton.1 h]; simp at this ⊢; omega
        obtain ⟨na, nc, rfl⟩ := hrow.shape
        obtain ⟨sa, sc, rfl⟩ := hown3.shape
        clear htask hall hfew hown hb2 hb3
        by_cases h30 : ts.length ≤ 30
        · have hlen : (ts.take 31).length ≤ 30 := by simp; omega
          have htk : ts.take 31 = ts := List.take_of_length_le (by omega)
          have hi : ((ts.take 31).length : Int) ≤ 30 := by omega
          have hbA : Below w3.heap.size w3 ((w3.alloc (.cells #[.int .i64 wk, .slice na zs.length nc] 48)).alloc (.cells #[.int .i64 wk, .slice na zs.length nc] 48)) := ((Below.refl _ _).alloc (Nat.le_refl _) _).alloc (by simp) _
          obtain ⟨xs, ho, hx⟩ := hown3.later hbA
          have HR : Hid (NeedsRow ((w3.alloc (.cells #[.int .i64 wk, .slice na zs.length nc] 48)).alloc (.cells #[.int .i64 wk, .slice na zs.length nc] 48)) (.slice na zs.length nc) zs) := hrow.later hbA
          have HX : Hid (∀ j, j < (ts.take 31).length → xs[j * 2]? = some (.int .i64 ((ts.take 31).getD j (0, [])).1) ∧ ∃ nv, xs[j * 2 + 1]? = some nv ∧ NeedsRow ((w3.alloc (.cells #[.int .i64 wk, .slice na zs.length nc] 48)).alloc (.cells #[.int .i64 wk, .slice na zs.length nc] 48)) nv (needsOf (ts.take 31) j)) := hx
          have HTK : Hid (ts.take 31 = ts) := htk
          clear hx htk hown3 hrow
          generalize htt : ts.take 31 = tt at *
          clear htt
          go_wp2_with (at_builtin; refine wpList_append_own _ rfl (.tmp 33) (.tmp 35) 23 rfl w.heap.size 48 i30 (.agg #[.int .i64 0, .slice none 0 0]) 2 32 Tryz.underlying23 hi30 hz0 hz1 hz2 rfl (by decide) _ tt.length xs rfl ho ⟨w3.heap.size + 1, 0, none⟩ 1 1 [.int .i64 wk, .slice na zs.length nc] rfl rfl ?c1 ?c2 ?c3 ?c4 ?c5 ?_)
          case c1 =>
            have h2 := cell_two_new (w3.alloc (.cells #[.int .i64 wk, .slice na zs.length nc] 48)) (.int .i64 wk) (.slice na zs.length nc) 48
            rw [nblk_alloc] at h2
            exact h2
          case c2 => intro u hu; simp at hu; rcases hu with rfl | rfl <;> rfl
          case c3 => unfold maxLen; omega
          case c4 => omega
          case c5 => have := hB3.size; simp; omega
          intro v' w4 hown' hgrow _
          have hB4 : Below w.heap.size w w4 := (hB3.trans (hbA.mono hB3.size)).grown hgrow (by have := hB3.size; simp; omega) (fun j e => (ho.lt j e).1)
          have HO : Hid (OwnTasks w.heap.size w4 v' ((ts ++ [(wk, zs)]).take 31)) := by
            have := OwnTasks.append ho HX.out HR.out hown' hgrow
            rw [List.take_of_length_le (by simp; omega)]
            rw [← HTK.out]
            exact this
          clear hown' hgrow ho hbA HX HR
          go_wp2
          go_roundg (restOf rest2 more2)
          case measure => omega
          case rel => exact ⟨done ++ [word], rest2, more2, ts ++ [(wk, zs)], rfl, rfl, HO, HStep, HA, HF, hB4, by omega, Nat.le_refl _⟩
        · have hlen : (ts.take 31).length = 31 := by simp; omega
          have hi : ¬ ((ts.take 31).length : Int) ≤ 30 := by omega
          have hbA : Below w3.heap.size w3 (w3.alloc (.cells #[.int .i64 wk, .slice na zs.length nc] 48)) := (Below.refl _ _).alloc (Nat.le_refl _) _
          have HO : Hid (OwnTasks w.heap.size (w3.alloc (.cells #[.int .i64 wk, .slice na zs.length nc] 48)) (.slice sa (ts.take 31).length sc) ((ts ++ [(wk, zs)]).take 31)) := by
            have := hown3.later hbA
            rw [List.take_append_of_le_length (by omega)]
            exact this
          clear hown3 hrow hlen
          generalize (ts.take 31).length = tl at *
          go_wp2
          go_roundg (restOf rest2 more2)
          case measure => omega
          case rel => exact ⟨done ++ [word], rest2, more2, ts ++ [(wk, zs)], rfl, rfl, HO, HStep, HA, HF, hB3.trans (hbA.mono hB3.size), by omega, Nat.le_refl _⟩
      · have HF : Hid (tasksOf l = none) := HBad.out htask
        clear htask hown3 hown
        go_wp2
        go_ret2
        exact ⟨Or.inl ⟨HF.out, rfl⟩, hB3.alloc hB3.size _⟩
end Go.Proofs.YtfmmfapfgpckfaaGreatDoor
