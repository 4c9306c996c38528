/- trace.Check: what it keeps, deed by deed: the contracts of begun, finish, sleep, wake, begin, tell. trace.Check: the contracts of begin, tell. -/
import Derived.Test.YtandhiiaflhenaaGreatDoorTkk

namespace Go.Proofs.YtandhiiaflhenaaGreatDoor
open Go.RowKit Go.Deep Go.Maps

section
variable {P : Program} {ops : Array Oper} {md : Region.Mode} {Q : Exit → Act → World → Prop} {S : World → Prop}
theorem wpAnyJ_take {i : Nat} {oi : Oper} {v : Value} {fuel : Nat} {listed : Array Bool} {a : Act} {w : World} (d : Option Nat) (hi : ops[i]? = some oi) (hd : oi.dst = d)
    (hs : Region.noSelect ops = true) (hf : Region.free md ops listed i = true) (hr : (Region.ready md ops listed).contains i = true)
    (hQ : ∀ c a w, Q (.panic c) (a.put d v) w → Q (.panic c) a w) (hy : YieldsIf P ops S oi v a) (hS : S w)
    (h : wpAnyH P md ops Q S fuel (listed.setIfInBounds i true) (a.put d v) w) : wpAnyH P md ops Q S (fuel + 1) listed a w := by
  subst hd
  exact wpAnyH_take hi hs hf hr hQ hy hS h
theorem wpOpJ_call {i : Nat} {o : Oper} {K : Act → World → Prop} {a : Act} {w : World} {f : FuncId} {args : Array Value} (d : Option Nat) (hi : ops[i]? = some o) (hd : o.dst = d) (hw : Region.wanted o (yielded ops a.tmps) = true)
    (hr : (execOp a.eval o).run P w = .ok (.enter f args) w) (h : Calls P f args w fun
      | .returned v, w'' => K (a.put d v) w''
      | .panicked chain, w'' => Q (.panic chain) a w''
      | .outgrown, _ => LetsOut Q) : wpOp P ops Q i K a w := by
  subst hd
  unfold wpOp
  rw [hi]
  dsimp only
  rw [hw, if_pos rfl]
  refine Or.inl ?_
  unfold Oper.wp
  rw [hr]
  exact h
end

/-- What Check keeps, from block H on: what each hand has, what was had, what is done, who sleeps, and all that together. -/
structure SM (H : Nat) (pa : Option Addr) (pc hands n q : Nat) (w0 w : World) (s : Tr) : Prop where
  has : NumM w H q hands s.has
  had : SetM w (H + 1) q n s.had
  dn : SetM w (H + 2) q n s.dn
  slp : SetM w (H + 3) q hands s.slp
  st : w.heap[H + 4]? = some (.cells #[.slice pa n pc, .int .i64 (hands : Int), .map (some H), .map (some (H + 1)), .map (some (H + 2)), .map (some (H + 3))] 152 (0, 0))
  below : Below H w0 w
section
variable {H : Nat} {pa : Option Addr} {pc hands n q : Nat} {w0 w w' : World} {s : Tr}
theorem SM.lt (h : SM H pa pc hands n q w0 w s) : H + 4 < w.heap.size := (Array.getElem?_eq_some_iff.1 h.st).1
theorem SM.later (h : SM H pa pc hands n q w0 w s) (hb : Below w.heap.size w w') : SM H pa pc hands n q w0 w' s :=
  ⟨h.has.of_block (hb.block _ h.has.lt), h.had.of_block (hb.block _ h.had.lt), h.dn.of_block (hb.block _ h.dn.lt), h.slp.of_block (hb.block _ h.slp.lt), (hb.block _ h.lt).trans h.st, h.below.trans (hb.mono (by have := h.lt; omega))⟩
theorem SM.c (h : SM H pa pc hands n q w0 w s) : w.cell? ⟨H + 4, 0, none⟩ = some (.slice pa n pc) ∧ w.cell? ⟨H + 4, 1, none⟩ = some (.int .i64 (hands : Int)) ∧ w.cell? ⟨H + 4, 2, none⟩ = some (.map (some H)) ∧ w.cell? ⟨H + 4, 3, none⟩ = some (.map (some (H + 1))) ∧ w.cell? ⟨H + 4, 4, none⟩ = some (.map (some (H + 2))) ∧ w.cell? ⟨H + 4, 5, none⟩ = some (.map (some (H + 3))) :=
  ⟨by simp [World.cell?, h.st], by simp [World.cell?, h.st], by simp [World.cell?, h.st], by simp [World.cell?, h.st], by simp [World.cell?, h.st], by simp [World.cell?, h.st]⟩
theorem SM.more (h : SM H pa pc hands n q w0 w s) : SM H pa pc hands n (q + 1) w0 w s := ⟨h.has.more, h.had.more, h.dn.more, h.slp.more, h.st, h.below⟩
theorem SM.setHas (h : SM H pa pc hands n q w0 w s) {f : Nat → Int} (hf : NumM w' H (q + 1) hands f) (hg : w.grownBy w' (some H)) : SM H pa pc hands n (q + 1) w0 w' { s with has := f } := by
  have hl := h.lt
  exact ⟨hf, h.had.more.of_block (hg.block _ (by omega) (by simp)), h.dn.more.of_block (hg.block _ (by omega) (by simp)), h.slp.more.of_block (hg.block _ (by omega) (by simp)), (hg.block _ hl (by simp)).trans h.st, h.below.grown hg (by omega) (fun k e => by cases e; exact Nat.le_refl _)⟩
theorem SM.setHad (h : SM H pa pc hands n q w0 w s) {f : Nat → Bool} (hf : SetM w' (H + 1) (q + 1) n f) (hg : w.grownBy w' (some (H + 1))) : SM H pa pc hands n (q + 1) w0 w' { s with had := f } := by
  have hl := h.lt
  exact ⟨h.has.more.of_block (hg.block _ (by omega) (by simp)), hf, h.dn.more.of_block (hg.block _ (by omega) (by simp)), h.slp.more.of_block (hg.block _ (by omega) (by simp)), (hg.block _ hl (by simp)).trans h.st, h.below.grown hg (by omega) (fun k e => by cases e; omega)⟩
theorem SM.setDn (h : SM H pa pc hands n q w0 w s) {f : Nat → Bool} (hf : SetM w' (H + 2) (q + 1) n f) (hg : w.grownBy w' (some (H + 2))) : SM H pa pc hands n (q + 1) w0 w' { s with dn := f } := by
  have hl := h.lt
  exact ⟨h.has.more.of_block (hg.block _ (by omega) (by simp)), h.had.more.of_block (hg.block _ (by omega) (by simp)), hf, h.slp.more.of_block (hg.block _ (by omega) (by simp)), (hg.block _ hl (by simp)).trans h.st, h.below.grown hg (by omega) (fun k e => by cases e; omega)⟩
theorem SM.setSlp (h : SM H pa pc hands n q w0 w s) {f : Nat → Bool} (hf : SetM w' (H + 3) (q + 1) hands f) (hg : w.grownBy w' (some (H + 3))) : SM H pa pc hands n (q + 1) w0 w' { s with slp := f } := by
  have hl := h.lt
  exact ⟨h.has.more.of_block (hg.block _ (by omega) (by simp)), h.had.more.of_block (hg.block _ (by omega) (by simp)), h.dn.more.of_block (hg.block _ (by omega) (by simp)), hf, (hg.block _ hl (by simp)).trans h.st, h.below.grown hg (by omega) (fun k e => by cases e; omega)⟩
end
theorem drewB (w : World) (q : Nat) : Below w.heap.size w (w.drewN q) := ⟨rfl, rfl, rfl, Nat.le_refl _, fun _ _ => rfl⟩

set_option maxRecDepth 100000 in
theorem begun_any (pa : Option Addr) (pc n hands : Nat) (w : World) :
    Calls Tryz.prog 38 #[.slice pa n pc, .int .i64 (hands : Int)] w fun e w' => e = .returned (.pointer (some ⟨w.heap.size + 4, 0, none⟩)) ∧ SM w.heap.size pa pc hands n 0 w w' trNew := by
  have HM : Hid (SM w.heap.size pa pc hands n 0 w (((((w.alloc (.map #[] 0)).alloc (.map #[] 0)).alloc (.map #[] 0)).alloc (.map #[] 0)).alloc (.cells #[.slice pa n pc, .int .i64 (hands : Int), .map (some w.heap.size), .map (some (w.heap.size + 1)), .map (some (w.heap.size + 2)), .map (some (w.heap.size + 3))] 152)) trNew) := by
    have h1 := NumM.start w hands
    have h2 := SetM.start (w.alloc (.map #[] 0)) n
    have h3 := SetM.start ((w.alloc (.map #[] 0)).alloc (.map #[] 0)) n
    have h4 := SetM.start (((w.alloc (.map #[] 0)).alloc (.map #[] 0)).alloc (.map #[] 0)) hands
    have h5 := blk_alloc_new ((((w.alloc (.map #[] 0)).alloc (.map #[] 0)).alloc (.map #[] 0)).alloc (.map #[] 0)) (.cells #[.slice pa n pc, .int .i64 (hands : Int), .map (some w.heap.size), .map (some (w.heap.size + 1)), .map (some (w.heap.size + 2)), .map (some (w.heap.size + 3))] 152)
    simp only [nblk_alloc] at h2 h3 h4 h5
    refine ⟨?_, ?_, ?_, ?_, h5, ?_⟩
    · exact h1.of_block (((Below.heap_alloc _ _ _ (by simp only [nblk_alloc]; omega)).trans (Below.heap_alloc _ _ _ (by simp only [nblk_alloc]; omega))).trans ((Below.heap_alloc _ _ _ (by simp only [nblk_alloc]; omega)).trans (Below.heap_alloc _ _ _ (by simp only [nblk_alloc]; omega))))
    · exact h2.of_block ((Below.heap_alloc _ _ _ (by simp only [nblk_alloc]; omega)).trans ((Below.heap_alloc _ _ _ (by simp only [nblk_alloc]; omega)).trans (Below.heap_alloc _ _ _ (by simp only [nblk_alloc]; omega))))
    · exact h3.of_block ((Below.heap_alloc _ _ _ (by simp only [nblk_alloc]; omega)).trans (Below.heap_alloc _ _ _ (by simp only [nblk_alloc]; omega)))
    · exact h4.of_block (Below.heap_alloc _ _ _ (by simp only [nblk_alloc]; omega))
    · exact (((((Below.refl _ _).alloc (Nat.le_refl _) _).alloc (by simp only [nblk_alloc]; omega) _).alloc (by simp only [nblk_alloc]; omega) _).alloc (by simp only [nblk_alloc]; omega) _).alloc (by simp only [nblk_alloc]; omega) _
  have hmk1 : ∀ wx, Sem.run Tryz.prog (Instr.makeMap 70 none) wx = .ok (.map (some wx.heap.size)) (wx.alloc (.map #[] 0)) := fun wx => by kernel_rfl
  have hmk2 : ∀ wx, Sem.run Tryz.prog (Instr.makeMap 107 none) wx = .ok (.map (some wx.heap.size)) (wx.alloc (.map #[] 0)) := fun wx => by kernel_rfl
  go_enter Tryz.func38, Tryz.ntmps38
  go_wp2
  go_ret
  exact ⟨rfl, HM.out⟩

/-- What a deed comes to: its error, and what is kept. -/
def DeedOut (H : Nat) (pa : Option Addr) (pc hands n q : Nat) (w0 : World) (er : Int) (s' : Tr) (e : Ending) (w' : World) : Prop := e = .returned (errV er) ∧ Below H w0 w' ∧ (er = 0 → SM H pa pc hands n (q + 2) w0 w' s')
section
variable {H : Nat} {pa : Option Addr} {pc hands n q : Nat} {w0 w w' : World} {s s' : Tr} {er : Int} {e : Ending}
theorem DeedOut.bad (h : SM H pa pc hands n q w0 w s) (k : Int) (hk : k ≠ 0) (he : er = k) (hev : e = .returned (.iface 80 (.int .i64 k))) : DeedOut H pa pc hands n q w0 er s' e w := by
  subst he
  exact ⟨by rw [hev, errV_some hk], h.below, fun h0 => absurd h0 hk⟩
theorem DeedOut.good (h : SM H pa pc hands n (q + 2) w0 w s) (he : er = 0) (hev : e = .returned .nilIface) : DeedOut H pa pc hands n q w0 er s e w := by
  subst he
  exact ⟨by rw [hev, errV_zero], h.below, fun _ => h⟩
set_option maxRecDepth 100000 in
set_option maxHeartbeats 2000000 in
theorem sleep_any (hM : SM H pa pc hands n q w0 w s) (hq : q ≤ 10000) (h6 : hands ≤ 6) (x2 : Nat) (hx2 : x2 < hands) (er : Int) (her : er = if 0 ≤ s.has x2 ∨ s.slp x2 = true then 6 else 0) :
    Calls Tryz.prog 70 #[.pointer (some ⟨H + 4, 0, none⟩), .int .i64 (x2 : Int)] w (DeedOut H pa pc hands n q w0 er { s with slp := updG s.slp x2 true }) := by
  have hin1 := inSet_any hM.slp hx2 (by omega)
  have HM : Hid (SM H pa pc hands n q w0 w s) := hM
  obtain ⟨-, -, c2, -, -, c5⟩ := hM.c
  clear hM
  cases hs : s.slp x2
  case true =>
    rw [hs] at hin1
    have HER : Hid (er = 6) := her.trans (if_pos (Or.inr hs))
    clear her hs
    go_enter Tryz.func70, Tryz.ntmps70
    go_wp2_with (first | (go_at_call 102; refine hin1.mono ?_; clear hin1; rintro e w1 ⟨rfl, hb1⟩; have HB1 : Hid (SM H pa pc hands n q w0 w1 s) := HM.out.later hb1; clear hb1))
    go_ret
    exact DeedOut.bad HB1.out 6 (by omega) HER.out rfl
  case false =>
    rw [hs] at hin1
    by_cases hh : 0 ≤ s.has x2
    · have HER : Hid (er = 6) := her.trans (if_pos (Or.inl hh))
      have HHH : Hid (decide (0 ≤ s.has x2) = true) := decide_eq_true hh
      clear her hs hh
      go_enter Tryz.func70, Tryz.ntmps70
      go_wp2_with (first | (go_at_call 102; refine hin1.mono ?_; clear hin1; rintro e w1 ⟨rfl, hb1⟩; have HB1 : Hid (SM H pa pc hands n q w0 w1 s) := HM.out.later hb1; clear hb1; have c22 := HB1.out.c.2.2.1; have hin2 := inNum_any HB1.out.has hx2 (by omega); rw [HHH.out] at hin2) | (go_at_call 103; refine hin2.mono ?_; clear hin2; rintro e w1 ⟨rfl, rfl⟩))
      go_ret
      exact DeedOut.bad HB1.out 6 (by omega) HER.out rfl
    · have HER : Hid (er = 0) := her.trans (if_neg (fun h => h.elim hh (by rw [hs]; simp)))
      have HHH : Hid (decide (0 ≤ s.has x2) = false) := decide_eq_false hh
      clear her hs hh
      go_enter Tryz.func70, Tryz.ntmps70
      go_wp2_with (first | (go_at_call 102; refine hin1.mono ?_; clear hin1; rintro e w1 ⟨rfl, hb1⟩; have HB1 : Hid (SM H pa pc hands n q w0 w1 s) := HM.out.later hb1; clear hb1; have c22 := HB1.out.c.2.2.1; have c25 := HB1.out.c.2.2.2.2.2; have hin2 := inNum_any HB1.out.has hx2 (by omega); rw [HHH.out] at hin2) | (go_at_call 103; refine hin2.mono ?_; clear hin2; rintro e w1 ⟨rfl, rfl⟩; obtain ⟨D, hown, hD⟩ := HB1.out.slp; have hkey := keyN (y := x2) (by omega); have HD : Hid (∀ x : Nat, x < hands → Maps.has D (.int .i64 x) = s.slp x) := hD; have HIM : Hid (Maps.IsMap D) := hown.isMap; clear hD; have hml : q < maxLen := (by unfold maxLen; omega)) | (at_mapUpdate; refine wpList_mapUpdate_own _ rfl _ _ _ 107 rfl 3 161 keyedI Tryz.underlying107 (unitElem (H := Unit)) (H + 3) q D rfl hown hml _ _ _ rfl rfl hkey (.agg []) [] unitElem_mk ?_; intro w2 hown2 hgrow2))
      go_ret
      have hset : SetM w2 (H + 3) (q + 1) hands (updG s.slp x2 true) := ⟨_, hown2, fun y hy => by
        by_cases e : y = x2
        · subst e; rw [Maps.has_put_same HIM.out (by trivial), updG_self]
        · rw [Maps.has_put_other (by intro h; injection h with _ h; omega), updG_ne s.slp _ e, HD.out y hy]⟩
      exact DeedOut.good (HB1.out.setSlp hset hgrow2).more HER.out rfl
set_option maxRecDepth 100000 in
set_option maxHeartbeats 2000000 in
theorem wake_any (hM : SM H pa pc hands n q w0 w s) (h6 : hands ≤ 6) (x2 : Nat) (hx2 : x2 < hands) (er : Int) (her : er = if s.slp x2 = true then 0 else 6) :
    Calls Tryz.prog 71 #[.pointer (some ⟨H + 4, 0, none⟩), .int .i64 (x2 : Int)] w (DeedOut H pa pc hands n q w0 er { s with slp := updG s.slp x2 false }) := by
  have hin1 := inSet_any hM.slp hx2 (by omega)
  have HM : Hid (SM H pa pc hands n q w0 w s) := hM
  obtain ⟨-, -, -, -, -, c5⟩ := hM.c
  clear hM
  cases hs : s.slp x2
  case false =>
    rw [hs] at hin1
    have HER : Hid (er = 6) := her.trans (if_neg (by rw [hs]; simp))
    clear her hs
    go_enter Tryz.func71, Tryz.ntmps71
    go_wp2_with (first | (go_at_call 102; refine hin1.mono ?_; clear hin1; rintro e w1 ⟨rfl, hb1⟩; have HB1 : Hid (SM H pa pc hands n q w0 w1 s) := HM.out.later hb1; clear hb1))
    go_ret
    exact DeedOut.bad HB1.out 6 (by omega) HER.out rfl
  case true =>
    rw [hs] at hin1
    have HER : Hid (er = 0) := her.trans (if_pos hs)
    clear her hs
    go_enter Tryz.func71, Tryz.ntmps71
    go_wp2_with (first | (go_at_call 102; refine hin1.mono ?_; clear hin1; rintro e w1 ⟨rfl, hb1⟩; have HB1 : Hid (SM H pa pc hands n q w0 w1 s) := HM.out.later hb1; clear hb1; have c25 := HB1.out.c.2.2.2.2.2; obtain ⟨D, hown, hD⟩ := HB1.out.slp; have hkey := keyN (y := x2) (by omega); have HD : Hid (∀ x : Nat, x < hands → Maps.has D (.int .i64 x) = s.slp x) := hD; clear hD) | (at_delete; refine wpList_delete_own _ rfl _ _ 107 3 rfl 161 keyedI Tryz.underlying107 _ (H + 3) q D rfl hown _ _ rfl hkey ?_; intro w2 hown2 hturn2))
    go_ret
    have hset : SetM w2 (H + 3) q hands (updG s.slp x2 false) := ⟨_, hown2, fun y hy => by
      by_cases e : y = x2
      · subst e; rw [Maps.has_del_same, updG_self]
      · rw [Maps.has_del_other (by intro h; injection h with _ h; omega), updG_ne s.slp _ e, HD.out y hy]⟩
    have hM2 := (HB1.out.setSlp hset.more hturn2.grown).more
    exact DeedOut.good hM2 HER.out rfl
set_option maxRecDepth 100000 in
set_option maxHeartbeats 4000000 in
theorem fin_any (hM : SM H pa pc hands n q w0 w s) (hq : q ≤ 10000) (h6 : hands ≤ 6) (h30 : n ≤ 30) (x1 x4 : Int) (x2 x3 : Nat) (hx2 : x2 < hands) (hx3 : x3 < n) (er : Int) (her : er = if s.has x2 = (x3 : Int) then 0 else 6) :
    Calls Tryz.prog 69 #[.pointer (some ⟨H + 4, 0, none⟩), .agg #[.int .i64 x1, .int .i64 (x2 : Int), .int .i64 (x3 : Int), .int .i64 x4]] w (DeedOut H pa pc hands n q w0 er { s with has := updG s.has x2 (-1), dn := mark s.dn x3 }) := by
  obtain ⟨W, hW⟩ : ∃ W, W = w.alloc (.cells #[.int .i64 x1, .int .i64 (x2 : Int), .int .i64 (x3 : Int), .int .i64 x4] 43) := ⟨_, rfl⟩
  have hMW : SM H pa pc hands n q w0 W s := by rw [hW]; exact hM.later ((Below.refl _ _).alloc (Nat.le_refl _) _)
  obtain ⟨-, d1, d2, -⟩ : W.cell? ⟨w.heap.size, 0, none⟩ = some (.int .i64 x1) ∧ W.cell? ⟨w.heap.size, 1, none⟩ = some (.int .i64 (x2 : Int)) ∧ W.cell? ⟨w.heap.size, 2, none⟩ = some (.int .i64 (x3 : Int)) ∧ W.cell? ⟨w.heap.size, 3, none⟩ = some (.int .i64 x4) := by rw [hW]; exact new_deed w x1 x2 x3 x4
  obtain ⟨c, hlk0, hcx⟩ := hMW.has.look (x := x2) (by omega) hx2
  have hlk : ∀ k, (Instr.lookup 70 (.map (some H)) (.int .i64 (x2 : Int)) true).run Tryz.prog (W.drewN k) = .ok (.tuple #[.int .i64 c, .bool (decide (0 ≤ s.has x2))]) (W.drewN k) := fun k => hlk0 _ rfl
  obtain ⟨-, -, c2, -, c4, -⟩ := hMW.c
  have HMW : Hid (SM H pa pc hands n q w0 W s) := hMW
  have HW : Hid (W = w.alloc (.cells #[.int .i64 x1, .int .i64 (x2 : Int), .int .i64 (x3 : Int), .int .i64 x4] 43)) := hW
  have hne : H + 4 < w.heap.size := hM.lt
  clear hW hM hMW hlk0
  by_cases hh : 0 ≤ s.has x2
  case neg =>
    have HER : Hid (er = 6) := her.trans (if_neg (by omega))
    rw [decide_eq_false hh] at hlk
    clear her hh hcx
    go_enter Tryz.func69, Tryz.ntmps69
    go_upto_region 1 with fail
    rw [← HW.out]
    go_quiet (fail)
    go_wp2
    go_ret
    exact DeedOut.bad (HMW.out.later (drewB _ _)) 6 (by omega) HER.out rfl
  case pos =>
    have hc := hcx hh
    rw [decide_eq_true hh] at hlk
    by_cases he : c = (x3 : Int)
    case neg =>
      have HER : Hid (er = 6) := her.trans (if_neg (by rw [← hc]; exact he))
      have hcb : (c != (x3 : Int)) = true := by simp [he]
      clear her hh hcx hc he
      go_enter Tryz.func69, Tryz.ntmps69
      go_upto_region 1 with fail
      rw [← HW.out]
      go_quiet (fail)
      go_wp2
      go_ret
      exact DeedOut.bad (HMW.out.later (drewB _ _)) 6 (by omega) HER.out rfl
    case pos =>
      have HER : Hid (er = 0) := her.trans (if_pos (by rw [← hc]; exact he))
      subst he
      clear her hh hcx hc
      have hz := zeroUnit
      go_enter Tryz.func69, Tryz.ntmps69
      go_upto_region 1 with fail
      rw [← HW.out]
      clear HW
      go_quiet (fail)
      go_upto_region 4 with fail
      have hM1 : SM H pa pc hands n q w0 (W.drewN nq) s := HMW.out.later (drewB _ _)
      have k1 : (W.drewN nq).cell? ⟨w.heap.size, 1, none⟩ = some (.int .i64 (x2 : Int)) := d1
      have k2 : (W.drewN nq).cell? ⟨w.heap.size, 2, none⟩ = some (.int .i64 (x3 : Int)) := d2
      clear d1 d2 c2 c4 HMW hlk
      generalize W.drewN nq = W1 at *
      have c2 := hM1.c.2.2.1
      have hM1d : SM H pa pc hands n q w0 W1.drew s := hM1.later (drewB W1 1)
      obtain ⟨w2, hdel, hnum, hg⟩ := hM1d.has.del (x := x2) (by omega) 0
      have hM2 := hM1d.setHas hnum.more hg
      have c4 := hM2.c.2.2.2.2.1
      have k22 : w2.cell? ⟨w.heap.size, 2, none⟩ = some (.int .i64 (x3 : Int)) := hg.cell (w := W1.drew) (a := ⟨w.heap.size, 2, none⟩) k2 (by simp; omega)
      have hM2d : SM H pa pc hands n (q + 1) w0 w2.drew { s with has := updG s.has x2 (-1) } := hM2.later (drewB w2 1)
      obtain ⟨w3, hmu, hset, hg3⟩ := hM2d.dn.put (by omega) (x := x3) (by omega)
      have HM3 : Hid (SM H pa pc hands n (q + 1 + 1) w0 w3 { s with has := updG s.has x2 (-1), dn := mark s.dn x3 }) := hM2d.setDn hset hg3
      clear hM1 hM1d hnum hg hM2 hM2d hset hg3
      go_region
      all_goals
        go_upto_region 5 with fail
        go_region
        all_goals
          go_wp2
          go_ret
          exact DeedOut.good HM3.out HER.out rfl
end
end Go.Proofs.YtandhiiaflhenaaGreatDoor

namespace Go.Proofs.YtandhiiaflhenaaGreatDoor
open Go.RowKit Go.Deep Go.Maps

section
variable {H : Nat} {pa : Option Addr} {pc hands q : Nat} {w0 w w' : World} {s s' : Tr} {ts : List (Int × List Int)}
theorem entersB : ∀ args w, (callFunc 104 args).run Tryz.prog w = .ok (.enter 104 args) w := enters_of Tryz.func104 (by kernel_rfl) rfl
set_option maxRecDepth 100000 in
theorem beginC_any {n : Nat} (hM : SM H pa pc hands n q w0 w s) (a : Addr) (hc : w.cell? a = some (.pointer (some ⟨H + 4, 0, none⟩))) (y : Nat) (hy : y < n) (h30 : n ≤ 30) :
    Calls Tryz.prog 104 (#[.int .i64 (y : Int)] ++ #[.pointer (some a)]) w fun e w' => e = .returned (.bool (!s.dn y)) ∧ Below w.heap.size w w' := by
  show Calls Tryz.prog 104 #[.int .i64 (y : Int), .pointer (some a)] w _
  have hin := inSet_any hM.dn hy (by omega)
  have c4 := hM.c.2.2.2.2.1
  clear hM
  cases hd : s.dn y
  all_goals
    rw [hd] at hin
    clear hd
    go_enter Tryz.func104, Tryz.ntmps104
    go_wp2_with (first | (go_at_call 102; refine hin.mono ?_; clear hin; rintro e w1 ⟨rfl, hb1⟩))
    go_ret
    exact ⟨rfl, hb1⟩
/-- What begins with a task. -/
def bErr (ts : List (Int × List Int)) (s : Tr) (x1 : Int) (x2 x3 : Nat) (x4 : Int) : Int :=
  if 0 ≤ s.has x2 ∨ s.had x3 = true then 7 else if s.slp x2 = true ∨ (needsOf ts x3).any (fun y => !s.dn y.toNat) = true then 6 else if x1 = 2 ∧ x4 = (x2 : Int) then 3 else 0
set_option maxRecDepth 100000 in
set_option maxHeartbeats 8000000 in
theorem beg_any (hM : SM H pa pc hands ts.length q w0 w s) (hp : PlanAt w (.slice pa ts.length pc) ts) (hr : InRange ts) (hq : q ≤ 10000) (h6 : hands ≤ 6) (h30 : ts.length ≤ 30) (x1 x4 : Int) (x2 x3 : Nat) (hx2 : x2 < hands) (hx3 : x3 < ts.length) (er : Int) (her : er = bErr ts s x1 x2 x3 x4) :
    Calls Tryz.prog 72 #[.pointer (some ⟨H + 4, 0, none⟩), .agg #[.int .i64 x1, .int .i64 (x2 : Int), .int .i64 (x3 : Int), .int .i64 x4]] w (DeedOut H pa pc hands ts.length q w0 er { s with has := updG s.has x2 (x3 : Int), had := mark s.had x3 }) := by
  obtain ⟨W, hW⟩ : ∃ W, W = (w.alloc (.cells #[.pointer (some ⟨H + 4, 0, none⟩)] 99)).alloc (.cells #[.int .i64 x1, .int .i64 (x2 : Int), .int .i64 (x3 : Int), .int .i64 x4] 43) := ⟨_, rfl⟩
  have hbW : Below w.heap.size w W := by rw [hW]; exact ((Below.refl _ _).alloc (Nat.le_refl _) _).alloc (by simp) _
  have hMW := hM.later hbW
  have hpW := hp.later hbW
  have hsz : W.heap.size = w.heap.size + 2 := by rw [hW]; simp
  have hbx : W.cell? ⟨w.heap.size, 0, none⟩ = some (.pointer (some ⟨H + 4, 0, none⟩)) := by
    rw [hW, World.cell?_alloc_lt _ _ ⟨w.heap.size, 0, none⟩ (by simp)]
    unfold World.cell?
    dsimp only
    rw [blk_alloc_new]
    rfl
  obtain ⟨d0, d1, d2, d3⟩ : W.cell? ⟨w.heap.size + 1, 0, none⟩ = some (.int .i64 x1) ∧ W.cell? ⟨w.heap.size + 1, 1, none⟩ = some (.int .i64 (x2 : Int)) ∧ W.cell? ⟨w.heap.size + 1, 2, none⟩ = some (.int .i64 (x3 : Int)) ∧ W.cell? ⟨w.heap.size + 1, 3, none⟩ = some (.int .i64 x4) := by
    have := new_deed (w.alloc (.cells #[.pointer (some ⟨H + 4, 0, none⟩)] 99)) x1 x2 x3 x4
    rw [nblk_alloc] at this
    rw [hW]
    exact this
  obtain ⟨_, pa', pc', hpv, hpc⟩ := hpW
  simp only [Value.slice.injEq] at hpv
  obtain ⟨rfl, _, rfl⟩ := hpv
  rcases hpc with hnil | ⟨b, o, rfl, hbl, hcp⟩
  · rw [hnil] at hx3; simp at hx3
  obtain ⟨_, nv, hnv, hin⟩ := hcp x3 hx3
  obtain ⟨na, nc, rfl⟩ : ∃ na nc, nv = .slice na (needsOf ts x3).length nc := by
    obtain ⟨_, a2, c2, h, _⟩ := hin
    exact ⟨a2, c2, h⟩
  have hx3i : (x3 : Int) < (ts.length : Int) := by omega
  have hlt := hM.lt
  have HSL : Hid (∀ W', Below W.heap.size W W' → W'.cell? ⟨w.heap.size, 0, none⟩ = some (.pointer (some ⟨H + 4, 0, none⟩)) ∧ W'.cell? ⟨w.heap.size + 1, 1, none⟩ = some (.int .i64 (x2 : Int)) ∧ W'.cell? ⟨w.heap.size + 1, 2, none⟩ = some (.int .i64 (x3 : Int)) ∧ W'.cell? ⟨H + 4, 2, none⟩ = some (.map (some H)) ∧ W'.cell? ⟨H + 4, 3, none⟩ = some (.map (some (H + 1))) ∧ W'.cell? ⟨H + 4, 0, none⟩ = some (.slice (some ⟨b, o, none⟩) ts.length pc) ∧ W'.cell? ⟨H + 4, 5, none⟩ = some (.map (some (H + 3)))) := fun W' hb => by
    have hM' := (hMW.later hb).c
    exact ⟨(hb.cell (p := ⟨w.heap.size, 0, none⟩) (by rw [hsz]; show w.heap.size < _; omega)).trans hbx, (hb.cell (p := ⟨w.heap.size + 1, 1, none⟩) (by rw [hsz]; show w.heap.size + 1 < _; omega)).trans d1, (hb.cell (p := ⟨w.heap.size + 1, 2, none⟩) (by rw [hsz]; show w.heap.size + 1 < _; omega)).trans d2, hM'.2.2.1, hM'.2.2.2.1, hM'.1, hM'.2.2.2.2.2⟩
  have HMW : Hid (SM H (some ⟨b, o, none⟩) pc hands ts.length q w0 W s) := hMW
  have HW : Hid (W = (w.alloc (.cells #[.pointer (some ⟨H + 4, 0, none⟩)] 99)).alloc (.cells #[.int .i64 x1, .int .i64 (x2 : Int), .int .i64 (x3 : Int), .int .i64 x4] 43)) := hW
  have HIN : Hid (∀ W', Below W.heap.size W W' → IntsAt W' (.slice na (needsOf ts x3).length nc) (needsOf ts x3) ∧ W'.cell? ⟨b, o + x3 * 2 + 1, none⟩ = some (.slice na (needsOf ts x3).length nc)) := fun W' hb => ⟨hin.later hb, (hb.cell (p := ⟨b, o + x3 * 2 + 1, none⟩) hbl).trans hnv⟩
  have HBX : Hid (∀ W', Below W.heap.size W W' → ∀ j u, W.cell? ⟨w.heap.size + 1, j, none⟩ = some u → W'.cell? ⟨w.heap.size + 1, j, none⟩ = some u) := fun W' hb j u hu => (hb.cell (p := ⟨w.heap.size + 1, j, none⟩) (by rw [hsz]; show w.heap.size + 1 < _; omega)).trans hu
  have HD : Hid (W.cell? ⟨w.heap.size + 1, 0, none⟩ = some (.int .i64 x1) ∧ W.cell? ⟨w.heap.size + 1, 1, none⟩ = some (.int .i64 (x2 : Int)) ∧ W.cell? ⟨w.heap.size + 1, 2, none⟩ = some (.int .i64 (x3 : Int)) ∧ W.cell? ⟨w.heap.size + 1, 3, none⟩ = some (.int .i64 x4)) := ⟨d0, d1, d2, d3⟩
  have HRG : Hid (∀ y, y ∈ needsOf ts x3 → 0 ≤ y ∧ y < (ts.length : Int)) := fun y hy => by simpa using hr x3 hx3 y hy
  have HBB : Hid (∀ W5 W6 : World, Below W.heap.size W W5 → Below W5.heap.size W5 W6 → Below W.heap.size W W6) := fun _ _ h1 h2 => h1.trans (h2.mono h1.size)
  obtain ⟨Wd, hWd⟩ : ∃ Wd : World, Wd = { W with drawn := W.drawn + 1 } := ⟨_, rfl⟩
  have hbWd : Below W.heap.size W Wd := by rw [hWd]; exact drewB W 1
  have HS := HSL.out Wd hbWd
  have hMd := hMW.later hbWd
  have hin1 := inNum_any hMd.has hx2 (by omega)
  have hin2 := inSet_any hMd.had hx3 (by omega)
  have HWd : Hid (Wd = { W with drawn := W.drawn + 1 }) := hWd
  have HBD : Hid (Below W.heap.size W Wd) := hbWd
  have HBDt : Hid (∀ W2, Below Wd.heap.size Wd W2 → Below W.heap.size W W2) := fun W2 h => hbWd.trans (h.mono hbWd.size)
  clear hW hM hMW hbW hp hnv hin hcp hbx d0 d1 d2 d3 hWd hbWd hMd hr
  by_cases hh : 0 ≤ s.has x2
  · have HER : Hid (er = 7) := her.trans (if_pos (Or.inl hh))
    rw [decide_eq_true hh] at hin1
    clear her hh hin2 HIN HRG HD HBX
    go_enter Tryz.func72, Tryz.ntmps72
    go_upto_region 1 with fail
    rw [← HW.out]
    refine wp_region_held (S := fun W' => W'.cell? ⟨w.heap.size, 0, none⟩ = some (.pointer (some ⟨H + 4, 0, none⟩)) ∧ W'.cell? ⟨w.heap.size + 1, 1, none⟩ = some (.int .i64 (x2 : Int)) ∧ W'.cell? ⟨w.heap.size + 1, 2, none⟩ = some (.int .i64 (x3 : Int)) ∧ W'.cell? ⟨H + 4, 2, none⟩ = some (.map (some H)) ∧ W'.cell? ⟨H + 4, 3, none⟩ = some (.map (some (H + 1))) ∧ W'.cell? ⟨H + 4, 0, none⟩ = some (.slice (some ⟨b, o, none⟩) ts.length pc) ∧ W'.cell? ⟨H + 4, 5, none⟩ = some (.map (some (H + 3)))) (by kernel_rfl) ?_
    rw [← HWd.out]
    refine wpAnyJ_take (i := 0) (v := ?vr1s0) (some 6) rfl rfl (by kernel_rfl) (by kernel_rfl) (by kernel_rfl) (fun _ _ _ h => h) (Or.inl ⟨by rfl, ?hyr1s0⟩) HS ?_
    case hyr1s0 =>
      intro wz hSz
      obtain ⟨hSz0, hSz1, hSz2, hSz3, hSz4, hSz5, hSz6⟩ := hSz
      go_simp
      try rfl
    simp only [Act.put, List.setIfInBounds_toArray, List.set_cons_zero, List.set_cons_succ]
    refine wpAnyJ_take (i := 1) (v := ?vr1s1) (some 7) rfl rfl (by kernel_rfl) (by kernel_rfl) (by kernel_rfl) (fun _ _ _ h => h) (Or.inl ⟨by rfl, ?hyr1s1⟩) HS ?_
    case hyr1s1 =>
      intro wz hSz
      obtain ⟨hSz0, hSz1, hSz2, hSz3, hSz4, hSz5, hSz6⟩ := hSz
      go_simp
      try rfl
    simp only [Act.put, List.setIfInBounds_toArray, List.set_cons_zero, List.set_cons_succ]
    refine wpAnyJ_take (i := 2) (v := ?vr1s2) (some 8) rfl rfl (by kernel_rfl) (by kernel_rfl) (by kernel_rfl) (fun _ _ _ h => h) (Or.inl ⟨by rfl, ?hyr1s2⟩) HS ?_
    case hyr1s2 =>
      intro wz hSz
      obtain ⟨hSz0, hSz1, hSz2, hSz3, hSz4, hSz5, hSz6⟩ := hSz
      go_simp
      try rfl
    simp only [Act.put, List.setIfInBounds_toArray, List.set_cons_zero, List.set_cons_succ]
    refine wpAnyJ_take (i := 3) (v := ?vr1s3) (some 9) rfl rfl (by kernel_rfl) (by kernel_rfl) (by kernel_rfl) (fun _ _ _ h => h) (Or.inl ⟨by rfl, ?hyr1s3⟩) HS ?_
    case hyr1s3 =>
      intro wz hSz
      obtain ⟨hSz0, hSz1, hSz2, hSz3, hSz4, hSz5, hSz6⟩ := hSz
      go_simp
      try rfl
    simp only [Act.put, List.setIfInBounds_toArray, List.set_cons_zero, List.set_cons_succ]
    refine wpAnyJ_take (i := 4) (v := ?vr1s4) (some 10) rfl rfl (by kernel_rfl) (by kernel_rfl) (by kernel_rfl) (fun _ _ _ h => h) (Or.inl ⟨by rfl, ?hyr1s4⟩) HS ?_
    case hyr1s4 =>
      intro wz hSz
      obtain ⟨hSz0, hSz1, hSz2, hSz3, hSz4, hSz5, hSz6⟩ := hSz
      go_simp
      try rfl
    simp only [Act.put, List.setIfInBounds_toArray, List.set_cons_zero, List.set_cons_succ]
    refine wpAnyJ_take (i := 5) (v := ?vr1s5) (some 11) rfl rfl (by kernel_rfl) (by kernel_rfl) (by kernel_rfl) (fun _ _ _ h => h) (Or.inl ⟨by rfl, ?hyr1s5⟩) HS ?_
    case hyr1s5 =>
      intro wz hSz
      obtain ⟨hSz0, hSz1, hSz2, hSz3, hSz4, hSz5, hSz6⟩ := hSz
      go_simp
      try rfl
    simp only [Act.put, List.setIfInBounds_toArray, List.set_cons_zero, List.set_cons_succ]
    refine wpAnyH_all (rs := [6]) (by kernel_rfl) (by simp) (fun jj hjj => ?_)
    obtain rfl := List.mem_singleton.1 hjj
    clear hjj
    refine wpOpJ_call (f := 103) (args := #[.map (some H), .int .i64 (x2 : Int)]) (some 12) rfl rfl (by rfl) ?hcallr1s6 ?_
    case hcallr1s6 => go_simp
    refine hin1.mono ?_
    clear hin1
    rintro e W1 ⟨rfl, rfl⟩
    refine ⟨HS, ?_⟩
    simp only [Act.put, List.setIfInBounds_toArray, List.set_cons_zero, List.set_cons_succ]
    refine wpAnyJ_take (i := 7) (v := ?vr1s7) (some 13) rfl rfl (by kernel_rfl) (by kernel_rfl) (by kernel_rfl) (fun _ _ _ h => h) (Or.inl ⟨by rfl, ?hyr1s7⟩) HS ?_
    case hyr1s7 =>
      intro wz hSz
      obtain ⟨hSz0, hSz1, hSz2, hSz3, hSz4, hSz5, hSz6⟩ := hSz
      go_simp
      try rfl
    simp only [Act.put, List.setIfInBounds_toArray, List.set_cons_zero, List.set_cons_succ]
    refine wpAnyJ_take (i := 8) (v := undef) (some 14) rfl rfl (by kernel_rfl) (by kernel_rfl) (by kernel_rfl) (fun _ _ _ h => h) (Or.inr ⟨by rfl, rfl⟩) HS ?_
    simp only [Act.put, List.setIfInBounds_toArray, List.set_cons_zero, List.set_cons_succ]
    refine wpAnyJ_take (i := 9) (v := undef) (some 15) rfl rfl (by kernel_rfl) (by kernel_rfl) (by kernel_rfl) (fun _ _ _ h => h) (Or.inr ⟨by rfl, rfl⟩) HS ?_
    simp only [Act.put, List.setIfInBounds_toArray, List.set_cons_zero, List.set_cons_succ]
    refine wpAnyJ_take (i := 10) (v := undef) (some 16) rfl rfl (by kernel_rfl) (by kernel_rfl) (by kernel_rfl) (fun _ _ _ h => h) (Or.inr ⟨by rfl, rfl⟩) HS ?_
    simp only [Act.put, List.setIfInBounds_toArray, List.set_cons_zero, List.set_cons_succ]
    refine wpAnyJ_take (i := 11) (v := undef) (some 17) rfl rfl (by kernel_rfl) (by kernel_rfl) (by kernel_rfl) (fun _ _ _ h => h) (Or.inr ⟨by rfl, rfl⟩) HS ?_
    simp only [Act.put, List.setIfInBounds_toArray, List.set_cons_zero, List.set_cons_succ]
    refine wpAnyJ_take (i := 12) (v := undef) (some 18) rfl rfl (by kernel_rfl) (by kernel_rfl) (by kernel_rfl) (fun _ _ _ h => h) (Or.inr ⟨by rfl, rfl⟩) HS ?_
    simp only [Act.put, List.setIfInBounds_toArray, List.set_cons_zero, List.set_cons_succ]
    refine wpAnyJ_take (i := 13) (v := undef) (some 19) rfl rfl (by kernel_rfl) (by kernel_rfl) (by kernel_rfl) (fun _ _ _ h => h) (Or.inr ⟨by rfl, rfl⟩) HS ?_
    simp only [Act.put, List.setIfInBounds_toArray, List.set_cons_zero, List.set_cons_succ]
    refine wpAnyJ_take (i := 14) (v := undef) (some 20) rfl rfl (by kernel_rfl) (by kernel_rfl) (by kernel_rfl) (fun _ _ _ h => h) (Or.inr ⟨by rfl, rfl⟩) HS ?_
    simp only [Act.put, List.setIfInBounds_toArray, List.set_cons_zero, List.set_cons_succ]
    refine wpAnyJ_take (i := 15) (v := ?vr1s15) (some 21) rfl rfl (by kernel_rfl) (by kernel_rfl) (by kernel_rfl) (fun _ _ _ h => h) (Or.inl ⟨by rfl, ?hyr1s15⟩) HS ?_
    case hyr1s15 =>
      intro wz hSz
      obtain ⟨hSz0, hSz1, hSz2, hSz3, hSz4, hSz5, hSz6⟩ := hSz
      go_simp
      try rfl
    simp only [Act.put, List.setIfInBounds_toArray, List.set_cons_zero, List.set_cons_succ]
    refine wpAnyH_done (by kernel_rfl) ?_ _
    clear HS
    go_wp2
    go_ret
    exact DeedOut.bad (HMW.out.later HBD.out) 7 (by omega) HER.out rfl
  cases hd : s.had x3
  case true =>
    have HER : Hid (er = 7) := her.trans (if_pos (Or.inr hd))
    rw [decide_eq_false hh] at hin1
    rw [hd] at hin2
    replace HSL : Hid _ := HSL
    have HSL0 := HSL
    clear her hh hd HIN HRG HD HBX
    replace HSL : Hid (∀ W2, Below Wd.heap.size Wd W2 → _) := fun W2 h => HSL0.out W2 (HBDt.out W2 h)
    go_enter Tryz.func72, Tryz.ntmps72
    go_upto_region 1 with fail
    rw [← HW.out]
    refine wp_region_held (S := fun W' => W'.cell? ⟨w.heap.size, 0, none⟩ = some (.pointer (some ⟨H + 4, 0, none⟩)) ∧ W'.cell? ⟨w.heap.size + 1, 1, none⟩ = some (.int .i64 (x2 : Int)) ∧ W'.cell? ⟨w.heap.size + 1, 2, none⟩ = some (.int .i64 (x3 : Int)) ∧ W'.cell? ⟨H + 4, 2, none⟩ = some (.map (some H)) ∧ W'.cell? ⟨H + 4, 3, none⟩ = some (.map (some (H + 1))) ∧ W'.cell? ⟨H + 4, 0, none⟩ = some (.slice (some ⟨b, o, none⟩) ts.length pc) ∧ W'.cell? ⟨H + 4, 5, none⟩ = some (.map (some (H + 3)))) (by kernel_rfl) ?_
    rw [← HWd.out]
    refine wpAnyJ_take (i := 0) (v := ?vr2s0) (some 6) rfl rfl (by kernel_rfl) (by kernel_rfl) (by kernel_rfl) (fun _ _ _ h => h) (Or.inl ⟨by rfl, ?hyr2s0⟩) HS ?_
    case hyr2s0 =>
      intro wz hSz
      obtain ⟨hSz0, hSz1, hSz2, hSz3, hSz4, hSz5, hSz6⟩ := hSz
      go_simp
      try rfl
    simp only [Act.put, List.setIfInBounds_toArray, List.set_cons_zero, List.set_cons_succ]
    refine wpAnyJ_take (i := 1) (v := ?vr2s1) (some 7) rfl rfl (by kernel_rfl) (by kernel_rfl) (by kernel_rfl) (fun _ _ _ h => h) (Or.inl ⟨by rfl, ?hyr2s1⟩) HS ?_
    case hyr2s1 =>
      intro wz hSz
      obtain ⟨hSz0, hSz1, hSz2, hSz3, hSz4, hSz5, hSz6⟩ := hSz
      go_simp
      try rfl
    simp only [Act.put, List.setIfInBounds_toArray, List.set_cons_zero, List.set_cons_succ]
    refine wpAnyJ_take (i := 2) (v := ?vr2s2) (some 8) rfl rfl (by kernel_rfl) (by kernel_rfl) (by kernel_rfl) (fun _ _ _ h => h) (Or.inl ⟨by rfl, ?hyr2s2⟩) HS ?_
    case hyr2s2 =>
      intro wz hSz
      obtain ⟨hSz0, hSz1, hSz2, hSz3, hSz4, hSz5, hSz6⟩ := hSz
      go_simp
      try rfl
    simp only [Act.put, List.setIfInBounds_toArray, List.set_cons_zero, List.set_cons_succ]
    refine wpAnyJ_take (i := 3) (v := ?vr2s3) (some 9) rfl rfl (by kernel_rfl) (by kernel_rfl) (by kernel_rfl) (fun _ _ _ h => h) (Or.inl ⟨by rfl, ?hyr2s3⟩) HS ?_
    case hyr2s3 =>
      intro wz hSz
      obtain ⟨hSz0, hSz1, hSz2, hSz3, hSz4, hSz5, hSz6⟩ := hSz
      go_simp
      try rfl
    simp only [Act.put, List.setIfInBounds_toArray, List.set_cons_zero, List.set_cons_succ]
    refine wpAnyJ_take (i := 4) (v := ?vr2s4) (some 10) rfl rfl (by kernel_rfl) (by kernel_rfl) (by kernel_rfl) (fun _ _ _ h => h) (Or.inl ⟨by rfl, ?hyr2s4⟩) HS ?_
    case hyr2s4 =>
      intro wz hSz
      obtain ⟨hSz0, hSz1, hSz2, hSz3, hSz4, hSz5, hSz6⟩ := hSz
      go_simp
      try rfl
    simp only [Act.put, List.setIfInBounds_toArray, List.set_cons_zero, List.set_cons_succ]
    refine wpAnyJ_take (i := 5) (v := ?vr2s5) (some 11) rfl rfl (by kernel_rfl) (by kernel_rfl) (by kernel_rfl) (fun _ _ _ h => h) (Or.inl ⟨by rfl, ?hyr2s5⟩) HS ?_
    case hyr2s5 =>
      intro wz hSz
      obtain ⟨hSz0, hSz1, hSz2, hSz3, hSz4, hSz5, hSz6⟩ := hSz
      go_simp
      try rfl
    simp only [Act.put, List.setIfInBounds_toArray, List.set_cons_zero, List.set_cons_succ]
    refine wpAnyH_all (rs := [6]) (by kernel_rfl) (by simp) (fun jj hjj => ?_)
    obtain rfl := List.mem_singleton.1 hjj
    clear hjj
    refine wpOpJ_call (f := 103) (args := #[.map (some H), .int .i64 (x2 : Int)]) (some 12) rfl rfl (by rfl) ?hcallr2s6 ?_
    case hcallr2s6 => go_simp
    refine hin1.mono ?_
    clear hin1
    rintro e W1 ⟨rfl, rfl⟩
    refine ⟨HS, ?_⟩
    simp only [Act.put, List.setIfInBounds_toArray, List.set_cons_zero, List.set_cons_succ]
    refine wpAnyJ_take (i := 7) (v := ?vr2s7) (some 13) rfl rfl (by kernel_rfl) (by kernel_rfl) (by kernel_rfl) (fun _ _ _ h => h) (Or.inl ⟨by rfl, ?hyr2s7⟩) HS ?_
    case hyr2s7 =>
      intro wz hSz
      obtain ⟨hSz0, hSz1, hSz2, hSz3, hSz4, hSz5, hSz6⟩ := hSz
      go_simp
      try rfl
    simp only [Act.put, List.setIfInBounds_toArray, List.set_cons_zero, List.set_cons_succ]
    refine wpAnyJ_take (i := 8) (v := ?vr2s8) (some 14) rfl rfl (by kernel_rfl) (by kernel_rfl) (by kernel_rfl) (fun _ _ _ h => h) (Or.inl ⟨by rfl, ?hyr2s8⟩) HS ?_
    case hyr2s8 =>
      intro wz hSz
      obtain ⟨hSz0, hSz1, hSz2, hSz3, hSz4, hSz5, hSz6⟩ := hSz
      go_simp
      try rfl
    simp only [Act.put, List.setIfInBounds_toArray, List.set_cons_zero, List.set_cons_succ]
    refine wpAnyJ_take (i := 9) (v := ?vr2s9) (some 15) rfl rfl (by kernel_rfl) (by kernel_rfl) (by kernel_rfl) (fun _ _ _ h => h) (Or.inl ⟨by rfl, ?hyr2s9⟩) HS ?_
    case hyr2s9 =>
      intro wz hSz
      obtain ⟨hSz0, hSz1, hSz2, hSz3, hSz4, hSz5, hSz6⟩ := hSz
      go_simp
      try rfl
    simp only [Act.put, List.setIfInBounds_toArray, List.set_cons_zero, List.set_cons_succ]
    refine wpAnyJ_take (i := 10) (v := ?vr2s10) (some 16) rfl rfl (by kernel_rfl) (by kernel_rfl) (by kernel_rfl) (fun _ _ _ h => h) (Or.inl ⟨by rfl, ?hyr2s10⟩) HS ?_
    case hyr2s10 =>
      intro wz hSz
      obtain ⟨hSz0, hSz1, hSz2, hSz3, hSz4, hSz5, hSz6⟩ := hSz
      go_simp
      try rfl
    simp only [Act.put, List.setIfInBounds_toArray, List.set_cons_zero, List.set_cons_succ]
    refine wpAnyJ_take (i := 11) (v := ?vr2s11) (some 17) rfl rfl (by kernel_rfl) (by kernel_rfl) (by kernel_rfl) (fun _ _ _ h => h) (Or.inl ⟨by rfl, ?hyr2s11⟩) HS ?_
    case hyr2s11 =>
      intro wz hSz
      obtain ⟨hSz0, hSz1, hSz2, hSz3, hSz4, hSz5, hSz6⟩ := hSz
      go_simp
      try rfl
    simp only [Act.put, List.setIfInBounds_toArray, List.set_cons_zero, List.set_cons_succ]
    refine wpAnyJ_take (i := 12) (v := ?vr2s12) (some 18) rfl rfl (by kernel_rfl) (by kernel_rfl) (by kernel_rfl) (fun _ _ _ h => h) (Or.inl ⟨by rfl, ?hyr2s12⟩) HS ?_
    case hyr2s12 =>
      intro wz hSz
      obtain ⟨hSz0, hSz1, hSz2, hSz3, hSz4, hSz5, hSz6⟩ := hSz
      go_simp
      try rfl
    simp only [Act.put, List.setIfInBounds_toArray, List.set_cons_zero, List.set_cons_succ]
    refine wpAnyJ_take (i := 13) (v := ?vr2s13) (some 19) rfl rfl (by kernel_rfl) (by kernel_rfl) (by kernel_rfl) (fun _ _ _ h => h) (Or.inl ⟨by rfl, ?hyr2s13⟩) HS ?_
    case hyr2s13 =>
      intro wz hSz
      obtain ⟨hSz0, hSz1, hSz2, hSz3, hSz4, hSz5, hSz6⟩ := hSz
      go_simp
      try rfl
    simp only [Act.put, List.setIfInBounds_toArray, List.set_cons_zero, List.set_cons_succ]
    refine wpAnyH_all (rs := [14]) (by kernel_rfl) (by simp) (fun jj hjj => ?_)
    obtain rfl := List.mem_singleton.1 hjj
    clear hjj
    refine wpOpJ_call (f := 102) (args := #[.map (some (H + 1)), .int .i64 (x3 : Int)]) (some 20) rfl rfl (by rfl) ?hcallr2s14 ?_
    case hcallr2s14 => go_simp
    refine hin2.mono ?_
    clear hin2
    rintro e W2 ⟨rfl, hbW2⟩
    replace HS := HSL.out W2 hbW2
    refine ⟨HS, ?_⟩
    simp only [Act.put, List.setIfInBounds_toArray, List.set_cons_zero, List.set_cons_succ]
    refine wpAnyJ_take (i := 15) (v := ?vr2s15) (some 21) rfl rfl (by kernel_rfl) (by kernel_rfl) (by kernel_rfl) (fun _ _ _ h => h) (Or.inl ⟨by rfl, ?hyr2s15⟩) HS ?_
    case hyr2s15 =>
      intro wz hSz
      obtain ⟨hSz0, hSz1, hSz2, hSz3, hSz4, hSz5, hSz6⟩ := hSz
      go_simp
      try rfl
    simp only [Act.put, List.setIfInBounds_toArray, List.set_cons_zero, List.set_cons_succ]
    refine wpAnyH_done (by kernel_rfl) ?_ _
    clear HS
    go_wp2
    go_ret
    exact DeedOut.bad (HMW.out.later (HBDt.out W2 hbW2)) 7 (by omega) HER.out rfl
  case false =>
    rw [decide_eq_false hh] at hin1
    rw [hd] at hin2
    have her2 : er = if s.slp x2 = true ∨ (needsOf ts x3).any (fun y => !s.dn y.toNat) = true then 6 else if x1 = 2 ∧ x4 = (x2 : Int) then 3 else 0 := her.trans (if_neg (by rw [hd]; simp; omega))
    have HER : Hid (er = if s.slp x2 = true ∨ (needsOf ts x3).any (fun y => !s.dn y.toNat) = true then 6 else if x1 = 2 ∧ x4 = (x2 : Int) then 3 else 0) := her2
    have HHN : Hid (¬ 0 ≤ s.has x2) := hh
    clear her her2 hh hd
    have HSL0 := HSL
    replace HSL : Hid (∀ W2, Below Wd.heap.size Wd W2 → _) := fun W2 h => HSL0.out W2 (HBDt.out W2 h)
    go_enter Tryz.func72, Tryz.ntmps72
    go_upto_region 1 with fail
    rw [← HW.out]
    refine wp_region_held (S := fun W' => W'.cell? ⟨w.heap.size, 0, none⟩ = some (.pointer (some ⟨H + 4, 0, none⟩)) ∧ W'.cell? ⟨w.heap.size + 1, 1, none⟩ = some (.int .i64 (x2 : Int)) ∧ W'.cell? ⟨w.heap.size + 1, 2, none⟩ = some (.int .i64 (x3 : Int)) ∧ W'.cell? ⟨H + 4, 2, none⟩ = some (.map (some H)) ∧ W'.cell? ⟨H + 4, 3, none⟩ = some (.map (some (H + 1))) ∧ W'.cell? ⟨H + 4, 0, none⟩ = some (.slice (some ⟨b, o, none⟩) ts.length pc) ∧ W'.cell? ⟨H + 4, 5, none⟩ = some (.map (some (H + 3)))) (by kernel_rfl) ?_
    rw [← HWd.out]
    clear HW HWd
    refine wpAnyJ_take (i := 0) (v := ?vr3s0) (some 6) rfl rfl (by kernel_rfl) (by kernel_rfl) (by kernel_rfl) (fun _ _ _ h => h) (Or.inl ⟨by rfl, ?hyr3s0⟩) HS ?_
    case hyr3s0 =>
      intro wz hSz
      obtain ⟨hSz0, hSz1, hSz2, hSz3, hSz4, hSz5, hSz6⟩ := hSz
      go_simp
      try rfl
    simp only [Act.put, List.setIfInBounds_toArray, List.set_cons_zero, List.set_cons_succ]
    refine wpAnyJ_take (i := 1) (v := ?vr3s1) (some 7) rfl rfl (by kernel_rfl) (by kernel_rfl) (by kernel_rfl) (fun _ _ _ h => h) (Or.inl ⟨by rfl, ?hyr3s1⟩) HS ?_
    case hyr3s1 =>
      intro wz hSz
      obtain ⟨hSz0, hSz1, hSz2, hSz3, hSz4, hSz5, hSz6⟩ := hSz
      go_simp
      try rfl
    simp only [Act.put, List.setIfInBounds_toArray, List.set_cons_zero, List.set_cons_succ]
    refine wpAnyJ_take (i := 2) (v := ?vr3s2) (some 8) rfl rfl (by kernel_rfl) (by kernel_rfl) (by kernel_rfl) (fun _ _ _ h => h) (Or.inl ⟨by rfl, ?hyr3s2⟩) HS ?_
    case hyr3s2 =>
      intro wz hSz
      obtain ⟨hSz0, hSz1, hSz2, hSz3, hSz4, hSz5, hSz6⟩ := hSz
      go_simp
      try rfl
    simp only [Act.put, List.setIfInBounds_toArray, List.set_cons_zero, List.set_cons_succ]
    refine wpAnyJ_take (i := 3) (v := ?vr3s3) (some 9) rfl rfl (by kernel_rfl) (by kernel_rfl) (by kernel_rfl) (fun _ _ _ h => h) (Or.inl ⟨by rfl, ?hyr3s3⟩) HS ?_
    case hyr3s3 =>
      intro wz hSz
      obtain ⟨hSz0, hSz1, hSz2, hSz3, hSz4, hSz5, hSz6⟩ := hSz
      go_simp
      try rfl
    simp only [Act.put, List.setIfInBounds_toArray, List.set_cons_zero, List.set_cons_succ]
    refine wpAnyJ_take (i := 4) (v := ?vr3s4) (some 10) rfl rfl (by kernel_rfl) (by kernel_rfl) (by kernel_rfl) (fun _ _ _ h => h) (Or.inl ⟨by rfl, ?hyr3s4⟩) HS ?_
    case hyr3s4 =>
      intro wz hSz
      obtain ⟨hSz0, hSz1, hSz2, hSz3, hSz4, hSz5, hSz6⟩ := hSz
      go_simp
      try rfl
    simp only [Act.put, List.setIfInBounds_toArray, List.set_cons_zero, List.set_cons_succ]
    refine wpAnyJ_take (i := 5) (v := ?vr3s5) (some 11) rfl rfl (by kernel_rfl) (by kernel_rfl) (by kernel_rfl) (fun _ _ _ h => h) (Or.inl ⟨by rfl, ?hyr3s5⟩) HS ?_
    case hyr3s5 =>
      intro wz hSz
      obtain ⟨hSz0, hSz1, hSz2, hSz3, hSz4, hSz5, hSz6⟩ := hSz
      go_simp
      try rfl
    simp only [Act.put, List.setIfInBounds_toArray, List.set_cons_zero, List.set_cons_succ]
    refine wpAnyH_all (rs := [6]) (by kernel_rfl) (by simp) (fun jj hjj => ?_)
    obtain rfl := List.mem_singleton.1 hjj
    clear hjj
    refine wpOpJ_call (f := 103) (args := #[.map (some H), .int .i64 (x2 : Int)]) (some 12) rfl rfl (by rfl) ?hcallr3s6 ?_
    case hcallr3s6 => go_simp
    refine hin1.mono ?_
    clear hin1
    rintro e W1 ⟨rfl, rfl⟩
    refine ⟨HS, ?_⟩
    simp only [Act.put, List.setIfInBounds_toArray, List.set_cons_zero, List.set_cons_succ]
    refine wpAnyJ_take (i := 7) (v := ?vr3s7) (some 13) rfl rfl (by kernel_rfl) (by kernel_rfl) (by kernel_rfl) (fun _ _ _ h => h) (Or.inl ⟨by rfl, ?hyr3s7⟩) HS ?_
    case hyr3s7 =>
      intro wz hSz
      obtain ⟨hSz0, hSz1, hSz2, hSz3, hSz4, hSz5, hSz6⟩ := hSz
      go_simp
      try rfl
    simp only [Act.put, List.setIfInBounds_toArray, List.set_cons_zero, List.set_cons_succ]
    refine wpAnyJ_take (i := 8) (v := ?vr3s8) (some 14) rfl rfl (by kernel_rfl) (by kernel_rfl) (by kernel_rfl) (fun _ _ _ h => h) (Or.inl ⟨by rfl, ?hyr3s8⟩) HS ?_
    case hyr3s8 =>
      intro wz hSz
      obtain ⟨hSz0, hSz1, hSz2, hSz3, hSz4, hSz5, hSz6⟩ := hSz
      go_simp
      try rfl
    simp only [Act.put, List.setIfInBounds_toArray, List.set_cons_zero, List.set_cons_succ]
    refine wpAnyJ_take (i := 9) (v := ?vr3s9) (some 15) rfl rfl (by kernel_rfl) (by kernel_rfl) (by kernel_rfl) (fun _ _ _ h => h) (Or.inl ⟨by rfl, ?hyr3s9⟩) HS ?_
    case hyr3s9 =>
      intro wz hSz
      obtain ⟨hSz0, hSz1, hSz2, hSz3, hSz4, hSz5, hSz6⟩ := hSz
      go_simp
      try rfl
    simp only [Act.put, List.setIfInBounds_toArray, List.set_cons_zero, List.set_cons_succ]
    refine wpAnyJ_take (i := 10) (v := ?vr3s10) (some 16) rfl rfl (by kernel_rfl) (by kernel_rfl) (by kernel_rfl) (fun _ _ _ h => h) (Or.inl ⟨by rfl, ?hyr3s10⟩) HS ?_
    case hyr3s10 =>
      intro wz hSz
      obtain ⟨hSz0, hSz1, hSz2, hSz3, hSz4, hSz5, hSz6⟩ := hSz
      go_simp
      try rfl
    simp only [Act.put, List.setIfInBounds_toArray, List.set_cons_zero, List.set_cons_succ]
    refine wpAnyJ_take (i := 11) (v := ?vr3s11) (some 17) rfl rfl (by kernel_rfl) (by kernel_rfl) (by kernel_rfl) (fun _ _ _ h => h) (Or.inl ⟨by rfl, ?hyr3s11⟩) HS ?_
    case hyr3s11 =>
      intro wz hSz
      obtain ⟨hSz0, hSz1, hSz2, hSz3, hSz4, hSz5, hSz6⟩ := hSz
      go_simp
      try rfl
    simp only [Act.put, List.setIfInBounds_toArray, List.set_cons_zero, List.set_cons_succ]
    refine wpAnyJ_take (i := 12) (v := ?vr3s12) (some 18) rfl rfl (by kernel_rfl) (by kernel_rfl) (by kernel_rfl) (fun _ _ _ h => h) (Or.inl ⟨by rfl, ?hyr3s12⟩) HS ?_
    case hyr3s12 =>
      intro wz hSz
      obtain ⟨hSz0, hSz1, hSz2, hSz3, hSz4, hSz5, hSz6⟩ := hSz
      go_simp
      try rfl
    simp only [Act.put, List.setIfInBounds_toArray, List.set_cons_zero, List.set_cons_succ]
    refine wpAnyJ_take (i := 13) (v := ?vr3s13) (some 19) rfl rfl (by kernel_rfl) (by kernel_rfl) (by kernel_rfl) (fun _ _ _ h => h) (Or.inl ⟨by rfl, ?hyr3s13⟩) HS ?_
    case hyr3s13 =>
      intro wz hSz
      obtain ⟨hSz0, hSz1, hSz2, hSz3, hSz4, hSz5, hSz6⟩ := hSz
      go_simp
      try rfl
    simp only [Act.put, List.setIfInBounds_toArray, List.set_cons_zero, List.set_cons_succ]
    refine wpAnyH_all (rs := [14]) (by kernel_rfl) (by simp) (fun jj hjj => ?_)
    obtain rfl := List.mem_singleton.1 hjj
    clear hjj
    refine wpOpJ_call (f := 102) (args := #[.map (some (H + 1)), .int .i64 (x3 : Int)]) (some 20) rfl rfl (by rfl) ?hcallr3s14 ?_
    case hcallr3s14 => go_simp
    refine hin2.mono ?_
    clear hin2
    rintro e W2 ⟨rfl, hbW2⟩
    replace HS := HSL.out W2 hbW2
    refine ⟨HS, ?_⟩
    simp only [Act.put, List.setIfInBounds_toArray, List.set_cons_zero, List.set_cons_succ]
    refine wpAnyJ_take (i := 15) (v := ?vr3s15) (some 21) rfl rfl (by kernel_rfl) (by kernel_rfl) (by kernel_rfl) (fun _ _ _ h => h) (Or.inl ⟨by rfl, ?hyr3s15⟩) HS ?_
    case hyr3s15 =>
      intro wz hSz
      obtain ⟨hSz0, hSz1, hSz2, hSz3, hSz4, hSz5, hSz6⟩ := hSz
      go_simp
      try rfl
    simp only [Act.put, List.setIfInBounds_toArray, List.set_cons_zero, List.set_cons_succ]
    refine wpAnyH_done (by kernel_rfl) ?_ _
    clear HS
    go_upto_region 4 with fail
    have HB2 : Hid (Below W.heap.size W W2) := HBDt.out W2 hbW2
    clear hbW2 HSL HBDt HBD
    obtain ⟨W4, hW4⟩ : ∃ W4 : World, W4 = { W2 with drawn := W2.drawn + 1 } := ⟨_, rfl⟩
    have hb24 : Below W2.heap.size W2 W4 := by rw [hW4]; exact drewB W2 1
    have hb4 : Below W.heap.size W W4 := HB2.out.trans (hb24.mono HB2.out.size)
    have HS := HSL0.out W4 hb4
    have hM4 := HMW.out.later hb4
    have hin3 := inSet_any hM4.slp hx2 (by omega)
    have HB4 : Hid (Below W.heap.size W W4) := hb4
    have HW4 : Hid (W4 = { W2 with drawn := W2.drawn + 1 }) := hW4
    have HSL : Hid (∀ W5, Below W4.heap.size W4 W5 → _) := fun W5 h => HSL0.out W5 (HB4.out.trans (h.mono HB4.out.size))
    cases hsl : s.slp x2
    case true =>
      have HE6 : Hid (er = 6) := HER.out.trans (if_pos (Or.inl hsl))
      rw [hsl] at hin3
      clear hsl HER hW4 hb24 hb4 hM4
      refine wp_region_held (S := fun W' => W'.cell? ⟨w.heap.size, 0, none⟩ = some (.pointer (some ⟨H + 4, 0, none⟩)) ∧ W'.cell? ⟨w.heap.size + 1, 1, none⟩ = some (.int .i64 (x2 : Int)) ∧ W'.cell? ⟨w.heap.size + 1, 2, none⟩ = some (.int .i64 (x3 : Int)) ∧ W'.cell? ⟨H + 4, 2, none⟩ = some (.map (some H)) ∧ W'.cell? ⟨H + 4, 3, none⟩ = some (.map (some (H + 1))) ∧ W'.cell? ⟨H + 4, 0, none⟩ = some (.slice (some ⟨b, o, none⟩) ts.length pc) ∧ W'.cell? ⟨H + 4, 5, none⟩ = some (.map (some (H + 3)))) (by kernel_rfl) ?_
      rw [← HW4.out]
      refine wpAnyJ_take (i := 0) (v := ?vr4s0) (some 24) rfl rfl (by kernel_rfl) (by kernel_rfl) (by kernel_rfl) (fun _ _ _ h => h) (Or.inl ⟨by rfl, ?hyr4s0⟩) HS ?_
      case hyr4s0 =>
        intro wz hSz
        obtain ⟨hSz0, hSz1, hSz2, hSz3, hSz4, hSz5, hSz6⟩ := hSz
        go_simp
        try rfl
      simp only [Act.put, List.setIfInBounds_toArray, List.set_cons_zero, List.set_cons_succ]
      refine wpAnyJ_take (i := 1) (v := ?vr4s1) (some 25) rfl rfl (by kernel_rfl) (by kernel_rfl) (by kernel_rfl) (fun _ _ _ h => h) (Or.inl ⟨by rfl, ?hyr4s1⟩) HS ?_
      case hyr4s1 =>
        intro wz hSz
        obtain ⟨hSz0, hSz1, hSz2, hSz3, hSz4, hSz5, hSz6⟩ := hSz
        go_simp
        try rfl
      simp only [Act.put, List.setIfInBounds_toArray, List.set_cons_zero, List.set_cons_succ]
      refine wpAnyJ_take (i := 2) (v := ?vr4s2) (some 26) rfl rfl (by kernel_rfl) (by kernel_rfl) (by kernel_rfl) (fun _ _ _ h => h) (Or.inl ⟨by rfl, ?hyr4s2⟩) HS ?_
      case hyr4s2 =>
        intro wz hSz
        obtain ⟨hSz0, hSz1, hSz2, hSz3, hSz4, hSz5, hSz6⟩ := hSz
        go_simp
        try rfl
      simp only [Act.put, List.setIfInBounds_toArray, List.set_cons_zero, List.set_cons_succ]
      refine wpAnyJ_take (i := 3) (v := ?vr4s3) (some 27) rfl rfl (by kernel_rfl) (by kernel_rfl) (by kernel_rfl) (fun _ _ _ h => h) (Or.inl ⟨by rfl, ?hyr4s3⟩) HS ?_
      case hyr4s3 =>
        intro wz hSz
        obtain ⟨hSz0, hSz1, hSz2, hSz3, hSz4, hSz5, hSz6⟩ := hSz
        go_simp
        try rfl
      simp only [Act.put, List.setIfInBounds_toArray, List.set_cons_zero, List.set_cons_succ]
      refine wpAnyJ_take (i := 4) (v := ?vr4s4) (some 28) rfl rfl (by kernel_rfl) (by kernel_rfl) (by kernel_rfl) (fun _ _ _ h => h) (Or.inl ⟨by rfl, ?hyr4s4⟩) HS ?_
      case hyr4s4 =>
        intro wz hSz
        obtain ⟨hSz0, hSz1, hSz2, hSz3, hSz4, hSz5, hSz6⟩ := hSz
        go_simp
        try rfl
      simp only [Act.put, List.setIfInBounds_toArray, List.set_cons_zero, List.set_cons_succ]
      refine wpAnyJ_take (i := 5) (v := ?vr4s5) (some 29) rfl rfl (by kernel_rfl) (by kernel_rfl) (by kernel_rfl) (fun _ _ _ h => h) (Or.inl ⟨by rfl, ?hyr4s5⟩) HS ?_
      case hyr4s5 =>
        intro wz hSz
        obtain ⟨hSz0, hSz1, hSz2, hSz3, hSz4, hSz5, hSz6⟩ := hSz
        go_simp
        try rfl
      simp only [Act.put, List.setIfInBounds_toArray, List.set_cons_zero, List.set_cons_succ]
      refine wpAnyH_all (rs := [6]) (by kernel_rfl) (by simp) (fun jj hjj => ?_)
      obtain rfl := List.mem_singleton.1 hjj
      clear hjj
      refine wpOpJ_call (f := 102) (args := #[.map (some (H + 3)), .int .i64 (x2 : Int)]) (some 30) rfl rfl (by rfl) ?hcallr4s6 ?_
      case hcallr4s6 => go_simp
      refine hin3.mono ?_
      clear hin3
      rintro e W5 ⟨rfl, hbW5⟩
      replace HS := HSL.out W5 hbW5
      refine ⟨HS, ?_⟩
      simp only [Act.put, List.setIfInBounds_toArray, List.set_cons_zero, List.set_cons_succ]
      refine wpAnyJ_take (i := 7) (v := ?vr4s7) (some 31) rfl rfl (by kernel_rfl) (by kernel_rfl) (by kernel_rfl) (fun _ _ _ h => h) (Or.inl ⟨by rfl, ?hyr4s7⟩) HS ?_
      case hyr4s7 =>
        intro wz hSz
        obtain ⟨hSz0, hSz1, hSz2, hSz3, hSz4, hSz5, hSz6⟩ := hSz
        go_simp
        try rfl
      simp only [Act.put, List.setIfInBounds_toArray, List.set_cons_zero, List.set_cons_succ]
      refine wpAnyJ_take (i := 8) (v := undef) (some 32) rfl rfl (by kernel_rfl) (by kernel_rfl) (by kernel_rfl) (fun _ _ _ h => h) (Or.inr ⟨by rfl, rfl⟩) HS ?_
      simp only [Act.put, List.setIfInBounds_toArray, List.set_cons_zero, List.set_cons_succ]
      refine wpAnyJ_take (i := 9) (v := undef) (some 33) rfl rfl (by kernel_rfl) (by kernel_rfl) (by kernel_rfl) (fun _ _ _ h => h) (Or.inr ⟨by rfl, rfl⟩) HS ?_
      simp only [Act.put, List.setIfInBounds_toArray, List.set_cons_zero, List.set_cons_succ]
      refine wpAnyJ_take (i := 10) (v := undef) (some 34) rfl rfl (by kernel_rfl) (by kernel_rfl) (by kernel_rfl) (fun _ _ _ h => h) (Or.inr ⟨by rfl, rfl⟩) HS ?_
      simp only [Act.put, List.setIfInBounds_toArray, List.set_cons_zero, List.set_cons_succ]
      refine wpAnyJ_take (i := 11) (v := undef) (some 35) rfl rfl (by kernel_rfl) (by kernel_rfl) (by kernel_rfl) (fun _ _ _ h => h) (Or.inr ⟨by rfl, rfl⟩) HS ?_
      simp only [Act.put, List.setIfInBounds_toArray, List.set_cons_zero, List.set_cons_succ]
      refine wpAnyJ_take (i := 12) (v := undef) (some 36) rfl rfl (by kernel_rfl) (by kernel_rfl) (by kernel_rfl) (fun _ _ _ h => h) (Or.inr ⟨by rfl, rfl⟩) HS ?_
      simp only [Act.put, List.setIfInBounds_toArray, List.set_cons_zero, List.set_cons_succ]
      refine wpAnyJ_take (i := 13) (v := undef) (some 37) rfl rfl (by kernel_rfl) (by kernel_rfl) (by kernel_rfl) (fun _ _ _ h => h) (Or.inr ⟨by rfl, rfl⟩) HS ?_
      simp only [Act.put, List.setIfInBounds_toArray, List.set_cons_zero, List.set_cons_succ]
      refine wpAnyJ_take (i := 14) (v := undef) (some 38) rfl rfl (by kernel_rfl) (by kernel_rfl) (by kernel_rfl) (fun _ _ _ h => h) (Or.inr ⟨by rfl, rfl⟩) HS ?_
      simp only [Act.put, List.setIfInBounds_toArray, List.set_cons_zero, List.set_cons_succ]
      refine wpAnyJ_take (i := 15) (v := undef) (some 39) rfl rfl (by kernel_rfl) (by kernel_rfl) (by kernel_rfl) (fun _ _ _ h => h) (Or.inr ⟨by rfl, rfl⟩) HS ?_
      simp only [Act.put, List.setIfInBounds_toArray, List.set_cons_zero, List.set_cons_succ]
      refine wpAnyJ_take (i := 16) (v := undef) (some 40) rfl rfl (by kernel_rfl) (by kernel_rfl) (by kernel_rfl) (fun _ _ _ h => h) (Or.inr ⟨by rfl, rfl⟩) HS ?_
      simp only [Act.put, List.setIfInBounds_toArray, List.set_cons_zero, List.set_cons_succ]
      refine wpAnyJ_take (i := 17) (v := undef) (some 41) rfl rfl (by kernel_rfl) (by kernel_rfl) (by kernel_rfl) (fun _ _ _ h => h) (Or.inr ⟨by rfl, rfl⟩) HS ?_
      simp only [Act.put, List.setIfInBounds_toArray, List.set_cons_zero, List.set_cons_succ]
      refine wpAnyJ_take (i := 18) (v := undef) (some 42) rfl rfl (by kernel_rfl) (by kernel_rfl) (by kernel_rfl) (fun _ _ _ h => h) (Or.inr ⟨by rfl, rfl⟩) HS ?_
      simp only [Act.put, List.setIfInBounds_toArray, List.set_cons_zero, List.set_cons_succ]
      refine wpAnyJ_take (i := 19) (v := ?vr4s19) (some 43) rfl rfl (by kernel_rfl) (by kernel_rfl) (by kernel_rfl) (fun _ _ _ h => h) (Or.inl ⟨by rfl, ?hyr4s19⟩) HS ?_
      case hyr4s19 =>
        intro wz hSz
        obtain ⟨hSz0, hSz1, hSz2, hSz3, hSz4, hSz5, hSz6⟩ := hSz
        go_simp
        try rfl
      simp only [Act.put, List.setIfInBounds_toArray, List.set_cons_zero, List.set_cons_succ]
      refine wpAnyH_done (by kernel_rfl) ?_ _
      clear HS
      go_wp2
      go_ret
      exact DeedOut.bad (HMW.out.later (HB4.out.trans (hbW5.mono HB4.out.size))) 6 (by omega) HE6.out rfl
    case false =>
      rw [hsl] at hin3
      have he6 : er = if (needsOf ts x3).any (fun y => !s.dn y.toNat) = true then 6 else if x1 = 2 ∧ x4 = (x2 : Int) then 3 else 0 := by
        have := HER.out
        simpa [hsl] using this
      have HE6 : Hid (er = if (needsOf ts x3).any (fun y => !s.dn y.toNat) = true then 6 else if x1 = 2 ∧ x4 = (x2 : Int) then 3 else 0) := he6
      clear he6
      have hcf : ∀ W5, Below W4.heap.size W4 W5 → Calls Tryz.prog 56 #[.slice na (needsOf ts x3).length nc, .func (.func 104) #[] #[.pointer (some ⟨w.heap.size, 0, none⟩)]] W5 fun e w' => e = .returned (.bool ((needsOf ts x3).any (fun y => !s.dn y.toNat))) ∧ Below W5.heap.size W5 w' := fun W5 h5 => by
        have h5' : Below W.heap.size W W5 := HB4.out.trans (h5.mono HB4.out.size)
        refine cfReads _ (needsOf ts x3) 104 #[.pointer (some ⟨w.heap.size, 0, none⟩)] (fun y => !s.dn y.toNat) W5 (HIN.out W5 h5').1 entersB (fun y hy w' hb' => ?_)
        have h6' : Below W.heap.size W w' := h5'.trans (hb'.mono h5'.size)
        obtain ⟨z, rfl⟩ := Int.eq_ofNat_of_zero_le (HRG.out y hy).1
        rw [Int.toNat_natCast]
        exact beginC_any (HMW.out.later h6') ⟨w.heap.size, 0, none⟩ (HSL0.out w' h6').1 z (by have := (HRG.out _ hy).2; omega) h30
      have HBB : Hid (∀ W5 W6 : World, Below W4.heap.size W4 W5 → Below W5.heap.size W5 W6 → Below W4.heap.size W4 W6) := fun _ _ h1 h2 => h1.trans (h2.mono h1.size)
      have HNV : Hid (∀ W5, Below W4.heap.size W4 W5 → W5.cell? ⟨b, o + x3 * 2 + 1, none⟩ = some (.slice na (needsOf ts x3).length nc)) := fun W5 h => (HIN.out W5 (HB4.out.trans (h.mono HB4.out.size))).2
      have HS0 := HS
      have HS : W4.cell? ⟨w.heap.size, 0, none⟩ = some (.pointer (some ⟨H + 4, 0, none⟩)) ∧ W4.cell? ⟨w.heap.size + 1, 1, none⟩ = some (.int .i64 (x2 : Int)) ∧ W4.cell? ⟨w.heap.size + 1, 2, none⟩ = some (.int .i64 (x3 : Int)) ∧ W4.cell? ⟨b, o + x3 * 2 + 1, none⟩ = some (.slice na (needsOf ts x3).length nc) ∧ W4.cell? ⟨H + 4, 3, none⟩ = some (.map (some (H + 1))) ∧ W4.cell? ⟨H + 4, 0, none⟩ = some (.slice (some ⟨b, o, none⟩) ts.length pc) ∧ W4.cell? ⟨H + 4, 5, none⟩ = some (.map (some (H + 3))) := ⟨HS0.1, HS0.2.1, HS0.2.2.1, HNV.out W4 (Below.refl _ _), HS0.2.2.2.2⟩
      have HSL1 := HSL
      replace HSL : Hid (∀ W5, Below W4.heap.size W4 W5 → W5.cell? ⟨w.heap.size, 0, none⟩ = some (.pointer (some ⟨H + 4, 0, none⟩)) ∧ W5.cell? ⟨w.heap.size + 1, 1, none⟩ = some (.int .i64 (x2 : Int)) ∧ W5.cell? ⟨w.heap.size + 1, 2, none⟩ = some (.int .i64 (x3 : Int)) ∧ W5.cell? ⟨b, o + x3 * 2 + 1, none⟩ = some (.slice na (needsOf ts x3).length nc) ∧ W5.cell? ⟨H + 4, 3, none⟩ = some (.map (some (H + 1))) ∧ W5.cell? ⟨H + 4, 0, none⟩ = some (.slice (some ⟨b, o, none⟩) ts.length pc) ∧ W5.cell? ⟨H + 4, 5, none⟩ = some (.map (some (H + 3)))) := fun W5 h => by
        have h1 := HSL1.out W5 h
        exact ⟨h1.1, h1.2.1, h1.2.2.1, HNV.out W5 h, h1.2.2.2.2⟩
      clear hsl HER hW4 hb24 hb4 hM4 HIN HRG HS0 HNV HSL1
      generalize (needsOf ts x3).length = nl at *
      generalize hmm : (needsOf ts x3).any (fun y => !s.dn y.toNat) = mm at *
      clear hmm
      refine wp_region_held (S := fun W' => W'.cell? ⟨w.heap.size, 0, none⟩ = some (.pointer (some ⟨H + 4, 0, none⟩)) ∧ W'.cell? ⟨w.heap.size + 1, 1, none⟩ = some (.int .i64 (x2 : Int)) ∧ W'.cell? ⟨w.heap.size + 1, 2, none⟩ = some (.int .i64 (x3 : Int)) ∧ W'.cell? ⟨b, o + x3 * 2 + 1, none⟩ = some (.slice na nl nc) ∧ W'.cell? ⟨H + 4, 3, none⟩ = some (.map (some (H + 1))) ∧ W'.cell? ⟨H + 4, 0, none⟩ = some (.slice (some ⟨b, o, none⟩) ts.length pc) ∧ W'.cell? ⟨H + 4, 5, none⟩ = some (.map (some (H + 3)))) (by kernel_rfl) ?_
      rw [← HW4.out]
      clear HW4
      refine wpAnyJ_take (i := 0) (v := ?vr5s0) (some 24) rfl rfl (by kernel_rfl) (by kernel_rfl) (by kernel_rfl) (fun _ _ _ h => h) (Or.inl ⟨by rfl, ?hyr5s0⟩) HS ?_
      case hyr5s0 =>
        intro wz hSz
        obtain ⟨hSz0, hSz1, hSz2, hSz3, hSz4, hSz5, hSz6⟩ := hSz
        go_simp
        try rfl
      simp only [Act.put, List.setIfInBounds_toArray, List.set_cons_zero, List.set_cons_succ]
      refine wpAnyJ_take (i := 1) (v := ?vr5s1) (some 25) rfl rfl (by kernel_rfl) (by kernel_rfl) (by kernel_rfl) (fun _ _ _ h => h) (Or.inl ⟨by rfl, ?hyr5s1⟩) HS ?_
      case hyr5s1 =>
        intro wz hSz
        obtain ⟨hSz0, hSz1, hSz2, hSz3, hSz4, hSz5, hSz6⟩ := hSz
        go_simp
        try rfl
      simp only [Act.put, List.setIfInBounds_toArray, List.set_cons_zero, List.set_cons_succ]
      refine wpAnyJ_take (i := 2) (v := ?vr5s2) (some 26) rfl rfl (by kernel_rfl) (by kernel_rfl) (by kernel_rfl) (fun _ _ _ h => h) (Or.inl ⟨by rfl, ?hyr5s2⟩) HS ?_
      case hyr5s2 =>
        intro wz hSz
        obtain ⟨hSz0, hSz1, hSz2, hSz3, hSz4, hSz5, hSz6⟩ := hSz
        go_simp
        try rfl
      simp only [Act.put, List.setIfInBounds_toArray, List.set_cons_zero, List.set_cons_succ]
      refine wpAnyJ_take (i := 3) (v := ?vr5s3) (some 27) rfl rfl (by kernel_rfl) (by kernel_rfl) (by kernel_rfl) (fun _ _ _ h => h) (Or.inl ⟨by rfl, ?hyr5s3⟩) HS ?_
      case hyr5s3 =>
        intro wz hSz
        obtain ⟨hSz0, hSz1, hSz2, hSz3, hSz4, hSz5, hSz6⟩ := hSz
        go_simp
        try rfl
      simp only [Act.put, List.setIfInBounds_toArray, List.set_cons_zero, List.set_cons_succ]
      refine wpAnyJ_take (i := 4) (v := ?vr5s4) (some 28) rfl rfl (by kernel_rfl) (by kernel_rfl) (by kernel_rfl) (fun _ _ _ h => h) (Or.inl ⟨by rfl, ?hyr5s4⟩) HS ?_
      case hyr5s4 =>
        intro wz hSz
        obtain ⟨hSz0, hSz1, hSz2, hSz3, hSz4, hSz5, hSz6⟩ := hSz
        go_simp
        try rfl
      simp only [Act.put, List.setIfInBounds_toArray, List.set_cons_zero, List.set_cons_succ]
      refine wpAnyJ_take (i := 5) (v := ?vr5s5) (some 29) rfl rfl (by kernel_rfl) (by kernel_rfl) (by kernel_rfl) (fun _ _ _ h => h) (Or.inl ⟨by rfl, ?hyr5s5⟩) HS ?_
      case hyr5s5 =>
        intro wz hSz
        obtain ⟨hSz0, hSz1, hSz2, hSz3, hSz4, hSz5, hSz6⟩ := hSz
        go_simp
        try rfl
      simp only [Act.put, List.setIfInBounds_toArray, List.set_cons_zero, List.set_cons_succ]
      refine wpAnyH_all (rs := [6]) (by kernel_rfl) (by simp) (fun jj hjj => ?_)
      obtain rfl := List.mem_singleton.1 hjj
      clear hjj
      refine wpOpJ_call (f := 102) (args := #[.map (some (H + 3)), .int .i64 (x2 : Int)]) (some 30) rfl rfl (by rfl) ?hcallr5s6 ?_
      case hcallr5s6 => go_simp
      refine hin3.mono ?_
      clear hin3
      rintro e W5 ⟨rfl, hbW5⟩
      replace HS := HSL.out W5 hbW5
      refine ⟨HS, ?_⟩
      simp only [Act.put, List.setIfInBounds_toArray, List.set_cons_zero, List.set_cons_succ]
      refine wpAnyJ_take (i := 7) (v := ?vr5s7) (some 31) rfl rfl (by kernel_rfl) (by kernel_rfl) (by kernel_rfl) (fun _ _ _ h => h) (Or.inl ⟨by rfl, ?hyr5s7⟩) HS ?_
      case hyr5s7 =>
        intro wz hSz
        obtain ⟨hSz0, hSz1, hSz2, hSz3, hSz4, hSz5, hSz6⟩ := hSz
        go_simp
        try rfl
      simp only [Act.put, List.setIfInBounds_toArray, List.set_cons_zero, List.set_cons_succ]
      refine wpAnyJ_take (i := 8) (v := ?vr5s8) (some 32) rfl rfl (by kernel_rfl) (by kernel_rfl) (by kernel_rfl) (fun _ _ _ h => h) (Or.inl ⟨by rfl, ?hyr5s8⟩) HS ?_
      case hyr5s8 =>
        intro wz hSz
        obtain ⟨hSz0, hSz1, hSz2, hSz3, hSz4, hSz5, hSz6⟩ := hSz
        go_simp
        try rfl
      simp only [Act.put, List.setIfInBounds_toArray, List.set_cons_zero, List.set_cons_succ]
      refine wpAnyJ_take (i := 9) (v := ?vr5s9) (some 33) rfl rfl (by kernel_rfl) (by kernel_rfl) (by kernel_rfl) (fun _ _ _ h => h) (Or.inl ⟨by rfl, ?hyr5s9⟩) HS ?_
      case hyr5s9 =>
        intro wz hSz
        obtain ⟨hSz0, hSz1, hSz2, hSz3, hSz4, hSz5, hSz6⟩ := hSz
        go_simp
        try rfl
      simp only [Act.put, List.setIfInBounds_toArray, List.set_cons_zero, List.set_cons_succ]
      refine wpAnyJ_take (i := 10) (v := ?vr5s10) (some 34) rfl rfl (by kernel_rfl) (by kernel_rfl) (by kernel_rfl) (fun _ _ _ h => h) (Or.inl ⟨by rfl, ?hyr5s10⟩) HS ?_
      case hyr5s10 =>
        intro wz hSz
        obtain ⟨hSz0, hSz1, hSz2, hSz3, hSz4, hSz5, hSz6⟩ := hSz
        go_simp
        try rfl
      simp only [Act.put, List.setIfInBounds_toArray, List.set_cons_zero, List.set_cons_succ]
      refine wpAnyJ_take (i := 11) (v := ?vr5s11) (some 35) rfl rfl (by kernel_rfl) (by kernel_rfl) (by kernel_rfl) (fun _ _ _ h => h) (Or.inl ⟨by rfl, ?hyr5s11⟩) HS ?_
      case hyr5s11 =>
        intro wz hSz
        obtain ⟨hSz0, hSz1, hSz2, hSz3, hSz4, hSz5, hSz6⟩ := hSz
        go_simp
        try rfl
      simp only [Act.put, List.setIfInBounds_toArray, List.set_cons_zero, List.set_cons_succ]
      refine wpAnyJ_take (i := 12) (v := ?vr5s12) (some 36) rfl rfl (by kernel_rfl) (by kernel_rfl) (by kernel_rfl) (fun _ _ _ h => h) (Or.inl ⟨by rfl, ?hyr5s12⟩) HS ?_
      case hyr5s12 =>
        intro wz hSz
        obtain ⟨hSz0, hSz1, hSz2, hSz3, hSz4, hSz5, hSz6⟩ := hSz
        go_simp
        try rfl
      simp only [Act.put, List.setIfInBounds_toArray, List.set_cons_zero, List.set_cons_succ]
      refine wpAnyJ_take (i := 13) (v := ?vr5s13) (some 37) rfl rfl (by kernel_rfl) (by kernel_rfl) (by kernel_rfl) (fun _ _ _ h => h) (Or.inl ⟨by rfl, ?hyr5s13⟩) HS ?_
      case hyr5s13 =>
        intro wz hSz
        obtain ⟨hSz0, hSz1, hSz2, hSz3, hSz4, hSz5, hSz6⟩ := hSz
        go_simp
        try rfl
      simp only [Act.put, List.setIfInBounds_toArray, List.set_cons_zero, List.set_cons_succ]
      refine wpAnyJ_take (i := 14) (v := ?vr5s14) (some 38) rfl rfl (by kernel_rfl) (by kernel_rfl) (by kernel_rfl) (fun _ _ _ h => h) (Or.inl ⟨by rfl, ?hyr5s14⟩) HS ?_
      case hyr5s14 =>
        intro wz hSz
        obtain ⟨hSz0, hSz1, hSz2, hSz3, hSz4, hSz5, hSz6⟩ := hSz
        go_simp
        try rfl
      simp only [Act.put, List.setIfInBounds_toArray, List.set_cons_zero, List.set_cons_succ]
      refine wpAnyJ_take (i := 15) (v := ?vr5s15) (some 39) rfl rfl (by kernel_rfl) (by kernel_rfl) (by kernel_rfl) (fun _ _ _ h => h) (Or.inl ⟨by rfl, ?hyr5s15⟩) HS ?_
      case hyr5s15 =>
        intro wz hSz
        obtain ⟨hSz0, hSz1, hSz2, hSz3, hSz4, hSz5, hSz6⟩ := hSz
        go_simp
        try rfl
      simp only [Act.put, List.setIfInBounds_toArray, List.set_cons_zero, List.set_cons_succ]
      refine wpAnyJ_take (i := 16) (v := ?vr5s16) (some 40) rfl rfl (by kernel_rfl) (by kernel_rfl) (by kernel_rfl) (fun _ _ _ h => h) (Or.inl ⟨by rfl, ?hyr5s16⟩) HS ?_
      case hyr5s16 =>
        intro wz hSz
        obtain ⟨hSz0, hSz1, hSz2, hSz3, hSz4, hSz5, hSz6⟩ := hSz
        go_simp
        try rfl
      simp only [Act.put, List.setIfInBounds_toArray, List.set_cons_zero, List.set_cons_succ]
      refine wpAnyJ_take (i := 17) (v := ?vr5s17) (some 41) rfl rfl (by kernel_rfl) (by kernel_rfl) (by kernel_rfl) (fun _ _ _ h => h) (Or.inl ⟨by rfl, ?hyr5s17⟩) HS ?_
      case hyr5s17 =>
        intro wz hSz
        obtain ⟨hSz0, hSz1, hSz2, hSz3, hSz4, hSz5, hSz6⟩ := hSz
        go_simp
        try rfl
      simp only [Act.put, List.setIfInBounds_toArray, List.set_cons_zero, List.set_cons_succ]
      refine wpAnyH_all (rs := [18]) (by kernel_rfl) (by simp) (fun jj hjj => ?_)
      obtain rfl := List.mem_singleton.1 hjj
      clear hjj
      refine wpOpJ_call (f := 56) (args := #[.slice na nl nc, .func (.func 104) #[] #[.pointer (some ⟨w.heap.size, 0, none⟩)]]) (some 42) rfl rfl (by rfl) ?hcallr5s18 ?_
      case hcallr5s18 => go_simp
      refine (hcf _ hbW5).mono ?_
      clear hcf
      rintro e W6 ⟨rfl, hbW6⟩
      replace HS := HSL.out W6 (HBB.out _ _ hbW5 hbW6)
      refine ⟨HS, ?_⟩
      simp only [Act.put, List.setIfInBounds_toArray, List.set_cons_zero, List.set_cons_succ]
      refine wpAnyJ_take (i := 19) (v := ?vr5s19) (some 43) rfl rfl (by kernel_rfl) (by kernel_rfl) (by kernel_rfl) (fun _ _ _ h => h) (Or.inl ⟨by rfl, ?hyr5s19⟩) HS ?_
      case hyr5s19 =>
        intro wz hSz
        obtain ⟨hSz0, hSz1, hSz2, hSz3, hSz4, hSz5, hSz6⟩ := hSz
        go_simp
        try rfl
      simp only [Act.put, List.setIfInBounds_toArray, List.set_cons_zero, List.set_cons_succ]
      refine wpAnyH_done (by kernel_rfl) ?_ _
      have HB6 : Hid (Below W.heap.size W W6) := HB4.out.trans ((HBB.out _ _ hbW5 hbW6).mono HB4.out.size)
      clear HS HSL HBB hbW5 hbW6 HB4
      cases mm
      case true =>
        have HE : Hid (er = 6) := HE6.out.trans (if_pos rfl)
        clear HBX HD HSL0 HE6
        go_wp2
        go_ret
        exact DeedOut.bad (HMW.out.later HB6.out) 6 (by omega) HE.out rfl
      case false =>
        have HE3 : Hid (er = if x1 = 2 ∧ x4 = (x2 : Int) then 3 else 0) := HE6.out.trans (if_neg (by simp))
        clear HE6
        have e0 := HBX.out W6 HB6.out 0 _ HD.out.1
        have e1 := HBX.out W6 HB6.out 1 _ HD.out.2.1
        have e2 := HBX.out W6 HB6.out 2 _ HD.out.2.2.1
        have e3 := HBX.out W6 HB6.out 3 _ HD.out.2.2.2
        have hb6 := (HSL0.out W6 HB6.out).1
        have hM6 := HMW.out.later HB6.out
        clear HBX HD HSL0
        have c2 := hM6.c.2.2.1
        have hM6d : SM H (some ⟨b, o, none⟩) pc hands ts.length q w0 W6.drew s := hM6.later (drewB W6 1)
        obtain ⟨w7, hmu7, hnum, hg7⟩ := hM6d.has.put (by omega) (x := x2) (i := x3) (by omega) (by omega)
        have hM7 := hM6d.setHas hnum hg7
        have c37 := hM7.c.2.2.2.1
        have e27 : w7.cell? ⟨w.heap.size + 1, 2, none⟩ = some (.int .i64 (x3 : Int)) := hg7.cell (w := W6.drew) (a := ⟨w.heap.size + 1, 2, none⟩) e2 (by simp; omega)
        have hb7 : w7.cell? ⟨w.heap.size, 0, none⟩ = some (.pointer (some ⟨H + 4, 0, none⟩)) := hg7.cell (w := W6.drew) (a := ⟨w.heap.size, 0, none⟩) hb6 (by simp; omega)
        have hM7d : SM H (some ⟨b, o, none⟩) pc hands ts.length (q + 1) w0 w7.drew { s with has := updG s.has x2 (x3 : Int) } := hM7.later (drewB w7 1)
        obtain ⟨w8, hmu8, hset, hg8⟩ := hM7d.had.put (by omega) (x := x3) (by omega)
        have HM8 : Hid (SM H (some ⟨b, o, none⟩) pc hands ts.length (q + 1 + 1) w0 w8 { s with has := updG s.has x2 (x3 : Int), had := mark s.had x3 }) := hM7d.setHad hset hg8
        have HM6 : Hid (SM H (some ⟨b, o, none⟩) pc hands ts.length q w0 W6 s) := hM6
        clear hM6 hM6d hnum hg7 hM7 hM7d hset hg8
        by_cases hx1 : x1 = 2
        · subst hx1
          by_cases hx4 : x4 = (x2 : Int)
          · subst hx4
            have HE : Hid (er = 3) := HE3.out.trans (if_pos ⟨rfl, rfl⟩)
            go_wp2
            go_ret
            exact DeedOut.bad HM6.out 3 (by omega) HE.out rfl
          · have HE : Hid (er = 0) := HE3.out.trans (if_neg (fun h => hx4 h.2))
            have hxb : (x4 == (x2 : Int)) = false := beq_eq_false_iff_ne.2 hx4
            clear hx4
            go_upto_region 8 with fail
            go_region
            all_goals
              go_upto_region 9 with fail
              go_region
              all_goals
                go_wp2
                go_ret
                exact DeedOut.good HM8.out HE.out rfl
        · have HE : Hid (er = 0) := HE3.out.trans (if_neg (fun h => hx1 h.1))
          have hxb : (x1 == 2) = false := beq_eq_false_iff_ne.2 hx1
          clear hx1
          go_upto_region 8 with fail
          go_region
          all_goals
            go_upto_region 9 with fail
            go_region
            all_goals
              go_wp2
              go_ret
              exact DeedOut.good HM8.out HE.out rfl
end
end Go.Proofs.YtandhiiaflhenaaGreatDoor
