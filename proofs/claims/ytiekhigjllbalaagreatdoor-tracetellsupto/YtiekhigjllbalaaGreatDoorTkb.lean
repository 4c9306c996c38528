/- trace.Check: what it keeps, deed by deed: the contracts of begun, finish, sleep, wake, begin, tell. -/
import Derived.Test.YtiekhigjllbalaaGreatDoorTka
namespace Go.Proofs.YtiekhigjllbalaaGreatDoor
open Go.RowKit Go.Deep Go.Maps

section
variable {P : Program} {ops : Array Oper} {md : Region.Mode} {Q : Exit → Act → World → Prop} {S : World → Prop}
theorem wpAnyJ_take {i : Nat} {oi : Oper} {v : Value} {fuel : Nat} {listed : Array Bool} {a : Act} {w : World} (d : Option Nat) (hi : ops[i]? = some oi) (hd : oi.dst = d)
    (hs : Region.noSelect ops = true) (hf : Region.free md ops listed i = true) (hr : (Region.ready md ops listed).contains i = true)
    (hQ : ∀ c a w, Q (.panic c) (a.put d v) w → Q (.panic c) a w) (hy : YieldsIf P ops S oi v a) (hS : S w)
    (h : wpAnyH P md ops Q S fuel (listed.setIfInBounds i true) (a.put d v) w) : wpAnyH P md ops Q S (fuel + 1) listed a w := by
  subst hd
  exact wpAnyH_take hi hs hf hr hQ hy hS h
theorem wpOpJ_call {i : Nat} {o : Oper} {K : Act → World → Prop} {a : Act} {w : World} {f : FuncId} {args : Array Value} (d : Option Nat) (hi : ops[i]? = some o) (hd : o.dst = d) (hw : Region.wanted o (yielded ops a.tmps) = true)
    (hr : (execOp a.eval o).run P w = .ok (.enter f args) w) (h : Calls P f args w fun
      | .returned v, w'' => K (a.put d v) w''
      | .panicked chain, w'' => Q (.panic chain) a w''
      | .outgrown, _ => LetsOut Q) : wpOp P ops Q i K a w := by
  subst hd
  unfold wpOp
  rw [hi]
  dsimp only
  rw [hw, if_pos rfl]
  refine Or.inl ?_
  unfold Oper.wp
  rw [hr]
  exact h
end

/-- What Check keeps, from block H on: what each hand has, what was had, what is done, who sleeps, and all that together. -/
structure SM (H : Nat) (pa : Option Addr) (pc hands n q : Nat) (w0 w : World) (s : Tr) : Prop where
  has : NumM w H q hands s.has
  had : SetM w (H + 1) q n s.had
  dn : SetM w (H + 2) q n s.dn
  slp : SetM w (H + 3) q hands s.slp
  st : w.heap[H + 4]? = some (.cells #[.slice pa n pc, .int .i64 (hands : Int), .map (some H), .map (some (H + 1)), .map (some (H + 2)), .map (some (H + 3))] 86 (0, 0))
  below : Below H w0 w
section
variable {H : Nat} {pa : Option Addr} {pc hands n q : Nat} {w0 w w' : World} {s : Tr}
theorem SM.lt (h : SM H pa pc hands n q w0 w s) : H + 4 < w.heap.size := (Array.getElem?_eq_some_iff.1 h.st).1
theorem SM.later (h : SM H pa pc hands n q w0 w s) (hb : Below w.heap.size w w') : SM H pa pc hands n q w0 w' s :=
  ⟨h.has.of_block (hb.block _ h.has.lt), h.had.of_block (hb.block _ h.had.lt), h.dn.of_block (hb.block _ h.dn.lt), h.slp.of_block (hb.block _ h.slp.lt), (hb.block _ h.lt).trans h.st, h.below.trans (hb.mono (by have := h.lt; omega))⟩
theorem SM.c (h : SM H pa pc hands n q w0 w s) : w.cell? ⟨H + 4, 0, none⟩ = some (.slice pa n pc) ∧ w.cell? ⟨H + 4, 1, none⟩ = some (.int .i64 (hands : Int)) ∧ w.cell? ⟨H + 4, 2, none⟩ = some (.map (some H)) ∧ w.cell? ⟨H + 4, 3, none⟩ = some (.map (some (H + 1))) ∧ w.cell? ⟨H + 4, 4, none⟩ = some (.map (some (H + 2))) ∧ w.cell? ⟨H + 4, 5, none⟩ = some (.map (some (H + 3))) :=
  ⟨by simp [World.cell?, h.st], by simp [World.cell?, h.st], by simp [World.cell?, h.st], by simp [World.cell?, h.st], by simp [World.cell?, h.st], by simp [World.cell?, h.st]⟩
theorem SM.more (h : SM H pa pc hands n q w0 w s) : SM H pa pc hands n (q + 1) w0 w s := ⟨h.has.more, h.had.more, h.dn.more, h.slp.more, h.st, h.below⟩
theorem SM.setHas (h : SM H pa pc hands n q w0 w s) {f : Nat → Int} (hf : NumM w' H (q + 1) hands f) (hg : w.grownBy w' (some H)) : SM H pa pc hands n (q + 1) w0 w' { s with has := f } := by
  have hl := h.lt
  exact ⟨hf, h.had.more.of_block (hg.block _ (by omega) (by simp)), h.dn.more.of_block (hg.block _ (by omega) (by simp)), h.slp.more.of_block (hg.block _ (by omega) (by simp)), (hg.block _ hl (by simp)).trans h.st, h.below.grown hg (by omega) (fun k e => by cases e; exact Nat.le_refl _)⟩
theorem SM.setHad (h : SM H pa pc hands n q w0 w s) {f : Nat → Bool} (hf : SetM w' (H + 1) (q + 1) n f) (hg : w.grownBy w' (some (H + 1))) : SM H pa pc hands n (q + 1) w0 w' { s with had := f } := by
  have hl := h.lt
  exact ⟨h.has.more.of_block (hg.block _ (by omega) (by simp)), hf, h.dn.more.of_block (hg.block _ (by omega) (by simp)), h.slp.more.of_block (hg.block _ (by omega) (by simp)), (hg.block _ hl (by simp)).trans h.st, h.below.grown hg (by omega) (fun k e => by cases e; omega)⟩
theorem SM.setDn (h : SM H pa pc hands n q w0 w s) {f : Nat → Bool} (hf : SetM w' (H + 2) (q + 1) n f) (hg : w.grownBy w' (some (H + 2))) : SM H pa pc hands n (q + 1) w0 w' { s with dn := f } := by
  have hl := h.lt
  exact ⟨h.has.more.of_block (hg.block _ (by omega) (by simp)), h.had.more.of_block (hg.block _ (by omega) (by simp)), hf, h.slp.more.of_block (hg.block _ (by omega) (by simp)), (hg.block _ hl (by simp)).trans h.st, h.below.grown hg (by omega) (fun k e => by cases e; omega)⟩
theorem SM.setSlp (h : SM H pa pc hands n q w0 w s) {f : Nat → Bool} (hf : SetM w' (H + 3) (q + 1) hands f) (hg : w.grownBy w' (some (H + 3))) : SM H pa pc hands n (q + 1) w0 w' { s with slp := f } := by
  have hl := h.lt
  exact ⟨h.has.more.of_block (hg.block _ (by omega) (by simp)), h.had.more.of_block (hg.block _ (by omega) (by simp)), h.dn.more.of_block (hg.block _ (by omega) (by simp)), hf, (hg.block _ hl (by simp)).trans h.st, h.below.grown hg (by omega) (fun k e => by cases e; omega)⟩
end
theorem drewB (w : World) (q : Nat) : Below w.heap.size w (w.drewN q) := ⟨rfl, rfl, rfl, Nat.le_refl _, fun _ _ => rfl⟩

set_option maxRecDepth 100000 in
theorem begun_any (pa : Option Addr) (pc n hands : Nat) (w : World) :
    Calls Tryz.prog 21 #[.slice pa n pc, .int .i64 (hands : Int)] w fun e w' => e = .returned (.pointer (some ⟨w.heap.size + 4, 0, none⟩)) ∧ SM w.heap.size pa pc hands n 0 w w' trNew := by
  have HM : Hid (SM w.heap.size pa pc hands n 0 w (((((w.alloc (.map #[] 0)).alloc (.map #[] 0)).alloc (.map #[] 0)).alloc (.map #[] 0)).alloc (.cells #[.slice pa n pc, .int .i64 (hands : Int), .map (some w.heap.size), .map (some (w.heap.size + 1)), .map (some (w.heap.size + 2)), .map (some (w.heap.size + 3))] 86)) trNew) := by
    have h1 := NumM.start w hands
    have h2 := SetM.start (w.alloc (.map #[] 0)) n
    have h3 := SetM.start ((w.alloc (.map #[] 0)).alloc (.map #[] 0)) n
    have h4 := SetM.start (((w.alloc (.map #[] 0)).alloc (.map #[] 0)).alloc (.map #[] 0)) hands
    have h5 := blk_alloc_new ((((w.alloc (.map #[] 0)).alloc (.map #[] 0)).alloc (.map #[] 0)).alloc (.map #[] 0)) (.cells #[.slice pa n pc, .int .i64 (hands : Int), .map (some w.heap.size), .map (some (w.heap.size + 1)), .map (some (w.heap.size + 2)), .map (some (w.heap.size + 3))] 86)
    simp only [nblk_alloc] at h2 h3 h4 h5
    refine ⟨?_, ?_, ?_, ?_, h5, ?_⟩
    · exact h1.of_block (((Below.heap_alloc _ _ _ (by simp only [nblk_alloc]; omega)).trans (Below.heap_alloc _ _ _ (by simp only [nblk_alloc]; omega))).trans ((Below.heap_alloc _ _ _ (by simp only [nblk_alloc]; omega)).trans (Below.heap_alloc _ _ _ (by simp only [nblk_alloc]; omega))))
    · exact h2.of_block ((Below.heap_alloc _ _ _ (by simp only [nblk_alloc]; omega)).trans ((Below.heap_alloc _ _ _ (by simp only [nblk_alloc]; omega)).trans (Below.heap_alloc _ _ _ (by simp only [nblk_alloc]; omega))))
    · exact h3.of_block ((Below.heap_alloc _ _ _ (by simp only [nblk_alloc]; omega)).trans (Below.heap_alloc _ _ _ (by simp only [nblk_alloc]; omega)))
    · exact h4.of_block (Below.heap_alloc _ _ _ (by simp only [nblk_alloc]; omega))
    · exact (((((Below.refl _ _).alloc (Nat.le_refl _) _).alloc (by simp only [nblk_alloc]; omega) _).alloc (by simp only [nblk_alloc]; omega) _).alloc (by simp only [nblk_alloc]; omega) _).alloc (by simp only [nblk_alloc]; omega) _
  have hmk1 : ∀ wx, Sem.run Tryz.prog (Instr.makeMap 83 none) wx = .ok (.map (some wx.heap.size)) (wx.alloc (.map #[] 0)) := fun wx => by kernel_rfl
  have hmk2 : ∀ wx, Sem.run Tryz.prog (Instr.makeMap 84 none) wx = .ok (.map (some wx.heap.size)) (wx.alloc (.map #[] 0)) := fun wx => by kernel_rfl
  go_enter Tryz.func21, Tryz.ntmps21
  go_wp2
  go_ret
  exact ⟨rfl, HM.out⟩

/-- What a deed comes to: its error, and what is kept. -/
def DeedOut (H : Nat) (pa : Option Addr) (pc hands n q : Nat) (w0 : World) (er : Int) (s' : Tr) (e : Ending) (w' : World) : Prop := e = .returned (errV er) ∧ Below H w0 w' ∧ (er = 0 → SM H pa pc hands n (q + 2) w0 w' s')
section
variable {H : Nat} {pa : Option Addr} {pc hands n q : Nat} {w0 w w' : World} {s s' : Tr} {er : Int} {e : Ending}
theorem DeedOut.bad (h : SM H pa pc hands n q w0 w s) (k : Int) (hk : k ≠ 0) (he : er = k) (hev : e = .returned (.iface 51 (.int .i64 k))) : DeedOut H pa pc hands n q w0 er s' e w := by
  subst he
  exact ⟨by rw [hev, errV_some hk], h.below, fun h0 => absurd h0 hk⟩
theorem DeedOut.good (h : SM H pa pc hands n (q + 2) w0 w s) (he : er = 0) (hev : e = .returned .nilIface) : DeedOut H pa pc hands n q w0 er s e w := by
  subst he
  exact ⟨by rw [hev, errV_zero], h.below, fun _ => h⟩
set_option maxRecDepth 100000 in
set_option maxHeartbeats 2000000 in
theorem sleep_any (hM : SM H pa pc hands n q w0 w s) (hq : q ≤ 10000) (h6 : hands ≤ 6) (x2 : Nat) (hx2 : x2 < hands) (er : Int) (her : er = if 0 ≤ s.has x2 ∨ s.slp x2 = true then 6 else 0) :
    Calls Tryz.prog 37 #[.pointer (some ⟨H + 4, 0, none⟩), .int .i64 (x2 : Int)] w (DeedOut H pa pc hands n q w0 er { s with slp := upd s.slp x2 true }) := by
  have hin1 := inSet_any hM.slp hx2 (by omega)
  have HM : Hid (SM H pa pc hands n q w0 w s) := hM
  obtain ⟨-, -, c2, -, -, c5⟩ := hM.c
  clear hM
  cases hs : s.slp x2
  case true =>
    rw [hs] at hin1
    have HER : Hid (er = 6) := her.trans (if_pos (Or.inr hs))
    clear her hs
    go_enter Tryz.func37, Tryz.ntmps37
    go_wp2_with (first | (go_at_call 58; refine hin1.mono ?_; clear hin1; rintro e w1 ⟨rfl, hb1⟩; have HB1 : Hid (SM H pa pc hands n q w0 w1 s) := HM.out.later hb1; clear hb1))
    go_ret
    exact DeedOut.bad HB1.out 6 (by omega) HER.out rfl
  case false =>
    rw [hs] at hin1
    by_cases hh : 0 ≤ s.has x2
    · have HER : Hid (er = 6) := her.trans (if_pos (Or.inl hh))
      have HHH : Hid (decide (0 ≤ s.has x2) = true) := decide_eq_true hh
      clear her hs hh
      go_enter Tryz.func37, Tryz.ntmps37
      go_wp2_with (first | (go_at_call 58; refine hin1.mono ?_; clear hin1; rintro e w1 ⟨rfl, hb1⟩; have HB1 : Hid (SM H pa pc hands n q w0 w1 s) := HM.out.later hb1; clear hb1; have c22 := HB1.out.c.2.2.1; have hin2 := inNum_any HB1.out.has hx2 (by omega); rw [HHH.out] at hin2) | (go_at_call 59; refine hin2.mono ?_; clear hin2; rintro e w1 ⟨rfl, rfl⟩))
      go_ret
      exact DeedOut.bad HB1.out 6 (by omega) HER.out rfl
    · have HER : Hid (er = 0) := her.trans (if_neg (fun h => h.elim hh (by rw [hs]; simp)))
      have HHH : Hid (decide (0 ≤ s.has x2) = false) := decide_eq_false hh
      clear her hs hh
      go_enter Tryz.func37, Tryz.ntmps37
      go_wp2_with (first | (go_at_call 58; refine hin1.mono ?_; clear hin1; rintro e w1 ⟨rfl, hb1⟩; have HB1 : Hid (SM H pa pc hands n q w0 w1 s) := HM.out.later hb1; clear hb1; have c22 := HB1.out.c.2.2.1; have c25 := HB1.out.c.2.2.2.2.2; have hin2 := inNum_any HB1.out.has hx2 (by omega); rw [HHH.out] at hin2) | (go_at_call 59; refine hin2.mono ?_; clear hin2; rintro e w1 ⟨rfl, rfl⟩; obtain ⟨D, hown, hD⟩ := HB1.out.slp; have hkey := keyN (y := x2) (by omega); have HD : Hid (∀ x : Nat, x < hands → Maps.has D (.int .i64 x) = s.slp x) := hD; have HIM : Hid (Maps.IsMap D) := hown.isMap; clear hD; have hml : q < maxLen := (by unfold maxLen; omega)) | (at_mapUpdate; refine wpList_mapUpdate_own _ rfl _ _ _ 84 rfl 3 120 keyedI Tryz.underlying84 (unitElem (H := Unit)) (H + 3) q D rfl hown hml _ _ _ rfl rfl hkey (.agg []) [] unitElem_mk ?_; intro w2 hown2 hgrow2))
      go_ret
      have hset : SetM w2 (H + 3) (q + 1) hands (upd s.slp x2 true) := ⟨_, hown2, fun y hy => by
        by_cases e : y = x2
        · subst e; rw [Maps.has_put_same HIM.out (by trivial), upd_self]
        · rw [Maps.has_put_other (by intro h; injection h with _ h; omega), upd_ne s.slp _ e, HD.out y hy]⟩
      exact DeedOut.good (HB1.out.setSlp hset hgrow2).more HER.out rfl
set_option maxRecDepth 100000 in
set_option maxHeartbeats 2000000 in
theorem wake_any (hM : SM H pa pc hands n q w0 w s) (h6 : hands ≤ 6) (x2 : Nat) (hx2 : x2 < hands) (er : Int) (her : er = if s.slp x2 = true then 0 else 6) :
    Calls Tryz.prog 38 #[.pointer (some ⟨H + 4, 0, none⟩), .int .i64 (x2 : Int)] w (DeedOut H pa pc hands n q w0 er { s with slp := upd s.slp x2 false }) := by
  have hin1 := inSet_any hM.slp hx2 (by omega)
  have HM : Hid (SM H pa pc hands n q w0 w s) := hM
  obtain ⟨-, -, -, -, -, c5⟩ := hM.c
  clear hM
  cases hs : s.slp x2
  case false =>
    rw [hs] at hin1
    have HER : Hid (er = 6) := her.trans (if_neg (by rw [hs]; simp))
    clear her hs
    go_enter Tryz.func38, Tryz.ntmps38
    go_wp2_with (first | (go_at_call 58; refine hin1.mono ?_; clear hin1; rintro e w1 ⟨rfl, hb1⟩; have HB1 : Hid (SM H pa pc hands n q w0 w1 s) := HM.out.later hb1; clear hb1))
    go_ret
    exact DeedOut.bad HB1.out 6 (by omega) HER.out rfl
  case true =>
    rw [hs] at hin1
    have HER : Hid (er = 0) := her.trans (if_pos hs)
    clear her hs
    go_enter Tryz.func38, Tryz.ntmps38
    go_wp2_with (first | (go_at_call 58; refine hin1.mono ?_; clear hin1; rintro e w1 ⟨rfl, hb1⟩; have HB1 : Hid (SM H pa pc hands n q w0 w1 s) := HM.out.later hb1; clear hb1; have c25 := HB1.out.c.2.2.2.2.2; obtain ⟨D, hown, hD⟩ := HB1.out.slp; have hkey := keyN (y := x2) (by omega); have HD : Hid (∀ x : Nat, x < hands → Maps.has D (.int .i64 x) = s.slp x) := hD; clear hD) | (at_delete; refine wpList_delete_own _ rfl _ _ 84 3 rfl 120 keyedI Tryz.underlying84 _ (H + 3) q D rfl hown _ _ rfl hkey ?_; intro w2 hown2 hturn2))
    go_ret
    have hset : SetM w2 (H + 3) q hands (upd s.slp x2 false) := ⟨_, hown2, fun y hy => by
      by_cases e : y = x2
      · subst e; rw [Maps.has_del_same, upd_self]
      · rw [Maps.has_del_other (by intro h; injection h with _ h; omega), upd_ne s.slp _ e, HD.out y hy]⟩
    have hM2 := (HB1.out.setSlp hset.more hturn2.grown).more
    exact DeedOut.good hM2 HER.out rfl
set_option maxRecDepth 100000 in
set_option maxHeartbeats 4000000 in
theorem fin_any (hM : SM H pa pc hands n q w0 w s) (hq : q ≤ 10000) (h6 : hands ≤ 6) (h30 : n ≤ 30) (x1 x4 : Int) (x2 x3 : Nat) (hx2 : x2 < hands) (hx3 : x3 < n) (er : Int) (her : er = if s.has x2 = (x3 : Int) then 0 else 6) :
    Calls Tryz.prog 36 #[.pointer (some ⟨H + 4, 0, none⟩), .agg #[.int .i64 x1, .int .i64 (x2 : Int), .int .i64 (x3 : Int), .int .i64 x4]] w (DeedOut H pa pc hands n q w0 er { s with has := upd s.has x2 (-1), dn := mark s.dn x3 }) := by
  obtain ⟨W, hW⟩ : ∃ W, W = w.alloc (.cells #[.int .i64 x1, .int .i64 (x2 : Int), .int .i64 (x3 : Int), .int .i64 x4] 34) := ⟨_, rfl⟩
  have hMW : SM H pa pc hands n q w0 W s := by rw [hW]; exact hM.later ((Below.refl _ _).alloc (Nat.le_refl _) _)
  obtain ⟨-, d1, d2, -⟩ : W.cell? ⟨w.heap.size, 0, none⟩ = some (.int .i64 x1) ∧ W.cell? ⟨w.heap.size, 1, none⟩ = some (.int .i64 (x2 : Int)) ∧ W.cell? ⟨w.heap.size, 2, none⟩ = some (.int .i64 (x3 : Int)) ∧ W.cell? ⟨w.heap.size, 3, none⟩ = some (.int .i64 x4) := by rw [hW]; exact new_deed w x1 x2 x3 x4
  obtain ⟨c, hlk0, hcx⟩ := hMW.has.look (x := x2) (by omega) hx2
  have hlk : ∀ k, (Instr.lookup 83 (.map (some H)) (.int .i64 (x2 : Int)) true).run Tryz.prog (W.drewN k) = .ok (.tuple #[.int .i64 c, .bool (decide (0 ≤ s.has x2))]) (W.drewN k) := fun k => hlk0 _ rfl
  obtain ⟨-, -, c2, -, c4, -⟩ := hMW.c
  have HMW : Hid (SM H pa pc hands n q w0 W s) := hMW
  have HW : Hid (W = w.alloc (.cells #[.int .i64 x1, .int .i64 (x2 : Int), .int .i64 (x3 : Int), .int .i64 x4] 34)) := hW
  have hne : H + 4 < w.heap.size := hM.lt
  clear hW hM hMW hlk0
  by_cases hh : 0 ≤ s.has x2
  case neg =>
    have HER : Hid (er = 6) := her.trans (if_neg (by omega))
    rw [decide_eq_false hh] at hlk
    clear her hh hcx
    go_enter Tryz.func36, Tryz.ntmps36
    go_upto_region 1 with fail
    rw [← HW.out]
    go_quiet (fail)
    go_wp2
    go_ret
    exact DeedOut.bad (HMW.out.later (drewB _ _)) 6 (by omega) HER.out rfl
  case pos =>
    have hc := hcx hh
    rw [decide_eq_true hh] at hlk
    by_cases he : c = (x3 : Int)
    case neg =>
      have HER : Hid (er = 6) := her.trans (if_neg (by rw [← hc]; exact he))
      have hcb : (c != (x3 : Int)) = true := by simp [he]
      clear her hh hcx hc he
      go_enter Tryz.func36, Tryz.ntmps36
      go_upto_region 1 with fail
      rw [← HW.out]
      go_quiet (fail)
      go_wp2
      go_ret
      exact DeedOut.bad (HMW.out.later (drewB _ _)) 6 (by omega) HER.out rfl
    case pos =>
      have HER : Hid (er = 0) := her.trans (if_pos (by rw [← hc]; exact he))
      subst he
      clear her hh hcx hc
      have hz := zeroUnit
      go_enter Tryz.func36, Tryz.ntmps36
      go_upto_region 1 with fail
      rw [← HW.out]
      clear HW
      go_quiet (fail)
      go_upto_region 4 with fail
      have hM1 : SM H pa pc hands n q w0 (W.drewN nq) s := HMW.out.later (drewB _ _)
      have k1 : (W.drewN nq).cell? ⟨w.heap.size, 1, none⟩ = some (.int .i64 (x2 : Int)) := d1
      have k2 : (W.drewN nq).cell? ⟨w.heap.size, 2, none⟩ = some (.int .i64 (x3 : Int)) := d2
      clear d1 d2 c2 c4 HMW hlk
      generalize W.drewN nq = W1 at *
      have c2 := hM1.c.2.2.1
      have hM1d : SM H pa pc hands n q w0 W1.drew s := hM1.later (drewB W1 1)
      obtain ⟨w2, hdel, hnum, hg⟩ := hM1d.has.del (x := x2) (by omega) 0
      have hM2 := hM1d.setHas hnum.more hg
      have c4 := hM2.c.2.2.2.2.1
      have k22 : w2.cell? ⟨w.heap.size, 2, none⟩ = some (.int .i64 (x3 : Int)) := hg.cell (w := W1.drew) (a := ⟨w.heap.size, 2, none⟩) k2 (by simp; omega)
      have hM2d : SM H pa pc hands n (q + 1) w0 w2.drew { s with has := upd s.has x2 (-1) } := hM2.later (drewB w2 1)
      obtain ⟨w3, hmu, hset, hg3⟩ := hM2d.dn.put (by omega) (x := x3) (by omega)
      have HM3 : Hid (SM H pa pc hands n (q + 1 + 1) w0 w3 { s with has := upd s.has x2 (-1), dn := mark s.dn x3 }) := hM2d.setDn hset hg3
      clear hM1 hM1d hnum hg hM2 hM2d hset hg3
      go_region
      all_goals
        go_upto_region 5 with fail
        go_region
        all_goals
          go_wp2
          go_ret
          exact DeedOut.good HM3.out HER.out rfl
end
end Go.Proofs.YtiekhigjllbalaaGreatDoor
