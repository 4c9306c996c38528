/- A gang beside other things: which blocks are not its own. The memory of GangHolds between its calls; append of deeds; depth.Work; what is known of the gang, plain. depth.Work; the law's own gang of one task; deeds that are read. -/
import Derived.Test.YtandhiiaflhenaaGreatDoorPgy
import Derived.Test.YtandhiiaflhenaaGreatDoorGngh

namespace Go.Proofs.YtandhiiaflhenaaGreatDoor
open Go.RowKit Go.Deep

theorem least (P : Nat → Prop) : ∀ n, P n → ∃ k, P k ∧ ∀ j, j < k → ¬ P j := by
  intro n
  induction n using Nat.strongRecOn with
  | _ n ih =>
    intro hn
    by_cases h : ∃ j, j < n ∧ P j
    · obtain ⟨j, hj, hp⟩ := h
      exact ih j hj hp
    · exact ⟨n, hn, fun j hj hp => h ⟨j, hj, hp⟩⟩
theorem check_exists (ts : List (Int × List Int)) : ∃ p q, CheckIs ts p q := by
  by_cases h30 : 30 < ts.length
  · exact ⟨_, _, CheckIs.full h30⟩
  by_cases he : ∃ k, k < ts.length ∧ errOf ts k ≠ 0
  · obtain ⟨k0, h0⟩ := he
    obtain ⟨k, ⟨h1, h2⟩, h3⟩ := least (fun k => k < ts.length ∧ errOf ts k ≠ 0) k0 h0
    refine ⟨_, _, CheckIs.task k (by omega) h1 (fun j hj => ?_) h2⟩
    by_cases e : errOf ts j = 0
    · exact e
    · exact absurd ⟨by omega, e⟩ (h3 j hj)
  have hall : ∀ j, j < ts.length → errOf ts j = 0 := fun j hj => by
    by_cases e : errOf ts j = 0
    · exact e
    · exact absurd ⟨j, hj, e⟩ he
  by_cases hr : ∃ k, k < ts.length ∧ Reach ts k k
  · obtain ⟨k0, h0⟩ := hr
    obtain ⟨k, ⟨h1, h2⟩, h3⟩ := least (fun k => k < ts.length ∧ Reach ts k k) k0 h0
    exact ⟨_, _, CheckIs.ring k (by omega) hall h1 (fun j hj e => h3 j hj ⟨by omega, e⟩) h2⟩
  · exact ⟨_, _, CheckIs.none (by omega) hall (fun j hj e => hr ⟨j, hj, e⟩)⟩
theorem below_kx {X : Nat → Prop} {w w' : World} (h : Below w.heap.size w w') : Kx X w w' := ⟨h.os, h.tape, h.output, h.size, fun k hk _ => h.block k hk⟩
/-- A block of deeds. -/
def DeedB (w : World) (k : Nat) : Prop := ∃ cur fr, w.heap[k]? = some (.cells cur 43 fr)
theorem RowD.deedB {b : Nat} {w : World} {v : Value} {l : List Deed} (h : RowD b w v l) {k : Nat} (hk : v.ownBlock = some k) : DeedB w k := by
  rcases h.2 with ⟨rfl, _⟩ | ⟨g, cap, cur, rfl, _, hh, _⟩
  · cases hk
  · have : g = k := by simpa [Value.ownBlock] using hk
    subst this
    exact ⟨cur, _, hh⟩
theorem rowIs_ne {w : World} {b n k : Nat} {t : TypeId} {f : Nat → Value} (h : w.rowIs b t n f) (hk : DeedB w k) (ht : t ≠ 43) : b ≠ k := by
  intro e
  subst e
  obtain ⟨c, h1, _⟩ := h
  obtain ⟨cur, fr, h2⟩ := hk
  rw [h1] at h2
  simp at h2
  exact ht h2.2.1
theorem cells_ne {w : World} {b k : Nat} {t : TypeId} {c : Array Value} {fr : Nat × Nat} (h : w.heap[b]? = some (.cells c t fr)) (hk : DeedB w k) (ht : t ≠ 43) : b ≠ k := by
  intro e
  subst e
  obtain ⟨cur, fr, h2⟩ := hk
  rw [h] at h2
  simp at h2
  exact ht h2.2.1
theorem ints_ne {w : World} {b k j : Nat} {v : Value} {zs : List Int} (h : w.ownsRow b 3 1 v zs.length (zs.map (Value.int .i64))) (hk : DeedB w k) (hv : v.ownBlock = some j) : j ≠ k := by
  rcases h.2 with ⟨rfl, _⟩ | ⟨g, cap, cur, rfl, _, hh, _⟩
  · cases hv
  · have : g = j := by simpa [Value.ownBlock] using hv
    subst this
    exact cells_ne hh hk (by decide)
theorem map_ne {w : World} {b k : Nat} {es : Array _} {c : Nat} (h : w.heap[b]? = some (.map es c)) (hk : DeedB w k) : b ≠ k := by
  intro e
  subst e
  obtain ⟨cur, fr, h2⟩ := hk
  rw [h] at h2
  cases h2
variable {B : Bs} {G room hands : Nat} {ts : List (Int × List Int)} {g : Gs} {wk : Nat → Int} {own : Nat → Nat} {Q : Qp} {w w' : World}
/-- No block of deeds is the gang's. -/
theorem Pg.deedB (h : Pg B G room hands ts g wk own Q w) {k : Nat} (hk : DeedB w k) : Pg B G room hands ts g wk (updG own k 9) Q w := by
  have hjn : Jn Q.J Q.M Q.A Q.D Q.C ts.length _ _ _ w := h.jn
  obtain ⟨av, haf⟩ := hjn.aft
  obtain ⟨m, D, ⟨es, clock, hmb, _⟩, _⟩ := hjn.done
  obtain ⟨m2, D2, ⟨es2, clock2, hmb2, _⟩, _⟩ := h.has
  exact { h with
    lG := by rw [updG_ne _ _ (rowIs_ne h.row hk (by decide))]; exact h.lG
    lJ := by
      rw [updG_ne _ _ (rowIs_ne hjn.row hk (by decide)), updG_ne _ _ (rowIs_ne hjn.miss hk (by decide)), updG_ne _ _ (rowIs_ne haf.row hk (by decide)), updG_ne _ _ (map_ne hmb hk)]
      exact h.lJ
    lA := fun i v b hi hv hb => by
      obtain ⟨h1, h2⟩ := h.lA i v b hi hv hb
      have hc := haf.row.cell hi
      rw [hv] at hc
      have he : v = av i := Option.some.inj hc
      refine ⟨h1, ?_⟩
      rw [updG_ne _ _ (ints_ne (haf.own i hi) hk (by rw [← he]; exact hb))]
      exact h2
    lS := ⟨by rw [updG_ne _ _ (cells_ne h.sp.cells hk (by decide))]; exact h.lS.1, fun j hj => by rw [updG_ne _ _ (ints_ne h.sp.row hk hj)]; exact h.lS.2 j hj⟩
    lK := ⟨by rw [updG_ne _ _ (cells_ne h.pk.cells hk (by decide))]; exact h.lK.1, fun j hj => by rw [updG_ne _ _ (ints_ne h.pk.row hk hj)]; exact h.lK.2 j hj⟩
    lHB := by rw [updG_ne _ _ (rowIs_ne h.hrow hk (by decide))]; exact h.lHB
    lH := fun j hj => by
      obtain ⟨gg, f, hrg⟩ := (h.hand j hj).ring
      rw [updG_ne _ _ (rowIs_ne (h.hand j hj).row hk (by decide)), updG_ne _ _ (rowIs_ne hrg.row hk (by decide))]
      exact h.lH j hj
    lM := by rw [updG_ne _ _ (map_ne hmb2 hk)]; exact h.lM
    lW := by rw [updG_ne _ _ (rowIs_ne h.wrow hk (by decide))]; exact h.lW
    far := fun j hj => by
      obtain ⟨h1, h2, h3⟩ := h.far j hj
      refine ⟨h1, ?_, h3⟩
      by_cases e : j = k
      · subst e; exact updG_self _ _ _
      · rw [updG_ne _ _ e]; exact h2 }

/-- A gang; the blocks of X are not its own. -/
def GX (X : Nat → Prop) (G room hands : Nat) (ts : List (Int × List Int)) (g : Gs) (w : World) : Prop :=
  ∃ B own Q wk, Pg B G room hands ts g wk own Q w ∧ WkOk ts hands g wk ∧ Inv ts room hands g ∧ ∀ k, X k → k < w.heap.size ∧ own k = 9
variable {X Y : Nat → Prop}
theorem GX.sub (h : GX X G room hands ts g w) (hs : ∀ k, Y k → X k) : GX Y G room hands ts g w := by
  obtain ⟨B, own, Q, wk, hP, hK, hI, hX⟩ := h
  exact ⟨B, own, Q, wk, hP, hK, hI, fun k hk => hX k (hs k hk)⟩
theorem GX.inv (h : GX X G room hands ts g w) : Inv ts room hands g := by
  obtain ⟨B, own, Q, wk, hP, hK, hI, hX⟩ := h
  exact hI
theorem GX.lt (h : GX X G room hands ts g w) {k : Nat} (hk : X k) : k < w.heap.size := by
  obtain ⟨B, own, Q, wk, hP, hK, hI, hX⟩ := h
  exact (hX k hk).1
/-- Other things may change, and new ones come. -/
theorem GX.away (h : GX X G room hands ts g w) (K : Kx X w w') : GX (fun k => X k ∨ (w.heap.size ≤ k ∧ k < w'.heap.size)) G room hands ts g w' := by
  obtain ⟨B, own, Q, wk, hP, hK, hI, hX⟩ := h
  refine ⟨_, _, Q, wk, hP.away ⟨K.os, K.tape, K.output, K.size, fun k hk hC => K.block k hk (fun e => hC (hX k e).2)⟩, hK, hI, fun k hk => ?_⟩
  rcases hk with hk | ⟨h1, h2⟩
  · have := hX k hk
    exact ⟨Nat.lt_of_lt_of_le this.1 K.size, by rw [relabel_lt this.1]; exact this.2⟩
  · exact ⟨h2, relabel_ge h1⟩
theorem GX.later (h : GX X G room hands ts g w) (hb : Below w.heap.size w w') : GX X G room hands ts g w' := (h.away (below_kx hb)).sub (fun _ hk => Or.inl hk)
/-- A block of deeds is not its own. -/
theorem GX.deeds (h : GX X G room hands ts g w) {k : Nat} (hk : DeedB w k) : GX (fun j => X j ∨ j = k) G room hands ts g w := by
  obtain ⟨B, own, Q, wk, hP, hK, hI, hX⟩ := h
  refine ⟨B, _, Q, wk, hP.deedB hk, hK, hI, fun j hj => ?_⟩
  have hlt : k < w.heap.size := by
    obtain ⟨cur, fr, h2⟩ := hk
    exact lt_of_block h2
  by_cases e : j = k
  · subst e; exact ⟨hlt, updG_self _ _ _⟩
  · rw [updG_ne _ _ e]
    rcases hj with hj | hj
    · exact hX j hj
    · exact absurd hj e
/-- What a step keeps. -/
structure KeptX (X : Nat → Prop) (w w' : World) : Prop where
  os : w'.os = w.os
  tape : w'.tape = w.tape
  output : w'.output = w.output
  size : w.heap.size ≤ w'.heap.size
  block : ∀ k, X k → w'.heap[k]? = w.heap[k]?
theorem GX.step (h : GX X G room hands ts g w) (hg : Good ts) (hw : ∀ i, i < ts.length → 1 ≤ workOf ts i ∧ workOf ts i ≤ 1000) (hr1 : 1 ≤ room) (h16 : room ≤ 16) (h6 : hands ≤ 6) (j pick : Nat) (hj : j < hands) (hp63 : pick < 9223372036854775808) :
    Calls Tryz.prog 8 #[.pointer (some ⟨G, 0, none⟩), .int .i64 j, .int .i64 pick] w fun e w' => ∃ v, e = .returned (.tuple #[v, .nilIface]) ∧ RowD w.heap.size w' v (gdeeds ts hands g j pick) ∧ GX X G room hands ts (gstep ts room hands g j pick) w' ∧ KeptX X w w' := by
  obtain ⟨B, own, Q, wk, hP, hK, hI, hX⟩ := h
  refine (step_any hP hI hK hg hw hr1 h16 h6 j pick hj hp63).mono ?_
  rintro e w' ⟨v, rfl, hv, B', own', Q', wk', hP', hK', hW⟩
  exact ⟨v, rfl, hv, ⟨B', own', Q', wk', hP', hK', hI.step hg (fun i hi => (hw i hi).1) hr1 hj pick, fun k hk => ⟨Nat.lt_of_lt_of_le (hX k hk).1 hW.size, (hW.block k (hX k hk).1 (hX k hk).2).2⟩⟩, hW.os, hW.tape, hW.output, hW.size, fun k hk => (hW.block k (hX k hk).1 (hX k hk).2).1⟩
theorem GX.refused (h : GX X G room hands ts g w) (x y : Int) (hno : x < 0 ∨ (hands : Int) ≤ x ∨ y < 0) :
    Calls Tryz.prog 8 #[.pointer (some ⟨G, 0, none⟩), .int .i64 x, .int .i64 y] w fun e w' => e = .returned (.tuple #[.slice none 0 0, .iface 80 (.int .i64 1)]) ∧ w' = w := by
  obtain ⟨B, own, Q, wk, hP, hK, hI, hX⟩ := h
  by_cases hr : x < 0 ∨ (hands : Int) ≤ x
  · exact step_range hP x y hr
  · obtain ⟨j, rfl⟩ : ∃ j : Nat, x = j := ⟨x.toNat, by omega⟩
    exact step_pick hP j y (by omega) (by omega)
theorem gLeft_any (hP : Pg B G room hands ts g wk own Q w) :
    Calls Tryz.prog 11 #[.pointer (some ⟨G, 0, none⟩)] w fun e w' => e = .returned (.int .i64 (unseen g.S ts.length)) ∧ ∃ q, w' = w.drewN q := by
  have c0 := hP.c.1
  have hl := left_any Q.J Q.M Q.A Q.D Q.C ts g.S w hP.jn
  clear hP
  go_enter Tryz.func11, Tryz.ntmps11
  go_wp2_with (first | (go_at_call 32; refine hl.mono ?_; clear hl; rintro e w1 ⟨rfl, q, rfl⟩))
  go_ret
  exact ⟨rfl, _, rfl⟩
theorem GX.left (h : GX X G room hands ts g w) :
    Calls Tryz.prog 11 #[.pointer (some ⟨G, 0, none⟩)] w fun e w' => e = .returned (.int .i64 (unseen g.S ts.length)) ∧ Below w.heap.size w w' := by
  obtain ⟨B, own, Q, wk, hP, hK, hI, hX⟩ := h
  refine (gLeft_any hP).mono ?_
  rintro e w' ⟨rfl, q, rfl⟩
  exact ⟨rfl, rfl, rfl, rfl, Nat.le_refl _, fun _ _ => rfl⟩
theorem gx_new {v : Value} (hp : PlanAt w v ts) (hc : CheckIs ts 0 0) (h1 : 1 ≤ hands) (h6 : hands ≤ 6) (r1 : 1 ≤ room) (r16 : room ≤ 16) :
    Calls Tryz.prog 5 #[v, .int .i64 hands, .int .i64 room] w fun e w' => ∃ G, e = .returned (.tuple #[.pointer (some ⟨G, 0, none⟩), .nilIface]) ∧ GX (fun k => k < w.heap.size) G room hands ts (gnew ts) w' ∧ Below w.heap.size w w' := by
  refine (gNew_good v ts w hp hc hands room h1 h6 r1 r16).mono ?_
  rintro e w' ⟨G, own, Q, rfl, hP, hG, hb⟩
  exact ⟨G, rfl, ⟨_, own, Q, _, hP, WkOk.new ts hands, Inv.new h1, fun k hk => ⟨by have hk' : k < w.heap.size := hk; have := hb.size; omega, (hP.far k hk).2.1⟩⟩, hb⟩
/-- New is refused: by what is wrong with the plan, or the hands, or the room. -/
theorem gNew_no (v : Value) (ts : List (Int × List Int)) (w : World) (hp : PlanAt w v ts) (hands room : Int) (hno : ¬ (CheckIs ts 0 0 ∧ 1 ≤ hands ∧ hands ≤ 6 ∧ 1 ≤ room ∧ room ≤ 16)) :
    Calls Tryz.prog 5 #[v, .int .i64 hands, .int .i64 room] w fun e w' => (∃ q : Int, e = .returned (.tuple #[.pointer none, .iface 80 (.int .i64 q)])) ∧ Below w.heap.size w w' := by
  by_cases hc : CheckIs ts 0 0
  · by_cases hh : hands < 1 ∨ 6 < hands
    · have hjn := new_good v ts w hp hc
      have HPK : Hid (∀ w1, Calls Tryz.prog 18 #[.int .i64 hands] w1 fun e w' => e = .returned (.tuple #[.pointer none, .iface 80 (.int .i64 1)]) ∧ w' = w1) := fun w1 => Prk.New_bad hands w1 hh
      obtain ⟨pa, pc, rfl⟩ : ∃ a c, v = .slice a ts.length c := by obtain ⟨hl, a, c, hv, -⟩ := hp; exact ⟨a, c, hv⟩
      clear hp hc hh hno
      go_enter Tryz.func5, Tryz.ntmps5
      go_wp2_with (first | (go_at_call 17; refine hjn.mono ?_; clear hjn; rintro e w1 ⟨J, M, A, D, C, rfl, -, -, hb1⟩; have hpk := HPK.out w1; clear HPK) | (go_at_call 18; refine hpk.mono ?_; clear hpk; rintro e w1 ⟨rfl, rfl⟩))
      go_ret2
      exact ⟨⟨1, rfl⟩, hb1⟩
    · obtain ⟨hn, rfl⟩ : ∃ hn : Nat, hands = hn := ⟨hands.toNat, by omega⟩
      have hr : room < 1 ∨ 16 < room := by
        apply Classical.byContradiction
        intro hc2
        exact hno ⟨hc, by omega, by omega, by omega, by omega⟩
      have hjn := new_good v ts w hp hc
      have HPK : Hid (∀ w1, Calls Tryz.prog 18 #[.int .i64 hn] w1 fun e w' => e = .returned (.tuple #[.pointer (some ⟨w1.heap.size, 0, none⟩), .nilIface]) ∧ Prk.Pk w1.heap.size hn [] (.slice none 0 0) w' ∧ Below w1.heap.size w1 w') := fun w1 => Prk.New_good hn w1 (by omega) (by omega)
      have HSP : Hid (∀ w1, Calls Tryz.prog 19 #[.int .i64 room] w1 fun e w' => e = .returned (.tuple #[.pointer none, .iface 80 (.int .i64 1)]) ∧ w' = w1) := fun w1 => Spl.New_bad room w1 hr
      obtain ⟨pa, pc, rfl⟩ : ∃ a c, v = .slice a ts.length c := by obtain ⟨hl, a, c, hv, -⟩ := hp; exact ⟨a, c, hv⟩
      clear hp hc hr hno hh
      go_enter Tryz.func5, Tryz.ntmps5
      go_wp2_with (first | (go_at_call 17; refine hjn.mono ?_; clear hjn; rintro e w1 ⟨J, M, A, D, C, rfl, -, -, hb1⟩; have hpk := HPK.out w1; clear HPK) | (go_at_call 18; refine hpk.mono ?_; clear hpk; rintro e w2 ⟨rfl, -, hb2⟩; have hsp := HSP.out w2; clear HSP) | (go_at_call 19; refine hsp.mono ?_; clear hsp; rintro e w2 ⟨rfl, rfl⟩))
      go_ret2
      exact ⟨⟨1, rfl⟩, hb1.trans (hb2.mono hb1.size)⟩
  · obtain ⟨a, q, hcq⟩ := check_exists ts
    have hq : q ≠ 0 := fun e => by
      have h0 := (hcq.ok e).1
      rw [e, h0] at hcq
      exact hc hcq
    have hjn := new_bad v ts w hp hcq hq
    obtain ⟨pa, pc, rfl⟩ : ∃ a c, v = .slice a ts.length c := by obtain ⟨hl, a, c, hv, -⟩ := hp; exact ⟨a, c, hv⟩
    have e1 : errV q = .iface 80 (.int .i64 q) := by unfold errV; simp [hq]
    rw [e1] at hjn
    clear hp hc hcq e1 hno hq
    go_enter Tryz.func5, Tryz.ntmps5
    go_wp2_with (first | (go_at_call 17; refine hjn.mono ?_; clear hjn; rintro e w1 ⟨rfl, hb1⟩))
    go_ret2
    exact ⟨⟨q, rfl⟩, hb1⟩
end Go.Proofs.YtandhiiaflhenaaGreatDoor

namespace Go.Proofs.YtandhiiaflhenaaGreatDoor
open Go.RowKit Go.Deep

variable {W0 : World} {G D room hands : Nat} {ts : List (Int × List Int)} {g : Gs} {mk : Nat → Bool} {ds dl : List Deed} {av lv : Value} {w w' : World}
/-- A gang, all that was told (av), what is done (block D), what was told last (lv). -/
structure HX (W0 : World) (G D room hands : Nat) (ts : List (Int × List Int)) (g : Gs) (mk : Nat → Bool) (ds : List Deed) (av : Value) (dl : List Deed) (lv : Value) (w : World) : Prop where
  gx : GX (fun k => k < W0.heap.size ∨ k = D ∨ av.ownBlock = some k) G room hands ts g w
  all : RowD W0.heap.size w av ds
  dn : w.rowIs D 4 ts.length (fun i => .bool (mk i))
  l : RowD W0.heap.size w lv dl
  ap : ∀ k, lv.ownBlock = some k → av.ownBlock ≠ some k
  below : Below W0.heap.size W0 w
  ge : W0.heap.size ≤ D
theorem HX.size (h : HX W0 G D room hands ts g mk ds av dl lv w) : W0.heap.size ≤ w.heap.size := h.below.size
theorem HX.later (h : HX W0 G D room hands ts g mk ds av dl lv w) (hb : Below w.heap.size w w') : HX W0 G D room hands ts g mk ds av dl lv w' :=
  ⟨h.gx.later hb, h.all.later hb, h.dn.of_block (hb.block _ h.dn.lt), h.l.later hb, h.ap, h.below.trans (hb.mono h.size), h.ge⟩
/-- One more is done. -/
theorem HX.mark (h : HX W0 G D room hands ts g mk ds av dl lv w) (t : Nat) : HX W0 G D room hands ts g (mark mk t) ds av dl lv (w.setCell ⟨D, t, none⟩ (.bool true)) := by
  have hD : ∀ {b : Nat} {v : Value} {l : List Deed}, RowD b w v l → ∀ k, v.ownBlock = some k → k ≠ D := fun hr k hk => (rowIs_ne h.dn (hr.deedB hk) (by decide)).symm
  have hblk : ∀ k, k ≠ D → (w.setCell ⟨D, t, none⟩ (.bool true)).heap[k]? = w.heap[k]? := fun k hk => Below.heap_setCell _ _ _ _ (by show k ≠ D; exact hk)
  refine ⟨(h.gx.away (w' := w.setCell ⟨D, t, none⟩ (.bool true)) ⟨rfl, rfl, rfl, by simp, fun k _ hX => hblk k (fun e => hX (Or.inr (Or.inl e)))⟩).sub (fun k hk => Or.inl hk), h.all.of_blocks (fun k hk => hblk k (hD h.all k hk)), ?_, h.l.of_blocks (fun k hk => hblk k (hD h.l k hk)), h.ap, h.below.setCell (p := ⟨D, t, none⟩) h.ge _, h.ge⟩
  refine (h.dn.set t (.bool true)).congr (fun j _ => ?_)
  unfold Go.Proofs.YtandhiiaflhenaaGreatDoor.mark
  split <;> rfl
/-- All that was told. -/
theorem HX.append (h : HX W0 G D room hands ts g mk ds av dl lv w) {av2 : Value} (hr : RowD W0.heap.size w' av2 (ds ++ dl)) (hg : w.grownBy w' av.ownBlock) (hat : av2.ownBlock = av.ownBlock ∨ av2.ownBlock = some w.heap.size) : HX W0 G D room hands ts g mk (ds ++ dl) av2 dl lv w' := by
  have hs := h.size
  have hD : av.ownBlock ≠ some D := fun e => rowIs_ne h.dn (h.all.deedB e) (by decide) rfl
  refine ⟨(h.gx.away (w' := w') ⟨hg.os, hg.tape, hg.output, hg.size, fun k hk hX => hg.block k hk (fun e => hX (Or.inr (Or.inr e.symm)))⟩).sub (fun k hk => ?_), hr, h.dn.of_block (hg.block D h.dn.lt (fun e => hD e.symm)), h.l.of_blocks (fun k hk => hg.block k (h.l.low hk).2 (fun e => h.ap k hk e.symm)), fun k hk e => ?_, h.below.trans ⟨hg.os, hg.tape, hg.output, hg.size, fun k hk => hg.block k (by omega) (fun e => by have := (h.all.low e.symm).1; omega)⟩, h.ge⟩
  · rcases hk with hk | hk | hk
    · exact Or.inl (Or.inl hk)
    · exact Or.inl (Or.inr (Or.inl hk))
    · rcases hat with e | e
      · exact Or.inl (Or.inr (Or.inr (by rw [← e]; exact hk)))
      · rw [e] at hk
        have : w.heap.size = k := by simpa using hk
        have h2 := (hr.low (by rw [e, this])).2
        exact Or.inr ⟨by omega, h2⟩
  · rcases hat with e2 | e2
    · exact h.ap k hk (by rw [← e2]; exact e)
    · rw [e2] at e
      have h1 : w.heap.size = k := by simpa using e
      have h2 := (h.l.low hk).2
      omega
/-- A step. -/
theorem HX.step (h : HX W0 G D room hands ts g mk ds av dl lv w) (hg : Good ts) (hw : ∀ i, i < ts.length → 1 ≤ workOf ts i ∧ workOf ts i ≤ 1000) (hr1 : 1 ≤ room) (h16 : room ≤ 16) (h6 : hands ≤ 6) (j pick : Nat) (hj : j < hands) (hp63 : pick < 9223372036854775808) :
    Calls Tryz.prog 8 #[.pointer (some ⟨G, 0, none⟩), .int .i64 j, .int .i64 pick] w fun e w' => ∃ v, e = .returned (.tuple #[v, .nilIface]) ∧ HX W0 G D room hands ts (gstep ts room hands g j pick) mk ds av (gdeeds ts hands g j pick) v w' := by
  refine (h.gx.step hg hw hr1 h16 h6 j pick hj hp63).mono ?_
  rintro e w' ⟨v, rfl, hv, hG, hK⟩
  refine ⟨v, rfl, hG, h.all.of_blocks (fun k hk => hK.block k (Or.inr (Or.inr hk))), h.dn.of_block (hK.block D (Or.inr (Or.inl rfl))), hv.mono h.size, fun k hk e => ?_, h.below.trans ⟨hK.os, hK.tape, hK.output, hK.size, fun k hk => hK.block k (Or.inl hk)⟩, h.ge⟩
  have h1 := (hv.low hk).1
  have h2 := (h.all.low e).2
  omega

/-- What is known of a gang and of what it told. -/
structure PL (ts : List (Int × List Int)) (hands room tot : Nat) (g : Gs) (ord : List Nat) (ds : List Deed) : Prop where
  inv : Inv ts room hands g
  fi : FI ts g ord
  ti : TI hands g (trEnd trNew ds)
  er : trErrs ts hands trNew ds = 0
  ci : CI ts hands g ord ds.length
  rt : ∀ d, d ∈ ds → deedE d = 0
  rm : ∃ R, Rem ts hands g R ∧ sumN R ts.length ≤ tot
def totW (ts : List (Int × List Int)) (n : Nat) : Nat := sumN (fun i => (1 + workOf ts i).toNat) n
theorem PL.new (h1 : 1 ≤ hands) (hw : ∀ i, i < ts.length → 1 ≤ workOf ts i) : PL ts hands room (totW ts ts.length) (gnew ts) [] [] :=
  ⟨Inv.new h1, FI.new ts, TI.new hands ts, rfl, CI.new hands ts, fun d hd => by simp at hd, ⟨_, (Rem.new (hands := hands)).resolve_right (fun h => h hw), Nat.le_refl _⟩⟩
theorem PL.step {tot : Nat} {ord : List Nat} (h : PL ts hands room tot g ord ds) (hg : Good ts) (hw : ∀ i, i < ts.length → 1 ≤ workOf ts i) (hr1 : 1 ≤ room) (h6 : hands ≤ 6) {j : Nat} (hj : j < hands) (pick : Nat) :
    PL ts hands room tot (gstep ts room hands g j pick) (ord ++ finOf (gdeeds ts hands g j pick)) (ds ++ gdeeds ts hands g j pick) := by
  obtain ⟨R, hR, hle⟩ := h.rm
  have hti := h.ti.step h.inv hg hw hr1 hj pick
  refine ⟨h.inv.step hg hw hr1 hj pick, h.fi.step h.inv hj pick, ?_, ?_, ?_, fun d hd => ?_, ?_⟩
  · have e : trEnd trNew (ds ++ gdeeds ts hands g j pick) = trEnd (trEnd trNew ds) (gdeeds ts hands g j pick) := by simp [trEnd]
    rw [e]
    exact hti.2
  · rw [trErrs_append ds _ trNew h.er]
    exact hti.1
  · rw [List.length_append]
    exact h.ci.step h.inv hg hw hj pick
  · rcases List.mem_append.1 hd with hd | hd
    · exact h.rt d hd
    · exact deeds_right h.inv hg h6 hj pick d hd
  · rcases step_dec hR h.inv hw hj pick with ⟨R', h1, h2⟩ | ⟨e, _⟩ | ⟨e, _⟩
    · exact ⟨R', h1, by omega⟩
    · rw [e]; exact ⟨R, hR, hle⟩
    · rw [e]; exact ⟨R, hR.zz _, hle⟩
theorem PL.le {tot : Nat} {ord : List Nat} (h : PL ts hands room tot g ord ds) : ds.length ≤ 4 * ts.length + hands := by
  refine h.ci.le h.fi h.inv ?_
  have hn := h.inv.znd
  have hz := h.inv.zr
  have h2 := Prk.nodup_sub_len hn (m := intsOf (List.range hands)) (fun x hx => by
    obtain ⟨i, hi, rfl, _⟩ := hz x hx
    exact List.mem_map.2 ⟨i, List.mem_range.2 hi, rfl⟩)
  rw [intsOf_length, List.length_range] at h2
  exact h2
end Go.Proofs.YtandhiiaflhenaaGreatDoor

namespace Go.Proofs.YtandhiiaflhenaaGreatDoor
open Go.RowKit Go.Deep

def wrkT (ts : List (Int × List Int)) (n : Nat) : Nat := sumN (fun i => (workOf ts i).toNat) n
theorem wrkT_tot {ts : List (Int × List Int)} (hw : ∀ i, i < ts.length → 1 ≤ workOf ts i) : ∀ n, n ≤ ts.length → totW ts n = wrkT ts n + n := by
  intro n
  induction n with
  | zero => intro _; rfl
  | succ n ih =>
    intro h
    have h1 := ih (by omega)
    have h2 := hw n (by omega)
    unfold totW wrkT at *
    rw [sumN, sumN]
    omega
theorem wrkT_le {ts : List (Int × List Int)} (hw : ∀ i, i < ts.length → workOf ts i ≤ 20) : ∀ n, n ≤ ts.length → wrkT ts n ≤ 20 * n := by
  intro n
  induction n with
  | zero => intro _; exact Nat.le_refl _
  | succ n ih =>
    intro h
    have h1 := ih (by omega)
    have h2 := hw n (by omega)
    unfold wrkT at *
    rw [sumN]
    omega
theorem good_work {ts : List (Int × List Int)} (hc : CheckIs ts 0 0) : ∀ i, i < ts.length → 1 ≤ workOf ts i ∧ workOf ts i ≤ 20 := fun i hi => by
  have h2 := (hc.ok rfl).2.2.1 i hi
  unfold errOf taskErr at h2
  have h3 : ¬ ((ts.getD i (0, [])).1 < 1 ∨ 20 < (ts.getD i (0, [])).1) := fun e => by rw [if_pos e] at h2; omega
  unfold workOf
  omega
set_option maxRecDepth 100000 in
set_option maxHeartbeats 2000000 in
theorem dWork_any (v : Value) (ts : List (Int × List Int)) (w : World) (hp : PlanAt w v ts) (hc : CheckIs ts 0 0) :
    Calls Tryz.prog 7 #[v] w fun e w' => e = .returned (.tuple #[.int .i64 (wrkT ts ts.length : Int), .nilIface]) ∧ Below w.heap.size w w' := by
  have hck : Calls Tryz.prog 27 #[v] w fun e w' => e = .returned (.tuple #[.int .i64 0, .nilIface]) ∧ Below w.heap.size w w' := (check_any v ts w hp).mono (by
    rintro e w' ⟨⟨p, q, rfl, h2⟩, hb⟩
    obtain ⟨rfl, rfl⟩ := h2.det hc
    exact ⟨rfl, hb⟩)
  have h30 := hc.good.le
  have HW : Hid (∀ i, i < ts.length → 1 ≤ workOf ts i ∧ workOf ts i ≤ 20) := good_work hc
  have HL : Hid (∀ k, k ≤ ts.length → wrkT ts k ≤ 600) := fun k hk => by
    have := wrkT_le (fun i hi => (good_work hc i hi).2) k hk
    omega
  have HP : Hid (PlanAt w v ts) := hp
  obtain ⟨_, a, c, rfl, _⟩ := hp
  clear hc
  go_enter Tryz.func7, Tryz.ntmps7
  go_wp2_with (first | (go_at_call 27; refine hck.mono ?_; clear hck; rintro e w1 ⟨rfl, hb1⟩; have HB1 : Hid (Below w.heap.size w w1) := hb1; clear hb1))
  go_loopw [6, 19] (fun s6 s19 wr => ∃ k : Nat, k ≤ ts.length ∧ s6 = .int .i64 (wrkT ts k : Nat) ∧ s19 = .int .i64 k ∧ Hid (Below w.heap.size w wr)) (fun _ s19 _ => ts.length - (intOf s19).toNat)
  case atStart => exact ⟨0, Nat.zero_le _, rfl, rfl, HB1⟩
  case round =>
    clear HB1
    obtain ⟨k, hk, rfl, rfl, hb⟩ := hrel
    by_cases hkn : k < ts.length
    · obtain ⟨_, a2, c2, hv, hcc⟩ := HP.out.later hb.out
      simp only [Value.slice.injEq, true_and] at hv
      obtain ⟨rfl, rfl⟩ := hv
      rcases hcc with h0 | ⟨b, o, rfl, hbl, hcc⟩
      · rw [h0] at hkn; simp at hkn
      obtain ⟨hc1, nv, hc2, _, na, nc, rfl, _⟩ := hcc k hkn
      have hwk := HW.out k hkn
      have hs1 := HL.out k hk
      have HSS : Hid (wrkT ts (k + 1) = wrkT ts k + (workOf ts k).toNat) := rfl
      have e1 : (ts.getD k (0, [])).1 = ((workOf ts k).toNat : Int) := by
        have : (ts.getD k (0, [])).1 = workOf ts k := rfl
        omega
      rw [e1] at hc1
      have hx20 : (workOf ts k).toNat ≤ 20 := by omega
      clear hcc e1 hwk
      generalize wrkT ts k = sk at *
      generalize (workOf ts k).toNat = x at *
      generalize (needsOf ts k).length = nl at *
      have HB2 : Hid (Below w.heap.size w (wr.alloc (.cells #[.int .i64 (x : Int), .slice na nl nc] 54))) := hb.out.alloc hb.out.size _
      go_wp2
      go_roundw
      case rel => exact ⟨k + 1, by omega, by rw [HSS.out]; go_num, by go_num, HB2⟩
      case measure => simp [intOf]; omega
    · have hke : k = ts.length := by omega
      subst hke
      go_wp2
      go_ret2
      exact ⟨rfl, hb.out⟩
/-- A plan of one task. -/
theorem one_plan (w : World) : PlanAt (w.alloc (.cells #[.int .i64 1, .slice none 0 0] 54)) (.slice (some ⟨w.heap.size, 0, none⟩) 1 1) [(1, [])] := by
  refine ⟨by simp, _, 1, rfl, Or.inr ⟨w.heap.size, 0, rfl, by simp, fun k hk => ?_⟩⟩
  obtain rfl : k = 0 := by simpa using hk
  have hb : (w.alloc (.cells #[.int .i64 1, .slice none 0 0] 54)).heap[w.heap.size]? = some (.cells #[.int .i64 1, .slice none 0 0] 54 (0, 0)) := blk_alloc_new w _
  have h0 : ∀ j, (w.alloc (.cells #[.int .i64 1, .slice none 0 0] 54)).cell? ⟨w.heap.size, j, none⟩ = (#[Value.int .i64 1, Value.slice none 0 0] : Array Value)[j]? := fun j => by
    unfold World.cell?
    dsimp only
    rw [hb]
    rfl
  refine ⟨h0 _, .slice none 0 0, h0 _, by simp [needsOf], none, 0, by simp [needsOf], Or.inl (by simp [needsOf])⟩
theorem one_check : CheckIs [((1 : Int), ([] : List Int))] 0 0 := by
  refine CheckIs.none (by simp) (fun j hj => ?_) (fun j _ hr => ?_)
  · obtain rfl : j = 0 := by simpa using hj
    decide
  · refine Reach.ind (motive := fun y _ => False) (fun h => ?_) (fun _ _ ih => ih) hr
    unfold Need needsOf at h
    cases j with
    | zero => simp at h
    | succ j => simp at h
def oneT1 : List (Int × List Int) := [(1, [])]
def one1 : Gs := gstep oneT1 1 1 (gnew oneT1) 0 0
theorem one_deeds : gdeeds oneT1 1 (gnew oneT1) 0 0 = [(3, 0, 0, 0)] ∧ gdeeds oneT1 1 one1 0 0 = [(4, 0, 0, 0)] ∧ unseen (gnew oneT1).S 1 = 1 ∧ unseen (gstep oneT1 1 1 one1 0 0).S 1 = 0 := by decide +kernel
end Go.Proofs.YtandhiiaflhenaaGreatDoor
