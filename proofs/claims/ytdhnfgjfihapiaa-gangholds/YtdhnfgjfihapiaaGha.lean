/- A gang beside other things: which blocks are not its own. -/
import Derived.Test.YtdhnfgjfihapiaaPgk
import Derived.Test.YtdhnfgjfihapiaaGngh
import Derived.Test.YtdhnfgjfihapiaaV
namespace Go.Proofs.Ytdhnfgjfihapiaa
open Go.RowKit Go.Deep

theorem least (P : Nat → Prop) : ∀ n, P n → ∃ k, P k ∧ ∀ j, j < k → ¬ P j := by
  intro n
  induction n using Nat.strongRecOn with
  | _ n ih =>
    intro hn
    by_cases h : ∃ j, j < n ∧ P j
    · obtain ⟨j, hj, hp⟩ := h
      exact ih j hj hp
    · exact ⟨n, hn, fun j hj hp => h ⟨j, hj, hp⟩⟩
theorem check_exists (ts : List (Int × List Int)) : ∃ p q, CheckIs ts p q := by
  by_cases h30 : 30 < ts.length
  · exact ⟨_, _, CheckIs.full h30⟩
  by_cases he : ∃ k, k < ts.length ∧ errOf ts k ≠ 0
  · obtain ⟨k0, h0⟩ := he
    obtain ⟨k, ⟨h1, h2⟩, h3⟩ := least (fun k => k < ts.length ∧ errOf ts k ≠ 0) k0 h0
    refine ⟨_, _, CheckIs.task k (by omega) h1 (fun j hj => ?_) h2⟩
    by_cases e : errOf ts j = 0
    · exact e
    · exact absurd ⟨by omega, e⟩ (h3 j hj)
  have hall : ∀ j, j < ts.length → errOf ts j = 0 := fun j hj => by
    by_cases e : errOf ts j = 0
    · exact e
    · exact absurd ⟨j, hj, e⟩ he
  by_cases hr : ∃ k, k < ts.length ∧ Reach ts k k
  · obtain ⟨k0, h0⟩ := hr
    obtain ⟨k, ⟨h1, h2⟩, h3⟩ := least (fun k => k < ts.length ∧ Reach ts k k) k0 h0
    exact ⟨_, _, CheckIs.ring k (by omega) hall h1 (fun j hj e => h3 j hj ⟨by omega, e⟩) h2⟩
  · exact ⟨_, _, CheckIs.none (by omega) hall (fun j hj e => hr ⟨j, hj, e⟩)⟩
theorem below_kx {X : Nat → Prop} {w w' : World} (h : Below w.heap.size w w') : Kx X w w' := ⟨h.os, h.tape, h.output, h.size, fun k hk _ => h.block k hk⟩
/-- A block of deeds. -/
def DeedB (w : World) (k : Nat) : Prop := ∃ cur fr, w.heap[k]? = some (.cells cur 38 fr)
theorem RowD.deedB {b : Nat} {w : World} {v : Value} {l : List Deed} (h : RowD b w v l) {k : Nat} (hk : v.ownBlock = some k) : DeedB w k := by
  rcases h.2 with ⟨rfl, _⟩ | ⟨g, cap, cur, rfl, _, hh, _⟩
  · cases hk
  · have : g = k := by simpa [Value.ownBlock] using hk
    subst this
    exact ⟨cur, _, hh⟩
theorem rowIs_ne {w : World} {b n k : Nat} {t : TypeId} {f : Nat → Value} (h : w.rowIs b t n f) (hk : DeedB w k) (ht : t ≠ 38) : b ≠ k := by
  intro e
  subst e
  obtain ⟨c, h1, _⟩ := h
  obtain ⟨cur, fr, h2⟩ := hk
  rw [h1] at h2
  simp at h2
  exact ht h2.2.1
theorem cells_ne {w : World} {b k : Nat} {t : TypeId} {c : Array Value} {fr : Nat × Nat} (h : w.heap[b]? = some (.cells c t fr)) (hk : DeedB w k) (ht : t ≠ 38) : b ≠ k := by
  intro e
  subst e
  obtain ⟨cur, fr, h2⟩ := hk
  rw [h] at h2
  simp at h2
  exact ht h2.2.1
theorem ints_ne {w : World} {b k j : Nat} {v : Value} {zs : List Int} (h : w.ownsRow b 3 1 v zs.length (zs.map (Value.int .i64))) (hk : DeedB w k) (hv : v.ownBlock = some j) : j ≠ k := by
  rcases h.2 with ⟨rfl, _⟩ | ⟨g, cap, cur, rfl, _, hh, _⟩
  · cases hv
  · have : g = j := by simpa [Value.ownBlock] using hv
    subst this
    exact cells_ne hh hk (by decide)
theorem map_ne {w : World} {b k : Nat} {es : Array _} {c : Nat} (h : w.heap[b]? = some (.map es c)) (hk : DeedB w k) : b ≠ k := by
  intro e
  subst e
  obtain ⟨cur, fr, h2⟩ := hk
  rw [h] at h2
  cases h2
variable {B : Bs} {G room hands : Nat} {ts : List (Int × List Int)} {g : Gs} {wk : Nat → Int} {own : Nat → Nat} {Q : Qp} {w w' : World}
/-- No block of deeds is the gang's. -/
theorem Pg.deedB (h : Pg B G room hands ts g wk own Q w) {k : Nat} (hk : DeedB w k) : Pg B G room hands ts g wk (upd own k 9) Q w := by
  have hjn : Jn Q.J Q.M Q.A Q.D Q.C ts.length _ _ _ w := h.jn
  obtain ⟨av, haf⟩ := hjn.aft
  obtain ⟨m, D, ⟨es, clock, hmb, _⟩, _⟩ := hjn.done
  obtain ⟨m2, D2, ⟨es2, clock2, hmb2, _⟩, _⟩ := h.has
  exact { h with
    lG := by rw [upd_ne _ _ (rowIs_ne h.row hk (by decide))]; exact h.lG
    lJ := by
      rw [upd_ne _ _ (rowIs_ne hjn.row hk (by decide)), upd_ne _ _ (rowIs_ne hjn.miss hk (by decide)), upd_ne _ _ (rowIs_ne haf.row hk (by decide)), upd_ne _ _ (map_ne hmb hk)]
      exact h.lJ
    lA := fun i v b hi hv hb => by
      obtain ⟨h1, h2⟩ := h.lA i v b hi hv hb
      have hc := haf.row.cell hi
      rw [hv] at hc
      have he : v = av i := Option.some.inj hc
      refine ⟨h1, ?_⟩
      rw [upd_ne _ _ (ints_ne (haf.own i hi) hk (by rw [← he]; exact hb))]
      exact h2
    lS := ⟨by rw [upd_ne _ _ (cells_ne h.sp.cells hk (by decide))]; exact h.lS.1, fun j hj => by rw [upd_ne _ _ (ints_ne h.sp.row hk hj)]; exact h.lS.2 j hj⟩
    lK := ⟨by rw [upd_ne _ _ (cells_ne h.pk.cells hk (by decide))]; exact h.lK.1, fun j hj => by rw [upd_ne _ _ (ints_ne h.pk.row hk hj)]; exact h.lK.2 j hj⟩
    lHB := by rw [upd_ne _ _ (rowIs_ne h.hrow hk (by decide))]; exact h.lHB
    lH := fun j hj => by
      obtain ⟨gg, f, hrg⟩ := (h.hand j hj).ring
      rw [upd_ne _ _ (rowIs_ne (h.hand j hj).row hk (by decide)), upd_ne _ _ (rowIs_ne hrg.row hk (by decide))]
      exact h.lH j hj
    lM := by rw [upd_ne _ _ (map_ne hmb2 hk)]; exact h.lM
    lW := by rw [upd_ne _ _ (rowIs_ne h.wrow hk (by decide))]; exact h.lW
    far := fun j hj => by
      obtain ⟨h1, h2, h3⟩ := h.far j hj
      refine ⟨h1, ?_, h3⟩
      by_cases e : j = k
      · subst e; exact upd_self _ _ _
      · rw [upd_ne _ _ e]; exact h2 }

/-- A gang; the blocks of X are not its own. -/
def GX (X : Nat → Prop) (G room hands : Nat) (ts : List (Int × List Int)) (g : Gs) (w : World) : Prop :=
  ∃ B own Q wk, Pg B G room hands ts g wk own Q w ∧ WkOk ts hands g wk ∧ Inv ts room hands g ∧ ∀ k, X k → k < w.heap.size ∧ own k = 9
variable {X Y : Nat → Prop}
theorem GX.sub (h : GX X G room hands ts g w) (hs : ∀ k, Y k → X k) : GX Y G room hands ts g w := by
  obtain ⟨B, own, Q, wk, hP, hK, hI, hX⟩ := h
  exact ⟨B, own, Q, wk, hP, hK, hI, fun k hk => hX k (hs k hk)⟩
theorem GX.inv (h : GX X G room hands ts g w) : Inv ts room hands g := by
  obtain ⟨B, own, Q, wk, hP, hK, hI, hX⟩ := h
  exact hI
theorem GX.lt (h : GX X G room hands ts g w) {k : Nat} (hk : X k) : k < w.heap.size := by
  obtain ⟨B, own, Q, wk, hP, hK, hI, hX⟩ := h
  exact (hX k hk).1
/-- Other things may change, and new ones come. -/
theorem GX.away (h : GX X G room hands ts g w) (K : Kx X w w') : GX (fun k => X k ∨ (w.heap.size ≤ k ∧ k < w'.heap.size)) G room hands ts g w' := by
  obtain ⟨B, own, Q, wk, hP, hK, hI, hX⟩ := h
  refine ⟨_, _, Q, wk, hP.away ⟨K.os, K.tape, K.output, K.size, fun k hk hC => K.block k hk (fun e => hC (hX k e).2)⟩, hK, hI, fun k hk => ?_⟩
  rcases hk with hk | ⟨h1, h2⟩
  · have := hX k hk
    exact ⟨Nat.lt_of_lt_of_le this.1 K.size, by rw [relabel_lt this.1]; exact this.2⟩
  · exact ⟨h2, relabel_ge h1⟩
theorem GX.later (h : GX X G room hands ts g w) (hb : Below w.heap.size w w') : GX X G room hands ts g w' := (h.away (below_kx hb)).sub (fun _ hk => Or.inl hk)
/-- A block of deeds is not its own. -/
theorem GX.deeds (h : GX X G room hands ts g w) {k : Nat} (hk : DeedB w k) : GX (fun j => X j ∨ j = k) G room hands ts g w := by
  obtain ⟨B, own, Q, wk, hP, hK, hI, hX⟩ := h
  refine ⟨B, _, Q, wk, hP.deedB hk, hK, hI, fun j hj => ?_⟩
  have hlt : k < w.heap.size := by
    obtain ⟨cur, fr, h2⟩ := hk
    exact lt_of_block h2
  by_cases e : j = k
  · subst e; exact ⟨hlt, upd_self _ _ _⟩
  · rw [upd_ne _ _ e]
    rcases hj with hj | hj
    · exact hX j hj
    · exact absurd hj e
/-- What a step keeps. -/
structure KeptX (X : Nat → Prop) (w w' : World) : Prop where
  os : w'.os = w.os
  tape : w'.tape = w.tape
  output : w'.output = w.output
  size : w.heap.size ≤ w'.heap.size
  block : ∀ k, X k → w'.heap[k]? = w.heap[k]?
theorem GX.step (h : GX X G room hands ts g w) (hg : Good ts) (hw : ∀ i, i < ts.length → 1 ≤ workOf ts i ∧ workOf ts i ≤ 1000) (hr1 : 1 ≤ room) (h16 : room ≤ 16) (h6 : hands ≤ 6) (j pick : Nat) (hj : j < hands) (hp63 : pick < 9223372036854775808) :
    Calls Try.prog 6 #[.pointer (some ⟨G, 0, none⟩), .int .i64 j, .int .i64 pick] w fun e w' => ∃ v, e = .returned (.tuple #[v, .nilIface]) ∧ RowD w.heap.size w' v (gdeeds ts hands g j pick) ∧ GX X G room hands ts (gstep ts room hands g j pick) w' ∧ KeptX X w w' := by
  obtain ⟨B, own, Q, wk, hP, hK, hI, hX⟩ := h
  refine (step_any hP hI hK hg hw hr1 h16 h6 j pick hj hp63).mono ?_
  rintro e w' ⟨v, rfl, hv, B', own', Q', wk', hP', hK', hW⟩
  exact ⟨v, rfl, hv, ⟨B', own', Q', wk', hP', hK', hI.step hg (fun i hi => (hw i hi).1) hr1 hj pick, fun k hk => ⟨Nat.lt_of_lt_of_le (hX k hk).1 hW.size, (hW.block k (hX k hk).1 (hX k hk).2).2⟩⟩, hW.os, hW.tape, hW.output, hW.size, fun k hk => (hW.block k (hX k hk).1 (hX k hk).2).1⟩
theorem GX.refused (h : GX X G room hands ts g w) (x y : Int) (hno : x < 0 ∨ (hands : Int) ≤ x ∨ y < 0) :
    Calls Try.prog 6 #[.pointer (some ⟨G, 0, none⟩), .int .i64 x, .int .i64 y] w fun e w' => e = .returned (.tuple #[.slice none 0 0, .iface 67 (.int .i64 1)]) ∧ w' = w := by
  obtain ⟨B, own, Q, wk, hP, hK, hI, hX⟩ := h
  by_cases hr : x < 0 ∨ (hands : Int) ≤ x
  · exact step_range hP x y hr
  · obtain ⟨j, rfl⟩ : ∃ j : Nat, x = j := ⟨x.toNat, by omega⟩
    exact step_pick hP j y (by omega) (by omega)
theorem GX.held (h : GX X G room hands ts g w) :
    Calls Try.prog 7 #[.pointer (some ⟨G, 0, none⟩)] w fun e w' => (∃ v, e = .returned v ∧ RowI w.heap.size w' v (intsOf (readyTo ts g.S ts.length))) ∧ Below w.heap.size w w' := by
  obtain ⟨B, own, Q, wk, hP, hK, hI, hX⟩ := h
  exact held_any hP
theorem gLeft_any (hP : Pg B G room hands ts g wk own Q w) :
    Calls Try.prog 5 #[.pointer (some ⟨G, 0, none⟩)] w fun e w' => e = .returned (.int .i64 (unseen g.S ts.length)) ∧ ∃ q, w' = w.drewN q := by
  have c0 := hP.c.1
  have hl := left_any Q.J Q.M Q.A Q.D Q.C ts g.S w hP.jn
  clear hP
  go_enter Try.func5, Try.ntmps5
  go_wp2_with (first | (go_at_call 19; refine hl.mono ?_; clear hl; rintro e w1 ⟨rfl, q, rfl⟩))
  go_ret
  exact ⟨rfl, _, rfl⟩
theorem GX.left (h : GX X G room hands ts g w) :
    Calls Try.prog 5 #[.pointer (some ⟨G, 0, none⟩)] w fun e w' => e = .returned (.int .i64 (unseen g.S ts.length)) ∧ Below w.heap.size w w' := by
  obtain ⟨B, own, Q, wk, hP, hK, hI, hX⟩ := h
  refine (gLeft_any hP).mono ?_
  rintro e w' ⟨rfl, q, rfl⟩
  exact ⟨rfl, rfl, rfl, rfl, Nat.le_refl _, fun _ _ => rfl⟩
theorem gx_new {v : Value} (hp : PlanAt w v ts) (hc : CheckIs ts 0 0) (h1 : 1 ≤ hands) (h6 : hands ≤ 6) (r1 : 1 ≤ room) (r16 : room ≤ 16) :
    Calls Try.prog 4 #[v, .int .i64 hands, .int .i64 room] w fun e w' => ∃ G, e = .returned (.tuple #[.pointer (some ⟨G, 0, none⟩), .nilIface]) ∧ GX (fun k => k < w.heap.size) G room hands ts (gnew ts) w' ∧ Below w.heap.size w w' := by
  refine (gNew_good v ts w hp hc hands room h1 h6 r1 r16).mono ?_
  rintro e w' ⟨G, own, Q, rfl, hP, hG, hb⟩
  exact ⟨G, rfl, ⟨_, own, Q, _, hP, WkOk.new ts hands, Inv.new h1, fun k hk => ⟨by have hk' : k < w.heap.size := hk; have := hb.size; omega, (hP.far k hk).2.1⟩⟩, hb⟩
/-- New is refused: by what is wrong with the plan, or the hands, or the room. -/
theorem gNew_no (v : Value) (ts : List (Int × List Int)) (w : World) (hp : PlanAt w v ts) (hands room : Int) (hno : ¬ (CheckIs ts 0 0 ∧ 1 ≤ hands ∧ hands ≤ 6 ∧ 1 ≤ room ∧ room ≤ 16)) :
    Calls Try.prog 4 #[v, .int .i64 hands, .int .i64 room] w fun e w' => (∃ q : Int, e = .returned (.tuple #[.pointer none, .iface 67 (.int .i64 q)])) ∧ Below w.heap.size w w' := by
  by_cases hc : CheckIs ts 0 0
  · by_cases hh : hands < 1 ∨ 6 < hands
    · have hjn := new_good v ts w hp hc
      have HPK : Hid (∀ w1, Calls Try.prog 13 #[.int .i64 hands] w1 fun e w' => e = .returned (.tuple #[.pointer none, .iface 67 (.int .i64 1)]) ∧ w' = w1) := fun w1 => Prk.New_bad hands w1 hh
      obtain ⟨pa, pc, rfl⟩ : ∃ a c, v = .slice a ts.length c := by obtain ⟨hl, a, c, hv, -⟩ := hp; exact ⟨a, c, hv⟩
      clear hp hc hh hno
      go_enter Try.func4, Try.ntmps4
      go_wp2_with (first | (go_at_call 12; refine hjn.mono ?_; clear hjn; rintro e w1 ⟨J, M, A, D, C, rfl, -, -, hb1⟩; have hpk := HPK.out w1; clear HPK) | (go_at_call 13; refine hpk.mono ?_; clear hpk; rintro e w1 ⟨rfl, rfl⟩))
      go_ret2
      exact ⟨⟨1, rfl⟩, hb1⟩
    · obtain ⟨hn, rfl⟩ : ∃ hn : Nat, hands = hn := ⟨hands.toNat, by omega⟩
      have hr : room < 1 ∨ 16 < room := by
        apply Classical.byContradiction
        intro hc2
        exact hno ⟨hc, by omega, by omega, by omega, by omega⟩
      have hjn := new_good v ts w hp hc
      have HPK : Hid (∀ w1, Calls Try.prog 13 #[.int .i64 hn] w1 fun e w' => e = .returned (.tuple #[.pointer (some ⟨w1.heap.size, 0, none⟩), .nilIface]) ∧ Prk.Pk w1.heap.size hn [] (.slice none 0 0) w' ∧ Below w1.heap.size w1 w') := fun w1 => Prk.New_good hn w1 (by omega) (by omega)
      have HSP : Hid (∀ w1, Calls Try.prog 14 #[.int .i64 room] w1 fun e w' => e = .returned (.tuple #[.pointer none, .iface 67 (.int .i64 1)]) ∧ w' = w1) := fun w1 => Spl.New_bad room w1 hr
      obtain ⟨pa, pc, rfl⟩ : ∃ a c, v = .slice a ts.length c := by obtain ⟨hl, a, c, hv, -⟩ := hp; exact ⟨a, c, hv⟩
      clear hp hc hr hno hh
      go_enter Try.func4, Try.ntmps4
      go_wp2_with (first | (go_at_call 12; refine hjn.mono ?_; clear hjn; rintro e w1 ⟨J, M, A, D, C, rfl, -, -, hb1⟩; have hpk := HPK.out w1; clear HPK) | (go_at_call 13; refine hpk.mono ?_; clear hpk; rintro e w2 ⟨rfl, -, hb2⟩; have hsp := HSP.out w2; clear HSP) | (go_at_call 14; refine hsp.mono ?_; clear hsp; rintro e w2 ⟨rfl, rfl⟩))
      go_ret2
      exact ⟨⟨1, rfl⟩, hb1.trans (hb2.mono hb1.size)⟩
  · obtain ⟨a, q, hcq⟩ := check_exists ts
    have hq : q ≠ 0 := fun e => by
      have h0 := (hcq.ok e).1
      rw [e, h0] at hcq
      exact hc hcq
    have hjn := new_bad v ts w hp hcq hq
    obtain ⟨pa, pc, rfl⟩ : ∃ a c, v = .slice a ts.length c := by obtain ⟨hl, a, c, hv, -⟩ := hp; exact ⟨a, c, hv⟩
    have e1 : errV q = .iface 67 (.int .i64 q) := by unfold errV; simp [hq]
    rw [e1] at hjn
    clear hp hc hcq e1 hno hq
    go_enter Try.func4, Try.ntmps4
    go_wp2_with (first | (go_at_call 12; refine hjn.mono ?_; clear hjn; rintro e w1 ⟨rfl, hb1⟩))
    go_ret2
    exact ⟨⟨q, rfl⟩, hb1⟩
end Go.Proofs.Ytdhnfgjfihapiaa
