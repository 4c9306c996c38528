/- Both gangs in one memory: what a step of one leaves of the other. -/
import Derived.Test.YtchbncgifefegaaDoorPgl
import Derived.Test.YtchbncgifefegaaDoorDgm
namespace Go.Proofs.YtchbncgifefegaaDoor
open Go.RowKit Go.Deep

/-- The program's gang G and the document's gang M, apart from each other, and from the blocks of F, which are as in W1; what is new since nP is not the program's. -/
def GM (W1 : World) (F : Nat → Prop) (nP : Nat) (W0 : World) (G M room hands : Nat) (ts : List (Int × List Int)) (p : Value) (gP gD : Gs) (w : World) : Prop :=
  ∃ BP ownP Q wk BD ownD, Pg BP G room hands ts gP wk ownP Q w ∧ WkOk ts hands gP wk ∧ DgO ownD M room hands ts p gD BD W0 w ∧ (∀ k, k < w.heap.size → ownP k = 9 ∨ ownD k = 9)
    ∧ (∀ k, F k → k < w.heap.size ∧ ownP k = 9 ∧ ownD k = 9 ∧ w.heap[k]? = W1.heap[k]?) ∧ (∀ k, nP ≤ k → k < w.heap.size → ownP k = 9)
    ∧ Inv ts room hands gP ∧ Inv ts room hands gD ∧ (∀ k, k < W0.heap.size → F k) ∧ Below W0.heap.size W0 w
variable {W1 W0 : World} {F : Nat → Prop} {nP G M room hands : Nat} {ts : List (Int × List Int)} {p : Value} {gP gD g : Gs} {w w' : World}
theorem GM.below (h : GM W1 F nP W0 G M room hands ts p gP gD w) : Below W0.heap.size W0 w := by
  obtain ⟨BP, ownP, Q, wk, BD, ownD, hP, hK, hD, hap, hF, hn, iP, iD, hl, hb⟩ := h
  exact hb
theorem GM.far (h : GM W1 F nP W0 G M room hands ts p gP gD w) {k : Nat} (hk : F k) : w.heap[k]? = W1.heap[k]? := by
  obtain ⟨BP, ownP, Q, wk, BD, ownD, hP, hK, hD, hap, hF, hn, iP, iD, hl, hb⟩ := h
  exact (hF k hk).2.2.2
theorem GM.later (h : GM W1 F nP W0 G M room hands ts p gP gD w) (hb : Below w.heap.size w w') : GM W1 F nP W0 G M room hands ts p gP gD w' := by
  obtain ⟨BP, ownP, Q, wk, BD, ownD, hP, hK, hD, hap, hF, hn, iP, iD, hl, hb0⟩ := h
  have hs := hb.size
  refine ⟨BP, _, Q, wk, BD, _, hP.later0 (Kc.of_below hb), hK, hD.later hb, fun k hk => ?_, fun k hk => ?_, fun k h1 h2 => ?_, iP, iD, hl, hb0.trans (hb.mono hb0.size)⟩
  · by_cases e : k < w.heap.size
    · rw [relabel_lt e, relabel_lt e]; exact hap k e
    · exact Or.inl (relabel_ge (by omega))
  · obtain ⟨f1, f2, f3, f4⟩ := hF k hk
    exact ⟨by omega, by rw [relabel_lt f1]; exact f2, by rw [relabel_lt f1]; exact f3, (hb.block k f1).trans f4⟩
  · by_cases e : k < w.heap.size
    · rw [relabel_lt e]; exact hn k h1 e
    · exact relabel_ge (by omega)
/-- A block more is kept. -/
theorem GM.more (h : GM W1 F nP W0 G M room hands ts p gP gD w) (hb : Below w.heap.size w w') {V : Nat} (h1 : w.heap.size ≤ V) (h2 : V < w'.heap.size) : GM w' (fun k => k < W0.heap.size ∨ k = V) nP W0 G M room hands ts p gP gD w' := by
  obtain ⟨BP, ownP, Q, wk, BD, ownD, hP, hK, hD, hap, hF, hn, iP, iD, hl, hb0⟩ := h
  have hs := hb.size
  have hs0 := hb0.size
  refine ⟨BP, _, Q, wk, BD, _, hP.later0 (Kc.of_below hb), hK, hD.later hb, fun k hk => ?_, fun k hk => ?_, fun k h1 h2 => ?_, iP, iD, fun k hk => Or.inl hk, hb0.trans (hb.mono hb0.size)⟩
  · by_cases e : k < w.heap.size
    · rw [relabel_lt e, relabel_lt e]; exact hap k e
    · exact Or.inl (relabel_ge (by omega))
  · rcases hk with hk | rfl
    · obtain ⟨f1, f2, f3, f4⟩ := hF k (hl k hk)
      exact ⟨by omega, by rw [relabel_lt f1]; exact f2, by rw [relabel_lt f1]; exact f3, rfl⟩
    · exact ⟨h2, relabel_ge h1, relabel_ge h1, rfl⟩
  · by_cases e : k < w.heap.size
    · rw [relabel_lt e]; exact hn k h1 e
    · exact relabel_ge (by omega)
/-- Again what was at first. -/
theorem GM.less (h : GM W1 F nP W0 G M room hands ts p gP gD w) : GM W0 (fun k => k < W0.heap.size) w.heap.size W0 G M room hands ts p gP gD w := by
  obtain ⟨BP, ownP, Q, wk, BD, ownD, hP, hK, hD, hap, hF, hn, iP, iD, hl, hb0⟩ := h
  have hs0 := hb0.size
  exact ⟨BP, ownP, Q, wk, BD, ownD, hP, hK, hD, hap, fun k hk => ⟨by have hk' : k < W0.heap.size := hk; omega, (hF k (hl k hk)).2.1, (hF k (hl k hk)).2.2.1, hb0.block k hk⟩, fun k h1 h2 => by omega, iP, iD, fun k hk => hk, hb0⟩
theorem GM.dstep (h : GM W1 F nP W0 G M room hands ts p g g w) (hg : Good ts) (hw : ∀ i, i < ts.length → 1 ≤ workOf ts i ∧ workOf ts i ≤ 100) (hr1 : 1 ≤ room) (h16 : room ≤ 16) (h6 : hands ≤ 6) (j pick : Nat) (hj : j < hands) (hp63 : pick < 9223372036854775808) :
    Calls Tryd.prog 8 #[.pointer (some ⟨M, 0, none⟩), .int .i64 j, .int .i64 pick] w fun e w' => ∃ v, e = .returned v ∧ RowD w.heap.size w' v (gdeeds ts hands g j pick) ∧ GM W1 F w.heap.size W0 G M room hands ts p g (gstep ts room hands g j pick) w' := by
  obtain ⟨BP, ownP, Q, wk, BD, ownD, hP, hK, hD, hap, hF, hn, iP, iD, hl, hb0⟩ := h
  refine (dStep_any hD iD hg hw hr1 h16 h6 j pick hj hp63).mono ?_
  rintro e w' ⟨v, rfl, hv, ownD', BD', hD', hW⟩
  have hs := hW.size
  have hs0 := hb0.size
  have K : Kc ownP (fun c => c = 9) w w' := ⟨hW.os, hW.tape, hW.output, hW.size, fun k hk hC => (hW.block k hk ((hap k hk).resolve_left hC)).1⟩
  refine ⟨v, rfl, hv, _, _, Q, wk, BD', ownD', hP.away K, hK, hD', fun k hk => ?_, fun k hk => ?_, fun k h1 h2 => relabel_ge h1, iP, iD.step hg (fun i hi => (hw i hi).1) hr1 hj pick, hl, ?_⟩
  · by_cases e : k < w.heap.size
    · rcases hap k e with h1 | h1
      · exact Or.inl (by rw [relabel_lt e]; exact h1)
      · exact Or.inr (hW.block k e h1).2
    · exact Or.inl (relabel_ge (by omega))
  · obtain ⟨f1, f2, f3, f4⟩ := hF k hk
    exact ⟨by omega, by rw [relabel_lt f1]; exact f2, (hW.block k f1 f3).2, (hW.block k f1 f3).1.trans f4⟩
  · exact ⟨hW.os.trans hb0.os, hW.tape.trans hb0.tape, hW.output.trans hb0.output, by omega, fun k hk => (hW.block k (by omega) (hF k (hl k hk)).2.2.1).1.trans (hb0.block k hk)⟩
theorem GM.pstep (h : GM W1 F nP W0 G M room hands ts p g gD w) (hg : Good ts) (hw : ∀ i, i < ts.length → 1 ≤ workOf ts i ∧ workOf ts i ≤ 100) (hr1 : 1 ≤ room) (h16 : room ≤ 16) (h6 : hands ≤ 6) (j pick : Nat) (hj : j < hands) (hp63 : pick < 9223372036854775808) :
    Calls Tryd.prog 9 #[.pointer (some ⟨G, 0, none⟩), .int .i64 j, .int .i64 pick] w fun e w' => ∃ v, e = .returned (.tuple #[v, .nilIface]) ∧ RowD w.heap.size w' v (gdeeds ts hands g j pick) ∧ GM W1 F w'.heap.size W0 G M room hands ts p (gstep ts room hands g j pick) gD w' ∧ (∀ k, nP ≤ k → k < w.heap.size → w'.heap[k]? = w.heap[k]?) ∧ w.heap.size ≤ w'.heap.size := by
  obtain ⟨BP, ownP, Q, wk, BD, ownD, hP, hK, hD, hap, hF, hn, iP, iD, hl, hb0⟩ := h
  refine (step_any hP iP hK hg (fun i hi => ⟨(hw i hi).1, by have := (hw i hi).2; omega⟩) hr1 h16 h6 j pick hj hp63).mono ?_
  rintro e w' ⟨v, rfl, hv, BP', ownP', Q', wk', hP', hK', hW⟩
  have hs := hW.size
  have hs0 := hb0.size
  have K : Kc ownD (fun c => c = 9) w w' := ⟨hW.os, hW.tape, hW.output, hW.size, fun k hk hC => (hW.block k hk ((hap k hk).resolve_right hC)).1⟩
  have hb1 : Below W0.heap.size W0 w' := ⟨hW.os.trans hb0.os, hW.tape.trans hb0.tape, hW.output.trans hb0.output, by omega, fun k hk => (hW.block k (by omega) (hF k (hl k hk)).2.1).1.trans (hb0.block k hk)⟩
  refine ⟨v, rfl, hv, ⟨BP', ownP', Q', wk', _, _, hP', hK', hD.away hb1 K, fun k hk => ?_, fun k hk => ?_, fun k h1 h2 => by omega, iP.step hg (fun i hi => (hw i hi).1) hr1 hj pick, iD, hl, hb1⟩, fun k h1 h2 => (hW.block k h2 (hn k h1 h2)).1, hs⟩
  · by_cases e : k < w.heap.size
    · rcases hap k e with h1 | h1
      · exact Or.inl (hW.block k e h1).2
      · exact Or.inr (by rw [relabel_lt e]; exact h1)
    · exact Or.inr (relabel_ge (by omega))
  · obtain ⟨f1, f2, f3, f4⟩ := hF k hk
    exact ⟨by omega, (hW.block k f1 f2).2, by rw [relabel_lt f1]; exact f3, (hW.block k f1 f2).1.trans f4⟩
theorem held_same (hI : Inv ts room hands g) : heldTo (heldL g hands) ts.length = readyTo ts g.S ts.length := by
  unfold heldTo readyTo
  refine List.filter_congr fun k hk => ?_
  have hk' := List.mem_range.1 hk
  rw [Bool.eq_iff_iff, decide_eq_true_iff, hI.held.mem_iff, mem_intsOf]
  constructor
  · rintro ⟨j, hj, e⟩
    obtain rfl : k = j := by omega
    exact (mem_readyTo.1 hj).2
  · intro hr
    exact ⟨k, mem_readyTo.2 ⟨hk', hr⟩, rfl⟩
/-- What the calls of a round come to: which errors, what is told, what the hand has, and the gang behind it. -/
def SC (ts : List (Int × List Int)) (room hands : Nat) (x y f e : Int) (ds : List Deed) (hv : Int) (gP gD g' : Gs) : Prop :=
  ((x < 0 ∨ (hands : Int) ≤ x) ∧ f = 1 ∧ e = 1 ∧ ds = [] ∧ hv = 0 ∧ gP = g' ∧ gD = g')
  ∨ (∃ h : Nat, h < hands ∧ x = (h : Int) ∧ y < 0 ∧ f = 1 ∧ e = 0 ∧ ds = [] ∧ hv = g'.task h ∧ gP = g' ∧ gD = g')
  ∨ (∃ h pick : Nat, h < hands ∧ pick < 9223372036854775808 ∧ x = (h : Int) ∧ y = (pick : Int) ∧ f = 0 ∧ e = 0 ∧ ds = gdeeds ts hands gP h pick ∧ hv = g'.task h ∧ g' = gstep ts room hands gP h pick ∧ gD = g')
theorem gdeeds_len {h pick : Nat} (hI : Inv ts room hands g) (h6 : hands ≤ 6) : (gdeeds ts hands g h pick).length ≤ 100 := by
  have hz : g.zz.length ≤ 6 := by
    have h1 := Prk.nodup_sub_len (l := g.zz) (m := (List.range hands).map (fun k : Nat => (k : Int))) hI.znd (fun x hx => by
      obtain ⟨k, h1, h2, -⟩ := hI.zr x hx
      exact List.mem_map.2 ⟨k, List.mem_range.2 h1, h2.symm⟩)
    simp at h1
    omega
  unfold gdeeds endsD
  split
  · simp
  split
  · split
    · simp
    · simp only [List.length_cons, List.length_map, List.length_take]
      omega
  split
  · simp
  split
  · simp
  split
  · simp
  split
  · simp
  · simp
theorem GM.play {x y f e hv : Int} {ds : List Deed} {g' : Gs} (h : GM W1 F nP W0 G M room hands ts p gP gD w) (hc : SC ts room hands x y f e ds hv gP gD g') (hg : Good ts) (hw : ∀ i, i < ts.length → 1 ≤ workOf ts i ∧ workOf ts i ≤ 100) (hr1 : 1 ≤ room) (h16 : room ≤ 16) (h6 : hands ≤ 6) :
    Calls Tryd.prog 9 #[.pointer (some ⟨G, 0, none⟩), .int .i64 x, .int .i64 y] w fun en w' => ∃ v, en = .returned (.tuple #[v, errQ f]) ∧ RowD w.heap.size w' v ds ∧ GM W1 F w'.heap.size W0 G M room hands ts p g' g' w' ∧ (∀ k, nP ≤ k → k < w.heap.size → w'.heap[k]? = w.heap[k]?) ∧ w.heap.size ≤ w'.heap.size ∧ ds.length ≤ 100 := by
  rcases hc with ⟨hx, rfl, rfl, rfl, rfl, rfl, rfl⟩ | ⟨j, hj, rfl, hy, rfl, rfl, rfl, rfl, rfl, rfl⟩ | ⟨j, pick, hj, hp, rfl, rfl, rfl, rfl, rfl, rfl, rfl, rfl⟩
  · have h2 := h
    obtain ⟨BP, ownP, Q, wk, BD, ownD, hP, hK, hD, hap, hF, hn, iP, iD, hl, hb0⟩ := h
    refine (step_range hP x y hx).mono ?_
    rintro en w' ⟨rfl, rfl⟩
    refine ⟨_, rfl, RowD.nil _ _, ⟨BP, ownP, Q, wk, BD, ownD, hP, hK, hD, hap, hF, fun k h1 h2 => by omega, iP, iD, hl, hb0⟩, fun k _ _ => rfl, Nat.le_refl _, by simp⟩
  · obtain ⟨BP, ownP, Q, wk, BD, ownD, hP, hK, hD, hap, hF, hn, iP, iD, hl, hb0⟩ := h
    refine (step_pick hP j y hj hy).mono ?_
    rintro en w' ⟨rfl, rfl⟩
    refine ⟨_, rfl, RowD.nil _ _, ⟨BP, ownP, Q, wk, BD, ownD, hP, hK, hD, hap, hF, fun k h1 h2 => by omega, iP, iD, hl, hb0⟩, fun k _ _ => rfl, Nat.le_refl _, by simp⟩
  · have hI : Inv ts room hands gP := by obtain ⟨BP, ownP, Q, wk, BD, ownD, hP, hK, hD, hap, hF, hn, iP, iD, hl, hb0⟩ := h; exact iP
    refine (h.pstep hg hw hr1 h16 h6 j pick hj hp).mono ?_
    rintro en w' ⟨v, rfl, hv, hG, hk, hs⟩
    exact ⟨v, rfl, hv, hG, hk, hs, gdeeds_len hI h6⟩
theorem GM.has {x y f e hv : Int} {ds : List Deed} {g' gP0 gD0 : Gs} (h : GM W1 F nP W0 G M room hands ts p g' g' w) (hc : SC ts room hands x y f e ds hv gP0 gD0 g') (h6 : hands ≤ 6) :
    Calls Tryd.prog 11 #[.pointer (some ⟨G, 0, none⟩), .int .i64 x] w fun en w' => en = .returned (.tuple #[.int .i64 hv, errQ e]) ∧ w' = w := by
  obtain ⟨BP, ownP, Q, wk, BD, ownD, hP, hK, hD, hap, hF, hn, iP, iD, hl, hb0⟩ := h
  rcases hc with ⟨hx, rfl, rfl, rfl, rfl, -, -⟩ | ⟨j, hj, rfl, hy, rfl, rfl, rfl, rfl, -, -⟩ | ⟨j, pick, hj, hp, rfl, rfl, rfl, rfl, rfl, rfl, -, -⟩
  · exact has_range hP x h6 hx
  · exact has_good hP j h6 hj (iP.taskM j hj)
  · exact has_good hP j h6 hj (iP.taskM j hj)
theorem GM.held (h : GM W1 F nP W0 G M room hands ts p gP gD w) :
    Calls Tryd.prog 13 #[.pointer (some ⟨G, 0, none⟩)] w fun e w' => (∃ v, e = .returned v ∧ RowI w.heap.size w' v (intsOf (readyTo ts gP.S ts.length))) ∧ Below w.heap.size w w' := by
  obtain ⟨BP, ownP, Q, wk, BD, ownD, hP, hK, hD, hap, hF, hn, iP, iD, hl, hb0⟩ := h
  exact held_any hP
theorem GM.dheld (h : GM W1 F nP W0 G M room hands ts p gP gD w) (h30 : ts.length ≤ 30) (h6 : hands ≤ 6) (h16 : room ≤ 16) :
    Calls Tryd.prog 14 #[.pointer (some ⟨M, 0, none⟩)] w fun e w' => (∃ v, e = .returned v ∧ RowI w.heap.size w' v (intsOf (readyTo ts gD.S ts.length))) ∧ Below w.heap.size w w' := by
  obtain ⟨BP, ownP, Q, wk, BD, ownD, hP, hK, hD, hap, hF, hn, iP, iD, hl, hb0⟩ := h
  rw [← held_same iD]
  exact dHeld_any M room hands ts p gD BD W0 w hD.e h30 h6 h16 (fun x hx => by obtain ⟨k, h1, h2, -⟩ := iD.rdy hx; exact ⟨k, h1, h2⟩)
theorem GM.left (h : GM W1 F nP W0 G M room hands ts p gP gD w) :
    Calls Tryd.prog 15 #[.pointer (some ⟨G, 0, none⟩)] w fun e w' => e = .returned (.int .i64 (unseen gP.S ts.length)) ∧ ∃ q, w' = w.drewN q := by
  obtain ⟨BP, ownP, Q, wk, BD, ownD, hP, hK, hD, hap, hF, hn, iP, iD, hl, hb0⟩ := h
  exact gLeft_any hP
theorem GM.dleft (h : GM W1 F nP W0 G M room hands ts p gP gD w) (h30 : ts.length ≤ 30) :
    Calls Tryd.prog 16 #[.pointer (some ⟨M, 0, none⟩)] w fun e w' => e = .returned (.int .i64 (unseen gD.S ts.length)) ∧ Below w.heap.size w w' := by
  obtain ⟨BP, ownP, Q, wk, BD, ownD, hP, hK, hD, hap, hF, hn, iP, iD, hl, hb0⟩ := h
  exact dLeft_any M room hands ts p gD BD W0 w hD.e h30
theorem GM.task (h : GM W1 F nP W0 G M room hands ts p gP gD w) {j : Nat} (hj : j < hands) : ∃ tb tc, w.cell? ⟨M, 2, none⟩ = some (.slice (some ⟨tb, 0, none⟩) hands tc) ∧ w.cell? ⟨tb, j, none⟩ = some (.int .i64 (gD.task j)) := by
  obtain ⟨BP, ownP, Q, wk, BD, ownD, hP, hK, ⟨gq, vf, vh, HB, hc, DB, dc, Hk, vk, hp, hD⟩, hap, hF, hn, iP, iD, hl, hb0⟩ := h
  obtain ⟨tb, tc, wb, wc, htv, -, hct, -⟩ := hD.tw hj
  exact ⟨tb, tc, by rw [hD.c.2.2.1, htv], hct⟩
end Go.Proofs.YtchbncgifefegaaDoor
