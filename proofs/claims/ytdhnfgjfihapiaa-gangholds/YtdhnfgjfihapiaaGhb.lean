/- The memory of GangHolds between its calls; append of deeds; depth.Work; what is known of the gang, plain. -/
import Derived.Test.YtdhnfgjfihapiaaGha
namespace Go.Proofs.Ytdhnfgjfihapiaa
open Go.RowKit Go.Deep

variable {W0 : World} {G D room hands : Nat} {ts : List (Int × List Int)} {g : Gs} {mk : Nat → Bool} {ds dl : List Deed} {av lv : Value} {w w' : World}
/-- A gang, all that was told (av), what is done (block D), what was told last (lv). -/
structure HX (W0 : World) (G D room hands : Nat) (ts : List (Int × List Int)) (g : Gs) (mk : Nat → Bool) (ds : List Deed) (av : Value) (dl : List Deed) (lv : Value) (w : World) : Prop where
  gx : GX (fun k => k < W0.heap.size ∨ k = D ∨ av.ownBlock = some k) G room hands ts g w
  all : RowD W0.heap.size w av ds
  dn : w.rowIs D 4 ts.length (fun i => .bool (mk i))
  l : RowD W0.heap.size w lv dl
  ap : ∀ k, lv.ownBlock = some k → av.ownBlock ≠ some k
  below : Below W0.heap.size W0 w
  ge : W0.heap.size ≤ D
theorem HX.size (h : HX W0 G D room hands ts g mk ds av dl lv w) : W0.heap.size ≤ w.heap.size := h.below.size
theorem HX.later (h : HX W0 G D room hands ts g mk ds av dl lv w) (hb : Below w.heap.size w w') : HX W0 G D room hands ts g mk ds av dl lv w' :=
  ⟨h.gx.later hb, h.all.later hb, h.dn.of_block (hb.block _ h.dn.lt), h.l.later hb, h.ap, h.below.trans (hb.mono h.size), h.ge⟩
/-- One more is done. -/
theorem HX.mark (h : HX W0 G D room hands ts g mk ds av dl lv w) (t : Nat) : HX W0 G D room hands ts g (mark mk t) ds av dl lv (w.setCell ⟨D, t, none⟩ (.bool true)) := by
  have hD : ∀ {b : Nat} {v : Value} {l : List Deed}, RowD b w v l → ∀ k, v.ownBlock = some k → k ≠ D := fun hr k hk => (rowIs_ne h.dn (hr.deedB hk) (by decide)).symm
  have hblk : ∀ k, k ≠ D → (w.setCell ⟨D, t, none⟩ (.bool true)).heap[k]? = w.heap[k]? := fun k hk => Below.heap_setCell _ _ _ _ (by show k ≠ D; exact hk)
  refine ⟨(h.gx.away (w' := w.setCell ⟨D, t, none⟩ (.bool true)) ⟨rfl, rfl, rfl, by simp, fun k _ hX => hblk k (fun e => hX (Or.inr (Or.inl e)))⟩).sub (fun k hk => Or.inl hk), h.all.of_blocks (fun k hk => hblk k (hD h.all k hk)), ?_, h.l.of_blocks (fun k hk => hblk k (hD h.l k hk)), h.ap, h.below.setCell (p := ⟨D, t, none⟩) h.ge _, h.ge⟩
  refine (h.dn.set t (.bool true)).congr (fun j _ => ?_)
  unfold Go.Proofs.Ytdhnfgjfihapiaa.mark
  split <;> rfl
/-- All that was told. -/
theorem HX.append (h : HX W0 G D room hands ts g mk ds av dl lv w) {av2 : Value} (hr : RowD W0.heap.size w' av2 (ds ++ dl)) (hg : w.grownBy w' av.ownBlock) (hat : av2.ownBlock = av.ownBlock ∨ av2.ownBlock = some w.heap.size) : HX W0 G D room hands ts g mk (ds ++ dl) av2 dl lv w' := by
  have hs := h.size
  have hD : av.ownBlock ≠ some D := fun e => rowIs_ne h.dn (h.all.deedB e) (by decide) rfl
  refine ⟨(h.gx.away (w' := w') ⟨hg.os, hg.tape, hg.output, hg.size, fun k hk hX => hg.block k hk (fun e => hX (Or.inr (Or.inr e.symm)))⟩).sub (fun k hk => ?_), hr, h.dn.of_block (hg.block D h.dn.lt (fun e => hD e.symm)), h.l.of_blocks (fun k hk => hg.block k (h.l.low hk).2 (fun e => h.ap k hk e.symm)), fun k hk e => ?_, h.below.trans ⟨hg.os, hg.tape, hg.output, hg.size, fun k hk => hg.block k (by omega) (fun e => by have := (h.all.low e.symm).1; omega)⟩, h.ge⟩
  · rcases hk with hk | hk | hk
    · exact Or.inl (Or.inl hk)
    · exact Or.inl (Or.inr (Or.inl hk))
    · rcases hat with e | e
      · exact Or.inl (Or.inr (Or.inr (by rw [← e]; exact hk)))
      · rw [e] at hk
        have : w.heap.size = k := by simpa using hk
        have h2 := (hr.low (by rw [e, this])).2
        exact Or.inr ⟨by omega, h2⟩
  · rcases hat with e2 | e2
    · exact h.ap k hk (by rw [← e2]; exact e)
    · rw [e2] at e
      have h1 : w.heap.size = k := by simpa using e
      have h2 := (h.l.low hk).2
      omega
/-- A step. -/
theorem HX.step (h : HX W0 G D room hands ts g mk ds av dl lv w) (hg : Good ts) (hw : ∀ i, i < ts.length → 1 ≤ workOf ts i ∧ workOf ts i ≤ 1000) (hr1 : 1 ≤ room) (h16 : room ≤ 16) (h6 : hands ≤ 6) (j pick : Nat) (hj : j < hands) (hp63 : pick < 9223372036854775808) :
    Calls Try.prog 6 #[.pointer (some ⟨G, 0, none⟩), .int .i64 j, .int .i64 pick] w fun e w' => ∃ v, e = .returned (.tuple #[v, .nilIface]) ∧ HX W0 G D room hands ts (gstep ts room hands g j pick) mk ds av (gdeeds ts hands g j pick) v w' := by
  refine (h.gx.step hg hw hr1 h16 h6 j pick hj hp63).mono ?_
  rintro e w' ⟨v, rfl, hv, hG, hK⟩
  refine ⟨v, rfl, hG, h.all.of_blocks (fun k hk => hK.block k (Or.inr (Or.inr hk))), h.dn.of_block (hK.block D (Or.inr (Or.inl rfl))), hv.mono h.size, fun k hk e => ?_, h.below.trans ⟨hK.os, hK.tape, hK.output, hK.size, fun k hk => hK.block k (Or.inl hk)⟩, h.ge⟩
  have h1 := (hv.low hk).1
  have h2 := (h.all.low e).2
  omega

/-- What is known of a gang and of what it told. -/
structure PL (ts : List (Int × List Int)) (hands room tot : Nat) (g : Gs) (ord : List Nat) (ds : List Deed) : Prop where
  inv : Inv ts room hands g
  fi : FI ts g ord
  ti : TI hands g (trEnd trNew ds)
  er : trErrs ts hands trNew ds = 0
  ci : CI ts hands g ord ds.length
  rt : ∀ d, d ∈ ds → deedE d = 0
  rm : ∃ R, Rem ts hands g R ∧ sumN R ts.length ≤ tot
def totW (ts : List (Int × List Int)) (n : Nat) : Nat := sumN (fun i => (1 + workOf ts i).toNat) n
theorem PL.new (h1 : 1 ≤ hands) (hw : ∀ i, i < ts.length → 1 ≤ workOf ts i) : PL ts hands room (totW ts ts.length) (gnew ts) [] [] :=
  ⟨Inv.new h1, FI.new ts, TI.new hands ts, rfl, CI.new hands ts, fun d hd => by simp at hd, ⟨_, (Rem.new (hands := hands)).resolve_right (fun h => h hw), Nat.le_refl _⟩⟩
theorem PL.step {tot : Nat} {ord : List Nat} (h : PL ts hands room tot g ord ds) (hg : Good ts) (hw : ∀ i, i < ts.length → 1 ≤ workOf ts i) (hr1 : 1 ≤ room) (h6 : hands ≤ 6) {j : Nat} (hj : j < hands) (pick : Nat) :
    PL ts hands room tot (gstep ts room hands g j pick) (ord ++ finOf (gdeeds ts hands g j pick)) (ds ++ gdeeds ts hands g j pick) := by
  obtain ⟨R, hR, hle⟩ := h.rm
  have hti := h.ti.step h.inv hg hw hr1 hj pick
  refine ⟨h.inv.step hg hw hr1 hj pick, h.fi.step h.inv hj pick, ?_, ?_, ?_, fun d hd => ?_, ?_⟩
  · have e : trEnd trNew (ds ++ gdeeds ts hands g j pick) = trEnd (trEnd trNew ds) (gdeeds ts hands g j pick) := by simp [trEnd]
    rw [e]
    exact hti.2
  · rw [trErrs_append ds _ trNew h.er]
    exact hti.1
  · rw [List.length_append]
    exact h.ci.step h.inv hg hw hj pick
  · rcases List.mem_append.1 hd with hd | hd
    · exact h.rt d hd
    · exact deeds_right h.inv hg h6 hj pick d hd
  · rcases step_dec hR h.inv hw hj pick with ⟨R', h1, h2⟩ | ⟨e, _⟩ | ⟨e, _⟩
    · exact ⟨R', h1, by omega⟩
    · rw [e]; exact ⟨R, hR, hle⟩
    · rw [e]; exact ⟨R, hR.zz _, hle⟩
theorem PL.le {tot : Nat} {ord : List Nat} (h : PL ts hands room tot g ord ds) : ds.length ≤ 4 * ts.length + hands := by
  refine h.ci.le h.fi h.inv ?_
  have hn := h.inv.znd
  have hz := h.inv.zr
  have h2 := Prk.nodup_sub_len hn (m := intsOf (List.range hands)) (fun x hx => by
    obtain ⟨i, hi, rfl, _⟩ := hz x hx
    exact List.mem_map.2 ⟨i, List.mem_range.2 hi, rfl⟩)
  rw [intsOf_length, List.length_range] at h2
  exact h2
end Go.Proofs.Ytdhnfgjfihapiaa
