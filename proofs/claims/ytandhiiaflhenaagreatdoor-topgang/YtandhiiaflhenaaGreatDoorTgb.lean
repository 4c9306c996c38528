/- The memory of TopGang between its calls: a gang, what it told, the order in which tasks were finished, what all tasks come to. -/
import Derived.Test.YtandhiiaflhenaaGreatDoorGhx
import Derived.Test.YtandhiiaflhenaaGreatDoorTga
import Derived.Test.YtandhiiaflhenaaGreatDoorClv
namespace Go.Proofs.YtandhiiaflhenaaGreatDoor
open Go.RowKit Go.Deep

variable {W0 : World} {G C room hands : Nat} {ts : List (Int × List Int)} {g : Gs} {F : Nat → Cl} {ord : List Nat} {ds dl : List Deed} {ov av lv : Value} {w w' : World}
/-- A gang, all that was told (av), the order (ov), what all come to (block C), what was told last (lv). -/
structure HZ (W0 : World) (G C room hands : Nat) (ts : List (Int × List Int)) (g : Gs) (F : Nat → Cl) (ord : List Nat) (ov : Value) (ds : List Deed) (av : Value) (dl : List Deed) (lv : Value) (w : World) : Prop where
  gx : GX (fun k => k < W0.heap.size ∨ k = C ∨ av.ownBlock = some k ∨ ov.ownBlock = some k) G room hands ts g w
  all : RowD W0.heap.size w av ds
  cl : w.rowIs C 86 (ts.length * 2) (cellRow F)
  od : RowI W0.heap.size w ov (intsOf ord)
  l : RowD W0.heap.size w lv dl
  ap : ∀ k, lv.ownBlock = some k → av.ownBlock ≠ some k
  below : Below W0.heap.size W0 w
  ge : W0.heap.size ≤ C
theorem HZ.size (h : HZ W0 G C room hands ts g F ord ov ds av dl lv w) : W0.heap.size ≤ w.heap.size := h.below.size
theorem HZ.later (h : HZ W0 G C room hands ts g F ord ov ds av dl lv w) (hb : Below w.heap.size w w') : HZ W0 G C room hands ts g F ord ov ds av dl lv w' :=
  ⟨h.gx.later hb, h.all.later hb, h.cl.of_block (hb.block _ h.cl.lt), h.od.of_blocks (fun k hk => hb.block k (h.od.low hk).2), h.l.later hb, h.ap, h.below.trans (hb.mono h.size), h.ge⟩
theorem HZ.noInts (h : HZ W0 G C room hands ts g F ord ov ds av dl lv w) {k : Nat} (hk : ov.ownBlock = some k) : ¬ DeedB w k := fun hd => ints_ne h.od hd hk rfl
theorem HZ.ordC (h : HZ W0 G C room hands ts g F ord ov ds av dl lv w) : ov.ownBlock ≠ some C := fun e => by
  obtain ⟨c, h1, _⟩ := h.cl
  rcases h.od.2 with ⟨hv, _⟩ | ⟨g, cap, cur, hv, _, hh, _⟩
  · rw [hv] at e; cases e
  · rw [hv] at e
    have : g = C := by simpa [Value.ownBlock] using e
    subst this
    rw [h1] at hh
    simp at hh
/-- All that was told. -/
theorem HZ.append (h : HZ W0 G C room hands ts g F ord ov ds av dl lv w) {av2 : Value} (hr : RowD W0.heap.size w' av2 (ds ++ dl)) (hg : w.grownBy w' av.ownBlock) (hat : av2.ownBlock = av.ownBlock ∨ av2.ownBlock = some w.heap.size) : HZ W0 G C room hands ts g F ord ov (ds ++ dl) av2 dl lv w' := by
  have hs := h.size
  have hC : av.ownBlock ≠ some C := fun e => rowIs_ne h.cl (h.all.deedB e) (by decide) rfl
  have hO : ∀ k, ov.ownBlock = some k → some k ≠ av.ownBlock := fun k hk e => h.noInts hk (h.all.deedB e.symm)
  refine ⟨(h.gx.away (w' := w') ⟨hg.os, hg.tape, hg.output, hg.size, fun k hk hX => hg.block k hk (fun e => hX (Or.inr (Or.inr (Or.inl e.symm))))⟩).sub (fun k hk => ?_), hr, h.cl.of_block (hg.block C h.cl.lt (fun e => hC e.symm)), h.od.of_blocks (fun k hk => hg.block k (h.od.low hk).2 (hO k hk)), h.l.of_blocks (fun k hk => hg.block k (h.l.low hk).2 (fun e => h.ap k hk e.symm)), fun k hk e => ?_, h.below.trans ⟨hg.os, hg.tape, hg.output, hg.size, fun k hk => hg.block k (by omega) (fun e => by have := (h.all.low e.symm).1; omega)⟩, h.ge⟩
  · rcases hk with hk | hk | hk | hk
    · exact Or.inl (Or.inl hk)
    · exact Or.inl (Or.inr (Or.inl hk))
    · rcases hat with e | e
      · exact Or.inl (Or.inr (Or.inr (Or.inl (by rw [← e]; exact hk))))
      · rw [e] at hk
        have : w.heap.size = k := by simpa using hk
        have h2 := (hr.low (by rw [e, this])).2
        exact Or.inr ⟨by omega, h2⟩
    · exact Or.inl (Or.inr (Or.inr (Or.inr hk)))
  · rcases hat with e2 | e2
    · exact h.ap k hk (by rw [← e2]; exact e)
    · rw [e2] at e
      have h1 : w.heap.size = k := by simpa using e
      have h2 := (h.l.low hk).2
      omega
/-- One more is finished. -/
theorem HZ.finish (h : HZ W0 G C room hands ts g F ord ov ds av dl lv w) {ov2 : Value} {t : Nat} (hr : RowI W0.heap.size w' ov2 (intsOf ord ++ [(t : Int)])) (hg : w.grownBy w' ov.ownBlock) (hat : ov2.ownBlock = ov.ownBlock ∨ ov2.ownBlock = some w.heap.size) : HZ W0 G C room hands ts g F (ord ++ [t]) ov2 ds av dl lv w' := by
  have hs := h.size
  have hD : ∀ {v : Value} {l : List Deed}, RowD W0.heap.size w v l → ∀ k, v.ownBlock = some k → some k ≠ ov.ownBlock := fun hv k hk e => h.noInts e.symm (hv.deedB hk)
  have hr2 : RowI W0.heap.size w' ov2 (intsOf (ord ++ [t])) := by
    have : intsOf (ord ++ [t]) = intsOf ord ++ [(t : Int)] := by simp [intsOf]
    rw [this]; exact hr
  refine ⟨(h.gx.away (w' := w') ⟨hg.os, hg.tape, hg.output, hg.size, fun k hk hX => hg.block k hk (fun e => hX (Or.inr (Or.inr (Or.inr e.symm))))⟩).sub (fun k hk => ?_), h.all.of_blocks (fun k hk => hg.block k (h.all.low hk).2 (hD h.all k hk)), h.cl.of_block (hg.block C h.cl.lt (fun e => h.ordC e.symm)), hr2, h.l.of_blocks (fun k hk => hg.block k (h.l.low hk).2 (hD h.l k hk)), h.ap, h.below.trans ⟨hg.os, hg.tape, hg.output, hg.size, fun k hk => hg.block k (by omega) (fun e => by have := (h.od.low e.symm).1; omega)⟩, h.ge⟩
  rcases hk with hk | hk | hk | hk
  · exact Or.inl (Or.inl hk)
  · exact Or.inl (Or.inr (Or.inl hk))
  · exact Or.inl (Or.inr (Or.inr (Or.inl hk)))
  · rcases hat with e | e
    · exact Or.inl (Or.inr (Or.inr (Or.inr (by rw [← e]; exact hk))))
    · rw [e] at hk
      have : w.heap.size = k := by simpa using hk
      have h2 := (hr.low (by rw [e, this])).2
      exact Or.inr ⟨by omega, h2⟩
/-- A step. -/
theorem HZ.step (h : HZ W0 G C room hands ts g F ord ov ds av dl lv w) (hg : Good ts) (hw : ∀ i, i < ts.length → 1 ≤ workOf ts i ∧ workOf ts i ≤ 1000) (hr1 : 1 ≤ room) (h16 : room ≤ 16) (h6 : hands ≤ 6) (j pick : Nat) (hj : j < hands) (hp63 : pick < 9223372036854775808) :
    Calls Tryz.prog 8 #[.pointer (some ⟨G, 0, none⟩), .int .i64 j, .int .i64 pick] w fun e w' => ∃ v, e = .returned (.tuple #[v, .nilIface]) ∧ HZ W0 G C room hands ts (gstep ts room hands g j pick) F ord ov ds av (gdeeds ts hands g j pick) v w' := by
  refine (h.gx.step hg hw hr1 h16 h6 j pick hj hp63).mono ?_
  rintro e w' ⟨v, rfl, hv, hG, hK⟩
  refine ⟨v, rfl, hG, h.all.of_blocks (fun k hk => hK.block k (Or.inr (Or.inr (Or.inl hk)))), h.cl.of_block (hK.block C (Or.inr (Or.inl rfl))), h.od.of_blocks (fun k hk => hK.block k (Or.inr (Or.inr (Or.inr hk)))), hv.mono h.size, fun k hk e => ?_, h.below.trans ⟨hK.os, hK.tape, hK.output, hK.size, fun k hk => hK.block k (Or.inl hk)⟩, h.ge⟩
  have h1 := (hv.low hk).1
  have h2 := (h.all.low e).2
  omega

/-- All are done: the order is one by which all come to the same. -/
theorem FI.full (h : FI ts g ord) (hall : ∀ i, i < ts.length → g.S i = true) : ord.length = ts.length ∧ EachZ ts.length (intsOf ord) ∧ natsOf (intsOf ord) = ord := by
  have hlen : ord.length = ts.length := by
    have h1 : ord.length ≤ ts.length := by
      have := nodup_len ts.length ord h.nd h.lt
      exact this
    have h2 := Prk.nodup_sub_len (intsOf_nodup (List.nodup_range (n := ts.length))) (m := intsOf ord) (fun x hx => by
      obtain ⟨i, hi, rfl⟩ := List.mem_map.1 hx
      exact List.mem_map.2 ⟨i, (h.mem i).1 (hall i (List.mem_range.1 hi)), rfl⟩)
    rw [intsOf_length, intsOf_length, List.length_range] at h2
    omega
  refine ⟨hlen, ⟨by rw [intsOf_length]; exact hlen, ?_, fun x hx => ?_⟩, ?_⟩
  · unfold intsOf
    refine List.pairwise_map.2 (List.Pairwise.imp (fun {a b} hne e => hne ?_) h.nd)
    have : (a : Int) = (b : Int) := e
    omega
  · unfold intsOf at hx
    obtain ⟨y, hy, rfl⟩ := List.mem_map.1 hx
    have := h.lt y hy
    show (0 : Int) ≤ (y : Int) ∧ (y : Int) < _
    omega
  · unfold natsOf intsOf
    rw [List.map_map]
    conv => rhs; rw [← List.map_id ord]
    exact List.map_congr_left fun x _ => rfl
end Go.Proofs.YtandhiiaflhenaaGreatDoor
