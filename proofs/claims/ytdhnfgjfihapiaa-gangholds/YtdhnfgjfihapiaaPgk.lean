/- The program's gang, wherever it lies: its calls. -/
import Derived.Test.YtdhnfgjfihapiaaPgj
namespace Go.Proofs.Ytdhnfgjfihapiaa
open Go.RowKit Go.Deep

/-- A gang, of which nothing lies in what was there at first. -/
def GangAt (W0 : World) (G room hands : Nat) (ts : List (Int × List Int)) (g : Gs) (w : World) : Prop :=
  ∃ B own Q wk, Pg B G room hands ts g wk own Q w ∧ WkOk ts hands g wk ∧ Inv ts room hands g ∧ (∀ k, k < W0.heap.size → own k = 9) ∧ Below W0.heap.size W0 w
variable {W0 : World} {G room hands : Nat} {ts : List (Int × List Int)} {g : Gs} {w w' : World}
theorem GangAt.later (h : GangAt W0 G room hands ts g w) (hb : Below w.heap.size w w') : GangAt W0 G room hands ts g w' := by
  obtain ⟨B, own, Q, wk, hP, hK, hI, ho, hB⟩ := h
  exact ⟨B, _, Q, wk, hP.later0 (Kc.of_below hb), hK, hI, fun k hk => by rw [relabel_lt (by have := hB.size; omega)]; exact ho k hk, hB.trans (hb.mono hB.size)⟩
theorem gangAt_new {v : Value} (hp : PlanAt w v ts) (hc : CheckIs ts 0 0) (hB : Below W0.heap.size W0 w) (h1 : 1 ≤ hands) (h6 : hands ≤ 6) (r1 : 1 ≤ room) (r16 : room ≤ 16) :
    Calls Try.prog 4 #[v, .int .i64 hands, .int .i64 room] w fun e w' => ∃ G, e = .returned (.tuple #[.pointer (some ⟨G, 0, none⟩), .nilIface]) ∧ GangAt W0 G room hands ts (gnew ts) w' := by
  refine (gNew_good v ts w hp hc hands room h1 h6 r1 r16).mono ?_
  rintro e w' ⟨G, own, Q, rfl, hP, hG, hb⟩
  have := hB.size
  exact ⟨G, rfl, _, own, Q, _, hP, WkOk.new ts hands, Inv.new h1, fun k hk => (hP.far k (by show k < w.heap.size; omega)).2.1, hB.trans (hb.mono hB.size)⟩
theorem GangAt.step (h : GangAt W0 G room hands ts g w) (hg : Good ts) (hw : ∀ i, i < ts.length → 1 ≤ workOf ts i ∧ workOf ts i ≤ 1000) (hr1 : 1 ≤ room) (h16 : room ≤ 16) (h6 : hands ≤ 6) (j pick : Nat) (hj : j < hands) (hp63 : pick < 9223372036854775808) :
    Calls Try.prog 6 #[.pointer (some ⟨G, 0, none⟩), .int .i64 j, .int .i64 pick] w fun e w' => ∃ v, e = .returned (.tuple #[v, .nilIface]) ∧ RowD w.heap.size w' v (gdeeds ts hands g j pick) ∧ GangAt W0 G room hands ts (gstep ts room hands g j pick) w' := by
  obtain ⟨B, own, Q, wk, hP, hK, hI, ho, hB⟩ := h
  refine (step_any hP hI hK hg hw hr1 h16 h6 j pick hj hp63).mono ?_
  rintro e w' ⟨v, rfl, hv, B', own', Q', wk', hP', hK', hW⟩
  have hs := hB.size
  exact ⟨v, rfl, hv, B', own', Q', wk', hP', hK', hI.step hg (fun i hi => (hw i hi).1) hr1 hj pick, fun k hk => (hW.block k (by omega) (ho k hk)).2, ⟨hW.os.trans hB.os, hW.tape.trans hB.tape, hW.output.trans hB.output, Nat.le_trans hs hW.size, fun k hk => (hW.block k (by omega) (ho k hk)).1.trans (hB.block k hk)⟩⟩
theorem GangAt.held (h : GangAt W0 G room hands ts g w) :
    Calls Try.prog 7 #[.pointer (some ⟨G, 0, none⟩)] w fun e w' => (∃ v, e = .returned v ∧ RowI w.heap.size w' v (intsOf (readyTo ts g.S ts.length))) ∧ GangAt W0 G room hands ts g w' := by
  have h2 := h
  obtain ⟨B, own, Q, wk, hP, hK, hI, ho, hB⟩ := h
  refine (held_any hP).mono ?_
  rintro e w' ⟨hv, hb⟩
  exact ⟨hv, h2.later hb⟩
theorem GangAt.below (h : GangAt W0 G room hands ts g w) : Below W0.heap.size W0 w := by
  obtain ⟨B, own, Q, wk, hP, hK, hI, ho, hB⟩ := h
  exact hB
end Go.Proofs.Ytdhnfgjfihapiaa
