/- The law GangPlays: what is refused at first; both gangs are made. -/
import Derived.Test.YtchbncgifefegaaDoorGma
import Derived.Test.YtchbncgifefegaaDoorRgt
import Derived.Deep.CutRange
import Derived.Deep.CutBlock
namespace Go.Proofs.YtchbncgifefegaaDoor
open Go.RowKit Go.Deep

theorem GM.start {W0 w3 w4 : World} {G M room hands : Nat} {ts : List (Int × List Int)} {p : Value} {BP : Bs} {ownP ownD : Nat → Nat} {Q : Qp} (hP : Pg BP G room hands ts (gnew ts) (workOf ts) ownP Q w3) (hlo : ∀ k, k < W0.heap.size → ownP k = 9) (hD : DgO ownD M room hands ts p (gnew ts) ⟨fun k => k < w3.heap.size, w3⟩ W0 w4) (hb : Below W0.heap.size W0 w3) (h1 : 1 ≤ hands) :
    GM W0 (fun k => k < W0.heap.size) w4.heap.size W0 G M room hands ts p (gnew ts) (gnew ts) w4 := by
  have hD2 := hD
  obtain ⟨gq, vf, vh, HB, hc, DB, dc, Hk, vk, hp, hDg⟩ := hD2
  have hs := hb.size
  have hb34 : Below w3.heap.size w3 w4 := ⟨hDg.io.1, hDg.io.2.1, hDg.io.2.2, hDg.w1le, fun k hk => (hDg.far k hk).2.2⟩
  refine ⟨BP, _, Q, _, _, ownD, hP.later0 (Kc.of_below hb34), WkOk.new ts hands, hD, fun k hk => ?_, fun k hk => ?_, fun k h1 h2 => by omega, Inv.new h1, Inv.new h1, fun k hk => hk, hb.trans (hb34.mono hs)⟩
  · by_cases e : k < w3.heap.size
    · exact Or.inr (hDg.far k e).2.1
    · exact Or.inl (relabel_ge (by omega))
  · have hk' : k < W0.heap.size := hk
    exact ⟨by have := hb34.size; omega, by rw [relabel_lt (by omega)]; exact hlo k hk, (hDg.far k (by show k < w3.heap.size; omega)).2.1, (hb34.block k (by omega)).trans (hb.block k hk)⟩
set_option maxRecDepth 100000 in
set_option maxHeartbeats 1000000 in
theorem gangPlays_plan (v sv : Value) (ts : List (Int × List Int)) (hands room : Int) (w : World) (hp : PlanAt w v ts) (hg : Typed w) {a q : Int} (hc : CheckIs ts a q) (hq : q ≠ 0) :
    Calls Tryd.prog 3 #[v, .int .i64 hands, .int .i64 room, sv] w fun e w' => e = .returned (.bool true) ∧ Below w.heap.size w w' := by
  have hri := rightR_any v ts w hp
  have HP : Hid (∀ w1, Below w.heap.size w w1 → Calls Tryd.prog 5 #[v, .int .i64 hands, .int .i64 room] w1 fun e w' => e = .returned (.tuple #[.pointer none, .iface 72 (.int .i64 q)]) ∧ Below w1.heap.size w1 w') := fun w1 hb => by
    have := gNew_plan v ts w1 (hp.later hb) hc hq hands room
    rw [errQ_some hq] at this
    exact this
  have HE : Hid (∀ w1, Below w.heap.size w w1 → Calls Tryd.prog 6 #[.iface 72 (.int .i64 q), .int .i64 q] w1 fun e w' => e = .returned (.bool true) ∧ Below w1.heap.size w1 w') := fun w1 hb => by
    have := error_any q q w1 (hg.later hb)
    rw [errQ_some hq] at this
    simpa using this
  have HC : Hid (CheckIs ts a q) := hc
  obtain ⟨pa, pc, rfl⟩ : ∃ a c, v = .slice a ts.length c := by obtain ⟨hl, a, c, hv, -⟩ := hp; exact ⟨a, c, hv⟩
  have hq0 : (q == 0) = false := by simp [hq]
  have hq1 : (q != 0) = true := by simp [hq]
  clear hp hc hq hg
  go_enter Tryd.func3, Tryd.ntmps3
  go_wp2_with (first | (go_at_call 4; refine hri.mono ?_; clear hri; rintro e w1 ⟨⟨p2, q2, rfl, hc2⟩, hb1⟩; obtain rfl : q2 = q := (hc2.det HC.out).2; have hn := HP.out w1 hb1; clear hc2 HP) | (go_at_call 5; refine hn.mono ?_; clear hn; rintro e w2 ⟨rfl, hb2⟩; have hb02 := hb1.trans (hb2.mono hb1.size); have he := HE.out w2 hb02; clear hb1 hb2 HE) | (go_at_call 6; refine he.mono ?_; clear he; rintro e w3 ⟨rfl, hb3⟩; have hb03 := hb02.trans (hb3.mono hb02.size); clear hb3))
  go_ret
  exact ⟨rfl, hb03⟩
set_option maxRecDepth 100000 in
set_option maxHeartbeats 2000000 in
theorem gangPlays_range (v sv : Value) (ts : List (Int × List Int)) (hands room : Int) (w : World) (hp : PlanAt w v ts) (hg : Typed w) (hc : CheckIs ts 0 0) (hbad : hands < 1 ∨ 6 < hands ∨ room < 1 ∨ 16 < room) :
    Calls Tryd.prog 3 #[v, .int .i64 hands, .int .i64 room, sv] w fun e w' => e = .returned (.bool true) ∧ Below w.heap.size w w' := by
  have hri := rightR_any v ts w hp
  have HP : Hid (∀ w1, Below w.heap.size w w1 → Calls Tryd.prog 5 #[v, .int .i64 hands, .int .i64 room] w1 fun e w' => e = .returned (.tuple #[.pointer none, .iface 72 (.int .i64 1)]) ∧ Below w1.heap.size w1 w') := fun w1 hb => by
    by_cases hh : hands < 1 ∨ 6 < hands
    · have := gNew_hands v ts w1 (hp.later hb) hc hands room hh
      rw [errQ_some (by decide)] at this
      exact this
    · obtain ⟨n, rfl⟩ : ∃ n : Nat, hands = n := ⟨hands.toNat, by omega⟩
      have := gNew_room v ts w1 (hp.later hb) hc n room (by omega) (by omega) (by omega)
      rw [errQ_some (by decide)] at this
      exact this
  have HE : Hid (∀ w1, Below w.heap.size w w1 → Calls Tryd.prog 6 #[.iface 72 (.int .i64 1), .int .i64 1] w1 fun e w' => e = .returned (.bool true) ∧ Below w1.heap.size w1 w') := fun w1 hb => by
    have := error_any 1 1 w1 (hg.later hb)
    rw [errQ_some (by decide)] at this
    simpa using this
  have HC : Hid (CheckIs ts 0 0) := hc
  obtain ⟨pa, pc, rfl⟩ : ∃ a c, v = .slice a ts.length c := by obtain ⟨hl, a, c, hv, -⟩ := hp; exact ⟨a, c, hv⟩
  clear hp hc hg
  rcases (by omega : hands < 1 ∨ (¬ hands < 1 ∧ 6 < hands) ∨ (¬ hands < 1 ∧ ¬ 6 < hands ∧ room < 1) ∨ (¬ hands < 1 ∧ ¬ 6 < hands ∧ ¬ room < 1 ∧ 16 < room)) with g1 | ⟨g1, g2⟩ | ⟨g1, g2, g3⟩ | ⟨g1, g2, g3, g4⟩
  all_goals
    clear hbad
    go_enter Tryd.func3, Tryd.ntmps3
    go_wp2_with (first | (go_at_call 4; refine hri.mono ?_; clear hri; rintro e w1 ⟨⟨p2, q2, rfl, hc2⟩, hb1⟩; obtain rfl : q2 = 0 := (hc2.det HC.out).2; have hn := HP.out w1 hb1; clear hc2 HP) | (go_at_call 5; refine hn.mono ?_; clear hn; rintro e w2 ⟨rfl, hb2⟩; have hb02 := hb1.trans (hb2.mono hb1.size); have he := HE.out w2 hb02; clear hb1 hb2 HE) | (go_at_call 6; refine he.mono ?_; clear he; rintro e w3 ⟨rfl, hb3⟩; have hb03 := hb02.trans (hb3.mono hb02.size); clear hb3))
    go_ret
    exact ⟨rfl, hb03⟩
end Go.Proofs.YtchbncgifefegaaDoor
