/- The program's gang: workAt; Held; Step. -/
import Derived.Test.YtdhnfgjfihapiaaPge
import Derived.Test.YtdhnfgjfihapiaaGnge
namespace Go.Proofs.Ytdhnfgjfihapiaa
open Go.RowKit Go.Deep Go.Maps

variable {B : Bs} {G room hands : Nat} {ts : List (Int × List Int)} {g : Gs} {wk : Nat → Int} {own : Nat → Nat} {Q : Qp} {w w' : World}
theorem Pg.worked (h : Pg B G room hands ts g wk own Q w) (i : Nat) (x : Int) : Pg B G room hands ts g (upd wk i x) (relabel own w.heap.size 2) Q (w.setCell ⟨Q.WB, i, none⟩ (.int .i64 x)) := by
  refine h.setWk _ ((h.wrow.set i (.int .i64 x)).congr (fun k _ => ?_)) (Kc.store (b := Q.WB) h.lW i _)
  unfold upd
  split <;> rfl
set_option maxHeartbeats 2000000 in
theorem workAt_more (hP : Pg B G room hands ts g wk own Q w) (h i : Nat) (hi : i < ts.length) (hw : 1 < wk i) (hw2 : wk i ≤ 1000) (_h30 : ts.length ≤ 30) :
    Calls Try.prog 21 #[.pointer (some ⟨G, 0, none⟩), .int .i64 h, .int .i64 i] w fun e w' => e = .returned (.slice none 0 0) ∧ ∃ own', Pg B G room hands ts g (upd wk i (wk i - 1)) own' Q w' := by
  obtain ⟨-, -, -, -, -, c5⟩ := hP.c
  have ci := hP.wrow.cell hi
  have fi := hP.wrow.frozen i
  have hP2 := hP.worked i (wk i - 1)
  obtain ⟨-, -, -, -, -, d5⟩ := hP2.c
  have di := hP2.wrow.cell hi
  rw [upd_self] at di
  have HP2 : Hid (Pg B G room hands ts g (upd wk i (wk i - 1)) _ Q _) := hP2
  have hii : (i : Int) < (ts.length : Int) := by omega
  obtain ⟨m, hm⟩ : ∃ m : Nat, wk i = (m : Int) + 2 := ⟨(wk i - 2).toNat, by omega⟩
  rw [hm] at ci di d5 hw2 hw ⊢ HP2
  clear hP hP2 hm
  go_enter Try.func21, Try.ntmps21
  go_wp2
  go_ret
  exact ⟨rfl, _, HP2.out⟩
set_option maxHeartbeats 2000000 in
theorem workAt_last (hP : Pg B G room hands ts g wk own Q w) (hg : Good ts) (h i : Nat) (hh : h < hands) (h6 : hands ≤ 6) (hi : i < ts.length) (ht : g.task h = (i : Int)) (hrd : readyB ts g.S i = true) (hdn : Down ts g.S) (hsp : g.sp.length + (allH (g.near h) (g.ring h)).length ≤ 30) (hw : wk i = 1) :
    Calls Try.prog 21 #[.pointer (some ⟨G, 0, none⟩), .int .i64 h, .int .i64 i] w fun e w' => ∃ v, e = .returned v ∧ RowD w.heap.size w' v (endsD ts g h) ∧ ∃ own' Q', Pg B G room hands ts (ends ts room g h) (upd wk i 0) own' Q' w' := by
  obtain ⟨-, -, -, -, -, c5⟩ := hP.c
  have ci := hP.wrow.cell hi
  have fi := hP.wrow.frozen i
  have hP2 := hP.worked i 0
  obtain ⟨-, -, -, -, -, d5⟩ := hP2.c
  have di := hP2.wrow.cell hi
  rw [upd_self] at di
  have hfin := finish_any hP2 hg h i hh h6 hi ht hrd hdn hsp
  have hii : (i : Int) < (ts.length : Int) := by omega
  have h30 := hg.le
  rw [hw] at ci
  have hsz : (w.setCell ⟨Q.WB, i, none⟩ (.int .i64 0)).heap.size = w.heap.size := by simp
  rw [hsz] at hfin
  clear hP hP2 hg hrd hdn hsp ht hw hsz
  go_enter Try.func21, Try.ntmps21
  go_wp2_with (first | (go_at_call 31; refine hfin.mono ?_; clear hfin; rintro e w3 ⟨v, rfl, hv, own3, Q3, hP3⟩; have HV : Hid (RowD w.heap.size w3 v (endsD ts g h)) := hv; have HP3 : Hid (Pg B G room hands ts (ends ts room g h) (upd wk i 0) own3 Q3 w3) := hP3; obtain ⟨a, c, rfl⟩ := hv.shape; clear hv hP3))
  go_ret
  exact ⟨_, rfl, HV.out, own3, Q3, HP3.out⟩
theorem held_any (hP : Pg B G room hands ts g wk own Q w) :
    Calls Try.prog 7 #[.pointer (some ⟨G, 0, none⟩)] w fun e w' => (∃ v, e = .returned v ∧ RowI w.heap.size w' v (intsOf (readyTo ts g.S ts.length))) ∧ Below w.heap.size w w' := by
  have c0 := hP.c.1
  have hrd := ready_any Q.J Q.M Q.A Q.D Q.C ts g.S w hP.jn
  clear hP
  go_enter Try.func7, Try.ntmps7
  go_wp2_with (first | (go_at_call 17; refine hrd.mono ?_; clear hrd; rintro e w1 ⟨⟨v, rfl, hv⟩, hb⟩; obtain ⟨a, c, rfl⟩ := hv.shape; have HV : Hid (RowI w.heap.size w1 (.slice a (intsOf (readyTo ts g.S ts.length)).length c) (intsOf (readyTo ts g.S ts.length))) := hv; clear hv))
  go_ret
  exact ⟨⟨_, rfl, HV.out⟩, hb⟩
end Go.Proofs.Ytdhnfgjfihapiaa
