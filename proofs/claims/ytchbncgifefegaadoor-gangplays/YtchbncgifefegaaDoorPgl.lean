/- The program's gang: Has, Left; New, when it is refused. -/
import Derived.Test.YtchbncgifefegaaDoorPgk
import Derived.Test.YtchbncgifefegaaDoorI
namespace Go.Proofs.YtchbncgifefegaaDoor
open Go.RowKit Go.Deep Go.Maps

variable {B : Bs} {G room hands : Nat} {ts : List (Int × List Int)} {g : Gs} {wk : Nat → Int} {own : Nat → Nat} {Q : Qp} {w w' : World}
theorem has_range (hP : Pg B G room hands ts g wk own Q w) (h : Int) (_h6 : hands ≤ 6) (hh : h < 0 ∨ (hands : Int) ≤ h) :
    Calls Tryd.prog 11 #[.pointer (some ⟨G, 0, none⟩), .int .i64 h] w fun e w' => e = .returned (.tuple #[.int .i64 0, .iface 72 (.int .i64 1)]) ∧ w' = w := by
  obtain ⟨-, -, -, c3, -, -⟩ := hP.c
  clear hP
  by_cases h1 : h < 0
  · go_enter Tryd.func11, Tryd.ntmps11
    go_wp2
    go_ret2
    exact ⟨rfl, rfl⟩
  · have h2 : (hands : Int) ≤ h := by omega
    go_enter Tryd.func11, Tryd.ntmps11
    go_wp2
    go_ret2
    exact ⟨rfl, rfl⟩
set_option maxRecDepth 100000 in
set_option maxHeartbeats 1000000 in
theorem has_good (hP : Pg B G room hands ts g wk own Q w) (h : Nat) (h6 : hands ≤ 6) (hh : h < hands) (hm : -1 ≤ g.task h) :
    Calls Tryd.prog 11 #[.pointer (some ⟨G, 0, none⟩), .int .i64 h] w fun e w' => e = .returned (.tuple #[.int .i64 (g.task h), .nilIface]) ∧ w' = w := by
  obtain ⟨-, -, -, c3, c4, -⟩ := hP.c
  obtain ⟨n, D, hown, hn, hs, hD⟩ := hP.has.le
  have hkey := key_nat (y := h) (by omega)
  have h1 : ¬ (h : Int) < 0 := by omega
  have h2 : ¬ (hands : Int) ≤ (h : Int) := by omega
  by_cases ht : 0 ≤ g.task h
  · have hhas : Maps.has D (.int .i64 h) = true := by rw [(hD h hh).1]; simp [ht]
    have HAT : Hid (D.atKey (.int .i64 h) (.lit (.int .i64 0)) = .lit (.int .i64 (g.task h))) := (hD h hh).2 ht (.lit (.int .i64 0))
    generalize g.task h = t at *
    clear hP hD hs ht
    go_enter Tryd.func11, Tryd.ntmps11
    go_wp2_with (first | (at_lookup; refine wpList_lookup_own_ok_int _ rfl _ _ 68 rfl 3 3 .i64 keyed3 Tryd.underlying68 Tryd.underlying3 (zeroInt _) Q.Mb n D rfl hown _ _ rfl hkey ?_; intro c hat hwc; rw [hhas]; obtain rfl : c = t := by { have e := hat.symm.trans HAT.out; injection e with e; injection e }; clear hat hwc hown))
    go_ret2
    exact ⟨rfl, rfl⟩
  · have hhas : Maps.has D (.int .i64 h) = false := by rw [(hD h hh).1]; simp; omega
    have ht1 : g.task h = -1 := by omega
    rw [ht1]
    clear hP hD hs ht ht1 hm
    go_enter Tryd.func11, Tryd.ntmps11
    go_wp2_with (first | (at_lookup; refine wpList_lookup_own_ok_int _ rfl _ _ 68 rfl 3 3 .i64 keyed3 Tryd.underlying68 Tryd.underlying3 (zeroInt _) Q.Mb n D rfl hown _ _ rfl hkey ?_; intro c hat hwc; rw [hhas]; clear hat hwc hown))
    go_ret2
    exact ⟨rfl, rfl⟩
theorem gLeft_any (hP : Pg B G room hands ts g wk own Q w) :
    Calls Tryd.prog 15 #[.pointer (some ⟨G, 0, none⟩)] w fun e w' => e = .returned (.int .i64 (unseen g.S ts.length)) ∧ ∃ q, w' = w.drewN q := by
  have c0 := hP.c.1
  have hl := left_any Q.J Q.M Q.A Q.D Q.C ts g.S w hP.jn
  clear hP
  go_enter Tryd.func15, Tryd.ntmps15
  go_wp2_with (first | (go_at_call 38; refine hl.mono ?_; clear hl; rintro e w1 ⟨rfl, q, rfl⟩))
  go_ret
  exact ⟨rfl, _, rfl⟩
/-- New is refused: by what is wrong with the plan, or the hands, or the room. -/
theorem gNew_plan (v : Value) (ts : List (Int × List Int)) (w : World) (hp : PlanAt w v ts) {a q : Int} (hc : CheckIs ts a q) (hq : q ≠ 0) (hands room : Int) :
    Calls Tryd.prog 5 #[v, .int .i64 hands, .int .i64 room] w fun e w' => e = .returned (.tuple #[.pointer none, errQ q]) ∧ Below w.heap.size w w' := by
  have hjn := new_bad v ts w hp hc hq
  obtain ⟨pa, pc, rfl⟩ : ∃ a c, v = .slice a ts.length c := by obtain ⟨hl, a, c, hv, -⟩ := hp; exact ⟨a, c, hv⟩
  have e1 : errV q = .iface 72 (.int .i64 q) := by unfold errV; simp [hq]
  have e2 : errQ q = .iface 72 (.int .i64 q) := errQ_some hq
  rw [e1] at hjn
  rw [e2]
  clear hp hc e1 e2
  go_enter Tryd.func5, Tryd.ntmps5
  go_wp2_with (first | (go_at_call 18; refine hjn.mono ?_; clear hjn; rintro e w1 ⟨rfl, hb1⟩))
  go_ret2
  exact ⟨rfl, hb1⟩
theorem gNew_hands (v : Value) (ts : List (Int × List Int)) (w : World) (hp : PlanAt w v ts) (hc : CheckIs ts 0 0) (hands room : Int) (hh : hands < 1 ∨ 6 < hands) :
    Calls Tryd.prog 5 #[v, .int .i64 hands, .int .i64 room] w fun e w' => e = .returned (.tuple #[.pointer none, errQ 1]) ∧ Below w.heap.size w w' := by
  have hjn := new_good v ts w hp hc
  have HPK : Hid (∀ w1, Calls Tryd.prog 19 #[.int .i64 hands] w1 fun e w' => e = .returned (.tuple #[.pointer none, .iface 72 (.int .i64 1)]) ∧ w' = w1) := fun w1 => Prk.New_bad hands w1 hh
  obtain ⟨pa, pc, rfl⟩ : ∃ a c, v = .slice a ts.length c := by obtain ⟨hl, a, c, hv, -⟩ := hp; exact ⟨a, c, hv⟩
  have e2 : errQ 1 = .iface 72 (.int .i64 1) := errQ_some (by decide)
  rw [e2]
  clear hp hc e2 hh
  go_enter Tryd.func5, Tryd.ntmps5
  go_wp2_with (first | (go_at_call 18; refine hjn.mono ?_; clear hjn; rintro e w1 ⟨J, M, A, D, C, rfl, -, -, hb1⟩; have hpk := HPK.out w1; clear HPK) | (go_at_call 19; refine hpk.mono ?_; clear hpk; rintro e w1 ⟨rfl, rfl⟩))
  go_ret2
  exact ⟨rfl, hb1⟩
theorem gNew_room (v : Value) (ts : List (Int × List Int)) (w : World) (hp : PlanAt w v ts) (hc : CheckIs ts 0 0) (hands : Nat) (room : Int) (h1 : 1 ≤ hands) (h6 : hands ≤ 6) (hr : room < 1 ∨ 16 < room) :
    Calls Tryd.prog 5 #[v, .int .i64 hands, .int .i64 room] w fun e w' => e = .returned (.tuple #[.pointer none, errQ 1]) ∧ Below w.heap.size w w' := by
  have hjn := new_good v ts w hp hc
  have HPK : Hid (∀ w1, Calls Tryd.prog 19 #[.int .i64 hands] w1 fun e w' => e = .returned (.tuple #[.pointer (some ⟨w1.heap.size, 0, none⟩), .nilIface]) ∧ Prk.Pk w1.heap.size hands [] (.slice none 0 0) w' ∧ Below w1.heap.size w1 w') := fun w1 => Prk.New_good hands w1 h1 h6
  have HSP : Hid (∀ w1, Calls Tryd.prog 20 #[.int .i64 room] w1 fun e w' => e = .returned (.tuple #[.pointer none, .iface 72 (.int .i64 1)]) ∧ w' = w1) := fun w1 => Spl.New_bad room w1 hr
  obtain ⟨pa, pc, rfl⟩ : ∃ a c, v = .slice a ts.length c := by obtain ⟨hl, a, c, hv, -⟩ := hp; exact ⟨a, c, hv⟩
  have e2 : errQ 1 = .iface 72 (.int .i64 1) := errQ_some (by decide)
  rw [e2]
  clear hp hc e2 hr
  go_enter Tryd.func5, Tryd.ntmps5
  go_wp2_with (first | (go_at_call 18; refine hjn.mono ?_; clear hjn; rintro e w1 ⟨J, M, A, D, C, rfl, -, -, hb1⟩; have hpk := HPK.out w1; clear HPK) | (go_at_call 19; refine hpk.mono ?_; clear hpk; rintro e w2 ⟨rfl, -, hb2⟩; have hsp := HSP.out w2; clear HSP) | (go_at_call 20; refine hsp.mono ?_; clear hsp; rintro e w2 ⟨rfl, rfl⟩))
  go_ret2
  exact ⟨rfl, hb1.trans (hb2.mono hb1.size)⟩
end Go.Proofs.YtchbncgifefegaaDoor
