/- The program's gang: Step. -/
import Derived.Test.YtdhnfgjfihapiaaPgf
namespace Go.Proofs.Ytdhnfgjfihapiaa
open Go.RowKit Go.Deep Go.Maps

theorem zeroInt (w : World) : (zeroValue 3).run Try.prog w = .ok (.int .i64 0) w := by kernel_rfl
variable {B : Bs} {G room hands : Nat} {ts : List (Int × List Int)} {g : Gs} {wk : Nat → Int} {own : Nat → Nat} {Q : Qp} {w w' : World}
theorem step_range (hP : Pg B G room hands ts g wk own Q w) (h pick : Int) (hh : h < 0 ∨ (hands : Int) ≤ h) :
    Calls Try.prog 6 #[.pointer (some ⟨G, 0, none⟩), .int .i64 h, .int .i64 pick] w fun e w' => e = .returned (.tuple #[.slice none 0 0, .iface 67 (.int .i64 1)]) ∧ w' = w := by
  obtain ⟨-, -, c2, -, -, -⟩ := hP.c
  have haw := Prk.Awake_bad Q.Kb hands g.zz Q.vz h w hP.pk hh
  unfold Prk.errV at haw
  clear hP hh
  go_enter Try.func6, Try.ntmps6
  go_wp2_with (first | (go_at_call 20; refine haw.mono ?_; clear haw; rintro e w ⟨rfl, rfl⟩))
  go_ret2
  exact ⟨rfl, rfl⟩
theorem step_pick (hP : Pg B G room hands ts g wk own Q w) (h : Nat) (pick : Int) (hh : h < hands) (hp : pick < 0) :
    Calls Try.prog 6 #[.pointer (some ⟨G, 0, none⟩), .int .i64 h, .int .i64 pick] w fun e w' => e = .returned (.tuple #[.slice none 0 0, .iface 67 (.int .i64 1)]) ∧ w' = w := by
  obtain ⟨-, -, c2, -, -, -⟩ := hP.c
  have haw := Prk.Awake_good Q.Kb hands g.zz Q.vz h w hP.pk (by omega) (by omega)
  generalize Prk.memB g.zz (h : Int) = m at haw
  clear hP hh
  go_enter Try.func6, Try.ntmps6
  go_wp2_with (first | (go_at_call 20; refine haw.mono ?_; clear haw; rintro e w ⟨rfl, rfl⟩))
  go_ret2
  exact ⟨rfl, rfl⟩
theorem step_asleep (hP : Pg B G room hands ts g wk own Q w) (h pick : Nat) (hh : h < hands) (hz : (h : Int) ∈ g.zz) :
    Calls Try.prog 6 #[.pointer (some ⟨G, 0, none⟩), .int .i64 h, .int .i64 pick] w fun e w' => e = .returned (.tuple #[.slice none 0 0, .nilIface]) ∧ w' = w := by
  obtain ⟨-, -, c2, -, -, -⟩ := hP.c
  have haw := Prk.Awake_good Q.Kb hands g.zz Q.vz h w hP.pk (by omega) (by omega)
  have hm : Prk.memB g.zz (h : Int) = true := by simp [Prk.memB, hz]
  rw [hm] at haw
  simp only [Bool.not_true] at haw
  have hp0 : ¬ (pick : Int) < 0 := by omega
  clear hP hh hm hz
  go_enter Try.func6, Try.ntmps6
  go_wp2_with (first | (go_at_call 20; refine haw.mono ?_; clear haw; rintro e w ⟨rfl, rfl⟩))
  go_ret2
  exact ⟨rfl, rfl⟩
set_option maxRecDepth 100000 in
set_option maxHeartbeats 4000000 in
theorem step_has (hP : Pg B G room hands ts g wk own Q w) (h i pick : Nat) (hh : h < hands) (h6 : hands ≤ 6) (hz : (h : Int) ∉ g.zz) (ht : g.task h = (i : Int)) {R : Value → World → Prop}
    (hwk : Calls Try.prog 21 #[.pointer (some ⟨G, 0, none⟩), .int .i64 h, .int .i64 i] w fun e w' => ∃ a n c, e = .returned (.slice a n c) ∧ R (.slice a n c) w') :
    Calls Try.prog 6 #[.pointer (some ⟨G, 0, none⟩), .int .i64 h, .int .i64 pick] w fun e w' => ∃ v, e = .returned (.tuple #[v, .nilIface]) ∧ R v w' := by
  obtain ⟨-, -, c2, -, c4, -⟩ := hP.c
  have haw := Prk.Awake_good Q.Kb hands g.zz Q.vz h w hP.pk (by omega) (by omega)
  have hm : Prk.memB g.zz (h : Int) = false := by simp [Prk.memB, hz]
  rw [hm] at haw
  simp only [Bool.not_false] at haw
  have hp0 : ¬ (pick : Int) < 0 := by omega
  obtain ⟨n, D, hown, hn, hs, hD⟩ := hP.has.le
  have hkey := key_nat (y := h) (by omega)
  have hhas : Maps.has D (.int .i64 h) = true := by rw [(hD h hh).1, ht]; simp
  have hat0 := (hD h hh).2 (by rw [ht]; omega) (.lit (.int .i64 0))
  rw [ht] at hat0
  have HAT : Hid (D.atKey (.int .i64 h) (.lit (.int .i64 0)) = .lit (.int .i64 (i : Int))) := hat0
  clear hP hh hm hz hD hs hat0 ht
  go_enter Try.func6, Try.ntmps6
  go_wp2_with (first | (go_at_call 20; refine haw.mono ?_; clear haw; rintro e w ⟨rfl, rfl⟩) | (at_lookup; refine wpList_lookup_own_ok_int _ rfl _ _ 61 rfl 3 3 .i64 keyed3 Try.underlying61 Try.underlying3 (zeroInt _) Q.Mb n D rfl hown _ _ rfl hkey ?_; intro c hat hwc; rw [hhas]; obtain rfl : c = (i : Int) := by { have e := hat.symm.trans HAT.out; injection e with e; injection e }; clear hat hwc hown) | (go_at_call 21; refine hwk.mono ?_; clear hwk; rintro e w1 ⟨a, m, c, rfl, hR⟩; have HR : Hid (R (.slice a m c) w1) := hR; clear hR))
  go_ret2
  exact ⟨_, rfl, HR.out⟩
set_option maxRecDepth 100000 in
set_option maxHeartbeats 4000000 in
theorem step_free (hP : Pg B G room hands ts g wk own Q w) (h pick o : Nat) (hh : h < hands) (h6 : hands ≤ 6) (hz : (h : Int) ∉ g.zz) (ht : g.task h < 0) (hp63 : pick < 9223372036854775808) (ho : o = pick % hands) (a1 a2 a3 a4 : Int) {g' : Gs}
    (hfd : Calls Try.prog 22 #[.pointer (some ⟨G, 0, none⟩), .int .i64 h, .int .i64 o] w fun e w' => e = .returned (.agg #[.int .i64 a1, .int .i64 a2, .int .i64 a3, .int .i64 a4]) ∧ ∃ own' Q', Pg B G room hands ts g' wk own' Q' w') (hsz : ∀ (w' : World) own' Q', Pg B G room hands ts g' wk own' Q' w' → w.heap.size ≤ w'.heap.size) :
    Calls Try.prog 6 #[.pointer (some ⟨G, 0, none⟩), .int .i64 h, .int .i64 pick] w fun e w' => ∃ v, e = .returned (.tuple #[v, .nilIface]) ∧ RowD w.heap.size w' v [(a1, a2, a3, a4)] ∧ ∃ own' Q', Pg B G room hands ts g' wk own' Q' w' := by
  obtain ⟨-, -, c2, c3, c4, -⟩ := hP.c
  have haw := Prk.Awake_good Q.Kb hands g.zz Q.vz h w hP.pk (by omega) (by omega)
  have hm : Prk.memB g.zz (h : Int) = false := by simp [Prk.memB, hz]
  rw [hm] at haw
  simp only [Bool.not_false] at haw
  have hp0 : ¬ (pick : Int) < 0 := by omega
  obtain ⟨n, D, hown, hn, hs, hD⟩ := hP.has.le
  have hkey := key_nat (y := h) (by omega)
  have hhas : Maps.has D (.int .i64 h) = false := by rw [(hD h hh).1]; simp; omega
  have hmod : (pick : Int).tmod (hands : Int) = (o : Int) := by rw [ho]; exact Int.ofNat_tmod pick hands
  have hol : o < hands := by rw [ho]; exact Nat.mod_lt _ (by omega)
  have HSZ : Hid (∀ (w' : World) own' Q', Pg B G room hands ts g' wk own' Q' w' → w.heap.size ≤ w'.heap.size) := hsz
  have hh0 : ((hands : Int) == 0) = false := by simp; omega
  clear hP hm hz hD hs ht ho hsz
  go_enter Try.func6, Try.ntmps6
  go_wp2_with (first | (go_at_call 20; refine haw.mono ?_; clear haw; rintro e w ⟨rfl, rfl⟩) | (at_lookup; refine wpList_lookup_own_ok_int _ rfl _ _ 61 rfl 3 3 .i64 keyed3 Try.underlying61 Try.underlying3 (zeroInt _) Q.Mb n D rfl hown _ _ rfl hkey ?_; intro c hat hwc; rw [hhas]; clear hat hwc hown) | (go_at_call 22; refine hfd.mono ?_; clear hfd; rintro e w1 ⟨rfl, hR⟩; have HR : Hid (∃ own' Q', Pg B G room hands ts g' wk own' Q' w1) := hR; clear hR))
  go_ret2
  obtain ⟨own', Q', hP1⟩ := HR.out
  exact ⟨_, rfl, (RowD.one w1 (a1, a2, a3, a4)).mono (HSZ.out _ _ _ hP1), _, _, hP1.later0 (Kc.of_below ((Below.refl _ _).alloc (Nat.le_refl _) _))⟩
end Go.Proofs.Ytdhnfgjfihapiaa
