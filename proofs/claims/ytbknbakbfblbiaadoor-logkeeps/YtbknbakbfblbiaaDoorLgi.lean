/- The contracts of slices.Clone at api.Plan, of log.copied and log.New. -/
import Derived.Test.YtbknbakbfblbiaaDoorLgh
namespace Go.Proofs.YtbknbakbfblbiaaDoor
open Go.RowKit Go.Deep

set_option maxRecDepth 100000 in
set_option maxHeartbeats 1000000 in
theorem cloneP_none (a : Option Addr) (c : Nat) (w : World) :
    Calls Tryd.prog 34 #[.slice a 0 c] w fun e w' => (∃ a' c', e = .returned (.slice a' 0 c')) ∧ Below w.heap.size w w' := by
  have hnil := fun (wx : World) => Lib.run_eql_slice_nil (P := Tryd.prog) wx 23 26 a 0 c 0 0 Tryd.underlying23
  cases a with
  | none =>
    go_enter Tryd.func34, Tryd.ntmps34
    go_wp2
    go_ret
    exact ⟨⟨_, _, rfl⟩, Below.refl _ _⟩
  | some ad =>
    go_enter Tryd.func34, Tryd.ntmps34
    go_wp2_with (at_builtin; refine wpList_append_zero rfl (.tmp 5) (.tmp 6) 23 rfl (some ⟨w.heap.size, 0, none⟩) (some ad) 0 0 c rfl rfl (append_zeroP _ _ _ _ _ _ _ (Nat.le_refl _)) ?_)
    go_wp2
    go_ret
    exact ⟨⟨_, _, rfl⟩, (Below.refl _ _).alloc (Nat.le_refl _) _⟩
set_option maxRecDepth 100000 in
set_option maxHeartbeats 1000000 in
theorem cloneP_any (ts : List (Int × List Int)) (nv : Nat → Value) (b o c : Nat) (w : World) (h0 : 0 < ts.length) (hl : ts.length ≤ 30) (hb : b < w.heap.size)
    (hc : ∀ k, k < ts.length → w.cell? ⟨b, o + k * 2, none⟩ = some (.int .i64 (wkQ ts k)) ∧ w.cell? ⟨b, o + k * 2 + 1, none⟩ = some (nv k)) (hone : ∀ k, k < ts.length → (nv k).oneCell' = true) :
    Calls Tryd.prog 34 #[.slice (some ⟨b, o, none⟩) ts.length c] w fun e w' => ∃ g cap, e = .returned (.slice (some ⟨g, 0, none⟩) ts.length cap) ∧ QM ts nv w.heap.size g cap 0 w w' := by
  obtain ⟨i3, hi3, hz0, hz1, hz2⟩ := info_parts info_taskL
  have hnil := fun (wx : World) => Lib.run_eql_slice_nil (P := Tryd.prog) wx 23 26 (some ⟨b, o, none⟩) ts.length c 0 0 Tryd.underlying23
  have hA : ∀ k, k < ts.length → (w.alloc (.cells #[] 26)).cell? ⟨b, o + k * 2, none⟩ = some (.int .i64 (wkQ ts k)) ∧ (w.alloc (.cells #[] 26)).cell? ⟨b, o + k * 2 + 1, none⟩ = some (nv k) := fun k hk =>
    ⟨(World.cell?_of_block (a := ⟨b, o + k * 2, none⟩) (Below.heap_alloc _ _ _ hb)).trans (hc k hk).1, (World.cell?_of_block (a := ⟨b, o + k * 2 + 1, none⟩) (Below.heap_alloc _ _ _ hb)).trans (hc k hk).2⟩
  have hsrc : ∀ j u, (flatQ (wkQ ts) nv ts.length)[j]? = some u → (w.alloc (.cells #[] 26)).cell? ((⟨b, o, none⟩ : Addr).add j) = some u := fun j u hj => by
    have hjl : j < ts.length * 2 := by rw [← flatQ_length (wkQ ts) nv]; exact (List.getElem?_eq_some_iff.1 hj).1
    rw [add_lit]
    have h1 := flatQ_at (wkQ ts) nv ts.length (j / 2) (by omega)
    have h2 := hA (j / 2) (by omega)
    rcases Nat.mod_two_eq_zero_or_one j with e | e
    · have ej : j / 2 * 2 = j := by omega
      rw [ej] at h1 h2
      rw [h2.1, ← hj, h1.1]
    · have ej : j / 2 * 2 + 1 = j := by omega
      rw [Nat.add_assoc, ej] at h2
      rw [ej] at h1
      rw [h2.2, ← hj, h1.2]
  have hon : ∀ u ∈ flatQ (wkQ ts) nv ts.length, u.oneCell' = true := fun u hu => by
    obtain ⟨j, hj, rfl⟩ := List.getElem_of_mem hu
    rw [flatQ_length] at hj
    have h1 := flatQ_at (wkQ ts) nv ts.length (j / 2) (by omega)
    rcases Nat.mod_two_eq_zero_or_one j with e | e
    · have ej : j / 2 * 2 = j := by omega
      rw [ej] at h1
      rw [Option.some.inj ((List.getElem?_eq_getElem _).symm.trans h1.1)]; rfl
    · have ej : j / 2 * 2 + 1 = j := by omega
      rw [ej] at h1
      rw [Option.some.inj ((List.getElem?_eq_getElem _).symm.trans h1.2)]; exact hone _ (by omega)
  have hemp : (w.alloc (.cells #[] 26)).ownsRow w.heap.size 26 2 (.slice (some ⟨w.heap.size, 0, none⟩) 0 0) 0 [] := World.ownsRow_lit (base := w.heap.size) (e := 26) (size := 2) w #[] 0 (Nat.le_refl _) (by unfold maxLen; omega) rfl
  have HQL : Hid (∀ g cap w', w'.ownsRow w.heap.size 26 2 (.slice (some ⟨g, 0, none⟩) ts.length cap) ts.length (flatQ (wkQ ts) nv ts.length) → Below w.heap.size w w' → QM ts nv w.heap.size g cap 0 w w') := fun g cap w' h1 h2 => ⟨⟨nv, h1, fun _ _ _ => rfl, fun b hb => by omega⟩, h2⟩
  have hfl := flatQ_length (wkQ ts) nv ts.length
  generalize flatQ (wkQ ts) nv ts.length = fl at *
  clear hc hA hone
  go_enter Tryd.func34, Tryd.ntmps34
  go_wp2_with (at_builtin; refine wpList_append_own _ rfl (.tmp 5) (.tmp 6) 23 rfl w.heap.size 26 i3 (.agg #[.int .i64 0, .slice none 0 0]) 2 32 Tryd.underlying23 hi3 hz0 hz1 hz2 rfl (by decide) _ 0 [] rfl hemp ⟨b, o, none⟩ ts.length c fl rfl hfl hsrc hon ?c3 ?c4 ?c5 ?_)
  case c3 => unfold maxLen; omega
  case c4 => omega
  case c5 => simp
  intro v' w1 hown' hgrow _
  replace hown' : w1.ownsRow w.heap.size 26 2 v' ts.length fl := by simpa using hown'
  obtain ⟨vg, vc, rfl⟩ : ∃ g cap, v' = .slice (some ⟨g, 0, none⟩) ts.length cap := by
    rcases hown'.2 with ⟨_, h⟩ | ⟨g, cap, cur, hv, _⟩
    · omega
    · exact ⟨g, cap, hv⟩
  have hB : Below w.heap.size w w1 := ((Below.refl _ _).alloc (Nat.le_refl _) _).grown hgrow (by simp) (fun k e => by simp [Value.ownBlock] at e; omega)
  have HN : Hid (QM ts nv w.heap.size vg vc 0 w w1) := HQL.out _ _ _ hown' hB
  clear hown' hgrow hB
  go_wp2
  go_ret
  exact ⟨_, _, rfl, HN.out⟩

/-- The needs in memory, one by one. -/
theorem PlanAt.rows {w : World} {v : Value} {ts : List (Int × List Int)} (h : PlanAt w v ts) (h0 : 0 < ts.length) : ∃ b o c, ∃ nv : Nat → Value, v = .slice (some ⟨b, o, none⟩) ts.length c ∧ b < w.heap.size ∧
    (∀ k, k < ts.length → w.cell? ⟨b, o + k * 2, none⟩ = some (.int .i64 (wkQ ts k)) ∧ w.cell? ⟨b, o + k * 2 + 1, none⟩ = some (nv k)) ∧ ∀ k, k < ts.length → IntsAt w (nv k) (needsOf ts k) := by
  obtain ⟨_, a, c, rfl, h⟩ := h
  rcases h with h | ⟨b, o, rfl, hb, hc⟩
  · rw [h] at h0; simp at h0
  · have hch : ∀ k, ∃ nv, k < ts.length → w.cell? ⟨b, o + k * 2 + 1, none⟩ = some nv ∧ IntsAt w nv (needsOf ts k) := fun k => by
      by_cases hk : k < ts.length
      · obtain ⟨nv, h1⟩ := (hc k hk).2
        exact ⟨nv, fun _ => h1⟩
      · exact ⟨undef, fun h => absurd h hk⟩
    exact ⟨b, o, c, fun k => Classical.choose (hch k), rfl, hb, fun k hk => ⟨(hc k hk).1, (Classical.choose_spec (hch k) hk).1⟩, fun k hk => (Classical.choose_spec (hch k) hk).2⟩

set_option maxRecDepth 100000 in
set_option maxHeartbeats 2000000 in
theorem copied_any (v : Value) (ts : List (Int × List Int)) (w : World) (hp : PlanAt w v ts) (hg : Good ts) :
    Calls Tryd.prog 23 #[v] w fun e w' => (∃ pv, e = .returned pv ∧ PlanX (fun b => b < w.heap.size) w' pv ts) ∧ Below w.heap.size w w' := by
  have hle := hg.le
  by_cases h0 : ts = []
  · subst h0
    obtain ⟨_, a, c, rfl, _⟩ := hp
    have hcl := cloneP_none a c w
    simp only [List.length_nil] at *
    go_enter Tryd.func23, Tryd.ntmps23
    go_wp2_with fail
    refine hcl.mono ?_
    clear hcl
    rintro e w1 ⟨⟨a1, c1, rfl⟩, hb1⟩
    go_wp2
    refine wp_loop_rounds 1 ?_
    rw [rounds_succ]
    go_wp2
    go_ret
    exact ⟨⟨_, rfl, by simp, a1, c1, rfl, Or.inl rfl⟩, hb1⟩
  · have hpos : 0 < ts.length := List.length_pos_iff.2 h0
    obtain ⟨b, o, c, nv, rfl, hbl, hc, hin⟩ := hp.rows hpos
    have hcl := cloneP_any ts nv b o c w hpos hle hbl hc (fun k hk => by obtain ⟨_, a', c', e, _⟩ := hin k hk; rw [e]; rfl)
    have HIN : Hid (∀ k, k < ts.length → IntsAt w (nv k) (needsOf ts k)) := hin
    have HLN : Hid (∀ k, k < ts.length → (needsOf ts k).length ≤ 1000) := fun k hk => by have := hg.len hk; omega
    clear hp hc hin hg
    go_enter Tryd.func23, Tryd.ntmps23
    go_wp2_with fail
    refine hcl.mono ?_
    clear hcl
    rintro e w1 ⟨g, cap, rfl, hQ⟩
    have HQ : Hid (QM ts nv w.heap.size g cap 0 w w1) := hQ
    clear hQ
    go_wp2
    go_loopw [9] (fun s9 wr => ∃ k : Nat, k ≤ ts.length ∧ s9 = .int .i64 k ∧ Hid (QM ts nv w.heap.size g cap k w wr)) (fun s9 _ => ts.length - (intOf s9).toNat)
    case atStart => exact ⟨0, Nat.zero_le _, rfl, HQ⟩
    case round =>
      clear HQ
      obtain ⟨k, hk, rfl, hQ⟩ := hrel
      by_cases hkl : k < ts.length
      · have hc1 := (hQ.out.cells hkl).1
        have hgl := hQ.out.gB
        have hcl := cloneI_any (nv k) (needsOf ts k) wr g ((HIN.out k hkl).later (hQ.out.below.mono (Nat.le_refl _))) (HLN.out k hkl) hgl.2
        obtain ⟨_, na, nc, hnv, _⟩ := HIN.out k hkl
        have HNV : Hid (nv k = .slice na (needsOf ts k).length nc) := hnv
        rw [hnv] at hc1 hcl
        clear hnv
        go_wp2_with fail
        refine hcl.mono ?_
        clear hcl hc1
        rintro e w2 ⟨⟨nv2, rfl, hnb⟩, hb2⟩
        have hQ2 := hQ.out.later hb2
        have hc2 := (hQ2.cells hkl).1
        have hf2 := (hQ2.cells hkl).2
        have HQ3 : Hid (QM ts nv w.heap.size g cap (k + 1) w (w2.setCell ⟨g, k * 2 + 1, none⟩ nv2)) := hQ2.store hkl (by
          obtain ⟨h1, a, c, h2, h3⟩ := hnb
          exact ⟨h1, a, c, h2, h3.imp id (fun ⟨b, o, e, hn, hB, hlt, hc⟩ => ⟨b, o, e, hn, by have := hQ.out.below.size; omega, hlt, hc⟩)⟩)
        obtain ⟨_, a3, c3, rfl, _⟩ := hnb
        rw [HNV.out] at hc2
        clear hQ hQ2 hb2
        go_wp2
        go_roundw
        case rel => exact ⟨k + 1, by omega, by go_num, HQ3⟩
        case measure => simp [intOf]; omega
      · have hke : k = ts.length := by omega
        have HF : Hid (PlanX (fun b => b < w.heap.size) wr (.slice (some ⟨g, 0, none⟩) ts.length cap) ts ∧ Below w.heap.size w wr) := by
          have := hQ.out
          rw [hke] at this
          exact ⟨this.plan hle, this.below⟩
        clear hQ hke
        go_wp2
        go_ret
        exact ⟨⟨_, rfl, HF.out.1⟩, HF.out.2⟩

/-- What New answers to a plan that is right. -/
theorem newL_good (v : Value) (ts : List (Int × List Int)) (w : World) (hp : PlanAt w v ts) (hck : CheckIs ts 0 0) :
    Calls Tryd.prog 6 #[v] w fun e w' => (∃ L X T, e = .returned (.tuple #[.pointer (some ⟨L, 0, none⟩), .nilIface]) ∧ Lg w.heap.size T X L ts Ls.new w') ∧ Below w.heap.size w w' := by
  have hjn := join_new v ts w hp hck
  have HP : Hid (PlanAt w v ts) := hp
  have HCK : Hid (CheckIs ts 0 0) := hck
  obtain ⟨_, a, c, rfl, _⟩ := hp
  clear hck
  go_enter Tryd.func6, Tryd.ntmps6
  go_wp2_with fail
  refine hjn.mono ?_
  clear hjn
  rintro e w1 ⟨⟨J, rfl, hj⟩, hb1⟩
  have HJ : Hid (Jo (fun b => w.heap.size ≤ b ∧ b < w1.heap.size) J ts (fun _ => false) w1) := hj.bound
  have hcp := copied_any _ ts w1 (HP.out.later hb1) HCK.out.good
  have hs1 := hb1.size
  clear hj
  go_wp2_with fail
  refine hcp.mono ?_
  clear hcp
  rintro e w2 ⟨⟨pv, rfl, hpx⟩, hb2⟩
  have HPX : Hid (PlanX (fun b => b < w1.heap.size) w2 pv ts) := hpx
  have hs2 := hb2.size
  obtain ⟨_, pa, pc, rfl, _⟩ := hpx
  have hb3 : Below w.heap.size w (w2.alloc (.cells #[.slice pa ts.length pc, .pointer (some ⟨J, 0, none⟩), .slice none 0 0, .int .i64 0, .int .i64 (-1), .bool false] 55)) := (hb1.trans (hb2.mono hs1)).alloc (by omega) _
  have HL : Hid (Lg w.heap.size w2.heap.size (fun b => (w.heap.size ≤ b ∧ b < w1.heap.size) ∨ b = w2.heap.size) w2.heap.size ts Ls.new (w2.alloc (.cells #[.slice pa ts.length pc, .pointer (some ⟨J, 0, none⟩), .slice none 0 0, .int .i64 0, .int .i64 (-1), .bool false] 55))) := by
    have hbA : Below w2.heap.size w2 (w2.alloc (.cells #[.slice pa ts.length pc, .pointer (some ⟨J, 0, none⟩), .slice none 0 0, .int .i64 0, .int .i64 (-1), .bool false] 55)) := (Below.refl _ _).alloc (Nat.le_refl _) _
    refine ⟨⟨fun b => w.heap.size ≤ b ∧ b < w1.heap.size, J, .slice pa ts.length pc, .slice none 0 0, ⟨⟨_, heap_alloc_new w2 _, rfl, fun i hi => ?_⟩, ?_, RowB.nil _ _, ?_, by simp, fun b hb => ⟨Or.inl hb, by omega, by simp [Value.ownBlock]⟩, ⟨Or.inr rfl, by simp [Value.ownBlock]⟩, fun b hb => by simp [Value.ownBlock] at hb, fun b hb => ?_⟩⟩, Ls.new_ok ts, HCK.out⟩
    · rcases (by omega : i = 0 ∨ i = 1 ∨ i = 2 ∨ i = 3 ∨ i = 4 ∨ i = 5) with rfl | rfl | rfl | rfl | rfl | rfl <;> rfl
    · show Jo _ J ts (inL []) _
      rw [inL_nil]
      exact (HJ.out.later hb2).later hbA
    · have := HPX.out.kx (Y := fun b => b < w1.heap.size ∨ w2.heap.size ≤ b) (Below.kx hbA) (fun b hb => hb)
      obtain ⟨q1, a', c', q2, q3⟩ := this
      refine ⟨q1, a', c', q2, q3.imp id (fun ⟨b, o, e, hn, hlt, hc⟩ => ⟨b, o, e, fun hx => hn (by rcases hx with (hx | hx) | hx <;> omega), hlt, fun k hk => ?_⟩)⟩
      obtain ⟨r1, nv, r2, r3, a4, c4, r4, r5⟩ := hc k hk
      exact ⟨r1, nv, r2, r3, a4, c4, r4, r5.imp id (fun ⟨b, o, e, hn, hlt, hc⟩ => ⟨b, o, e, fun hx => hn (by rcases hx with (hx | hx) | hx <;> omega), hlt, hc⟩)⟩
    · have hsz : (w2.alloc (.cells #[.slice pa ts.length pc, .pointer (some ⟨J, 0, none⟩), .slice none 0 0, .int .i64 0, .int .i64 (-1), .bool false] 55)).heap.size = w2.heap.size + 1 := by simp
      rw [hsz]
      rcases hb with hb | hb <;> omega
  have HB3 : Hid (Below w.heap.size w (w2.alloc (.cells #[.slice pa ts.length pc, .pointer (some ⟨J, 0, none⟩), .slice none 0 0, .int .i64 0, .int .i64 (-1), .bool false] 55))) := hb3
  clear hb1 hb2 hb3
  go_wp2
  go_ret2
  exact ⟨⟨_, _, _, rfl, HL.out⟩, HB3.out⟩
theorem newL_bad (v : Value) (ts : List (Int × List Int)) (w : World) (hp : PlanAt w v ts) {p q : Int} (hc : CheckIs ts p q) (hq : q ≠ 0) :
    Calls Tryd.prog 6 #[v] w fun e w' => e = .returned (.tuple #[.pointer none, errV q]) ∧ Below w.heap.size w w' := by
  have hjn := join_no v ts w hp hc hq
  obtain ⟨_, a, c, rfl, _⟩ := hp
  have hev := errV_some hq
  have HV : Hid (errV q = .iface 56 (.int .i64 q)) := hev
  rw [hev] at hjn
  clear hc hev
  go_enter Tryd.func6, Tryd.ntmps6
  go_wp2_with (go_at_call 22; refine hjn.mono ?_; clear hjn; rintro e w1 ⟨rfl, hb1⟩)
  go_ret2
  exact ⟨by rw [HV.out]; rfl, hb1⟩
end Go.Proofs.YtbknbakbfblbiaaDoor
