/- The contracts of checkParts and its closure. -/
import Derived.Test.YtkcpimbhfmhjgaaJn
namespace Go.Proofs.Ytkcpimbhfmhjgaa
open Go.RowKit Go.Deep Go.Maps

theorem wfI {x : Int} (h0 : -9223372036854775808 ≤ x) (h1 : x < 9223372036854775808) : (Lit.int .i64 x).wf = true := WalkArith.wf_i64 ⟨h0, by omega⟩

set_option maxRecDepth 100000 in
set_option maxHeartbeats 2000000 in
theorem closure_parts (n i : Int) (B m : Nat) (f : Int → Option Prt) (am ai : Addr) (w : World) (hn : (Lit.int .i64 n).wf = true) (hi : (Lit.int .i64 i).wf = true) (hp : PartsAt w B m f) (hcm : w.cell? am = some (.map (some B))) (hci : w.cell? ai = some (.int .i64 i)) :
    Calls Try.prog 49 (#[.int .i64 n] ++ #[.pointer (some am), .pointer (some ai)]) w fun e w' => e = .returned (.bool (decide (((f i).getD (0, 0, 0)).2.1 < ((f n).getD (0, 0, 0)).2.2))) ∧ w' = w := by
  show Calls Try.prog 49 #[.int .i64 n, .pointer (some am), .pointer (some ai)] w _
  have hl1 := hp.look hi
  have hl2 := hp.look hn
  have hf1 := field1
  have hf2 := field2
  generalize ((f i).getD (0, 0, 0)).1 = a1 at *
  generalize ((f i).getD (0, 0, 0)).2.1 = a2 at *
  generalize ((f i).getD (0, 0, 0)).2.2 = a3 at *
  generalize ((f n).getD (0, 0, 0)).1 = b1 at *
  generalize ((f n).getD (0, 0, 0)).2.1 = b2 at *
  generalize ((f n).getD (0, 0, 0)).2.2 = b3 at *
  by_cases h : a2 < b3
  all_goals
    go_enter Try.func49, Try.ntmps49
    go_wp2
    go_ret
    exact ⟨ret_bool (by simp [h]), rfl⟩

theorem enters29 : ∀ args w, (callFunc 49 args).run Try.prog w = .ok (.enter 49 args) w := enters_of Try.func49 (by kernel_rfl) rfl

/-- The parts, none seen: nothing. -/
def partF (f : Int → Option Prt) (x : Int) : Prt := (f x).getD (0, 0, 0)
theorem lack_false {ts : List (Int × List Int)} {g : Int → Prt} (h : ∀ x : Nat, x < ts.length → wkOf ts x ≤ (g (x : Int)).1) : lackP ts g = false := by
  unfold lackP
  rw [List.any_eq_false]
  intro x hx
  have := h x (List.mem_range.1 hx)
  simp; omega
theorem lack_true {ts : List (Int × List Int)} {g : Int → Prt} {x : Nat} (hx : x < ts.length) (h : (g (x : Int)).1 < wkOf ts x) : lackP ts g = true :=
  List.any_eq_true.2 ⟨x, List.mem_range.2 hx, decide_eq_true h⟩
def earlyX (ts : List (Int × List Int)) (g : Int → Prt) (x : Nat) : Bool := (needsOf ts x).any (fun y => decide ((g (x : Int)).2.1 < (g y).2.2))
theorem early_false {ts : List (Int × List Int)} {g : Int → Prt} (h : ∀ x : Nat, x < ts.length → earlyX ts g x = false) : earlyP ts g = false := by
  unfold earlyP
  rw [List.any_eq_false]
  intro x hx
  have := h x (List.mem_range.1 hx)
  unfold earlyX at this
  simp [this]
theorem early_true {ts : List (Int × List Int)} {g : Int → Prt} {x : Nat} (hx : x < ts.length) (h : earlyX ts g x = true) : earlyP ts g = true :=
  List.any_eq_true.2 ⟨x, List.mem_range.2 hx, h⟩

theorem below_two (w : World) (o1 o2 : Obj) : Below w.heap.size w ((w.alloc o1).alloc o2) := ((Below.refl _ _).alloc (Nat.le_refl _) _).alloc (by simp) _
theorem cell_first (w : World) (u : Value) (t : TypeId) (o2 : Obj) : ((w.alloc (.cells #[u] t)).alloc o2).cell? ⟨w.heap.size, 0, none⟩ = some u := by
  rw [World.cell?_alloc_lt _ _ ⟨w.heap.size, 0, none⟩ (by simp)]
  unfold World.cell?
  dsimp only
  rw [blk_alloc_new]
  rfl
set_option maxRecDepth 100000 in
set_option maxHeartbeats 4000000 in
theorem checkParts_any (v : Value) (ts : List (Int × List Int)) (B m : Nat) (f : Int → Option Prt) (w : World) (hp : PlanAt w v ts) (hq : PartsAt w B m f) (hr : InRange ts) (h30 : ts.length ≤ 30) :
    Calls Try.prog 30 #[v, .map (some B)] w fun e w' => e = .returned (errV (partsErr ts (partF f))) ∧ Below w.heap.size w w' := by
  have HP : Hid (PlanAt w v ts) := hp
  have HQ : Hid (PartsAt w B m f) := hq
  have hBl := hq.lt
  obtain ⟨hl, a, c, rfl, hpc⟩ := hp
  have hmf : ∀ (fn : Fn) (first cap : Array Value) (w : World), (Instr.makeFunc fn first cap).run Try.prog w = .ok (.func fn first cap) w := fun _ _ _ _ => rfl
  have hf0 := field0
  clear hpc hq
  go_enter Try.func30, Try.ntmps30
  go_wp2
  obtain ⟨W, hW⟩ : ∃ W, W = w.alloc (.cells #[.map (some B)] 66) := ⟨_, rfl⟩
  have HBW : Hid (Below w.heap.size w W) := by rw [hW]; exact (Below.refl _ _).alloc (Nat.le_refl _) _
  have HC : Hid (W.cell? ⟨w.heap.size, 0, none⟩ = some (.map (some B))) := by
    show _ = _
    rw [hW]
    unfold World.cell?
    dsimp only
    rw [blk_alloc_new]
    rfl
  have HS : Hid (W.heap.size = w.heap.size + 1) := by show _ = _; rw [hW]; simp
  rw [← hW]
  obtain ⟨C, hC⟩ : ∃ C, C = w.heap.size := ⟨_, rfl⟩
  have HCW : Hid (C = w.heap.size) := hC
  rw [← hC] at HC ⊢
  have hCl : C < W.heap.size := by have := HS.out; omega
  clear hW hC
  go_loopw [11] (fun s11 wr => ∃ k : Nat, k ≤ ts.length ∧ s11 = .int .i64 k ∧ Hid (∀ x : Nat, x < k → wkOf ts x ≤ (partF f (x : Int)).1) ∧ Below W.heap.size W wr) (fun s11 _ => ts.length - (intOf s11).toNat)
  case atStart => exact ⟨0, Nat.zero_le _, rfl, fun x hx => by omega, Below.refl _ _⟩
  case round =>
    obtain ⟨k, hk, rfl, hno, hb⟩ := hrel
    have hcb : wr.cell? ⟨C, 0, none⟩ = some (.map (some B)) := (hb.cell (p := ⟨C, 0, none⟩) (by show C < _; omega)).trans HC.out
    have hCw : C < wr.heap.size := by have := hb.size; omega
    by_cases hkl : k < ts.length
    · have hpw := (HP.out.later HBW.out).later hb
      obtain ⟨_, a', c', hva, hpc⟩ := hpw
      obtain ⟨rfl, -, rfl⟩ : a = a' ∧ True ∧ c = c' := by simp at hva; exact ⟨hva.1, trivial, hva.2⟩
      clear hva
      rcases hpc with h | ⟨b, o, rfl, hbl, hc⟩
      · subst h; simp at hkl
      obtain ⟨hc1, nv, hc2, hin⟩ := hc k hkl
      obtain ⟨a2, c2, rfl⟩ : ∃ a2 c2, nv = .slice a2 (needsOf ts k).length c2 := by
        obtain ⟨_, a2, c2, h, _⟩ := hin
        exact ⟨a2, c2, h⟩
      have hqw : ∀ o1 : Obj, PartsAt (wr.alloc o1) B m f := fun o1 => HQ.out.of_block (((Below.heap_alloc _ _ _ (by have := hb.size; have := HS.out; omega)).trans (hb.block _ (by have := HS.out; omega))).trans (HBW.out.block _ hBl))
      have hlk := fun o1 => (hqw o1).look (x := (k : Int)) (wfI (by omega) (by omega))
      have HNX : Hid (wkOf ts k ≤ (partF f (k : Int)).1 → ∀ x : Nat, x < k + 1 → wkOf ts x ≤ (partF f (x : Int)).1) := fun h x hx => by
        by_cases e : x = k
        · subst e; exact h
        · exact hno.out x (by omega)
      have HER : Hid ((partF f (k : Int)).1 < wkOf ts k → partsErr ts (partF f) = 5) := fun h => by
        unfold partsErr
        rw [lack_true hkl h]; rfl
      have e1 : (ts.getD k (0, [])).1 = wkOf ts k := rfl
      rw [e1] at hc1
      have e2 : (f (k : Int)).getD (0, 0, 0) = partF f (k : Int) := rfl
      rw [e2] at hlk
      clear hc hin hno e1 e2 hqw
      generalize wkOf ts k = y at *
      generalize partF f (k : Int) = q at *
      obtain ⟨q1, q2, q3⟩ := q
      dsimp only at hlk HNX HER
      generalize (needsOf ts k).length = nl at *
      by_cases hlt : q1 < y
      · have HE : Hid (errV (partsErr ts (partF f)) = .iface 47 (.int .i64 5)) := by show _ = _; rw [HER.out hlt]; rfl
        clear HNX HER
        go_wp2
        go_ret
        exact ⟨by rw [HE.out]; rfl, HBW.out.trans ((hb.alloc hb.size _).mono (by have := HS.out; omega))⟩
      · have HE := HNX.out (by omega)
        have HE2 : Hid (∀ x : Nat, x < k + 1 → wkOf ts x ≤ (partF f (x : Int)).1) := HE
        clear HNX HER HE
        go_wp2
        go_roundw
        case rel => exact ⟨k + 1, by omega, by go_num, HE2, hb.alloc hb.size _⟩
        case measure => simp [intOf]; omega
    · have HL : Hid (lackP ts (partF f) = false) := lack_false (fun x hx => hno.out x (by omega))
      clear hno
      obtain ⟨W2, HW2⟩ : ∃ W2, W2 = wr := ⟨_, rfl⟩
      have HB2 : Hid (Below W.heap.size W W2) := by rw [HW2]; exact hb
      rw [← HW2] at hcb ⊢
      clear HW2 hb
      go_wp2
      go_loopw [27] (fun s27 wr => ∃ k : Nat, k ≤ ts.length ∧ s27 = .int .i64 k ∧ Hid (∀ x : Nat, x < k → earlyX ts (partF f) x = false) ∧ Below W2.heap.size W2 wr) (fun s27 _ => ts.length - (intOf s27).toNat)
      case atStart => exact ⟨0, Nat.zero_le _, rfl, fun x hx => by omega, Below.refl _ _⟩
      case round =>
        obtain ⟨k, hk, rfl, hno, hb2⟩ := hrel
        have hb : Below W.heap.size W wr := HB2.out.trans (hb2.mono HB2.out.size)
        have hcb : wr.cell? ⟨C, 0, none⟩ = some (.map (some B)) := (hb.cell (p := ⟨C, 0, none⟩) (by show C < _; omega)).trans HC.out
        have hCw : C < wr.heap.size := by have := hb.size; omega
        by_cases hkl : k < ts.length
        · have hpw := (HP.out.later HBW.out).later hb
          obtain ⟨_, a', c', hva, hpc⟩ := hpw
          obtain ⟨rfl, -, rfl⟩ : a = a' ∧ True ∧ c = c' := by simp at hva; exact ⟨hva.1, trivial, hva.2⟩
          clear hva
          rcases hpc with h | ⟨b, o, rfl, hbl, hc⟩
          · subst h; simp at hkl
          obtain ⟨hc1, nv, hc2, hin⟩ := hc k hkl
          have HIN : Hid (IntsAt wr nv (needsOf ts k)) := hin
          obtain ⟨a2, c2, rfl⟩ : ∃ a2 c2, nv = .slice a2 (needsOf ts k).length c2 := by
            obtain ⟨_, a2, c2, h, _⟩ := hin
            exact ⟨a2, c2, h⟩
          have HNX : Hid (earlyX ts (partF f) k = false → ∀ x : Nat, x < k + 1 → earlyX ts (partF f) x = false) := fun h x hx => by
            by_cases e : x = k
            · subst e; exact h
            · exact hno.out x (by omega)
          have HER : Hid (earlyX ts (partF f) k = true → partsErr ts (partF f) = 6) := fun h => by
            unfold partsErr
            rw [HL.out, early_true hkl h]; rfl
          have HWK : Hid ((ts.getD k (0, [])).1 = wkOf ts k) := rfl
          rw [HWK.out] at hc1
          have hcf : ∀ w3 : World, Below wr.heap.size wr w3 → w3.cell? ⟨wr.heap.size, 0, none⟩ = some (.int .i64 k) → Calls Try.prog 37 #[.slice a2 (needsOf ts k).length c2, .func (.func 49) #[] #[.pointer (some ⟨C, 0, none⟩), .pointer (some ⟨wr.heap.size, 0, none⟩)]] w3 fun e w' => e = .returned (.bool (earlyX ts (partF f) k)) ∧ w' = w3 := by
            intro w3 hb3 hc3
            refine containsFunc_any _ (needsOf ts k) 49 _ (fun y => decide ((partF f (k : Int)).2.1 < (partF f y).2.2)) w3 (HIN.out.later hb3) ⟨enters29, fun y hy => ?_⟩
            have hyr := hr k hkl y hy
            have hbl3 := hb3.size
            have hbl1 := hb.size
            refine closure_parts y (k : Int) B m f _ _ w3 (wfI (by omega) (by omega)) (wfI (by omega) (by omega)) (HQ.out.of_block (((hb3.block _ (by have := HS.out; omega)).trans (hb.block _ (by have := HS.out; omega))).trans (HBW.out.block _ hBl))) ?_ hc3
            exact (hb3.cell (p := ⟨C, 0, none⟩) hCw).trans hcb
          have HCF : Hid (∀ w3 : World, Below wr.heap.size wr w3 → w3.cell? ⟨wr.heap.size, 0, none⟩ = some (.int .i64 k) → Calls Try.prog 37 #[.slice a2 (needsOf ts k).length c2, .func (.func 49) #[] #[.pointer (some ⟨C, 0, none⟩), .pointer (some ⟨wr.heap.size, 0, none⟩)]] w3 fun e w' => e = .returned (.bool (earlyX ts (partF f) k)) ∧ w' = w3) := hcf
          have HB3 : Hid (Below W2.heap.size W2 wr) := hb2
          have HBR : Hid (Below W.heap.size W wr) := hb
          clear hc hin hno hcf hb2 hb
          generalize earlyX ts (partF f) k = ex at *
          generalize wkOf ts k = y at *
          generalize (needsOf ts k).length = nl at *
          cases ex
          · have HE := HNX.out rfl
            have HE2 : Hid (∀ x : Nat, x < k + 1 → earlyX ts (partF f) x = false) := HE
            clear HE HNX HER
            go_wp2_with (go_at_call 37; refine (HCF.out _ (below_two wr _ _) (cell_first wr _ _ _)).mono ?_; rintro e w4 ⟨rfl, rfl⟩)
            go_roundw
            case rel => exact ⟨k + 1, by omega, by go_num, HE2, HB3.out.trans ((below_two wr _ _).mono HB3.out.size)⟩
            case measure => simp [intOf]; omega
          · have HE : Hid (errV (partsErr ts (partF f)) = .iface 47 (.int .i64 6)) := by show _ = _; rw [HER.out rfl]; rfl
            clear HNX HER
            go_wp2_with (go_at_call 37; refine (HCF.out _ (below_two wr _ _) (cell_first wr _ _ _)).mono ?_; rintro e w4 ⟨rfl, rfl⟩)
            go_ret
            exact ⟨by rw [HE.out]; rfl, HBW.out.trans ((HBR.out.trans ((below_two wr _ _).mono HBR.out.size)).mono (by have := HS.out; omega))⟩
        · have HE : Hid (errV (partsErr ts (partF f)) = .nilIface) := by
            show _ = _
            unfold partsErr
            rw [HL.out, early_false (fun x hx => hno.out x (by omega))]
            rfl
          have hbe : Below w.heap.size w wr := HBW.out.trans (hb.mono (by have := HS.out; omega))
          clear hno hb hb2
          go_wp2
          go_ret
          exact ⟨by rw [HE.out]; rfl, hbe⟩
end Go.Proofs.Ytkcpimbhfmhjgaa
