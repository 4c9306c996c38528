/- The contracts of next and its closure. -/
import Derived.Test.YtjojfnppegfmnaaD
namespace Go.Proofs.Ytjojfnppegfmnaa
open Go.RowKit

/-- A slice value of n bools, the k-th T k. -/
def BoolsAt (w : World) (v : Value) (n : Nat) (T : Nat → Bool) : Prop :=
  ∃ b o c, v = .slice (some ⟨b, o, none⟩) n c ∧ b < w.heap.size ∧ ∀ k, k < n → w.cell? ⟨b, o + k, none⟩ = some (.bool (T k))

theorem BoolsAt.later {w w' : World} {v : Value} {n : Nat} {T : Nat → Bool} (h : BoolsAt w v n T) (hb : Below w.heap.size w w') : BoolsAt w' v n T := by
  obtain ⟨b, o, c, hv, hlt, hc⟩ := h
  exact ⟨b, o, c, hv, Nat.lt_of_lt_of_le hlt hb.size, fun k hk => (hb.cell (p := ⟨b, o + k, none⟩) hlt).trans (hc k hk)⟩

/-- The k-th task can be next: it is not placed, and all that it needs are. -/
def freeB (ts : List (Int × List Int)) (T : Nat → Bool) (k : Nat) : Bool := !T k && !(needsOf ts k).any (fun y => !T y.toNat)

/-- The least task that can be next; -1, if none can. -/
def NextIs (ts : List (Int × List Int)) (T : Nat → Bool) (r : Int) : Prop :=
  (∃ k : Nat, k < ts.length ∧ (∀ j, j < k → freeB ts T j = false) ∧ freeB ts T k = true ∧ r = k) ∨ ((∀ j, j < ts.length → freeB ts T j = false) ∧ r = -1)
theorem NextIs.some {ts : List (Int × List Int)} {T : Nat → Bool} (k : Nat) (h1 : k < ts.length) (h2 : ∀ j, j < k → freeB ts T j = false) (h3 : freeB ts T k = true) : NextIs ts T k := Or.inl ⟨k, h1, h2, h3, rfl⟩
theorem NextIs.none {ts : List (Int × List Int)} {T : Nat → Bool} (h : ∀ j, j < ts.length → freeB ts T j = false) : NextIs ts T (-1) := Or.inr ⟨h, rfl⟩
theorem NextIs.elim {ts : List (Int × List Int)} {T : Nat → Bool} {motive : ∀ r, NextIs ts T r → Prop} (some : ∀ (k : Nat) (h1 : k < ts.length) (h2 : ∀ j, j < k → freeB ts T j = false) (h3 : freeB ts T k = true), motive k (NextIs.some k h1 h2 h3))
    (none : ∀ h : ∀ j, j < ts.length → freeB ts T j = false, motive (-1) (NextIs.none h)) {r : Int} (h : NextIs ts T r) : motive r h := by
  rcases h with ⟨k, h1, h2, h3, rfl⟩ | ⟨h, rfl⟩
  · exact some k h1 h2 h3
  · exact none h

theorem closure_next (x : Int) (n : Nat) (T : Nat → Bool) (a : Addr) (pv : Value) (w : World) (hc : w.cell? a = some pv) (hp : BoolsAt w pv n T) (h0 : 0 ≤ x) (hx : x < n) :
    Calls Try.prog 46 (#[.int .i64 x] ++ #[.pointer (some a)]) w fun e w' => e = .returned (.bool (!T x.toNat)) ∧ w' = w := by
  show Calls Try.prog 46 #[.int .i64 x, .pointer (some a)] w _
  obtain ⟨b, o, c, rfl, hlt, hb⟩ := hp
  obtain ⟨y, rfl⟩ := Int.eq_ofNat_of_zero_le h0
  have hcell := hb y (by omega)
  rw [Int.toNat_natCast]
  clear hb h0
  cases hT : T y
  all_goals
    rw [hT] at hcell
    clear hT
    go_enter Try.func46, Try.ntmps46
    go_wp2
    go_ret
    exact ⟨rfl, rfl⟩

theorem enters32 : ∀ args w, (callFunc 46 args).run Try.prog w = .ok (.enter 46 args) w := enters_of Try.func46 (by kernel_rfl) rfl

set_option maxRecDepth 100000 in
set_option maxHeartbeats 4000000 in
theorem next_any (v pv : Value) (ts : List (Int × List Int)) (T : Nat → Bool) (w : World) (hp : PlanAt w v ts) (hr : InRange ts) (hb : BoolsAt w pv ts.length T) :
    Calls Try.prog 31 #[v, pv] w fun e w' => (∃ r, e = .returned (.int .i64 r) ∧ NextIs ts T r) ∧ Below w.heap.size w w' := by
  obtain ⟨hl, a, c, rfl, hp⟩ := hp
  have HB : Hid (BoolsAt w pv ts.length T) := hb
  obtain ⟨pb, po, pc, rfl, hpb, hpc⟩ := hb
  have HPC : Hid (∀ k, k < ts.length → w.cell? ⟨pb, po + k, none⟩ = some (.bool (T k))) := hpc
  have HR : Hid (InRange ts) := hr
  clear hpc hr
  go_enter Try.func31, Try.ntmps31
  go_wp2
  go_loopw [11] (fun s11 wr => ∃ k : Nat, k ≤ ts.length ∧ s11 = .int .i64 k ∧ Below (w.heap.size + 1) (w.alloc (.cells #[.slice (some ⟨pb, po, none⟩) ts.length pc] 75)) wr ∧ Hid (∀ j, j < k → freeB ts T j = false)) (fun s11 _ => ts.length - (intOf s11).toNat)
  case atStart => exact ⟨0, Nat.zero_le _, rfl, Below.refl _ _, fun j hj => by omega⟩
  case round =>
    obtain ⟨k, hk, rfl, hB, hno⟩ := hrel
    have hBw : Below w.heap.size w wr := ((Below.refl _ _).alloc (Nat.le_refl _) _).trans (hB.mono (by omega))
    have hbox : wr.cell? ⟨w.heap.size, 0, none⟩ = some (.slice (some ⟨pb, po, none⟩) ts.length pc) := (hB.cell (p := ⟨w.heap.size, 0, none⟩) (by show w.heap.size < w.heap.size + 1; omega)).trans (by simp)
    by_cases hkl : k < ts.length
    · rcases hp with rfl | ⟨b, o, rfl, hbl, hc⟩
      · simp at hkl
      obtain ⟨hc1, nv, hc2, hin⟩ := hc k hkl
      obtain ⟨a2, c2, rfl⟩ : ∃ a2 c2, nv = .slice a2 (needsOf ts k).length c2 := by
        obtain ⟨_, a2, c2, h, _⟩ := hin
        exact ⟨a2, c2, h⟩
      have hc1' := (hBw.cell (p := ⟨b, o + k * 2, none⟩) hbl).trans hc1
      have hc2' := (hBw.cell (p := ⟨b, o + k * 2 + 1, none⟩) hbl).trans hc2
      have hpk := (hBw.cell (p := ⟨pb, po + k, none⟩) hpb).trans (HPC.out k hkl)
      have hsz : w.heap.size < wr.heap.size := by have := hB.size; simp at this; omega
      have hpbr : pb < wr.heap.size := by omega
      have hBx : Below w.heap.size w (wr.alloc (.cells #[.int .i64 (ts.getD k (0, [])).1, .slice a2 (needsOf ts k).length c2] 43)) := hBw.alloc hBw.size _
      have hbx : (wr.alloc (.cells #[.int .i64 (ts.getD k (0, [])).1, .slice a2 (needsOf ts k).length c2] 43)).cell? ⟨w.heap.size, 0, none⟩ = some (.slice (some ⟨pb, po, none⟩) ts.length pc) := by
        rw [World.cell?_alloc_lt _ _ ⟨w.heap.size, 0, none⟩ hsz]; exact hbox
      have hpred : PredIn 46 #[.pointer (some ⟨w.heap.size, 0, none⟩)] (fun y => !T y.toNat) (needsOf ts k) (wr.alloc (.cells #[.int .i64 (ts.getD k (0, [])).1, .slice a2 (needsOf ts k).length c2] 43)) :=
        ⟨enters32, fun x hx => closure_next x ts.length T _ _ _ hbx (HB.out.later hBx) (HR.out k hkl x hx).1 (HR.out k hkl x hx).2⟩
      have hcf := containsFunc_any _ _ 46 _ _ _ (hin.later hBx) hpred
      clear hc hc1 hc2 hin hpred hbx
      generalize (ts.getD k (0, [])).1 = wk at *
      cases hT : T k
      · rw [hT] at hpk
        cases ha : (needsOf ts k).any (fun y => !T y.toNat)
        · have HF : Hid (freeB ts T k = true) := by simp only [freeB, hT, ha, Hid]; rfl
          rw [ha] at hcf
          clear hT ha
          go_wp2_with (go_at_call 41; refine hcf.mono ?_; rintro e w' ⟨rfl, rfl⟩)
          go_ret
          exact ⟨⟨k, rfl, NextIs.some k hkl hno.out HF.out⟩, hBx⟩
        · have HF : Hid (freeB ts T k = false) := by simp only [freeB, hT, ha, Hid]; rfl
          rw [ha] at hcf
          clear hT ha
          go_wp2_with (go_at_call 41; refine hcf.mono ?_; rintro e w' ⟨rfl, rfl⟩)
          go_roundw
          case rel =>
            refine ⟨k + 1, by omega, by go_num, hB.alloc (by omega) _, fun j hj => ?_⟩
            by_cases e : j = k
            · subst e; exact HF.out
            · exact hno.out j (by omega)
          case measure => simp [intOf]; omega
      · rw [hT] at hpk
        have HF : Hid (freeB ts T k = false) := by simp only [freeB, hT, Hid]; rfl
        clear hT hcf
        go_wp2
        go_roundw
        case rel =>
          refine ⟨k + 1, by omega, by go_num, hB.alloc (by omega) _, fun j hj => ?_⟩
          by_cases e : j = k
          · subst e; exact HF.out
          · exact hno.out j (by omega)
        case measure => simp [intOf]; omega
    · clear hp
      go_wp2
      go_ret
      exact ⟨⟨-1, rfl, NextIs.none (fun j hj => hno.out j (by omega))⟩, hBw⟩
end Go.Proofs.Ytjojfnppegfmnaa
