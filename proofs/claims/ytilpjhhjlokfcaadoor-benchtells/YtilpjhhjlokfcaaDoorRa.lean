/- The document's own Free and Order, as the statement's package has them. -/
import Derived.Test.YtilpjhhjlokfcaaDoorM
import Derived.Test.YtilpjhhjlokfcaaDoorDm
namespace Go.Proofs.YtilpjhhjlokfcaaDoor
open Go.RowKit Go.Deep

theorem owned_shape {w : World} {base : Nat} {v : Value} {n : Nat} {xs : List Value} (h : w.ownsRow base 3 1 v n xs) : ∃ a c, v = .slice a n c := by
  rcases h.2 with ⟨h1, h2⟩ | ⟨g, cap, cur, hv, _⟩
  · exact ⟨none, 0, by rw [h1, h2]⟩
  · exact ⟨_, _, hv⟩

def missing (ts : List (Int × List Int)) (T : Nat → Bool) (k : Nat) : Bool := (needsOf ts k).any (fun y => !T y.toNat)

set_option maxRecDepth 100000 in
set_option maxHeartbeats 4000000 in
theorem freeR_any (v pv : Value) (ts : List (Int × List Int)) (T : Nat → Bool) (i : Nat) (w : World) (hp : PlanAt w v ts) (hi : i < ts.length) (hr : InRange ts) (hb : BoolsAt w pv ts.length T) :
    Calls Tryd.prog 29 #[v, .int .i64 i, pv] w fun e w' => e = .returned (.bool (!missing ts T i)) ∧ Below w.heap.size w w' := by
  obtain ⟨hl, a, c, rfl, hp⟩ := hp
  obtain ⟨bb, bo, bc, rfl, hblt, hbc⟩ := hb
  rcases hp with rfl | ⟨b, o, rfl, hbl, hc⟩
  · simp at hi
  obtain ⟨_, nv, hc2, hin⟩ := hc i hi
  obtain ⟨hnl, na, nc, rfl, hns⟩ := hin
  have HBC : Hid (∀ k, k < ts.length → w.cell? ⟨bb, bo + k, none⟩ = some (.bool (T k))) := hbc
  have HR : Hid (InRange ts) := hr
  clear hc hbc hr
  go_enter Tryd.func29, Tryd.ntmps29
  go_wp2
  go_loopw [7] (fun s7 wr => ∃ k : Nat, k ≤ (needsOf ts i).length ∧ s7 = .int .i64 k ∧ Hid (∀ y, y ∈ (needsOf ts i).take k → (!T y.toNat) = false) ∧ Below w.heap.size w wr) (fun s7 _ => (needsOf ts i).length - (intOf s7).toNat)
  case atStart => exact ⟨0, Nat.zero_le _, rfl, fun y hy => by simp at hy, Below.refl _ _⟩
  case round =>
    obtain ⟨k, hk, rfl, hno, hb⟩ := hrel
    have hc2' := (hb.cell (p := ⟨b, o + i * 2 + 1, none⟩) hbl).trans hc2
    by_cases hkl : k < (needsOf ts i).length
    · rcases hns with hns | ⟨nb, no, rfl, hnb, hnc⟩
      · rw [hns] at hkl; simp at hkl
      have hyc := (hb.cell (p := ⟨nb, no + k, none⟩) hnb).trans (hnc k hkl)
      have hym : (needsOf ts i).getD k 0 ∈ needsOf ts i := by rw [List.getD_eq_getElem?_getD, List.getElem?_eq_getElem hkl]; exact List.getElem_mem hkl
      have hyr := HR.out i hi _ hym
      have HS : Hid ((!T ((needsOf ts i).getD k 0).toNat) = false → ∀ y, y ∈ (needsOf ts i).take (k + 1) → (!T y.toNat) = false) := fun h => take_succ_all (fun y => !T y.toNat) _ k hkl hno.out h
      have HX : Hid ((!T ((needsOf ts i).getD k 0).toNat) = true → missing ts T i = true) := fun h => List.any_eq_true.2 ⟨_, hym, h⟩
      clear hnc hym
      generalize (needsOf ts i).getD k 0 = yz at *
      obtain ⟨y, rfl⟩ := Int.eq_ofNat_of_zero_le hyr.1
      have hyl : y < ts.length := by omega
      have hdy := (hb.cell (p := ⟨bb, bo + y, none⟩) hblt).trans (HBC.out y hyl)
      rw [Int.toNat_natCast] at HS HX
      cases hT : T y
      · rw [hT] at hdy HX
        have HMI : Hid (missing ts T i = true) := HX.out rfl
        clear HS HX hT
        go_wp2
        go_ret
        exact ⟨ret_bool (by rw [HMI.out]; rfl), hb⟩
      · rw [hT] at hdy HS
        clear HX hT
        go_wp2
        go_roundw
        case rel => exact ⟨k + 1, by omega, by go_num, HS.out rfl, hb⟩
        case measure => simp [intOf]; omega
    · have HMI : Hid (missing ts T i = false) := by
        unfold missing
        refine List.any_eq_false.2 fun y hy => ?_
        have := hno.out y (by rw [List.take_of_length_le (by omega)]; exact hy)
        simp only [this]; simp
      clear hns
      go_wp2
      go_ret
      exact ⟨ret_bool (by rw [HMI.out]; rfl), hb⟩
theorem freeB_eq (ts : List (Int × List Int)) (T : Nat → Bool) (k : Nat) : freeB ts T k = (!T k && !missing ts T k) := rfl

theorem unseen_all (S : Nat → Bool) (n : Nat) (h : unseen S n = 0) : ∀ k, k < n → S k = true := by
  induction n with
  | zero => intro k hk; omega
  | succ n ih =>
    intro k hk
    unfold unseen at h
    by_cases e : k = n
    · subst e
      cases hs : S k with
      | true => rfl
      | false => rw [hs] at h; simp at h
    · exact ih (by omega) k (by omega)

def OrdMem (N n : Nat) (w wr : World) (s : Value) (ord : List Nat) : Prop :=
  wr.ownsRow (N + 1) 3 1 s ord.length (ord.map natV) ∧ wr.rowIs N 4 n (fun k => .bool (has ord k)) ∧ Below N w wr
theorem OrdMem.later {N n : Nat} {w wr w' : World} {s : Value} {ord : List Nat} (h : OrdMem N n w wr s ord) (hb : Below wr.heap.size wr w') : OrdMem N n w w' s ord :=
  ⟨h.1.kept (row := none) ⟨hb.os, hb.tape, hb.output, hb.size, fun k hk _ => hb.block k hk⟩ (by cases s.ownBlock <;> simp), h.2.1.of_block (hb.block N h.2.1.lt), h.2.2.trans (hb.mono (Nat.le_of_lt h.2.1.lt))⟩
theorem OrdMem.bools {N n : Nat} {w wr : World} {s : Value} {ord : List Nat} (h : OrdMem N n w wr s ord) : BoolsAt wr (.slice (some ⟨N, 0, none⟩) n n) n (has ord) :=
  ⟨N, 0, n, rfl, h.2.1.lt, fun k hk => by rw [Nat.zero_add]; exact h.2.1.cell hk⟩

end Go.Proofs.YtilpjhhjlokfcaaDoor
