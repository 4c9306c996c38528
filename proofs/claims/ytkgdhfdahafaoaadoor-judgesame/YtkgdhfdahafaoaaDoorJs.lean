/- The contracts of judge.Bits and judge.Ends. -/
import Derived.Test.YtkgdhfdahafaoaaDoorJr
import Derived.Test.YtkgdhfdahafaoaaDoorDg
namespace Go.Proofs.YtkgdhfdahafaoaaDoor
open Go.RowKit Go.Deep Go.Maps

/-- What Bits hands back: the error by its number. -/
def BitsOut (ts : List (Int × List Int)) (hands : Int) (l : List BitZ) (e : Ending) : Prop :=
  (∃ p q, CheckIs ts p q ∧ jErr q hands ≠ 0 ∧ e = .returned (errV (jErr q hands))) ∨ (CheckIs ts 0 0 ∧ 1 ≤ hands ∧ hands ≤ 6 ∧ e = .returned (errV (bitsErr ts hands.toNat l)))

set_option maxRecDepth 100000 in
set_option maxHeartbeats 2000000 in
theorem bits_any (v lv : Value) (ts : List (Int × List Int)) (l : List BitZ) (hands : Int) (w : World) (hp : PlanAt w v ts) (hl : BitsAt w lv l) :
    Calls Tryd.prog 9 #[v, .int .i64 hands, lv] w fun e w' => BitsOut ts hands l e ∧ Below w.heap.size w w' := by
  have hof := ofBits_any v lv ts l hands w hp hl
  obtain ⟨hl0, a, c, rfl, hp⟩ := hp
  obtain ⟨hl1, la, lc, rfl, hl⟩ := hl
  clear hp hl
  go_enter Tryd.func9, Tryd.ntmps9
  go_wp2_with fail
  refine hof.mono ?_
  clear hof
  rintro e w1 ⟨ho, hb1⟩
  rcases ho with ⟨p, q, hc, hne, rfl⟩ | ⟨hc, h1, h6, mv, rfl, _⟩
  · have HF : Hid (∀ u, u = errV (jErr q hands) → BitsOut ts hands l (.returned u)) := fun u hu => Or.inl ⟨p, q, hc, hne, by rw [hu]⟩
    clear hc hne
    generalize errV (jErr q hands) = ev at *
    go_wp2
    go_ret
    exact ⟨HF.out _ rfl, hb1⟩
  · have HF : Hid (∀ u, u = errV (bitsErr ts hands.toNat l) → BitsOut ts hands l (.returned u)) := fun u hu => Or.inr ⟨hc, h1, h6, by rw [hu]⟩
    clear hc h1 h6
    generalize errV (bitsErr ts hands.toNat l) = ev at *
    go_wp2
    go_ret
    exact ⟨HF.out _ rfl, hb1⟩

/-- What Ends hands back: of each task its last step, in a row of its own. -/
def EndsOut (ts : List (Int × List Int)) (hands : Int) (l : List BitZ) (n : Nat) (e : Ending) (w' : World) : Prop :=
  (∃ p q, CheckIs ts p q ∧ jErr q hands ≠ 0 ∧ e = .returned (.tuple #[.slice none 0 0, errV (jErr q hands)])) ∨
  (CheckIs ts 0 0 ∧ 1 ≤ hands ∧ hands ≤ 6 ∧ bitsErr ts hands.toNat l ≠ 0 ∧ e = .returned (.tuple #[.slice none 0 0, errV (bitsErr ts hands.toNat l)])) ∨
  (CheckIs ts 0 0 ∧ 1 ≤ hands ∧ hands ≤ 6 ∧ bitsErr ts hands.toNat l = 0 ∧ ∃ g, n ≤ g ∧ e = .returned (.tuple #[.slice (some ⟨g, 0, none⟩) ts.length ts.length, .nilIface]) ∧ w'.rowIs g 3 ts.length (intRow (fun x => lastB l (x : Int))))

set_option maxRecDepth 100000 in
set_option maxHeartbeats 4000000 in
theorem ends_any (v lv : Value) (ts : List (Int × List Int)) (l : List BitZ) (hands : Int) (w : World) (hp : PlanAt w v ts) (hl : BitsAt w lv l) :
    Calls Tryd.prog 10 #[v, .int .i64 hands, lv] w fun e w' => EndsOut ts hands l w.heap.size e w' ∧ Below w.heap.size w w' := by
  have hof := ofBits_any v lv ts l hands w hp hl
  obtain ⟨hl0, a, c, rfl, hp⟩ := hp
  obtain ⟨hl1, la, lc, rfl, hl⟩ := hl
  clear hp hl
  go_enter Tryd.func10, Tryd.ntmps10
  go_wp2_with fail
  refine hof.mono ?_
  clear hof
  rintro e w1 ⟨ho, hb1⟩
  rcases ho with ⟨p, q, hc, hne, rfl⟩ | ⟨hc, h1, h6, mv, rfl, hm⟩
  · have hev := errV_some hne
    have HF : Hid (∀ u, u = errV (jErr q hands) → EndsOut ts hands l w.heap.size (.returned (.tuple #[.slice none 0 0, u])) w1) := fun u hu => Or.inl ⟨p, q, hc, hne, by rw [hu]⟩
    rw [hev] at HF ⊢
    clear hc hne hev
    generalize jErr q hands = g at *
    go_wp2
    go_ret2
    exact ⟨HF.out _ rfl, hb1⟩
  · by_cases hz : bitsErr ts hands.toNat l = 0
    · obtain ⟨B, m, rfl, hpm⟩ := hm hz
      have HF : Hid (∀ g w', w.heap.size ≤ g → w'.rowIs g 3 ts.length (intRow (fun x => lastB l (x : Int))) → EndsOut ts hands l w.heap.size (.returned (.tuple #[.slice (some ⟨g, 0, none⟩) ts.length ts.length, .nilIface])) w') := fun g w' hg h => Or.inr (Or.inr ⟨hc, h1, h6, hz, g, hg, rfl, h⟩)
      obtain ⟨hw, hr, hno⟩ := hc.worksJ
      have hok := (bits_ok hw hr).1 hz
      have h30 := hw.1
      have HPL : Hid (∀ x : Nat, x < ts.length → ((partO l (x : Int)).getD (0, 0, 0)).2.2 = lastB l (x : Int) + 1 ∧ 0 ≤ lastB l (x : Int) ∧ lastB l (x : Int) ≤ 10000) := fun x hx => by
        rw [partO_getD]
        have h1 := part_last hw hok hx
        refine ⟨by omega, ?_⟩
        rcases lastB_at l (x : Int) with h2 | ⟨b, hb, _, h2⟩
        · omega
        · have := hok.rng b hb; omega
      have HPM : Hid (PartsAt w1 B m (partO l)) := hpm
      have hBl := hpm.lt
      rw [hz, errV_zero]
      clear hm hpm hok hc hw hr hno hz
      have hmk := fun wx => run_make_row' (P := Tryd.prog) 27 3 (.int .i64 0) 8 Tryd.underlying27 Tryd.info3 rfl .i64 .i64 ts.length (by omega) (by omega) wx
      have hf2 := field2
      go_wp2
      clear hmk
      have hrow0 := World.rowIs_made w1 (.int .i64 0) ts.length 3
      obtain ⟨g, hg⟩ : ∃ g, g = w1.heap.size := ⟨_, rfl⟩
      have HG : Hid (g = w1.heap.size) := hg
      have HST : Hid ((w1.alloc (.cells (madeCells #[.int .i64 0] ts.length) 3)).rowIs g 3 ts.length (intRow (fun _ => 0))) := by rw [hg]; exact hrow0.congr (fun k _ => rfl)
      have HBB : Hid (Below g w1 (w1.alloc (.cells (madeCells #[.int .i64 0] ts.length) 3))) := by rw [hg]; exact (Below.refl _ _).alloc (Nat.le_refl _) _
      have hBg : B < g := by omega
      rw [← hg]
      clear hg hrow0
      generalize w1.alloc (.cells (madeCells #[.int .i64 0] ts.length) 3) = W at *
      go_loopw [27] (fun s27 wr => ∃ k : Nat, k ≤ ts.length ∧ s27 = .int .i64 k ∧ Hid (∃ F, wr.rowIs g 3 ts.length (intRow F) ∧ ∀ x, x < k → F x = lastB l (x : Int)) ∧ Hid (Below g w1 wr)) (fun s27 _ => ts.length - (intOf s27).toNat)
      case atStart => exact ⟨0, Nat.zero_le _, rfl, ⟨_, HST.out, fun x hx => by omega⟩, HBB⟩
      case round =>
        obtain ⟨k, hk, rfl, hF, hB⟩ := hrel
        by_cases hkl : k < ts.length
        · obtain ⟨F, hrow, hFx⟩ := hF.out
          have hlk := (HPM.out.of_block (hB.out.block _ hBg)).look (x := (k : Int)) (wfI (by omega) (by omega))
          obtain ⟨hp1, hp2, hp3⟩ := HPL.out k hkl
          rw [hp1] at hlk
          have hcell := hrow.cell hkl
          have hfr := hrow.frozen k
          have HRN : Hid ((wr.setCell ⟨g, k, none⟩ (.int .i64 (lastB l (k : Int)))).rowIs g 3 ts.length (intRow (upd F k (lastB l (k : Int)))) ∧ ∀ x, x < k + 1 → upd F k (lastB l (k : Int)) x = lastB l (x : Int)) := ⟨row_upd hrow, fun x hx => by
            by_cases e : x = k
            · subst e; rw [upd_at]
            · rw [upd_ne _ _ e]; exact hFx x (by omega)⟩
          have HBN : Hid (Below g w1 (wr.setCell ⟨g, k, none⟩ (.int .i64 (lastB l (k : Int))))) := hB.out.setCell (p := ⟨g, k, none⟩) (Nat.le_refl _) _
          have hgl := hrow.lt
          unfold intRow at hcell
          clear hF hrow hFx hp1
          generalize lastB l (k : Int) = la at *
          generalize ((partO l (k : Int)).getD (0, 0, 0)).1 = a1 at *
          generalize ((partO l (k : Int)).getD (0, 0, 0)).2.1 = a2 at *
          go_wp2
          go_roundw
          case rel => exact ⟨k + 1, by omega, by go_num, ⟨_, HRN.out⟩, HBN⟩
          case measure => simp [intOf]; omega
        · have HR : Hid (wr.rowIs g 3 ts.length (intRow (fun x => lastB l (x : Int)))) := by
            obtain ⟨F, hrow, hFx⟩ := hF.out
            exact hrow.congr (fun x hx => by unfold intRow; rw [hFx x (by omega)])
          have hbe : Below w.heap.size w wr := hb1.trans (by have := hB.out; rw [HG.out] at this; exact this.mono hb1.size)
          have hge : w.heap.size ≤ g := by have := hb1.size; have := HG.out; omega
          clear hF hB
          go_wp2
          go_ret2
          exact ⟨HF.out _ _ hge HR.out, hbe⟩
    · have hev := errV_some hz
      have HF : Hid (∀ u, u = errV (bitsErr ts hands.toNat l) → EndsOut ts hands l w.heap.size (.returned (.tuple #[.slice none 0 0, u])) w1) := fun u hu => Or.inr (Or.inl ⟨hc, h1, h6, hz, by rw [hu]⟩)
      rw [hev] at HF ⊢
      clear hc hz hev hm
      generalize bitsErr ts hands.toNat l = g at *
      go_wp2
      go_ret2
      exact ⟨HF.out _ rfl, hb1⟩
end Go.Proofs.YtkgdhfdahafaoaaDoor
