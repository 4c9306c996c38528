/- The contract of list.Long. -/
import Derived.Test.YtkcpimbhfmhjgaaNe
namespace Go.Proofs.Ytkcpimbhfmhjgaa
open Go.RowKit Go.Deep Classical

/-- What Long hands back. -/
def LLongOut (ts : List (Int × List Int)) (hands : Int) (zs : List Int) (e : Ending) : Prop :=
  (∃ p q, CheckIs ts p q ∧ lErr q hands (decide (EachZ ts.length zs)) ≠ 0 ∧ e = .returned (.tuple #[.int .i64 0, errV (lErr q hands (decide (EachZ ts.length zs)))])) ∨
  (CheckIs ts 0 0 ∧ 1 ≤ hands ∧ hands ≤ 6 ∧ EachZ ts.length zs ∧ e = .returned (.tuple #[.int .i64 (endsOf (listOut ts hands.toNat (natsOf zs)) : Nat), .nilIface]))

theorem ends_take {l : List Sty} {k : Nat} (hk : k < l.length) : endsOf (l.take (k + 1)) = max (endsOf (l.take k)) (l.getD k (0, 0, 0, 0)).2.2.2 := by
  have : l.take (k + 1) = l.take k ++ [l.getD k (0, 0, 0, 0)] := by
    rw [List.take_succ_eq_append_getElem hk, List.getD_eq_getElem?_getD, List.getElem?_eq_getElem hk]; rfl
  rw [this, endsOf_snoc]

set_option maxRecDepth 100000 in
set_option maxHeartbeats 2000000 in
theorem llong_any (v ov : Value) (ts : List (Int × List Int)) (zs : List Int) (hands : Int) (w : World) (hp : PlanAt w v ts) (ho : IntsAt w ov zs) (hwf : ∀ x, x ∈ zs → (Lit.int .i64 x).wf = true) :
    Calls Try.prog 9 #[v, .int .i64 hands, ov] w fun e w' => LLongOut ts hands zs e ∧ Below w.heap.size w w' := by
  have hrun := lrun_any v ov ts zs hands w hp ho hwf
  obtain ⟨hl, a, c, rfl, hp⟩ := hp
  obtain ⟨hol1, oa, oc, rfl, hol2⟩ := ho
  clear hp hol1 hol2 hwf
  go_enter Try.func9, Try.ntmps9
  go_wp2_with fail
  refine hrun.mono ?_
  clear hrun
  rintro e w1 ⟨h, hb1⟩
  rcases h with ⟨p, q, hc, hq, rfl⟩ | ⟨hc, h1, h6, hez, sv, rfl, hS⟩
  · have hev := errV_some hq
    have HF : Hid (∀ u, u = errV (lErr q hands (decide (EachZ ts.length zs))) → LLongOut ts hands zs (.returned (.tuple #[.int .i64 0, u]))) := fun u hu => Or.inl ⟨p, q, hc, hq, by rw [hu]⟩
    rw [hev] at HF ⊢
    clear hev hq hc
    generalize lErr q hands (decide (EachZ ts.length zs)) = g at *
    go_wp2
    go_ret2
    exact ⟨HF.out _ rfl, hb1⟩
  · have HF : Hid (∀ m : Nat, m = endsOf (listOut ts hands.toNat (natsOf zs)) → LLongOut ts hands zs (.returned (.tuple #[.int .i64 (m : Int), .nilIface]))) := fun m hm => Or.inr ⟨hc, h1, h6, hez, by rw [hm]⟩
    obtain ⟨sa, sc, rfl⟩ := hS.shape
    have HS : Hid (RowS w.heap.size w1 (.slice sa (listOut ts hands.toNat (natsOf zs)).length sc) (listOut ts hands.toNat (natsOf zs))) := hS
    have hll : (listOut ts hands.toNat (natsOf zs)).length ≤ 30 := by
      obtain ⟨hw, hr, _⟩ := hc.works
      have hord := hez.nats.1
      have := (outAt_laid (h := hands.toNat) hord.2.2 hord.all hr 601).1.len
      have := hw.1
      unfold listOut
      omega
    clear hS hc hez
    generalize listOut ts hands.toNat (natsOf zs) = l at *
    go_wp2
    go_loopw [10, 25] (fun s10 s25 wr => ∃ k : Nat, k ≤ l.length ∧ s25 = .int .i64 k ∧ s10 = .int .i64 (endsOf (l.take k) : Nat) ∧ Below w1.heap.size w1 wr) (fun _ s25 _ => l.length - (intOf s25).toNat)
    case atStart => exact ⟨0, Nat.zero_le _, rfl, by simp [endsOf], Below.refl _ _⟩
    case round =>
      obtain ⟨k, hk, rfl, rfl, hb⟩ := hrel
      by_cases hkl : k < l.length
      · have hS := HS.out.later hb
        obtain ⟨g, sc', hv, _, hg, _, hcell⟩ := hS.full (by omega)
        simp only [Value.slice.injEq] at hv
        obtain ⟨rfl, -, rfl⟩ : sa = some ⟨g, 0, none⟩ ∧ True ∧ sc = sc' := ⟨hv.1, trivial, hv.2.2⟩
        have hc0 := hcell k hkl 0 (by omega)
        have hc1 := hcell k hkl 1 (by omega)
        have hc2 := hcell k hkl 2 (by omega)
        have hc3 := hcell k hkl 3 (by omega)
        have HE : Hid (endsOf (l.take (k + 1)) = max (endsOf (l.take k)) (l.getD k (0, 0, 0, 0)).2.2.2) := ends_take hkl
        generalize l.getD k (0, 0, 0, 0) = sx at *
        obtain ⟨x0, x1, x2, x3⟩ := sx
        replace hc0 : wr.cell? ⟨g, k * 4, none⟩ = some (.int .i64 x0) := hc0
        replace hc1 : wr.cell? ⟨g, k * 4 + 1, none⟩ = some (.int .i64 x1) := hc1
        replace hc2 : wr.cell? ⟨g, k * 4 + 2, none⟩ = some (.int .i64 x2) := hc2
        replace hc3 : wr.cell? ⟨g, k * 4 + 3, none⟩ = some (.int .i64 x3) := hc3
        have hba : Below w1.heap.size w1 (wr.alloc (.cells #[.int .i64 (x0 : Int), .int .i64 (x1 : Int), .int .i64 (x2 : Int), .int .i64 (x3 : Int)] 63)) := hb.alloc hb.size _
        replace HE : Hid (endsOf (l.take (k + 1)) = max (endsOf (l.take k)) x3) := HE
        clear hcell hS hv
        generalize endsOf (l.take k) = m at *
        by_cases hm : m < x3
        · have HE2 : Hid (endsOf (l.take (k + 1)) = x3) := by show _ = _; rw [HE.out]; omega
          clear HE
          go_wp2
          go_roundw
          case rel => exact ⟨k + 1, by omega, by go_num, by rw [HE2.out], hba⟩
          case measure => simp [intOf]; omega
        · have HE2 : Hid (endsOf (l.take (k + 1)) = m) := by show _ = _; rw [HE.out]; omega
          clear HE
          go_wp2
          go_roundw
          case rel => exact ⟨k + 1, by omega, by go_num, by rw [HE2.out], hba⟩
          case measure => simp [intOf]; omega
      · have HE : Hid (endsOf (l.take k) = endsOf l) := by show _ = _; rw [List.take_of_length_le (by omega)]
        have hbe : Below w.heap.size w wr := hb1.trans (hb.mono hb1.size)
        have HF2 := HF.out _ HE.out
        have HF3 : Hid (LLongOut ts hands zs (.returned (.tuple #[.int .i64 ((endsOf (l.take k) : Nat) : Int), .nilIface]))) := HF2
        clear HF2 HE HS
        generalize endsOf (l.take k) = m at *
        go_wp2
        go_ret2
        exact ⟨HF3.out, hbe⟩
end Go.Proofs.Ytkcpimbhfmhjgaa
