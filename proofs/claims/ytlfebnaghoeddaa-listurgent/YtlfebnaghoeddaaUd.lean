/- The walk of ListUrgent. -/
import Derived.Test.YtlfebnaghoeddaaUc
import Derived.Test.YtlfebnaghoeddaaDu
import Derived.Test.YtlfebnaghoeddaaDj
namespace Go.Proofs.Ytlfebnaghoeddaa
open Go.RowKit Go.Deep

theorem chain_laid (n : Nat) (work : Int) (w : World) (hn : n ≤ 30) :
    Calls Try.prog 8 #[.int .i64 n, .int .i64 work] w fun e w' => ∃ v, e = .returned v ∧ PlanAt w' v (chainTs work n) ∧ Below w.heap.size w w' := by
  refine (chain_any n work w (by omega)).mono ?_
  rintro e w' ⟨v, rfl, ho, hb⟩
  refine ⟨v, rfl, ho.planAt (by rw [chainTs_length]; omega) (fun j hj => ?_), hb⟩
  rw [chainTs_length] at hj
  rw [chain_needs _ _ _ hj]
  split <;> simp

theorem fact_urg {R T : Nat → Int} (hd : Deep (chainTs 1 3) R T) {l : List Nat} (h : UrgIs T 3 l) : l = [0, 1, 2] := by
  have hw : ∀ x, x < 3 → wkOf (chainTs 1 3) x = 1 := fun x hx => chain_wk 1 3 x hx
  have n1 : Need (chainTs 1 3) 1 0 := by unfold Need; rw [chain_needs _ _ _ (by omega)]; simp
  have n2 : Need (chainTs 1 3) 2 1 := by unfold Need; rw [chain_needs _ _ _ (by omega)]; simp
  have h1 := hd.tup 1 (by rw [chainTs_length]; omega) 0 n1
  have h2 := hd.tup 2 (by rw [chainTs_length]; omega) 1 n2
  rw [hw 0 (by omega)] at h1
  rw [hw 1 (by omega)] at h2
  refine h.det ⟨by decide, ?_⟩
  simp only [List.pairwise_cons, List.mem_cons, List.not_mem_nil, or_false, forall_eq_or_imp, forall_eq, List.Pairwise.nil, and_true, false_imp_iff, implies_true]
  unfold urgB
  omega

/-- Urgent of a chain of three. -/
theorem urgent_fact {v : Value} {w : World} (hp : PlanAt w v (chainTs 1 3)) :
    Calls Try.prog 7 #[v] w fun e w' => (∃ B, e = .returned (.tuple #[.slice (some ⟨B, 0, none⟩) 3 3, .nilIface]) ∧ B < w'.heap.size ∧ w'.cell? ⟨B, 0, none⟩ = some (.int .i64 0) ∧ w'.cell? ⟨B, 2, none⟩ = some (.int .i64 2)) ∧ Below w.heap.size w w' := by
  refine (urgent_any v _ w hp).mono ?_
  rintro e w' ⟨h, hb⟩
  have hck := chainW_check (work := 1) (by omega) (by omega) (n := 3) (by omega)
  rcases h with ⟨p, q, hq, hc', _⟩ | ⟨_, ord, l, B, ho, hu, rfl, _, hrow⟩
  · exact absurd (CheckIs.det hc' hck).2 hq
  · rw [chainTs_length] at hu hrow ⊢
    have := fact_urg (Ready.of hck ho).deep hu
    subst this
    exact ⟨⟨B, rfl, hrow.lt, hrow.cell (i := 0) (by omega), hrow.cell (i := 2) (by omega)⟩, hb⟩

theorem belowD {B : Nat} {a w : World} (h : Below B a w) (n : Nat) : Below B a (w.drewN n) := ⟨h.os, h.tape, h.output, h.size, h.block⟩
/-- No mark stands yet. -/
def noMarks : Array Value := Array.replicate 30 (.bool false)
theorem zero33 (w : World) : Sem.run Try.prog (zeroValue 33) w = Result.ok (.agg noMarks) w := by kernel_rfl
/-- Marks. -/
def markRow (f : Nat → Bool) : Nat → Value := fun k => .bool (f k)
theorem noMarks_row (w : World) : (w.alloc (.cells noMarks 33)).rowIs w.heap.size 33 30 (markRow (fun _ => false)) := by
  have := World.rowIs_alloc w noMarks 33 (markRow (fun _ => false)) (fun i hi => by
    have hi' : i < 30 := by simpa [noMarks] using hi
    simp [noMarks, markRow, hi'])
  rwa [show noMarks.size = 30 from by simp [noMarks]] at this

theorem mem_take_one {l : List Nat} {k : Nat} (hk : k < l.length) (x : Nat) : decide (x ∈ l.take (k + 1)) = if x = l.getD k 0 then true else decide (x ∈ l.take k) := by
  rw [List.take_succ_eq_append_getElem hk]
  have h1 : l.getD k 0 = l[k] := by rw [List.getD_eq_getElem?_getD, List.getElem?_eq_getElem hk]; rfl
  rw [h1]
  have h2 : x ∈ l.take k ++ [l[k]] ↔ x ∈ l.take k ∨ x = l[k] := by rw [List.mem_append, List.mem_singleton]
  by_cases e : x = l[k]
  · rw [if_pos e, decide_eq_true_eq, h2]; exact Or.inr e
  · rw [if_neg e]; exact decide_eq_decide.2 (h2.trans ⟨fun h => h.resolve_right e, Or.inl⟩)
theorem getD_in {l : List Nat} {k : Nat} (hk : k < l.length) : l.getD k 0 ∈ l := by
  rw [List.getD_eq_getElem?_getD, List.getElem?_eq_getElem hk]; exact List.getElem_mem hk
theorem fresh_at {l : List Nat} (hn : l.Nodup) {k : Nat} (hk : k < l.length) : decide (l.getD k 0 ∈ l.take k) = false := by
  have h1 : l.getD k 0 = l[k] := by rw [List.getD_eq_getElem?_getD, List.getElem?_eq_getElem hk]; rfl
  have h2 : (l.take (k + 1)).Nodup := hn.sublist (List.take_sublist _ _)
  rw [List.take_succ_eq_append_getElem hk, List.nodup_append] at h2
  rw [h1, decide_eq_false_iff_not]
  exact fun e => h2.2.2 _ e _ (by simp) rfl
theorem falls_at {T : Nat → Int} {n k : Nat} {l : List Nat} (h : UrgIs T n l) (hk : k + 1 < l.length) : T (l.getD (k + 1) 0) ≤ T (l.getD k 0) := by
  have h1 : l.getD k 0 = l[k] := by rw [List.getD_eq_getElem?_getD, List.getElem?_eq_getElem (by omega)]; rfl
  have h2 : l.getD (k + 1) 0 = l[k + 1] := by rw [List.getD_eq_getElem?_getD, List.getElem?_eq_getElem hk]; rfl
  have := List.pairwise_iff_getElem.1 h.falls k (k + 1) (by omega) hk (by omega)
  rw [h1, h2]
  unfold urgB at this
  omega

set_option maxRecDepth 100000 in
set_option maxHeartbeats 4000000 in
theorem listUrgent_any (v : Value) (ts : List (Int × List Int)) (w : World) (hp : PlanAt w v ts) : Calls Try.prog 4 #[v] w fun e w' => e = .returned (.bool true) ∧ Below w.heap.size w w' := by
  have HP : Hid (PlanAt w v ts) := hp
  obtain ⟨hl, a, c, rfl, hp⟩ := hp
  clear hp
  have hch : Calls Try.prog 8 #[.int .i64 3, .int .i64 1] w fun e w' => ∃ v, e = .returned v ∧ PlanAt w' v (chainTs 1 3) ∧ Below w.heap.size w w' := chain_laid 3 1 w (by omega)
  go_enter Try.func4, Try.ntmps4
  go_wp2_with fail
  refine hch.mono ?_
  clear hch
  rintro e w1 ⟨v, rfl, hp1, hb1⟩
  have hfa := urgent_fact hp1
  obtain ⟨_, va, vc, rfl, _⟩ := hp1
  rw [chainTs_length] at hfa ⊢
  go_wp2_with fail
  refine hfa.mono ?_
  clear hfa
  rintro e w2 ⟨⟨B, rfl, hB, hc0, hc2⟩, hb2⟩
  have hB2 : Below w.heap.size w w2 := hb1.trans (hb2.mono hb1.size)
  clear hb1 hb2
  have hur := urgent_any _ ts w2 (HP.out.later hB2)
  go_wp2_with fail
  refine hur.mono ?_
  clear hur hc0 hc2 hB
  rintro e w3 ⟨h, hb3⟩
  have hB3 : Below w.heap.size w w3 := hB2.trans (hb3.mono hB2.size)
  rcases h with ⟨p, q, hq, hc, rfl⟩ | ⟨hc, ord, l, U, ho, hu, rfl, _, hrow⟩
  · rw [errV_some hq]
    clear hq hc
    go_wp2
    go_ret
    exact ⟨rfl, hB3⟩
  · have htl := tails_any _ ts w3 (HP.out.later hB3)
    have h30 : ts.length ≤ 30 := (hc.ok rfl).2.1
    have hlen := hu.length
    have HL : Hid (l.length = ts.length) := hlen
    have HU : Hid (UrgIs (tailsOf ts ord) ts.length l) := hu
    have HROW : Hid (w3.rowIs U 3 ts.length (intRow (fun k => (l.getD k 0 : Nat)))) := hrow
    have hUlt := hrow.lt
    clear hb3 hu hrow hlen
    go_wp2_with fail
    refine htl.mono ?_
    clear htl
    rintro e w4 ⟨h, hb4⟩
    obtain ⟨ord', rv, ho', rfl, hin⟩ : ∃ ord' rv, OrdIs ts ord' ∧ e = .returned (.tuple #[rv, .nilIface]) ∧ IntsAt w4 rv (listOf (tailsOf ts ord') ts.length) := by
      rcases h with ⟨p, q, hq, hc', _⟩ | ⟨_, ord', rv, h1, h2, h3⟩
      · exact absurd (CheckIs.det hc' hc).2 hq
      · exact ⟨ord', rv, h1, h2, h3⟩
    obtain rfl := OrdIs.det ho' ho hc
    have hB4 : Below w.heap.size w w4 := hB3.trans (hb4.mono hB3.size)
    have HROW4 : Hid (w4.rowIs U 3 ts.length (intRow (fun k => (l.getD k 0 : Nat)))) := HROW.out.of_block (hb4.block _ hUlt)
    have HIN : Hid (IntsAt w4 rv (listOf (tailsOf ts ord') ts.length)) := hin
    obtain ⟨_, ra, rc, rfl, _⟩ := hin
    rw [listOf_length] at HIN ⊢
    have hU4 : U < w4.heap.size := HROW4.out.lt
    clear h hc ho ho' hb4 HROW hUlt
    have hz := zero33 w4
    have hne : ((ts.length : Int) == (ts.length : Int)) = true := by simp
    have HM0 : Hid ((w4.alloc (.cells noMarks 33)).rowIs w4.heap.size 33 30 (markRow (fun x => decide (x ∈ l.take 0)))) := (noMarks_row w4).congr (fun k _ => by unfold markRow; simp)
    go_wp2
    clear hz hne
    obtain ⟨I, hI⟩ : ∃ I, I = w4.heap.size := ⟨_, rfl⟩
    have HI : Hid (I = w4.heap.size) := hI
    rw [← hI] at HM0 ⊢
    clear hI
    go_loopw [10] (fun s10 wr => ∃ k : Nat, k ≤ ts.length ∧ s10 = .int .i64 k ∧ Hid (wr.rowIs I 33 30 (markRow (fun x => decide (x ∈ l.take k)))) ∧ Below I w4 wr) (fun s10 _ => ts.length - (intOf s10).toNat)
    case atStart => exact ⟨0, Nat.zero_le _, rfl, HM0, (Below.refl _ _).alloc (by rw [HI.out]; exact Nat.le_refl _) _⟩
    case round =>
      clear HM0
      obtain ⟨k, hk, rfl, hM, hb⟩ := hrel
      by_cases hkl : k < ts.length
      · have hll : k < l.length := by rw [HL.out]; exact hkl
        have hx := HU.out.lt (getD_in hll)
        have hrow : wr.rowIs U 3 ts.length (intRow (fun k => (l.getD k 0 : Nat))) := HROW4.out.of_block (hb.block _ (by rw [HI.out]; exact hU4))
        have hcx : wr.cell? ⟨U, k, none⟩ = some (.int .i64 ((l.getD k 0 : Nat) : Int)) := hrow.cell hkl
        have hUw := hrow.lt
        have hIw := hM.out.lt
        have hmx : wr.cell? ⟨I, l.getD k 0, none⟩ = some (.bool false) := (hM.out.cell (i := l.getD k 0) (by omega)).trans (by show some (Value.bool (decide _)) = _; rw [fresh_at HU.out.nodup hll])
        have hfr := hM.out.frozen (l.getD k 0)
        have hIU : U ≠ I := by have := HI.out; omega
        have HMN : Hid ((wr.setCell ⟨I, l.getD k 0, none⟩ (.bool true)).rowIs I 33 30 (markRow (fun x => decide (x ∈ l.take (k + 1))))) := by
          refine (hM.out.set (l.getD k 0) (.bool true)).congr (fun j _ => ?_)
          show (if j = l.getD k 0 then Value.bool true else Value.bool (decide (j ∈ l.take k))) = Value.bool (decide (j ∈ l.take (k + 1)))
          rw [mem_take_one hll]
          by_cases e : j = l.getD k 0
          · rw [if_pos e, if_pos e]
          · rw [if_neg e, if_neg e]
        have hb2 : Below I w4 (wr.setCell ⟨I, l.getD k 0, none⟩ (.bool true)) := hb.setCell (p := ⟨I, l.getD k 0, none⟩) (Nat.le_refl _) _
        have hFA : 0 < k → Hid (tailsOf ts ord' (l.getD k 0) ≤ tailsOf ts ord' (l.getD (k - 1) 0)) := fun e => by obtain ⟨j, rfl⟩ : ∃ j, k = j + 1 := ⟨k - 1, by omega⟩; exact falls_at HU.out hll
        have hcy : 0 < k → wr.cell? ⟨U, k - 1, none⟩ = some (.int .i64 (l.getD (k - 1) 0 : Nat)) ∧ l.getD (k - 1) 0 < ts.length := fun e => ⟨hrow.cell (by omega), HU.out.lt (getD_in (by omega))⟩
        have hin := HIN.out.later (hb.mono (by rw [HI.out]; exact Nat.le_refl _))
        obtain ⟨_, ra', rc', hv, hcc⟩ := hin
        rw [listOf_length] at hv hcc
        simp only [Value.slice.injEq] at hv
        obtain ⟨rfl, -, rfl⟩ : ra = ra' ∧ True ∧ rc = rc' := ⟨hv.1, trivial, hv.2.2⟩
        rcases hcc with h0 | ⟨tb, to, rfl, htb, hcc⟩
        · have := congrArg List.length h0
          rw [listOf_length, List.length_nil] at this
          omega
        have htbI : tb ≠ I := by
          obtain ⟨_, ra', rc', hv, h⟩ := HIN.out
          rw [listOf_length] at h hv
          simp only [Value.slice.injEq] at hv
          rcases h with h0 | ⟨tb', to', e, h, _⟩
          · have := congrArg List.length h0
            rw [listOf_length, List.length_nil] at this
            omega
          · have e2 := hv.1.trans e
            simp only [Option.some.injEq, Addr.mk.injEq, and_true] at e2
            have := HI.out
            omega
        have htx : wr.cell? ⟨tb, to + l.getD k 0, none⟩ = some (.int .i64 (tailsOf ts ord' (l.getD k 0))) := by have := hcc _ hx; rwa [listOf_getD _ hx] at this
        have hty : 0 < k → wr.cell? ⟨tb, to + l.getD (k - 1) 0, none⟩ = some (.int .i64 (tailsOf ts ord' (l.getD (k - 1) 0))) := fun e => by have hy := (hcy e).2; have := hcc _ hy; rwa [listOf_getD _ hy] at this
        clear hcc hrow hM hv
        generalize l.getD k 0 = x at *
        generalize tailsOf ts ord' x = tx at *
        rcases Nat.eq_zero_or_pos k with hk0 | hk0
        · subst hk0
          clear hFA hcy hty
          go_wp2
          obtain ⟨W2, hW2⟩ : ∃ W2, W2 = wr.setCell ⟨I, x, none⟩ (.bool true) := ⟨_, rfl⟩
          rw [← hW2] at HMN hb2 ⊢
          clear hW2
          go_quiet (fail)
          go_wp2
          go_roundw
          case rel => exact ⟨1, by omega, by go_num, HMN, belowD hb2 _⟩
          case measure => simp [intOf]; omega
        · obtain ⟨hcy1, hyl⟩ := hcy hk0
          have htyj := hty hk0
          have hfa := hFA hk0
          clear hFA hcy hty
          generalize l.getD (k - 1) 0 = y at *
          obtain ⟨j, hj⟩ : ∃ j, j = k - 1 := ⟨_, rfl⟩
          rw [← hj] at hcy1
          have hwr : IntKind.i64.wrap ((k : Int) - 1) = (j : Int) := by rw [IntKind.wrap_i64]; omega
          have hjl : j < ts.length := by omega
          clear hj
          generalize tailsOf ts ord' y = ty at *
          have hk2 : ∀ (q : Addr) (u : Value), q.block ≠ I → wr.cell? q = some u → (wr.setCell ⟨I, x, none⟩ (.bool true)).cell? q = some u := fun q u hq hc => (World.cell?_of_block (w := wr) (Below.heap_setCell wr ⟨I, x, none⟩ (.bool true) q.block hq)).trans hc
          have g1 := hk2 ⟨U, k, none⟩ _ hIU hcx
          have g2 := hk2 ⟨U, j, none⟩ _ hIU hcy1
          have g3 := hk2 ⟨tb, to + x, none⟩ _ htbI htx
          have g4 := hk2 ⟨tb, to + y, none⟩ _ htbI htyj
          have hsz : wr.heap.size = (wr.setCell ⟨I, x, none⟩ (.bool true)).heap.size := by simp [World.setCell]
          clear hk2
          have G1 : Hid _ := g1
          have G2 : Hid _ := g2
          have G3 : Hid _ := g3
          have G4 : Hid _ := g4
          have GS : Hid _ := hsz
          clear g1 g2 g3 g4 hsz
          go_wp2
          obtain ⟨W2, hW2⟩ : ∃ W2, W2 = wr.setCell ⟨I, x, none⟩ (.bool true) := ⟨_, rfl⟩
          rw [← hW2] at HMN hb2 G1 G2 G3 G4 GS ⊢
          have g1 := G1.out
          have g2 := G2.out
          have g3 := G3.out
          have g4 := G4.out
          have hUw2 : U < W2.heap.size := by rw [← GS.out]; exact hUw
          have htb2 : tb < W2.heap.size := by rw [← GS.out]; exact htb
          have hd1 : decide (tx ≤ ty) = true := by simpa using hfa.out
          have hd2 : decide (ty < tx) = false := by have := hfa.out; simp; omega
          have hd3 : ¬ ty < tx := by have := hfa.out; omega
          clear hW2 hcx hcy1 htx htyj G1 G2 G3 G4 GS
          go_quiet (fail)
          go_wp2
          go_roundw
          case rel => exact ⟨k + 1, by omega, by go_num, HMN, belowD hb2 _⟩
          case measure => simp [intOf]; omega
      · clear hM
        have hbe : Below w.heap.size w wr := hB4.trans (hb.mono (by rw [HI.out]; exact hB4.size))
        go_wp2
        go_ret
        exact ⟨rfl, hbe⟩
end Go.Proofs.Ytlfebnaghoeddaa
