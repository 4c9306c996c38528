/- The contract of judge.ofBits. -/
import Derived.Test.YtkcpimbhfmhjgaaJq
namespace Go.Proofs.Ytkcpimbhfmhjgaa
open Go.RowKit Go.Deep Go.Maps

/-- What ofBits hands back. -/
def OfOut (ts : List (Int × List Int)) (hands : Int) (l : List BitZ) (e : Ending) (w' : World) : Prop :=
  (∃ p q, CheckIs ts p q ∧ jErr q hands ≠ 0 ∧ e = .returned (.tuple #[.map none, errV (jErr q hands)])) ∨
  (CheckIs ts 0 0 ∧ 1 ≤ hands ∧ hands ≤ 6 ∧ ∃ mv, e = .returned (.tuple #[mv, errV (bitsErr ts hands.toNat l)]) ∧ (bitsErr ts hands.toNat l = 0 → ∃ B m, mv = .map (some B) ∧ PartsAt w' B m (partO l)))

theorem take_at {α : Type} {l : List α} {k : Nat} {d : α} (hk : k < l.length) : l.take (k + 1) = l.take k ++ [l.getD k d] ∧ l[k] = l.getD k d := by
  have h1 : l[k] = l.getD k d := by rw [List.getD_eq_getElem?_getD, List.getElem?_eq_getElem hk]; rfl
  exact ⟨by rw [List.take_succ_eq_append_getElem hk, h1], h1⟩

/-- The next bit has a fault: it is the list's. -/
theorem JMem.bad {ts : List (Int × List Int)} {h N : Nat} {w wr : World} {l : List BitZ} {k : Nat} (m : JMem ts h N w wr (l.take k)) (hk : k < l.length) {e : Int} (he : bitErr ts h (l.take k) (l.getD k (0, 0, 0)) = e) (hne : e ≠ 0) : bitsErr ts h l = e := by
  have h1 := firstErr_at hk m.none (by rw [(take_at (d := (0, 0, 0)) hk).2, he]; exact hne)
  rw [(take_at (d := (0, 0, 0)) hk).2, he] at h1
  unfold bitsErr
  rw [if_neg (by rw [h1]; exact hne), h1]

/-- Behind a bit's block, one map has grown: all else is as it was. -/
theorem JMem.one {ts : List (Int × List Int)} {h N : Nat} {w wr w3 : World} {L : List BitZ} {u1 u2 u3 : Value} (m : JMem ts h N w wr L) (hg : (wr.alloc (.cells #[u1, u2, u3] 57)).grownBy w3 (some (N + 1))) :
    PartsAt w3 N L.length (partO L) ∧ SeenM w3 (N + 1 + 1) L.length (seenT L) ∧ Below N w w3 ∧ wr.heap.size < w3.heap.size ∧ w3.heap[wr.heap.size]? = some (.cells #[u1, u2, u3] 57 (0, 0)) := by
  have hs := m.size
  have m1 := m.later ((Below.refl _ _).alloc (Nat.le_refl _) (.cells #[u1, u2, u3] 57))
  have hz : (wr.alloc (.cells #[u1, u2, u3] 57)).heap.size = wr.heap.size + 1 := by simp
  have hz3 := hg.size
  refine ⟨m1.parts.kept hg (by simp), m1.task.kept hg (by simp), m1.below.trans (grown_below hg (by omega) (by omega)), by omega, ?_⟩
  exact (hg.block _ (by omega) (by simp; omega)).trans (blk_alloc_new _ _)
theorem JMem.two {ts : List (Int × List Int)} {h N : Nat} {w wr w3 w4 : World} {L : List BitZ} {u1 u2 u3 : Value} {S : Int → Int → Bool} (m : JMem ts h N w wr L) (hg : (wr.alloc (.cells #[u1, u2, u3] 57)).grownBy w3 (some (N + 1))) (hg4 : w3.grownBy w4 (some (N + 1 + 1))) (hs3 : SeenM w3 (N + 1) (L.length + 1) S) :
    PartsAt w4 N L.length (partO L) ∧ SeenM w4 (N + 1) (L.length + 1) S ∧ Below N w w4 ∧ wr.heap.size < w4.heap.size ∧ w4.heap[wr.heap.size]? = some (.cells #[u1, u2, u3] 57 (0, 0)) := by
  have hs := m.size
  obtain ⟨h1, h2, h3, h4, h5⟩ := m.one hg
  refine ⟨h1.kept hg4 (by simp; omega), hs3.kept hg4 (by simp), h3.trans (grown_below hg4 (by omega) (by omega)), Nat.lt_of_lt_of_le h4 hg4.size, ?_⟩
  exact (hg4.block _ h4 (by simp; omega)).trans h5
theorem bitErr_one {ts : List (Int × List Int)} {h : Nat} {L : List BitZ} {s hh t e : Int} (hb : bitErr ts h L (s, hh, t) = if (inRange s 10001 && inRange hh (h : Int) && inRange t (ts.length : Int)) = true then e else 1) (hf : inRange s 10001 = false ∨ inRange hh (h : Int) = false ∨ inRange t (ts.length : Int) = false) : bitErr ts h L (s, hh, t) = 1 := by
  rw [hb]
  rcases hf with hf | hf | hf <;> simp [hf]
theorem below_drewJ {B : Nat} {a w : World} (h : Below B a w) (n : Nat) : Below B a (w.drewN n) := ⟨h.os, h.tape, h.output, h.size, h.block⟩
theorem inR {a b : Int} (h : inRange a b = true) : 0 ≤ a ∧ a < b := by
  unfold inRange at h
  simpa using h

theorem plan_atJ {w : World} {a : Option Addr} {n c : Nat} {ts : List (Int × List Int)} (h : PlanAt w (.slice a n c) ts) {x : Nat} (hx : x < ts.length) : ∃ b o, a = some ⟨b, o, none⟩ := by
  obtain ⟨_, a', c', hv, h⟩ := h
  simp only [Value.slice.injEq] at hv
  rcases h with h | ⟨b, o, ha, _⟩
  · subst h; simp at hx
  · exact ⟨b, o, hv.1.trans ha⟩
theorem plan_workJ {w : World} {b o n c : Nat} {ts : List (Int × List Int)} (h : PlanAt w (.slice (some ⟨b, o, none⟩) n c) ts) {x : Nat} (hx : x < ts.length) {y : Int} (hy : Hid (wkOf ts x = y)) : w.cell? ⟨b, o + x * 2, none⟩ = some (.int .i64 y) := by
  obtain ⟨_, a', c', hv, h⟩ := h
  simp only [Value.slice.injEq] at hv
  rcases h with h | ⟨b', o', ha, _, h⟩
  · subst h; simp at hx
  · have e := hv.1.trans ha
    simp only [Option.some.injEq, Addr.mk.injEq, and_true] at e
    rw [e.1, e.2, (h x hx).1, ← hy.out]; rfl
theorem JMem.next {ts : List (Int × List Int)} {h N : Nat} {w wr w4 w5 w6 : World} {L : List BitZ} {s hh : Int} {x : Nat} {q : Prt} (m : JMem ts h N w wr L) (hx : x < ts.length) (he : bitErr ts h L (s, hh, (x : Int)) = 0)
    (hq : (partO L (x : Int)).getD (0, 0, 0) = q)
    (h4 : SeenM w4 (N + 1) (L.length + 1) (fun a b => seenH L a b || (decide (a = hh) && decide (b = s)))) (t4 : SeenM w4 (N + 1 + 1) (L.length + 1) (fun a b => seenT L a b || (decide (a = (x : Int)) && decide (b = s)))) (b4 : Below N w w4)
    (hb5 : Below w4.heap.size w4 w5) (h6 : PartsAt w6 N (L.length + 1) (fun y => if y = (x : Int) then some (withP q s) else partO L y)) (hg6 : w5.grownBy w6 (some N)) : JMem ts h N w w6 (L ++ [(s, hh, (x : Int))]) := by
  have e : (L ++ [(s, hh, (x : Int))]).length = L.length + 1 := by simp
  have hN4 : N ≤ w4.heap.size := by have := h4.lt; omega
  have hN5 : N ≤ w5.heap.size := Nat.le_trans hN4 hb5.size
  refine ⟨?_, ?_, ?_, ?_, ?_, fun y hy => ?_⟩
  · rw [e]
    refine h6.congr (fun y => ?_)
    rw [partO_snoc]
    dsimp only
    rw [hq]
  · rw [e]
    exact ((h4.of_block (hb5.block _ h4.lt)).kept hg6 (by simp)).congr (fun a b => seenH_snoc L (s, hh, (x : Int)) a b)
  · rw [e]
    exact ((t4.of_block (hb5.block _ t4.lt)).kept hg6 (by simp; omega)).congr (fun a b => seenT_snoc L (s, hh, (x : Int)) a b)
  · exact (b4.trans (hb5.mono hN4)).trans (grown_below hg6 (Nat.le_refl _) hN5)
  · have h0 := m.none
    rw [firstErr_zero] at h0 ⊢
    intro k hk
    rw [List.nil_append]
    rw [e] at hk
    by_cases ek : k = L.length
    · subst ek
      rw [List.take_left, List.getElem_append_right (Nat.le_refl _)]
      simpa using he
    · have := h0 k (by omega)
      rw [List.nil_append] at this
      rw [List.take_append_of_le_length (by omega), List.getElem_append_left (by omega)]
      exact this
  · rw [manyB_append, manyB_one]
    have h1 := m.few y hy
    have h2 := (bitErr_zero.1 he).2.2
    rw [Int.toNat_natCast] at h2
    dsimp only at h2 ⊢
    split
    · rename_i ee
      have : y = x := by omega
      subst this
      omega
    · omega

set_option maxRecDepth 100000 in
set_option maxHeartbeats 8000000 in
theorem ofBits_any (v lv : Value) (ts : List (Int × List Int)) (l : List BitZ) (hands : Int) (w : World) (hp : PlanAt w v ts) (hl : BitsAt w lv l) :
    Calls Try.prog 26 #[v, .int .i64 hands, lv] w fun e w' => OfOut ts hands l e w' ∧ Below w.heap.size w w' := by
  have HP : Hid (PlanAt w v ts) := hp
  have HLT : Hid (BitsAt w lv l) := hl
  have hck := jcheck_any v ts hands w hp
  obtain ⟨hl0, a, c, rfl, hp⟩ := hp
  obtain ⟨hl1, la, lc, rfl, hl⟩ := hl
  clear hp hl
  go_enter Try.func26, Try.ntmps26
  go_wp2_with fail
  refine hck.mono ?_
  rintro e w1 ⟨⟨p, q, hc, rfl⟩, hb1⟩
  clear hck
  by_cases hq : jErr q hands = 0
  · obtain ⟨rfl, h1, h6⟩ := jErr_zero hq
    obtain ⟨rfl, -⟩ := hc.ok rfl
    rw [hq, errV_zero]
    obtain ⟨hd, rfl⟩ := Int.eq_ofNat_of_zero_le (show 0 ≤ hands by omega)
    obtain ⟨hw, hr, hno⟩ := hc.worksJ
    have h30 := hw.1
    have HOUT : Hid (∀ mv w' er, er = errV (bitsErr ts hd l) → (bitsErr ts hd l = 0 → ∃ B m, mv = .map (some B) ∧ PartsAt w' B m (partO l)) → OfOut ts (hd : Int) l (.returned (.tuple #[mv, er])) w') := fun mv w' er he h => Or.inr ⟨hc, h1, h6, mv, by rw [he, Int.toNat_natCast], by rw [Int.toNat_natCast]; exact h⟩
    have HPW : Hid (∀ wx, Below w1.heap.size w1 wx → PlanAt wx (.slice a ts.length c) ts) := fun wx hx => (HP.out.later hb1).later hx
    have HLW : Hid (∀ wx, Below w1.heap.size w1 wx → BitsAt wx (.slice la l.length lc) l) := fun wx hx => (HLT.out.later hb1).later hx
    have HM : Hid (JMem ts hd w1.heap.size w1 (((w1.alloc (.map #[] 0)).alloc (.map #[] 0)).alloc (.map #[] 0)) (l.take 0)) := JMem.start hw hd w1
    have HW : Hid (Works ts) := hw
    have HR : Hid (InRange ts) := hr
    clear hc hq hno hw hr HP HLT
    have hmm1 : ∀ w : World, (Instr.makeMap 66 none).run Try.prog w = .ok (.map (some w.heap.size)) (w.alloc (.map #[] 0)) := fun _ => rfl
    have hmm2 : ∀ w : World, (Instr.makeMap 69 none).run Try.prog w = .ok (.map (some w.heap.size)) (w.alloc (.map #[] 0)) := fun _ => rfl
    have hf0 := field0
    go_wp2
    clear hmm1 hmm2
    obtain ⟨N, hN⟩ : ∃ N, N = w1.heap.size := ⟨_, rfl⟩
    have HNW : Hid (N = w1.heap.size) := hN
    rw [← hN] at HM ⊢
    clear hN
    go_loopw [25] (fun s25 wr => ∃ k : Nat, k ≤ l.length ∧ s25 = .int .i64 k ∧ Hid (JMem ts hd N w1 wr (l.take k))) (fun s25 _ => l.length - (intOf s25).toNat)
    case atStart => exact ⟨0, Nat.zero_le _, rfl, HM⟩
    case round =>
      clear HM
      obtain ⟨k, hk, rfl, hM⟩ := hrel
      by_cases hkl : k < l.length
      · have hsz := hM.out.size
        have hbW : Below w1.heap.size w1 wr := by have := hM.out.below; rw [HNW.out] at this; exact this
        have hbits := HLW.out _ hbW
        obtain ⟨_, la', lc', hva, hbc⟩ := hbits
        obtain ⟨rfl, -, rfl⟩ : la = la' ∧ True ∧ lc = lc' := by simp at hva; exact ⟨hva.1, trivial, hva.2⟩
        clear hva
        rcases hbc with h | ⟨lb, lo, rfl, hlbl, hbc⟩
        · subst h; simp at hkl
        obtain ⟨hb0, hb1', hb2'⟩ := hbc k hkl
        clear hbc
        have HBAD : Hid (∀ e, bitErr ts hd (l.take k) (l.getD k (0, 0, 0)) = e → e ≠ 0 → bitsErr ts hd l = e) := fun e he hne => hM.out.bad hkl he hne
        have HBY := bitErr_by (ts := ts) (h := hd) (hands := (hd : Int)) rfl (l.take k) (l.getD k (0, 0, 0)) (fun h => by
          unfold inRange at h
          simp only [Bool.and_eq_true, decide_eq_true_eq] at h
          have := hM.out.few (l.getD k (0, 0, 0)).2.2.toNat (by omega)
          rwa [Int.toNat_of_nonneg h.1] at this)
        have HLEN : Hid ((l.take k).length ≤ 10000000000000) := by show _ ≤ _; rw [List.length_take]; omega
        have HNX : Hid (∀ wx, JMem ts hd N w1 wx (l.take k ++ [l.getD k (0, 0, 0)]) → JMem ts hd N w1 wx (l.take (k + 1))) := fun wx h => by rw [(take_at (d := (0, 0, 0)) hkl).1]; exact h
        generalize l.take k = L at *
        generalize l.getD k (0, 0, 0) = bt at *
        obtain ⟨s, hh, t⟩ := bt
        dsimp only at hb0 hb1' hb2' HBY
        have hNle : w1.heap.size ≤ wr.heap.size := hbW.size
        have hbe : ∀ o1, Below w.heap.size w (wr.alloc o1) := fun o1 => hb1.trans (((hbW.alloc hNle o1)).mono hb1.size)
        have HBE : Hid (∀ o1, Below w.heap.size w (wr.alloc o1)) := hbe
        clear hbe
        by_cases hout : inRange s 10001 = false ∨ inRange hh (hd : Int) = false ∨ inRange t (ts.length : Int) = false
        · have HE1 := HBAD.out 1 (bitErr_one HBY hout) (by omega)
          have HE : Hid (errV (bitsErr ts hd l) = .iface 47 (.int .i64 1)) := by show _ = _; rw [HE1]; rfl
          have HNE : Hid (bitsErr ts hd l ≠ 0) := by show _ ≠ _; rw [HE1]; omega
          clear HE1 HBY HBAD
          rcases hout with ho | ho | ho
          · go_wp2_with (go_at_call 28; refine (below_any _ _ _).mono ?_; rintro e w' ⟨rfl, rfl⟩)
            go_ret2
            exact ⟨HOUT.out _ _ _ HE.out.symm (fun h => absurd h HNE.out), HBE.out _⟩
          · cases ho1 : inRange s 10001
            all_goals
              go_wp2_with (go_at_call 28; refine (below_any _ _ _).mono ?_; rintro e w' ⟨rfl, rfl⟩)
              go_ret2
              exact ⟨HOUT.out _ _ _ HE.out.symm (fun h => absurd h HNE.out), HBE.out _⟩
          · cases ho1 : inRange s 10001
            all_goals cases ho2 : inRange hh (hd : Int)
            all_goals
              go_wp2_with (go_at_call 28; refine (below_any _ _ _).mono ?_; rintro e w' ⟨rfl, rfl⟩)
              go_ret2
              exact ⟨HOUT.out _ _ _ HE.out.symm (fun h => absurd h HNE.out), HBE.out _⟩
        · have ho1 : inRange s 10001 = true := by cases e : inRange s 10001 <;> simp_all
          have ho2 : inRange hh (hd : Int) = true := by cases e : inRange hh (hd : Int) <;> simp_all
          have ho3 : inRange t (ts.length : Int) = true := by cases e : inRange t (ts.length : Int) <;> simp_all
          clear hout
          obtain ⟨hs0, hs1⟩ := inR ho1
          obtain ⟨hh0, hh1⟩ := inR ho2
          obtain ⟨ht0, ht1⟩ := inR ho3
          obtain ⟨x, rfl⟩ := Int.eq_ofNat_of_zero_le ht0
          have hxl : x < ts.length := by omega
          have wfs : (Lit.int .i64 s).wf = true := wfI (by omega) (by omega)
          have wfh : (Lit.int .i64 hh).wf = true := wfI (by omega) (by omega)
          have wfx : (Lit.int .i64 (x : Int)).wf = true := wfI (by omega) (by omega)
          rw [ho1, ho2, ho3, Bool.and_self, Bool.and_self, if_pos rfl, Int.toNat_natCast] at HBY
          have c25a := again_any (N + 1) L.length (seenH L) hh s (wr.alloc (.cells #[.int .i64 s, .int .i64 hh, .int .i64 (x : Int)] 57)) (by have := HLEN.out; omega) wfh wfs (hM.out.hand.of_block (Below.heap_alloc _ _ _ hM.out.hand.lt))
          have HB1 : Hid (∀ w3 : World, Below N w1 w3 → Below w.heap.size w w3) := fun w3 h => hb1.trans (by rw [HNW.out] at h; exact h.mono hb1.size)
          cases hS1 : seenH L hh s
          · rw [hS1] at c25a HBY
            rw [Bool.false_or] at HBY
            cases hS2 : seenT L (x : Int) s
            · rw [hS2, if_neg (by decide)] at HBY
              obtain ⟨b, o, rfl⟩ := plan_atJ (HPW.out _ hbW) hxl
              have HPX : Hid (∀ w4 : World, Below N w1 w4 → w4.cell? ⟨b, o + x * 2, none⟩ = some (.int .i64 (wkOf ts x))) := fun w4 h => plan_workJ (HPW.out _ (by rw [HNW.out] at h; exact h)) hxl (y := wkOf ts x) rfl
              have HLK : Hid (∀ w4 : World, PartsAt w4 N L.length (partO L) → (Instr.lookup 66 (.map (some N)) (.int .i64 (x : Int)) false).run Try.prog w4 = .ok (.agg #[.int .i64 ((partO L (x : Int)).getD (0, 0, 0)).1, .int .i64 ((partO L (x : Int)).getD (0, 0, 0)).2.1, .int .i64 ((partO L (x : Int)).getD (0, 0, 0)).2.2]) w4) := fun w4 h => h.look wfx
              have HNEXT : Hid (∀ q : Prt, (partO L (x : Int)).getD (0, 0, 0) = q → bitErr ts hd L (s, hh, (x : Int)) = 0 → ∀ w4 w5 w6, SeenM w4 (N + 1) (L.length + 1) (fun a b => seenH L a b || (decide (a = hh) && decide (b = s))) → SeenM w4 (N + 1 + 1) (L.length + 1) (fun a b => seenT L a b || (decide (a = (x : Int)) && decide (b = s))) → Below N w1 w4 → Below w4.heap.size w4 w5 → PartsAt w6 N (L.length + 1) (fun y => if y = (x : Int) then some (withP q s) else partO L y) → w5.grownBy w6 (some N) → JMem ts hd N w1 w6 (L ++ [(s, hh, (x : Int))])) := fun q hq he w4 w5 w6 a1 a2 a3 a4 a5 a6 => hM.out.next hxl he hq a1 a2 a3 a4 a5 a6
              rw [← partO_getD] at HBY
              have HFEW : Hid (0 ≤ ((partO L (x : Int)).getD (0, 0, 0)).1 ∧ ((partO L (x : Int)).getD (0, 0, 0)).1 ≤ 20) := by
                have h1 := hM.out.few x hxl
                have h2 := (part_is L (x : Int)).work
                have h3 := (HW.out.2 x hxl).2
                show _ ∧ _
                rw [partO_getD]
                omega
              generalize hqd : (partO L (x : Int)).getD (0, 0, 0) = qd at *
              have HNEX := HNEXT.out qd rfl
              clear HNEXT hqd
              obtain ⟨q1, q2, q3⟩ := qd
              dsimp only at HLK HBY HFEW
              generalize wkOf ts x = y at *
              by_cases hfull : q1 = y
              · subst hfull
                rw [if_pos rfl] at HBY
                have HE1 := HBAD.out 4 HBY (by omega)
                have HE : Hid (errV (bitsErr ts hd l) = .iface 47 (.int .i64 4)) := by show _ = _; rw [HE1]; rfl
                have HNE : Hid (bitsErr ts hd l ≠ 0) := by show _ ≠ _; rw [HE1]; omega
                clear HE1 HBY HBAD hs0 hs1 hh0 hh1 ht0 HNEX
                go_wp2_with (first | (go_at_call 28; refine (below_any _ _ _).mono ?_; rintro e w' ⟨rfl, rfl⟩) | (go_at_call 47; refine c25a.mono ?_; clear c25a; rintro e w3 ⟨rfl, hs3, hg3⟩; obtain ⟨hp3, ht3, hb3, hsz3, hX3⟩ := hM.out.one hg3; obtain ⟨hx0, hx1, hx2⟩ := three_cells hX3; have c25b := again_any (N + 1 + 1) L.length (seenT L) (x : Int) s w3 (Nat.le_trans HLEN.out (by decide)) wfx wfs ht3; rw [hS2] at c25b; have HMM := fun w4 hg4 => hM.out.two (w4 := w4) hg3 hg4 hs3; clear hs3 hg3 hp3 ht3 hb3 hX3) | (go_at_call 47; refine c25b.mono ?_; clear c25b; rintro e w4 ⟨rfl, hs4, hg4⟩; obtain ⟨hp4, hh4, hb4, hsz4, hX4⟩ := HMM w4 hg4; obtain ⟨hy0, hy1, hy2⟩ := three_cells hX4; have hlk4 := fun q => HLK.out (w4.drewN q) (hp4.of_block (w' := w4.drewN q) rfl); have hpx4 := HPX.out w4 hb4; clear HMM hp4 hh4 hX4))
                go_quiet (fail)
                go_wp2
                go_ret2
                exact ⟨HOUT.out _ _ _ HE.out.symm (fun h => absurd h HNE.out), HB1.out _ (below_drewJ hb4 _)⟩
              · rw [if_neg hfull] at HBY
                have HB0 : Hid (bitErr ts hd L (s, hh, (x : Int)) = 0) := HBY
                have hfz : (q1 == y) = false := by simp [hfull]
                have HNE2 := HNEX HB0.out
                have HNE3 : Hid (∀ w4 w5 w6, SeenM w4 (N + 1) (L.length + 1) (fun a b => seenH L a b || (decide (a = hh) && decide (b = s))) → SeenM w4 (N + 1 + 1) (L.length + 1) (fun a b => seenT L a b || (decide (a = (x : Int)) && decide (b = s))) → Below N w1 w4 → Below w4.heap.size w4 w5 → PartsAt w6 N (L.length + 1) (fun y => if y = (x : Int) then some (withP (q1, q2, q3) s) else partO L y) → w5.grownBy w6 (some N) → JMem ts hd N w1 w6 (L ++ [(s, hh, (x : Int))])) := HNE2
                clear HNEX HNE2 HBY HBAD hfull
                go_wp2_with (first | (go_at_call 28; refine (below_any _ _ _).mono ?_; rintro e w' ⟨rfl, rfl⟩) | (go_at_call 47; refine c25a.mono ?_; clear c25a; rintro e w3 ⟨rfl, hs3, hg3⟩; obtain ⟨hp3, ht3, hb3, hsz3, hX3⟩ := hM.out.one hg3; obtain ⟨hx0, hx1, hx2⟩ := three_cells hX3; have c25b := again_any (N + 1 + 1) L.length (seenT L) (x : Int) s w3 (Nat.le_trans HLEN.out (by decide)) wfx wfs ht3; rw [hS2] at c25b; have HMM := fun w4 hg4 => hM.out.two (w4 := w4) hg3 hg4 hs3; clear hs3 hg3 hp3 ht3 hb3 hX3) | (go_at_call 47; refine c25b.mono ?_; clear c25b; rintro e w4 ⟨rfl, hs4, hg4⟩; obtain ⟨hp4, hh4, hb4, hsz4, hX4⟩ := HMM w4 hg4; obtain ⟨hy0, hy1, hy2⟩ := three_cells hX4; have hlk4 := fun q => HLK.out (w4.drewN q) (hp4.of_block (w' := w4.drewN q) rfl); have hpx4 := HPX.out w4 hb4; have HP4 : Hid (PartsAt w4 N L.length (partO L)) := hp4; have HH4 : Hid (SeenM w4 (N + 1) (L.length + 1) (fun a b => seenH L a b || (decide (a = hh) && decide (b = s)))) := hh4; have HT4 : Hid (SeenM w4 (N + 1 + 1) (L.length + 1) (fun a b => seenT L a b || (decide (a = (x : Int)) && decide (b = s)))) := hs4; have HB4 : Hid (Below N w1 w4) := hb4; clear HMM hp4 hh4 hX4 hs4 hg4 hb4))
                go_quiet (fail)
                go_wp2
                clear hlk4 hpx4 hfz
                obtain ⟨W, hW⟩ : ∃ W : World, W = { w4.drewN nq with drawn := (w4.drewN nq).drawn + 1 } := ⟨_, rfl⟩
                have HS : W.cell? ⟨wr.heap.size, 0, none⟩ = some (.int .i64 s) ∧ W.cell? ⟨wr.heap.size, 2, none⟩ = some (.int .i64 (x : Int)) := by rw [hW]; exact ⟨hy0, hy2⟩
                have HPW4 : Hid (PartsAt W N L.length (partO L)) := by rw [hW]; exact HP4.out.of_block rfl
                have hlkW := HLK.out W HPW4.out
                have HBW4 : Hid (Below w4.heap.size w4 W) := by rw [hW]; exact below_drewJ (below_drewJ (Below.refl _ _) nq) 1
                have HZ4 : Hid (wr.heap.size < W.heap.size) := by rw [hW]; exact hsz4
                refine wp_region_held (S := fun W' => W'.cell? ⟨wr.heap.size, 0, none⟩ = some (.int .i64 s) ∧ W'.cell? ⟨wr.heap.size, 2, none⟩ = some (.int .i64 (x : Int))) (by kernel_rfl) ?_
                rw [← hW]
                clear hW
                refine wpAnyJ_take (i := 0) (v := ?v0) (some 79) rfl rfl (by kernel_rfl) (by kernel_rfl) (by kernel_rfl) (fun _ _ _ h => h) (Or.inl ⟨by rfl, ?hy0⟩) HS ?_
                case hy0 =>
                  intro wz hSz
                  obtain ⟨hSz0, hSz2⟩ := hSz
                  go_simp
                  try rfl
                refine wpAnyJ_take (i := 1) (v := ?v1) (some 80) rfl rfl (by kernel_rfl) (by kernel_rfl) (by kernel_rfl) (fun _ _ _ h => h) (Or.inl ⟨by rfl, ?hy1⟩) HS ?_
                case hy1 =>
                  intro wz hSz
                  obtain ⟨hSz0, hSz2⟩ := hSz
                  go_simp
                  try rfl
                refine wpAnyJ_take (i := 2) (v := ?v2) (some 81) rfl rfl (by kernel_rfl) (by kernel_rfl) (by kernel_rfl) (fun _ _ _ h => h) (Or.inl ⟨by rfl, ?hy2⟩) HS ?_
                case hy2 =>
                  intro wz hSz
                  obtain ⟨hSz0, hSz2⟩ := hSz
                  go_simp
                  try rfl
                refine wpAnyJ_take (i := 3) (v := ?v3) (some 82) rfl rfl (by kernel_rfl) (by kernel_rfl) (by kernel_rfl) (fun _ _ _ h => h) (Or.inl ⟨by rfl, ?hy3⟩) HS ?_
                case hy3 =>
                  intro wz hSz
                  obtain ⟨hSz0, hSz2⟩ := hSz
                  go_simp
                  try rfl
                refine wpAnyJ_take (i := 4) (v := ?v4) (some 83) rfl rfl (by kernel_rfl) (by kernel_rfl) (by kernel_rfl) (fun _ _ _ h => h) (Or.inl ⟨by rfl, ?hy4⟩) HS ?_
                case hy4 =>
                  intro wz hSz
                  obtain ⟨hSz0, hSz2⟩ := hSz
                  go_simp
                  try rfl
                refine wpAnyJ_take (i := 5) (v := ?v5) (some 84) rfl rfl (by kernel_rfl) (by kernel_rfl) (by kernel_rfl) (fun _ _ _ h => h) (Or.inl ⟨by rfl, ?hy5⟩) HS ?_
                case hy5 =>
                  intro wz hSz
                  obtain ⟨hSz0, hSz2⟩ := hSz
                  go_simp
                  try rfl
                refine wpAnyJ_take (i := 7) (v := ?v7) (some 86) rfl rfl (by kernel_rfl) (by kernel_rfl) (by kernel_rfl) (fun _ _ _ h => h) (Or.inl ⟨by rfl, ?hy7⟩) HS ?_
                case hy7 =>
                  intro wz hSz
                  obtain ⟨hSz0, hSz2⟩ := hSz
                  go_simp
                  try rfl
                refine wpAnyJ_take (i := 8) (v := ?v8) (some 87) rfl rfl (by kernel_rfl) (by kernel_rfl) (by kernel_rfl) (fun _ _ _ h => h) (Or.inl ⟨by rfl, ?hy8⟩) HS ?_
                case hy8 =>
                  intro wz hSz
                  obtain ⟨hSz0, hSz2⟩ := hSz
                  go_simp
                  try rfl
                refine wpAnyJ_run (i := 6) (v := .agg #[.int .i64 q1, .int .i64 q2, .int .i64 q3]) (w' := W) (some 85) (by kernel_rfl) rfl rfl (by rfl) ?hx6 HS ?_
                case hx6 =>
                  go_simp
                  try rfl
                refine wpAnyH_all (rs := [9]) (by kernel_rfl) (by simp) (fun j hj => ?_)
                obtain rfl := List.mem_singleton.1 hj
                refine wpOpJ_call (f := 48) (args := #[.agg #[.int .i64 q1, .int .i64 q2, .int .i64 q3], .int .i64 s]) (some 88) rfl rfl (by rfl) ?hcall ?_
                case hcall => go_simp
                refine (with_any (q1, q2, q3) s W ⟨HFEW.out.1, Int.le_trans HFEW.out.2 (by decide)⟩ ⟨hs0, by omega⟩).mono ?_
                rintro e w5 ⟨rfl, hb5⟩
                have HS5 : w5.cell? ⟨wr.heap.size, 0, none⟩ = some (.int .i64 s) ∧ w5.cell? ⟨wr.heap.size, 2, none⟩ = some (.int .i64 (x : Int)) := ⟨(hb5.cell (p := ⟨wr.heap.size, 0, none⟩) HZ4.out).trans HS.1, (hb5.cell (p := ⟨wr.heap.size, 2, none⟩) HZ4.out).trans HS.2⟩
                obtain ⟨w6, hrun6, hp6, hg6⟩ := (HPW4.out.of_block (hb5.block _ HPW4.out.lt)).store (Nat.le_trans HLEN.out (by decide)) wfx (withP (q1, q2, q3) s)
                have hneN : some wr.heap.size ≠ some N := by simp; omega
                have HS6 : w6.cell? ⟨wr.heap.size, 0, none⟩ = some (.int .i64 s) ∧ w6.cell? ⟨wr.heap.size, 2, none⟩ = some (.int .i64 (x : Int)) := ⟨hg6.cell (a := ⟨wr.heap.size, 0, none⟩) HS5.1 hneN, hg6.cell (a := ⟨wr.heap.size, 2, none⟩) HS5.2 hneN⟩
                have HMN : Hid (JMem ts hd N w1 w6 (l.take (k + 1))) := HNX.out _ (HNE3.out w4 w5 w6 HH4.out HT4.out HB4.out (HBW4.out.trans (hb5.mono HBW4.out.size)) hp6 hg6)
                refine ⟨HS5, ?_⟩
                refine wpAnyJ_skip (i := 10) (w' := w6) none (by kernel_rfl) rfl rfl (by rfl) ?hx10 HS6 ?_
                case hx10 =>
                  go_simp
                  try rfl
                refine wpAnyH_done (by kernel_rfl) ?_ _
                clear HS HS5 HS6 hrun6 hp6 hg6 hb5 hlkW hy0 hy1 hy2 hj
                simp only [Act.put, List.setIfInBounds_toArray, List.set_cons_zero, List.set_cons_succ]
                go_wp2
                go_roundw
                case rel => exact ⟨k + 1, by omega, by go_num, HMN⟩
                case measure => simp [intOf]; omega
            · rw [hS2, if_pos rfl] at HBY
              have HE1 := HBAD.out 7 HBY (by omega)
              have HE : Hid (errV (bitsErr ts hd l) = .iface 47 (.int .i64 7)) := by show _ = _; rw [HE1]; rfl
              have HNE : Hid (bitsErr ts hd l ≠ 0) := by show _ ≠ _; rw [HE1]; omega
              clear HE1 HBY HBAD hs0 hs1 hh0 hh1 ht0 ht1
              go_wp2_with (first | (go_at_call 28; refine (below_any _ _ _).mono ?_; rintro e w' ⟨rfl, rfl⟩) | (go_at_call 47; refine c25a.mono ?_; clear c25a; rintro e w3 ⟨rfl, hs3, hg3⟩; obtain ⟨hp3, ht3, hb3, hsz3, hX3⟩ := hM.out.one hg3; obtain ⟨hx0, hx1, hx2⟩ := three_cells hX3; have c25b := again_any (N + 1 + 1) L.length (seenT L) (x : Int) s w3 (Nat.le_trans HLEN.out (by decide)) wfx wfs ht3; rw [hS2] at c25b; have HMM : Hid (∀ w4 : World, w3.grownBy w4 (some (N + 1 + 1)) → Below N w1 w4) := fun w4 hg4 => (hM.out.two hg3 hg4 hs3).2.2.1; clear hs3 hg3 hp3 ht3 hb3 hX3) | (go_at_call 47; refine c25b.mono ?_; clear c25b; rintro e w4 ⟨rfl, hs4, hg4⟩))
              go_ret2
              exact ⟨HOUT.out _ _ _ HE.out.symm (fun h => absurd h HNE.out), HB1.out _ (HMM.out _ hg4)⟩
          · rw [hS1] at c25a HBY
            rw [Bool.true_or, if_pos rfl] at HBY
            have HE1 := HBAD.out 7 HBY (by omega)
            have HE : Hid (errV (bitsErr ts hd l) = .iface 47 (.int .i64 7)) := by show _ = _; rw [HE1]; rfl
            have HNE : Hid (bitsErr ts hd l ≠ 0) := by show _ ≠ _; rw [HE1]; omega
            clear HE1 HBY HBAD hs0 hs1 hh0 hh1 ht0 ht1
            go_wp2_with (first | (go_at_call 28; refine (below_any _ _ _).mono ?_; rintro e w' ⟨rfl, rfl⟩) | (go_at_call 47; refine c25a.mono ?_; clear c25a; rintro e w3 ⟨rfl, hs3, hg3⟩))
            go_ret2
            exact ⟨HOUT.out _ _ _ HE.out.symm (fun h => absurd h HNE.out), HB1.out _ (hM.out.one hg3).2.2.1⟩
      · have hkk : l.take k = l := List.take_of_length_le (by omega)
        rw [hkk] at hM
        have hbW : Below w1.heap.size w1 wr := by have := hM.out.below; rw [HNW.out] at this; exact this
        have c22 := checkParts_any _ ts N l.length (partO l) wr (HPW.out _ hbW) hM.out.parts HR.out h30
        rw [partF_O, ← bits_parts HW.out HR.out hM.out.none] at c22
        have HBE : Hid (∀ w2, Below wr.heap.size wr w2 → Below w.heap.size w w2) := fun w2 h => hb1.trans ((hbW.trans (h.mono hbW.size)).mono hb1.size)
        have HPE : Hid (∀ w2, Below wr.heap.size wr w2 → PartsAt w2 N l.length (partO l)) := fun w2 h => hM.out.parts.of_block (h.block _ hM.out.parts.lt)
        clear hM hkk hbW
        go_wp2_with (go_at_call 30; refine c22.mono ?_; clear c22; rintro e w2 ⟨rfl, hb2⟩; generalize hev : errV (bitsErr ts hd l) = ev; have HEV : Hid (errV (bitsErr ts hd l) = ev) := hev; clear hev)
        go_ret2
        exact ⟨HOUT.out _ _ _ HEV.out.symm (fun _ => ⟨N, l.length, rfl, HPE.out _ hb2⟩), HBE.out _ hb2⟩
  · have hev := errV_some hq
    rw [hev]
    have HF : Hid (∀ u, u = errV (jErr q hands) → OfOut ts hands l (.returned (.tuple #[.map none, u])) w1) := fun u hu => Or.inl ⟨p, q, hc, hq, by rw [hu]⟩
    rw [hev] at HF
    clear hev hc
    have hq' : Hid (jErr q hands ≠ 0) := hq
    clear hq
    generalize jErr q hands = g at *
    go_wp2
    go_ret2
    exact ⟨HF.out _ rfl, hb1⟩
end Go.Proofs.Ytkcpimbhfmhjgaa
