/- The contract of judge.Stays: the walk. -/
import Derived.Test.YtkcpimbhfmhjgaaJu
namespace Go.Proofs.Ytkcpimbhfmhjgaa
open Go.RowKit Go.Deep Go.Maps

/-- Behind a stay's block, two more, and one map has grown. -/
theorem SMem.one {ts : List (Int × List Int)} {h N : Nat} {w wr w4 : World} {L : List StyZ} {u1 u2 u3 u4 : Value} {o2 : Obj} {q : Nat} (m : SMem ts h N w wr L) (hg : (((wr.alloc (.cells #[u1, u2, u3, u4] 63)).drewN q).alloc o2).grownBy w4 (some (N + 1))) :
    PartsAt w4 N L.length (partS L) ∧ Below N w w4 ∧ w4.heap[wr.heap.size]? = some (.cells #[u1, u2, u3, u4] 63 (0, 0)) := by
  have hs := m.size
  have b1 : Below wr.heap.size wr (((wr.alloc (.cells #[u1, u2, u3, u4] 63)).drewN q).alloc o2) := (below_drewJ ((Below.refl _ _).alloc (Nat.le_refl _) (.cells #[u1, u2, u3, u4] 63)) q).alloc (by simp [World.drewN]) _
  have m1 := m.later b1
  have hz := b1.size
  have hX : (((wr.alloc (.cells #[u1, u2, u3, u4] 63)).drewN q).alloc o2).heap[wr.heap.size]? = some (.cells #[u1, u2, u3, u4] 63 (0, 0)) := by
    rw [Below.heap_alloc _ _ _ (by show wr.heap.size < (wr.alloc _).heap.size; simp)]
    exact blk_alloc_new _ _
  refine ⟨m1.parts.kept hg (by simp), m1.below.trans (grown_below hg (by omega) (by omega)), ?_⟩
  exact (hg.block _ (Array.getElem?_eq_some_iff.1 hX).1 (by simp; omega)).trans hX

theorem MeetOut.hit {S : Int → Int → Bool} {hd : Int} {f t B n : Nat} {w w' : World} {e : Ending} (h : MeetOut S hd f t B n w e w') (hh : ∃ i : Nat, f ≤ i ∧ i < t ∧ S hd (i : Int) = true) : e = .returned (.bool true) ∧ w.grownBy w' (some B) := by
  obtain ⟨hg, h | ⟨_, h, _⟩⟩ := h
  · exact ⟨h.1, hg⟩
  · obtain ⟨i, h1, h2, h3⟩ := hh
    rw [h i h1 h2] at h3
    cases h3
theorem MeetOut.miss {S : Int → Int → Bool} {hd : Int} {f t B n : Nat} {w w' : World} {e : Ending} (h : MeetOut S hd f t B n w e w') (hh : ¬ ∃ i : Nat, f ≤ i ∧ i < t ∧ S hd (i : Int) = true) : e = .returned (.bool false) ∧ w.grownBy w' (some B) ∧ SeenM w' B (n + (t - f)) (addS S hd f t) := by
  obtain ⟨hg, h | ⟨h1, _, h2⟩⟩ := h
  · exact absurd h.2 hh
  · exact ⟨h1, hg, h2⟩

set_option maxRecDepth 100000 in
set_option maxHeartbeats 8000000 in
theorem stays_any (v lv : Value) (ts : List (Int × List Int)) (l : List StyZ) (hands : Int) (w : World) (hp : PlanAt w v ts) (hl : StaysAt w lv l) :
    Calls Try.prog 12 #[v, .int .i64 hands, lv] w fun e w' => StaysOut ts hands l e ∧ Below w.heap.size w w' := by
  have HP : Hid (PlanAt w v ts) := hp
  have HLT : Hid (StaysAt w lv l) := hl
  have hck := jcheck_any v ts hands w hp
  obtain ⟨hl0, a, c, rfl, hp⟩ := hp
  obtain ⟨hl1, la, lc, rfl, hl⟩ := hl
  clear hp hl
  go_enter Try.func12, Try.ntmps12
  go_wp2_with fail
  refine hck.mono ?_
  rintro e w1 ⟨⟨p, q, hc, rfl⟩, hb1⟩
  clear hck
  by_cases hq : jErr q hands = 0
  · obtain ⟨rfl, h1, h6⟩ := jErr_zero hq
    obtain ⟨rfl, -⟩ := hc.ok rfl
    rw [hq, errV_zero]
    obtain ⟨hn, rfl⟩ := Int.eq_ofNat_of_zero_le (show 0 ≤ hands by omega)
    obtain ⟨hw, hr, hno⟩ := hc.worksJ
    have h30 := hw.1
    have HOUT : Hid (∀ er, er = errV (staysErr ts hn l) → StaysOut ts (hn : Int) l (.returned er)) := fun er he => Or.inr ⟨hc, h1, h6, by rw [he, Int.toNat_natCast]⟩
    have HPW : Hid (∀ wx, Below w1.heap.size w1 wx → PlanAt wx (.slice a ts.length c) ts) := fun wx hx => (HP.out.later hb1).later hx
    have HLW : Hid (∀ wx, Below w1.heap.size w1 wx → StaysAt wx (.slice la l.length lc) l) := fun wx hx => (HLT.out.later hb1).later hx
    have HM : Hid (SMem ts hn w1.heap.size w1 ((w1.alloc (.map #[] 0)).alloc (.map #[] 0)) (l.take 0)) := SMem.start ts hn w1
    have HW : Hid (Works ts) := hw
    have HR : Hid (InRange ts) := hr
    clear hc hq hno hw hr HP HLT
    have hmm1 : ∀ w : World, (Instr.makeMap 66 none).run Try.prog w = .ok (.map (some w.heap.size)) (w.alloc (.map #[] 0)) := fun _ => rfl
    have hmm2 : ∀ w : World, (Instr.makeMap 69 none).run Try.prog w = .ok (.map (some w.heap.size)) (w.alloc (.map #[] 0)) := fun _ => rfl
    go_wp2
    clear hmm1 hmm2
    obtain ⟨N, hN⟩ : ∃ N, N = w1.heap.size := ⟨_, rfl⟩
    have HNW : Hid (N = w1.heap.size) := hN
    rw [← hN] at HM ⊢
    clear hN
    go_loopw [24] (fun s24 wr => ∃ k : Nat, k ≤ l.length ∧ s24 = .int .i64 k ∧ Hid (SMem ts hn N w1 wr (l.take k))) (fun s24 _ => l.length - (intOf s24).toNat)
    case atStart => exact ⟨0, Nat.zero_le _, rfl, HM⟩
    case round =>
      clear HM
      obtain ⟨k, hk, rfl, hM⟩ := hrel
      by_cases hkl : k < l.length
      · have hsz := hM.out.size
        have hbW : Below w1.heap.size w1 wr := by have := hM.out.below; rw [HNW.out] at this; exact this
        have hbits := HLW.out _ hbW
        obtain ⟨_, la', lc', hva, hbc⟩ := hbits
        obtain ⟨rfl, -, rfl⟩ : la = la' ∧ True ∧ lc = lc' := by simp at hva; exact ⟨hva.1, trivial, hva.2⟩
        clear hva
        rcases hbc with h | ⟨lb, lo, rfl, hlbl, hbc⟩
        · subst h; simp at hkl
        obtain ⟨hb0, hb1', hb2', hb3'⟩ := hbc k hkl
        clear hbc
        have HBAD : Hid (∀ e, stayErr ts hn (l.take k) (l.getD k (0, 0, 0, 0)) = e → e ≠ 0 → staysErr ts hn l = e) := fun e he hne => hM.out.bad hkl he hne
        have HNX : Hid (∀ wx, SMem ts hn N w1 wx (l.take k ++ [l.getD k (0, 0, 0, 0)]) → SMem ts hn N w1 wx (l.take (k + 1))) := fun wx h => by rw [(take_at (d := (0, 0, 0, 0)) hkl).1]; exact h
        obtain ⟨hfin, hlen⟩ := first_in hM.out.none
        have HFIN : Hid (∀ a, a ∈ l.take k → outS ts.length hn a = false ∧ a.2.2.2 - a.2.2.1 = wkOf ts a.2.1.toNat) := hfin
        clear hfin
        generalize l.take k = L at *
        generalize l.getD k (0, 0, 0, 0) = bt at *
        obtain ⟨hh, tk, fr, to⟩ := bt
        dsimp only at hb0 hb1' hb2' hb3'
        have hNle : w1.heap.size ≤ wr.heap.size := hbW.size
        have HBE : Hid (∀ o1, Below w.heap.size w (wr.alloc o1)) := fun o1 => hb1.trans (((hbW.alloc hNle o1)).mono hb1.size)
        by_cases hout : inRange hh (hn : Int) = false ∨ inRange tk (ts.length : Int) = false ∨ inRange to 10001 = false
        · have HE1 := HBAD.out 1 (stayErr_out (hout.elim Or.inl (fun h => Or.inr (h.elim Or.inl (fun h => Or.inr (Or.inl h)))))) (by omega)
          have HE : Hid (errV (staysErr ts hn l) = .iface 47 (.int .i64 1)) := by show _ = _; rw [HE1]; rfl
          clear HE1 HBAD
          rcases hout with ho | ho | ho
          · go_wp2_with (go_at_call 28; refine (below_any _ _ _).mono ?_; rintro e w' ⟨rfl, rfl⟩)
            go_ret
            exact ⟨HOUT.out _ HE.out.symm, HBE.out _⟩
          · cases ho1 : inRange hh (hn : Int)
            all_goals
              go_wp2_with (go_at_call 28; refine (below_any _ _ _).mono ?_; rintro e w' ⟨rfl, rfl⟩)
              go_ret
              exact ⟨HOUT.out _ HE.out.symm, HBE.out _⟩
          · cases ho1 : inRange hh (hn : Int)
            all_goals cases ho2 : inRange tk (ts.length : Int)
            all_goals
              go_wp2_with (go_at_call 28; refine (below_any _ _ _).mono ?_; rintro e w' ⟨rfl, rfl⟩)
              go_ret
              exact ⟨HOUT.out _ HE.out.symm, HBE.out _⟩
        · have ho1 : inRange hh (hn : Int) = true := by cases e : inRange hh (hn : Int) <;> simp_all
          have ho2 : inRange tk (ts.length : Int) = true := by cases e : inRange tk (ts.length : Int) <;> simp_all
          have ho3 : inRange to 10001 = true := by cases e : inRange to 10001 <;> simp_all
          clear hout
          obtain ⟨hh0, hh1⟩ := inR ho1
          obtain ⟨ht0, ht1⟩ := inR ho2
          obtain ⟨hs0, hs1⟩ := inR ho3
          obtain ⟨x, rfl⟩ := Int.eq_ofNat_of_zero_le ht0
          obtain ⟨t, rfl⟩ := Int.eq_ofNat_of_zero_le hs0
          have hxl : x < ts.length := by omega
          have ht10 : t ≤ 10000 := by omega
          cases ho4 : inRange fr ((t : Int) + 1)
          · have HE1 := HBAD.out 1 (stayErr_out (Or.inr (Or.inr (Or.inr ho4)))) (by omega)
            have HE : Hid (errV (staysErr ts hn l) = .iface 47 (.int .i64 1)) := by show _ = _; rw [HE1]; rfl
            clear HE1 HBAD
            go_wp2_with (go_at_call 28; refine (below_any _ _ _).mono ?_; rintro e w' ⟨rfl, rfl⟩)
            go_ret
            exact ⟨HOUT.out _ HE.out.symm, HBE.out _⟩
          · obtain ⟨hf0, hf1⟩ := inR ho4
            obtain ⟨f, rfl⟩ := Int.eq_ofNat_of_zero_le hf0
            have hft : f ≤ t := by omega
            have HO : Hid (outS ts.length hn (hh, (x : Int), (f : Int), (t : Int)) = false) := by
              show _ = _
              rw [outS_in rfl]
              dsimp only
              rw [ho1, ho2, ho3, ho4]; rfl
            obtain ⟨b, o, rfl⟩ := plan_atJ (HPW.out _ hbW) hxl
            have hblw : b < wr.heap.size := by
              obtain ⟨_, a', c', hv, h⟩ := HPW.out _ hbW
              simp only [Value.slice.injEq] at hv
              rcases h with h | ⟨b', o', ha, h, _⟩
              · subst h; simp at hxl
              · have e := hv.1.trans ha
                simp only [Option.some.injEq, Addr.mk.injEq, and_true] at e
                rw [e.1]; exact h
            have hpx : wr.cell? ⟨b, o + x * 2, none⟩ = some (.int .i64 (wkOf ts x)) := plan_workJ (HPW.out _ hbW) hxl (y := wkOf ts x) rfl
            have hw20 := HW.out.2 x hxl
            by_cases hsh : (t : Int) - (f : Int) = wkOf ts x
            · have hez : (((t : Int) - (f : Int)) != wkOf ts x) = false := by simp [hsh]
              have HHS := hits_seen HW.out HFIN.out HO.out (by dsimp only; rw [Int.toNat_natCast]; exact hsh)
              have HBY := stayErr_hit (L := L) HO.out (by dsimp only; rw [Int.toNat_natCast]; exact hsh)
              dsimp only at HHS
              have htf : t - f ≤ 20 := by omega
              have wfh : (Lit.int .i64 hh).wf = true := wfI (by omega) (by omega)
              have wfx : (Lit.int .i64 (x : Int)).wf = true := wfI (by omega) (by omega)
              have hlk : ∀ q, (Instr.lookup 66 (.map (some N)) (.int .i64 (x : Int)) true).run Try.prog ((wr.alloc (.cells #[.int .i64 hh, .int .i64 (x : Int), .int .i64 (f : Int), .int .i64 (t : Int)] 63)).drewN q) = .ok (.tuple #[.agg #[.int .i64 ((partS L (x : Int)).getD (0, 0, 0)).1, .int .i64 ((partS L (x : Int)).getD (0, 0, 0)).2.1, .int .i64 ((partS L (x : Int)).getD (0, 0, 0)).2.2], .bool (partS L (x : Int)).isSome]) ((wr.alloc (.cells #[.int .i64 hh, .int .i64 (x : Int), .int .i64 (f : Int), .int .i64 (t : Int)] 63)).drewN q) := fun q =>
                PartsAt.lookOk (w := (wr.alloc (.cells #[.int .i64 hh, .int .i64 (x : Int), .int .i64 (f : Int), .int .i64 (t : Int)] 63)).drewN q) (hM.out.parts.of_block (Below.heap_alloc _ _ _ hM.out.parts.lt)) wfx
              have HSE : Hid (∀ q o2, SeenM (((wr.alloc (.cells #[.int .i64 hh, .int .i64 (x : Int), .int .i64 (f : Int), .int .i64 (t : Int)] 63)).drewN q).alloc o2) (N + 1) (L.length * 20) (seenS L)) := fun q o2 => (hM.out.hand.of_block (w' := (wr.alloc (.cells #[.int .i64 hh, .int .i64 (x : Int), .int .i64 (f : Int), .int .i64 (t : Int)] 63)).drewN q) (Below.heap_alloc _ _ _ hM.out.hand.lt)).of_block (Below.heap_alloc _ _ _ (by show N + 1 < (wr.alloc _).heap.size; simp; omega))
              have HB1 : Hid (∀ w3 : World, Below N w1 w3 → Below w.heap.size w w3) := fun w3 h => hb1.trans (by rw [HNW.out] at h; exact h.mono hb1.size)
              have HBL : Hid (∀ q o2, Below w.heap.size w (((wr.alloc (.cells #[.int .i64 hh, .int .i64 (x : Int), .int .i64 (f : Int), .int .i64 (t : Int)] 63)).drewN q).alloc o2)) := fun q o2 => (below_drewJ (HBE.out _) q).alloc (by show w.heap.size ≤ (wr.alloc _).heap.size; have := hb1.size; simp; omega) _
              have HNEXT : Hid (stayErr ts hn L (hh, (x : Int), (f : Int), (t : Int)) = 0 → ∀ w4 w5, SeenM w4 (N + 1) (L.length * 20 + (t - f)) (addS (seenS L) hh f t) → Below N w1 w4 → PartsAt w5 N (L.length + 1) (fun y => if y = (x : Int) then some ((t : Int) - (f : Int), (f : Int), (t : Int)) else partS L y) → w4.grownBy w5 (some N) → SMem ts hn N w1 w5 (l.take (k + 1))) := fun he w4 w5 a1 a2 a3 a4 => HNX.out _ (hM.out.next he htf a1 a2 a3 a4)
              have HL30 : Hid (L.length * 20 ≤ 100000000) := by show _ ≤ _; omega
              have hml : L.length < maxLen := by unfold maxLen; omega
              have c21 := fun W3 hs => meets_any (seenS L) hh (x : Int) f t (N + 1) (L.length * 20) W3 hs HL30.out hft ht10 wfh
              clear hsh
              generalize ((partS L (x : Int)).getD (0, 0, 0)).1 = a1 at *
              generalize ((partS L (x : Int)).getD (0, 0, 0)).2.1 = a2 at *
              generalize ((partS L (x : Int)).getD (0, 0, 0)).2.2 = a3 at *
              generalize wkOf ts x = y at *
              cases hso : (partS L (x : Int)).isSome
              · rw [hso] at hlk HHS
                by_cases hhit : ∃ i : Nat, f ≤ i ∧ i < t ∧ seenS L hh (i : Int) = true
                · obtain ⟨i, hi1, hi2, hi3⟩ := hhit
                  rw [if_pos (HHS.2 (Or.inr ⟨(i : Int), by omega, by omega, hi3⟩))] at HBY
                  have HE1 := HBAD.out 7 HBY (by omega)
                  have HE : Hid (errV (staysErr ts hn l) = .iface 47 (.int .i64 7)) := by show _ = _; rw [HE1]; rfl
                  have c21h := fun W3 hs => (c21 W3 hs).mono (fun e w' h => h.hit ⟨i, hi1, hi2, hi3⟩)
                  clear HE1 HBAD HBY HHS c21 HNEXT hi1 hi2 hi3
                  go_wp2_with (go_at_call 28; refine (below_any _ _ _).mono ?_; rintro e w' ⟨rfl, rfl⟩)
                  go_quiet (fail)
                  go_wp2_with (go_at_call 29; refine (c21h _ (HSE.out _ _)).mono ?_; clear c21h; rintro e w4 ⟨rfl, hg4⟩)
                  go_ret
                  exact ⟨HOUT.out _ HE.out.symm, HB1.out _ (hM.out.one hg4).2.1⟩
                · have hany : ¬ (L.any (fun a => hitS a (hh, (x : Int), (f : Int), (t : Int)))) = true := fun h => by
                    rcases HHS.1 h with h | ⟨b, h1, h2, h3⟩
                    · cases h
                    · refine hhit ⟨b.toNat, by omega, by omega, ?_⟩
                      rw [Int.toNat_of_nonneg (by omega)]; exact h3
                  rw [if_neg hany] at HBY
                  have HN2 := HNEXT.out HBY
                  have HN3 : Hid (∀ w4 w5, SeenM w4 (N + 1) (L.length * 20 + (t - f)) (addS (seenS L) hh f t) → Below N w1 w4 → PartsAt w5 N (L.length + 1) (fun y => if y = (x : Int) then some ((t : Int) - (f : Int), (f : Int), (t : Int)) else partS L y) → w4.grownBy w5 (some N) → SMem ts hn N w1 w5 (l.take (k + 1))) := HN2
                  have c21m := fun W3 hs => (c21 W3 hs).mono (fun e w' h => h.miss hhit)
                  have hkey : keyOf Try.prog 3 (.int .i64 (x : Int)) = some (.int .i64 (x : Int)) := keyOf_int_mk Try.underlying3 wfx
                  clear HBAD HBY HHS c21 HNEXT HN2 hhit hany
                  go_wp2_with (go_at_call 28; refine (below_any _ _ _).mono ?_; rintro e w' ⟨rfl, rfl⟩)
                  go_quiet (fail)
                  go_wp2_with (first | (go_at_call 29; refine (c21m _ (HSE.out _ _)).mono ?_; clear c21m; rintro e w4 ⟨rfl, hg4, hs4⟩; obtain ⟨hp4, hb4, hX4⟩ := hM.out.one hg4; obtain ⟨hy0, hy1, hy2, hy3⟩ := four_cells hX4; obtain ⟨D4, hown4, hD4⟩ := hp4; have HS4 : Hid (SeenM w4 (N + 1) (L.length * 20 + (t - f)) (addS (seenS L) hh f t)) := hs4; have HB4 : Hid (Below N w1 w4) := hb4; have HOW : Hid (w4.ownsMap Try.prog 3 prtElem N L.length D4) := hown4; have HD4 : Hid (∀ x : Int, Maps.has D4 (.int .i64 x) = (partS L x).isSome ∧ D4.atKey (.int .i64 x) (prtD (0, 0, 0)) = prtD ((partS L x).getD (0, 0, 0))) := hD4; clear hs4 hg4 hb4 hX4 hD4) | (at_mapUpdate; refine wpList_mapUpdate_own _ rfl _ _ _ 66 rfl 3 72 keyedJ Try.underlying66 prtElem N L.length D4 rfl hown4 hml _ _ _ rfl rfl hkey (prtD ((t : Int) - (f : Int), (f : Int), (t : Int))) [] (prtElem_mk ((t : Int) - (f : Int), (f : Int), (t : Int))) ?_; intro w5 hown5 hgrow5; have HP5 : Hid (PartsAt w5 N (L.length + 1) (fun y => if y = (x : Int) then some ((t : Int) - (f : Int), (f : Int), (t : Int)) else partS L y)) := PartsAt.put HOW.out HD4.out hown5; clear hown4 hown5))
                  go_roundw
                  case rel => exact ⟨k + 1, by omega, by go_num, HN3.out _ _ HS4.out HB4.out HP5.out hgrow5⟩
                  case measure => simp [intOf]; omega
              · rw [hso] at hlk HHS
                rw [if_pos (HHS.2 (Or.inl rfl))] at HBY
                have HE1 := HBAD.out 7 HBY (by omega)
                have HE : Hid (errV (staysErr ts hn l) = .iface 47 (.int .i64 7)) := by show _ = _; rw [HE1]; rfl
                clear HE1 HBAD HBY HHS c21 HNEXT
                go_wp2_with (go_at_call 28; refine (below_any _ _ _).mono ?_; rintro e w' ⟨rfl, rfl⟩)
                go_quiet (fail)
                go_wp2
                go_ret
                exact ⟨HOUT.out _ HE.out.symm, HBL.out _ _⟩
            · have HE1 := HBAD.out 3 (stayErr_shape HO.out (by dsimp only; rw [Int.toNat_natCast]; exact hsh)) (by omega)
              have HE : Hid (errV (staysErr ts hn l) = .iface 47 (.int .i64 3)) := by show _ = _; rw [HE1]; rfl
              clear HE1 HBAD
              have hne : (((t : Int) - (f : Int)) != wkOf ts x) = true := by simp [hsh]
              clear hsh
              generalize wkOf ts x = y at *
              go_wp2_with (go_at_call 28; refine (below_any _ _ _).mono ?_; rintro e w' ⟨rfl, rfl⟩)
              go_quiet (fail)
              go_wp2
              go_ret
              exact ⟨HOUT.out _ HE.out.symm, below_drewJ (HBE.out _) _⟩
      · have hkk : l.take k = l := List.take_of_length_le (by omega)
        rw [hkk] at hM
        have hbW : Below w1.heap.size w1 wr := by have := hM.out.below; rw [HNW.out] at this; exact this
        have c22 := checkParts_any _ ts N l.length (partS l) wr (HPW.out _ hbW) hM.out.parts HR.out h30
        have e0 : partF (partS l) = fun x => (partS l x).getD (0, 0, 0) := rfl
        rw [e0, ← stays_parts HW.out HR.out hM.out.none] at c22
        have HBE : Hid (∀ w2, Below wr.heap.size wr w2 → Below w.heap.size w w2) := fun w2 h => hb1.trans ((hbW.trans (h.mono hbW.size)).mono hb1.size)
        clear hM hkk hbW
        go_wp2_with (go_at_call 30; refine c22.mono ?_; clear c22; rintro e w2 ⟨rfl, hb2⟩; generalize hev : errV (staysErr ts hn l) = ev; have HEV : Hid (errV (staysErr ts hn l) = ev) := hev; clear hev)
        go_ret
        exact ⟨HOUT.out _ HEV.out.symm, HBE.out _ hb2⟩
  · have hev := errV_some hq
    rw [hev]
    have HF : Hid (∀ u, u = errV (jErr q hands) → StaysOut ts hands l (.returned u)) := fun u hu => Or.inl ⟨p, q, hc, hq, by rw [hu]⟩
    rw [hev] at HF
    clear hev hc
    have hq' : Hid (jErr q hands ≠ 0) := hq
    clear hq
    generalize jErr q hands = g at *
    go_wp2
    go_ret
    exact ⟨HF.out _ rfl, hb1⟩
end Go.Proofs.Ytkcpimbhfmhjgaa
