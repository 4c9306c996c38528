/- The walk of JudgeSame. -/
import Derived.Test.YtkgdhfdahafaoaaDoorJk
import Derived.Test.YtkgdhfdahafaoaaDoorJf
namespace Go.Proofs.YtkgdhfdahafaoaaDoor
open Go.RowKit Go.Deep

theorem RowBZ.srcTake {b g c k : Nat} {w : World} {l : List BitZ} (h : RowBZ b w (.slice (some ⟨g, 0, none⟩) l.length c) l) (hk : k ≤ l.length) : ∀ j u, (flatZ (l.take k))[j]? = some u → w.cell? ((⟨g, 0, none⟩ : Addr).add j) = some u := by
  intro j u hu
  have hj : j < k * 3 := by
    have := (List.getElem?_eq_some_iff.1 hu).1
    rw [flatZ_length, List.length_take] at this
    omega
  rw [Addr.add_lit, Nat.zero_add, h.cells j (by omega)]
  rw [← flatZ_take, List.getElem?_take, if_pos hj] at hu
  exact hu
theorem RowBZ.srcDrop {b g c k : Nat} {w : World} {l : List BitZ} (h : RowBZ b w (.slice (some ⟨g, 0, none⟩) l.length c) l) (hk : k ≤ l.length) : ∀ j u, (flatZ (l.drop k))[j]? = some u → w.cell? ((⟨g, k * 3, none⟩ : Addr).add j) = some u := by
  intro j u hu
  have hj : j < (l.length - k) * 3 := by
    have := (List.getElem?_eq_some_iff.1 hu).1
    rw [flatZ_length, List.length_drop] at this
    omega
  rw [Addr.add_lit, h.cells (k * 3 + j) (by omega)]
  rw [← flatZ_drop l k hk, List.getElem?_drop] at hu
  exact hu
theorem r_append24 {o : Oper} {a : Act} {w w' : World} {m n : Nat} {v x v' : Value} (hop : o.op = .call { callee := .builtin .append, args := #[.tmp m, .tmp n], argTypes := #[24, 24] }) (h1 : a.tmps[m]?.getD undef = v) (h2 : a.tmps[n]?.getD undef = x)
    (hr : (Builtin.append_ #[24, 24] o.type #[v, x]).run Tryd.prog w = .ok v' w') : (execOp a.eval o).run Tryd.prog w = .ok (.value v') w' := by
  have e1 : a.eval (.tmp m) = v := by simpa [Act.eval] using h1
  have e2 : a.eval (.tmp n) = x := by simpa [Act.eval] using h2
  unfold execOp
  simp only [hop, resolve, invoke, builtin, Sem.run_bind, Sem.run_pure, Result.andThen_ok, List.map_toArray, List.map_cons, List.map_nil, e1, e2, hr]
theorem own_zero {w : World} {b e size n : Nat} {v : Value} {xs : List Value} (h : w.ownsRow b e size v (0 + n) ([] ++ xs)) : w.ownsRow b e size v n xs := by
  rw [Nat.zero_add] at h
  exact h
theorem RowBZ.keptN {b : Nat} {w w' : World} {v : Value} {l : List BitZ} (h : RowBZ b w v l) (hg : w.grownBy w' none) : RowBZ b w' v l := h.of_blocks (fun k e => hg.block k (h.low e).2 (by simp))
theorem RowBZ.two {b n m : Nat} {w : World} {v : Value} {A C : List BitZ} (ho : w.ownsRow b 43 3 v (n + m) (flatZ A ++ flatZ C)) (hA : A.length = n) (hC : C.length = m) : RowBZ b w v (A ++ C) := by
  unfold RowBZ
  rw [flatZ_append, List.length_append, hA, hC]
  exact ho
theorem RowBZ.twoNil {b n m : Nat} {w : World} {v : Value} {A C : List BitZ} (ho : w.ownsRow b 43 3 v (n + m) (flatZ A ++ flatZ [])) (hA : A.length = n) (hm : m = 0) (hC : C = []) : RowBZ b w v (A ++ C) := by
  subst hC hm
  exact RowBZ.two ho hA rfl
theorem below_apps {w w8 w9 : World} {v2 : Value} {n : Nat} {xs : List Value} (h1 : w.grownBy w8 none) (ho : w8.ownsRow w.heap.size 43 3 v2 n xs) (h2 : w8.grownBy w9 v2.ownBlock) : Below w.heap.size w w9 :=
  ((Below.refl _ _).grown h1 (Nat.le_refl _) (fun j e => by cases e)).grown h2 h1.size (fun j e => (World.ownsRow.lt ho j e).1)
theorem wrap_fitsJ {n : Int} (h0 : 0 ≤ n) (h1 : n < 9223372036854775808) : IntKind.i64.wrap n = n := by rw [IntKind.wrap_i64]; omega

set_option maxRecDepth 100000 in
set_option maxHeartbeats 8000000 in
theorem judgeSame_any (v sv : Value) (ts : List (Int × List Int)) (s : List StyZ) (hands kk : Int) (w : World) (hp : PlanAt w v ts) (hs : StaysAt w sv s) (ht : Typed w) :
    Calls Tryd.prog 4 #[v, .int .i64 hands, sv, .int .i64 kk] w fun e w' => e = .returned (.bool true) ∧ Below w.heap.size w w' := by
  have HP : Hid (∀ wx, Below w.heap.size w wx → PlanAt wx v ts) := fun wx hx => hp.later hx
  have HSS : Hid (∀ wx, Below w.heap.size w wx → StaysAt wx sv s) := fun wx hx => hs.later hx
  have HT : Hid (∀ wx, Below w.heap.size w wx → Typed wx) := fun wx hx => ht.later hx
  obtain ⟨hl0, a, c, rfl, hp⟩ := hp
  obtain ⟨hl2, sa, sc, rfl, hs⟩ := hs
  obtain ⟨i43, hi43, hz0, hz1, hz2⟩ := info_parts Tryd.info43
  clear hp hs ht
  have hB1 : Below w.heap.size w (w.alloc (.cells #[.int .i64 2, .slice none 0 0] 41)) := (Below.refl _ _).alloc (Nat.le_refl _) _
  have hB2 : Below w.heap.size w ((w.alloc (.cells #[.int .i64 2, .slice none 0 0] 41)).alloc (.cells #[.int .i64 0, .int .i64 0, .int .i64 0, .int .i64 1, .int .i64 0, .int .i64 0] 43)) := hB1.alloc hB1.size _
  have hpl1 := (oneJ_plan w).later ((Below.refl _ _).alloc (Nat.le_refl _) (.cells #[.int .i64 0, .int .i64 0, .int .i64 0, .int .i64 1, .int .i64 0, .int .i64 0] 43))
  have hbt := two_bits (w.alloc (.cells #[.int .i64 2, .slice none 0 0] 41))
  rw [show (w.alloc (.cells #[.int .i64 2, .slice none 0 0] 41)).heap.size = w.heap.size + 1 by simp] at hbt
  have c9 := bits_right (hands := 1) hpl1 hbt oneJ_check (by omega) (by omega) fact_two
  rw [errV_zero] at c9
  have HPL : Hid (∀ wx, Below ((w.alloc (.cells #[.int .i64 2, .slice none 0 0] 41)).alloc (.cells #[.int .i64 0, .int .i64 0, .int .i64 0, .int .i64 1, .int .i64 0, .int .i64 0] 43)).heap.size ((w.alloc (.cells #[.int .i64 2, .slice none 0 0] 41)).alloc (.cells #[.int .i64 0, .int .i64 0, .int .i64 0, .int .i64 1, .int .i64 0, .int .i64 0] 43)) wx → PlanAt wx (.slice (some ⟨w.heap.size, 0, none⟩) 1 1) oneJ) := fun wx hx => hpl1.later hx
  clear hpl1 hbt
  go_enter Tryd.func4, Tryd.ntmps4
  go_wp2_with fail
  refine c9.mono ?_
  clear c9
  rintro e w3 ⟨rfl, hb3⟩
  have hB3 : Below w.heap.size w w3 := hB2.trans (hb3.mono hB2.size)
  have hpl3 := (HPL.out w3 hb3).later ((Below.refl _ _).alloc (Nat.le_refl _) (.cells #[.int .i64 0, .int .i64 0, .int .i64 0] 43))
  have c9 := bits_right (hands := 1) hpl3 (one_bit w3) oneJ_check (by omega) (by omega) fact_one
  rw [errV_some (by decide)] at c9
  have hB3a : Below w.heap.size w (w3.alloc (.cells #[.int .i64 0, .int .i64 0, .int .i64 0] 43)) := hB3.alloc hB3.size _
  clear hpl3 HPL hB1 hB2 hb3
  go_wp2_with fail
  refine c9.mono ?_
  clear c9
  rintro e w4 ⟨rfl, hb4⟩
  have hB4 : Below w.heap.size w w4 := hB3a.trans (hb4.mono hB3a.size)
  have c8 := error_any 5 5 w4 (HT.out _ hB4)
  rw [errV_some (by decide), show ((5 : Int) == 5) = true by rfl] at c8
  clear hB3 hB3a hb4
  go_wp2_with fail
  refine c8.mono ?_
  clear c8
  rintro e w5 ⟨rfl, hb5⟩
  have hB5 : Below w.heap.size w w5 := hB4.trans (hb5.mono hB4.size)
  have c13 := stays_any _ _ ts s hands w5 (HP.out _ hB5) (HSS.out _ hB5)
  clear hB4 hb5
  go_wp2_with fail
  refine c13.mono ?_
  clear c13
  rintro e w6 ⟨hso, hb6⟩
  have hB6 : Below w.heap.size w w6 := hB5.trans (hb6.mono hB5.size)
  clear hB5 hb6
  rcases hso with ⟨p, q, hc, hq, rfl⟩ | ⟨hc, h1, h6, rfl⟩
  · have hev := errV_some hq
    rw [hev]
    clear hev hc hq
    generalize jErr q hands = gg at *
    go_wp2
    go_ret
    exact ⟨rfl, hB6⟩
  · by_cases hse : staysErr ts hands.toNat s = 0
    · rw [hse, errV_zero]
      have hok : StaysOk ts hands.toNat s := stays_ok.1 hse
      have hw := hc.worksJ.1
      have HC : Hid (CheckIs ts 0 0) := hc
      have HOK : Hid (StaysOk ts hands.toNat s) := hok
      have HW : Hid (Works ts) := hw
      have hslen : s.length ≤ 30 := by have := hok.len; have := hw.1; omega
      have hslen2 : s.length = ts.length := hok.len
      have HSL : Hid (s.length = ts.length) := hslen2
      have HLEN : Hid (∀ k, (bitsOfAll (s.take k)).length ≤ 600) := fun k => by
        have h := all_length (s := s.take k) (fun x hx => by
          have hx' := List.mem_of_mem_take hx
          have h1 := hok.long x hx'
          have h2 := hok.rng x hx'
          have h3 := hw.2 x.2.1.toNat (by omega)
          omega)
        rw [List.length_take] at h
        omega
      have HIN : Hid (∀ x, x ∈ s → ∃ (xn f t : Nat), x.2.1 = (xn : Int) ∧ xn < ts.length ∧ x.2.2.1 = (f : Int) ∧ x.2.2.2 = (t : Int) ∧ f < t ∧ t ≤ f + 20 ∧ t ≤ 10000) := fun x hx => by
        have h1 := hok.long x hx
        have h2 := hok.rng x hx
        have h3 := hw.2 x.2.1.toNat (by omega)
        exact ⟨x.2.1.toNat, x.2.2.1.toNat, x.2.2.2.toNat, by omega, by omega, by omega, by omega, by omega, by omega, by omega⟩
      have HB6 : Hid (Below w.heap.size w w6) := hB6
      clear hse hok hw hc hB6 hslen2
      go_wp2
      obtain ⟨B, hB⟩ : ∃ B, B = w6.heap.size := ⟨_, rfl⟩
      have HBZ : Hid (B = w6.heap.size) := hB
      have HWB : Hid (w.heap.size ≤ B) := by rw [hB]; exact HB6.out.size
      clear hB
      go_loopw [13, 14] (fun s13 s14 wr => ∃ k : Nat, k ≤ s.length ∧ s14 = .int .i64 k ∧ Hid (RowBZ B wr s13 (bitsOfAll (s.take k))) ∧ Hid (Below B w6 wr)) (fun _ s14 _ => s.length - (intOf s14).toNat)
      case atStart => exact ⟨0, Nat.zero_le _, rfl, RowBZ.nil _ _, by rw [HBZ.out]; exact Below.refl _ _⟩
      case round =>
        obtain ⟨k, hk, rfl, hrow, hb⟩ := hrel
        obtain ⟨ra, rc, rfl⟩ := hrow.out.shape
        by_cases hkl : k < s.length
        · have h60 : k < 60 := by omega
          have HBW : Hid (Below w.heap.size w wr) := HB6.out.trans (hb.out.mono HWB.out)
          obtain ⟨sb, so, rfl, hsbl⟩ := stay_at (HSS.out _ HB6.out) hkl
          obtain ⟨hc0, hc1, hc2, hc3⟩ := stay_cells (HSS.out _ HBW.out) hkl
          have HCS : Hid (∀ wx, Below w.heap.size w wx → wx.cell? ⟨sb, so + k * 4, none⟩ = some (.int .i64 (s.getD k (0, 0, 0, 0)).1) ∧ wx.cell? ⟨sb, so + k * 4 + 1, none⟩ = some (.int .i64 (s.getD k (0, 0, 0, 0)).2.1) ∧ wx.cell? ⟨sb, so + k * 4 + 2, none⟩ = some (.int .i64 (s.getD k (0, 0, 0, 0)).2.2.1) ∧ wx.cell? ⟨sb, so + k * 4 + 3, none⟩ = some (.int .i64 (s.getD k (0, 0, 0, 0)).2.2.2)) := fun wx hx => stay_cells (HSS.out _ hx) hkl
          obtain ⟨xn, f, t, ex, hxn, ef, et, hft, htf, ht10⟩ := HIN.out _ (getD_in hkl)
          have HAN : Hid (bitsOfAll (s.take (k + 1)) = bitsOfAll (s.take k) ++ bitsOfS (s.getD k (0, 0, 0, 0))) := all_next hkl
          have HLK : Hid ((bitsOfAll (s.take k)).length ≤ 600) := HLEN.out k
          generalize s.getD k (0, 0, 0, 0) = q at *
          obtain ⟨hh, tk, fr, to⟩ := q
          dsimp only at hc0 hc1 hc2 hc3 ex ef et HCS
          subst ex ef et
          have HAN2 : Hid (bitsOfAll (s.take (k + 1)) = bitsOfAll (s.take k) ++ runB hh (xn : Int) f t) := by show _ = _; rw [HAN.out, runB_all _ _ (by omega)]
          clear HAN
          generalize bitsOfAll (s.take k) = L at *
          have hsB : sb < B := by have := HBZ.out; omega
          have HR0 : Hid (RowBZ B wr (.slice ra L.length rc) (L ++ runB hh (xn : Int) f f)) := by rw [runB_start, List.append_nil]; exact hrow.out
          have HB0 : Hid (Below B w6 wr) := hb
          clear hrow hb
          generalize hLl : L.length = Ll at *
          have HLl : Hid (L.length = Ll) := hLl
          clear hLl
          go_wp2
          go_loopw [13, 15] (fun s13 s15 wr => ∃ j : Nat, f ≤ j ∧ j ≤ t ∧ s15 = .int .i64 j ∧ Hid (RowBZ B wr s13 (L ++ runB hh (xn : Int) f j)) ∧ Hid (Below B w6 wr)) (fun _ s15 _ => t - (intOf s15).toNat)
          case atStart => exact ⟨f, Nat.le_refl _, by omega, rfl, HR0, HB0⟩
          case round =>
            clear HR0 HB0
            obtain ⟨j, hfj, hjt, rfl, hrow, hb⟩ := hrel
            have HBR : Hid (Below w.heap.size w wr) := HB6.out.trans (hb.out.mono HWB.out)
            obtain ⟨hd0, hd1, hd2, hd3⟩ := HCS.out _ HBR.out
            by_cases hjl : j < t
            · have hj30 : (j : Int) < (f : Int) + 30 := by omega
              have hlr : (L ++ runB hh (xn : Int) f j).length ≤ 700 := by rw [List.length_append, runB_length, HLl.out]; have := HLK.out; omega
              have HNX : Hid (L ++ runB hh (xn : Int) f (j + 1) = (L ++ runB hh (xn : Int) f j) ++ [((j : Int), hh, (xn : Int))]) := by show _ = _; rw [runB_next _ _ hfj, List.append_assoc]
              generalize L ++ runB hh (xn : Int) f j = Lj at *
              obtain ⟨va, vc, rfl⟩ := hrow.out.shape
              have hsl := HBR.out.size
              go_wp2
              obtain ⟨W, hW⟩ : ∃ W : World, W = { wr with drawn := wr.drawn + 1 } := ⟨_, rfl⟩
              have HS : W.cell? ⟨sb, so + k * 4, none⟩ = some (.int .i64 hh) ∧ W.cell? ⟨sb, so + k * 4 + 1, none⟩ = some (.int .i64 (xn : Int)) := by rw [hW]; exact ⟨hd0, hd1⟩
              have HRW : Hid (RowBZ B W (.slice va Lj.length vc) Lj) := by rw [hW]; exact hrow.out.of_blocks (fun _ _ => rfl)
              have HBW : Hid (Below B w6 W) := by rw [hW]; exact below_drewJ hb.out 1
              have hsbW : sb < W.heap.size := by rw [hW]; show sb < wr.heap.size; have := hb.out.size; have := HBZ.out; omega
              have hBW : B ≤ W.heap.size := by rw [hW]; show B ≤ wr.heap.size; have := hb.out.size; have := HBZ.out; omega
              refine wp_region_held (S := fun W' => W'.cell? ⟨sb, so + k * 4, none⟩ = some (.int .i64 hh) ∧ W'.cell? ⟨sb, so + k * 4 + 1, none⟩ = some (.int .i64 (xn : Int))) (by kernel_rfl) ?_
              rw [← hW]
              clear hW hd0 hd1 hd2 hd3
              refine wpAnyJ_take (i := 0) (v := ?v0) (some 79) rfl rfl (by kernel_rfl) (by kernel_rfl) (by kernel_rfl) (fun _ _ _ h => h) (Or.inl ⟨by rfl, ?hy0⟩) HS ?_
              case hy0 =>
                intro wz hSz
                obtain ⟨hSz0, hSz1⟩ := hSz
                go_simp
                try rfl
              refine wpAnyJ_take (i := 1) (v := ?v1) (some 80) rfl rfl (by kernel_rfl) (by kernel_rfl) (by kernel_rfl) (fun _ _ _ h => h) (Or.inl ⟨by rfl, ?hy1⟩) HS ?_
              case hy1 =>
                intro wz hSz
                obtain ⟨hSz0, hSz1⟩ := hSz
                go_simp
                try rfl
              refine wpAnyJ_take (i := 2) (v := ?v2) (some 81) rfl rfl (by kernel_rfl) (by kernel_rfl) (by kernel_rfl) (fun _ _ _ h => h) (Or.inl ⟨by rfl, ?hy2⟩) HS ?_
              case hy2 =>
                intro wz hSz
                obtain ⟨hSz0, hSz1⟩ := hSz
                go_simp
                try rfl
              refine wpAnyJ_take (i := 3) (v := ?v3) (some 82) rfl rfl (by kernel_rfl) (by kernel_rfl) (by kernel_rfl) (fun _ _ _ h => h) (Or.inl ⟨by rfl, ?hy3⟩) HS ?_
              case hy3 =>
                intro wz hSz
                obtain ⟨hSz0, hSz1⟩ := hSz
                go_simp
                try rfl
              refine wpAnyJ_take (i := 4) (v := ?v4) (some 83) rfl rfl (by kernel_rfl) (by kernel_rfl) (by kernel_rfl) (fun _ _ _ h => h) (Or.inl ⟨by rfl, ?hy4⟩) HS ?_
              case hy4 =>
                intro wz hSz
                obtain ⟨hSz0, hSz1⟩ := hSz
                go_simp
                try rfl
              refine wpAnyJ_take (i := 5) (v := ?v5) (some 84) rfl rfl (by kernel_rfl) (by kernel_rfl) (by kernel_rfl) (fun _ _ _ h => h) (Or.inl ⟨by rfl, ?hy5⟩) HS ?_
              case hy5 =>
                intro wz hSz
                obtain ⟨hSz0, hSz1⟩ := hSz
                go_simp
                try rfl
              refine wpAnyJ_take (i := 6) (v := ?v6) (some 85) rfl rfl (by kernel_rfl) (by kernel_rfl) (by kernel_rfl) (fun _ _ _ h => h) (Or.inl ⟨by rfl, ?hy6⟩) HS ?_
              case hy6 =>
                intro wz hSz
                obtain ⟨hSz0, hSz1⟩ := hSz
                go_simp
                try rfl
              refine wpAnyJ_take (i := 7) (v := ?v7) (some 86) rfl rfl (by kernel_rfl) (by kernel_rfl) (by kernel_rfl) (fun _ _ _ h => h) (Or.inl ⟨by rfl, ?hy7⟩) HS ?_
              case hy7 =>
                intro wz hSz
                obtain ⟨hSz0, hSz1⟩ := hSz
                go_simp
                try rfl
              refine wpAnyJ_take (i := 8) (v := ?v8) (some 87) rfl rfl (by kernel_rfl) (by kernel_rfl) (by kernel_rfl) (fun _ _ _ h => h) (Or.inl ⟨by rfl, ?hy8⟩) HS ?_
              case hy8 =>
                intro wz hSz
                obtain ⟨hSz0, hSz1⟩ := hSz
                go_simp
                try rfl
              refine wpAnyJ_take (i := 9) (v := ?v9) (some 88) rfl rfl (by kernel_rfl) (by kernel_rfl) (by kernel_rfl) (fun _ _ _ h => h) (Or.inl ⟨by rfl, ?hy9⟩) HS ?_
              case hy9 =>
                intro wz hSz
                obtain ⟨hSz0, hSz1⟩ := hSz
                go_simp
                try rfl
              refine wpAnyJ_take (i := 10) (v := ?v10) (some 89) rfl rfl (by kernel_rfl) (by kernel_rfl) (by kernel_rfl) (fun _ _ _ h => h) (Or.inl ⟨by rfl, ?hy10⟩) HS ?_
              case hy10 =>
                intro wz hSz
                obtain ⟨hSz0, hSz1⟩ := hSz
                go_simp
                try rfl
              refine wpAnyJ_take (i := 11) (v := ?v11) (some 90) rfl rfl (by kernel_rfl) (by kernel_rfl) (by kernel_rfl) (fun _ _ _ h => h) (Or.inl ⟨by rfl, ?hy11⟩) HS ?_
              case hy11 =>
                intro wz hSz
                obtain ⟨hSz0, hSz1⟩ := hSz
                go_simp
                try rfl
              refine wpAnyJ_take (i := 12) (v := ?v12) (some 91) rfl rfl (by kernel_rfl) (by kernel_rfl) (by kernel_rfl) (fun _ _ _ h => h) (Or.inl ⟨by rfl, ?hy12⟩) HS ?_
              case hy12 =>
                intro wz hSz
                obtain ⟨hSz0, hSz1⟩ := hSz
                go_simp
                try rfl
              have HWA : Hid (RowBZ B (W.alloc (.cells #[.int .i64 (j : Int), .int .i64 hh, .int .i64 (xn : Int)] 43)) (.slice va Lj.length vc) Lj) := HRW.out.later ((Below.refl _ _).alloc (Nat.le_refl _) _)
              have HSA : (W.alloc (.cells #[.int .i64 (j : Int), .int .i64 hh, .int .i64 (xn : Int)] 43)).cell? ⟨sb, so + k * 4, none⟩ = some (.int .i64 hh) ∧ (W.alloc (.cells #[.int .i64 (j : Int), .int .i64 hh, .int .i64 (xn : Int)] 43)).cell? ⟨sb, so + k * 4 + 1, none⟩ = some (.int .i64 (xn : Int)) := ⟨(World.cell?_alloc_lt _ _ ⟨sb, so + k * 4, none⟩ hsbW).trans HS.1, (World.cell?_alloc_lt _ _ ⟨sb, so + k * 4 + 1, none⟩ hsbW).trans HS.2⟩
              refine wpAnyJ_run (i := 13) (v := .slice (some ⟨W.heap.size, 0, none⟩) 1 1) (w' := W.alloc (.cells #[.int .i64 (j : Int), .int .i64 hh, .int .i64 (xn : Int)] 43)) (some 92) (by kernel_rfl) rfl rfl (by rfl) ?hx13 HSA ?_
              case hx13 =>
                go_simp
                try rfl
              have h1c : ∀ u ∈ [Value.int .i64 (j : Int), .int .i64 hh, .int .i64 (xn : Int)], u.oneCell' = true := by intro u hu; simp at hu; rcases hu with rfl | rfl | rfl <;> rfl
              obtain ⟨v2, w8, hr8, ho8, hg8, _, _⟩ := run_append_own_at (P := Tryd.prog) (W.alloc (.cells #[.int .i64 (j : Int), .int .i64 hh, .int .i64 (xn : Int)] 43)) B 24 24 43 i43 (.agg #[.int .i64 0, .int .i64 0, .int .i64 0]) 3 24 Tryd.underlying24 hi43 hz0 hz1 hz2 rfl (by decide) (.slice va Lj.length vc) Lj.length (flatZ Lj) HWA.out ⟨W.heap.size, 0, none⟩ 1 1 [.int .i64 (j : Int), .int .i64 hh, .int .i64 (xn : Int)] rfl (cell_three _ _ rfl _ _ _ _) h1c (by unfold maxLen; omega) (by omega) (by simp; omega)
              have hsn : some sb ≠ (Value.slice va Lj.length vc).ownBlock := fun e => by
                have := (HWA.out.low e.symm).1
                omega
              have HS8 : w8.cell? ⟨sb, so + k * 4, none⟩ = some (.int .i64 hh) ∧ w8.cell? ⟨sb, so + k * 4 + 1, none⟩ = some (.int .i64 (xn : Int)) := ⟨hg8.cell (a := ⟨sb, so + k * 4, none⟩) HSA.1 hsn, hg8.cell (a := ⟨sb, so + k * 4 + 1, none⟩) HSA.2 hsn⟩
              have HR8 : Hid (RowBZ B w8 v2 (L ++ runB hh (xn : Int) f (j + 1))) := by rw [HNX.out]; exact RowBZ.more ho8
              have HB8 : Hid (Below B w6 w8) := (HBW.out.alloc hBW _).grown hg8 (by simp; omega) (fun q e => (HWA.out.low e).1)
              refine wpAnyJ_run (i := 14) (v := v2) (w' := w8) (some 93) (by kernel_rfl) rfl rfl (by rfl) (r_append24 rfl (by kernel_rfl) (by kernel_rfl) hr8) HS8 ?_
              refine wpAnyJ_run (i := 15) (v := v2) (w' := w8) (some 13) (by kernel_rfl) rfl rfl (by rfl) ?hx15 HS8 ?_
              case hx15 =>
                go_simp
                try rfl
              refine wpAnyH_done (by kernel_rfl) ?_ _
              clear HS HSA HS8 hr8 ho8 hg8 hsn h1c
              simp only [Act.put, List.setIfInBounds_toArray, List.set_cons_zero, List.set_cons_succ]
              go_wp2
              go_roundw
              case rel => exact ⟨j + 1, by omega, by omega, by go_num, HR8, HB8⟩
              case measure => simp [intOf]; omega
            · obtain rfl : j = t := by omega
              have HRE : Hid (∀ u, u = L ++ runB hh (xn : Int) f j → bitsOfAll (s.take (k + 1)) = u) := fun u hu => by rw [hu]; exact HAN2.out
              generalize L ++ runB hh (xn : Int) f j = Lj at *
              obtain ⟨va, vc, rfl⟩ := hrow.out.shape
              have HRF : Hid (RowBZ B wr (.slice va Lj.length vc) (bitsOfAll (s.take (k + 1)))) := by rw [HRE.out Lj rfl]; exact hrow.out
              have HBF : Hid (Below B w6 wr) := hb
              clear hrow hb HRE HAN2
              generalize Lj.length = ljl at *
              go_wp2
              go_roundw
              case rel => exact ⟨k + 1, by omega, by go_num, HRF, HBF⟩
              case measure => simp [intOf]; omega
        · have hkk : s.take k = s := List.take_of_length_le (by omega)
          rw [hkk] at hrow ⊢
          have HBW : Hid (Below w.heap.size w wr) := HB6.out.trans (hb.out.mono HWB.out)
          have HLL : Hid ((bitsOfAll s).length ≤ 600) := by have := HLEN.out s.length; rw [List.take_of_length_le (Nat.le_refl _)] at this; exact this
          have HBO : Hid (BitsOk ts hands.toNat (bitsOfAll s)) := HOK.out.bits HW.out
          have hbe0 : bitsErr ts hands.toNat (bitsOfAll s) = 0 := (bits_ok HW.out HC.out.worksJ.2.1).2 HBO.out
          have c10 := ends_any _ _ ts _ hands wr (HP.out _ HBW.out) (hrow.out.bitsAt (by have := HLL.out; omega))
          have HROW : Hid (RowBZ B wr (.slice ra (bitsOfAll s).length rc) (bitsOfAll s)) := hrow
          have HLAST : Hid (∀ q, q ∈ s → lastB (bitsOfAll s) q.2.1 = q.2.2.2 - 1) := fun q hq => HOK.out.last HW.out hq
          have HLESS : Hid (∀ n, n < (bitsOfAll s).length → bitsErr ts hands.toNat ((bitsOfAll s).take n ++ (bitsOfAll s).drop (n + 1)) = 5) := fun n hn => HBO.out.less hn
          have HBE0 : Hid (bitsErr ts hands.toNat (bitsOfAll s) = 0) := hbe0
          have HBB : Hid (Below B w6 wr) := hb
          clear hkk hrow hb hbe0 HBO
          generalize hbl : (bitsOfAll s).length = bl at *
          have HBL : Hid ((bitsOfAll s).length = bl) := hbl
          clear hbl
          go_wp2_with fail
          refine c10.mono ?_
          clear c10
          rintro e w7 ⟨heo, hb7⟩
          have HB7 : Hid (Below wr.heap.size wr w7) := hb7
          have HBW7 : Hid (Below w.heap.size w w7) := HBW.out.trans (hb7.mono HBW.out.size)
          rcases heo with ⟨p, q, hc', hne, _⟩ | ⟨_, _, _, hne, _⟩ | ⟨_, _, _, _, g, hg, rfl, hlast⟩
          · exfalso
            obtain ⟨_, rfl⟩ := HC.out.det hc'
            apply hne
            unfold jErr
            rw [if_pos rfl, if_neg (by omega)]
          · exact absurd HBE0.out hne
          · have HLR : Hid (w7.rowIs g 3 ts.length (intRow (fun x => lastB (bitsOfAll s) (x : Int)))) := hlast
            clear hlast hb7 HBE0
            go_wp2
            go_loopw [18] (fun s18 wx => ∃ k : Nat, k ≤ s.length ∧ s18 = .int .i64 k ∧ Hid (Below w7.heap.size w7 wx)) (fun s18 _ => s.length - (intOf s18).toNat)
            case atStart => exact ⟨0, Nat.zero_le _, rfl, Below.refl _ _⟩
            case round =>
              obtain ⟨k, hk, rfl, hb⟩ := hrel
              have HBR : Hid (Below w.heap.size w wr) := HBW7.out.trans (hb.out.mono HBW7.out.size)
              by_cases hkl : k < s.length
              · obtain ⟨sb, so, rfl, hsbl⟩ := stay_at (HSS.out _ HB6.out) hkl
                obtain ⟨hc0, hc1, hc2, hc3⟩ := stay_cells (HSS.out _ HBR.out) hkl
                obtain ⟨xn, f, t, ex, hxn, ef, et, hft, htf, ht10⟩ := HIN.out _ (getD_in hkl)
                have hla := HLAST.out _ (getD_in hkl)
                generalize s.getD k (0, 0, 0, 0) = q at *
                obtain ⟨hh, tk, fr, to⟩ := q
                dsimp only at hc0 hc1 hc2 hc3 ex ef et hla
                subst ex ef et
                have hcl := (HLR.out.of_block (hb.out.block _ HLR.out.lt)).cell hxn
                unfold intRow at hcl
                dsimp only at hcl
                rw [hla] at hcl
                obtain ⟨tm, rfl⟩ : ∃ tm, t = tm + 1 := ⟨t - 1, by omega⟩
                have e1 : ((tm + 1 : Nat) : Int) - 1 = (tm : Int) := by omega
                rw [e1] at hcl
                have hwr : IntKind.i64.wrap (((tm + 1 : Nat) : Int) - 1) = (tm : Int) := by rw [e1]; exact wrap_fitsJ (by omega) (by omega)
                have d1 : decide ((xn : Int) < 0) = false := by simp
                have d2 : decide ((ts.length : Int) ≤ (xn : Int)) = false := by simp; omega
                have hgl := (HLR.out.of_block (hb.out.block _ HLR.out.lt)).lt
                generalize hto : ((tm + 1 : Nat) : Int) = to at *
                clear hla e1
                go_wp2
                go_quiet (fail)
                go_wp2
                go_roundw
                case rel => exact ⟨k + 1, by omega, by go_num, below_drewJ hb.out _⟩
                case measure => simp [intOf]; omega
              · by_cases g1 : kk < 0
                · go_wp2
                  go_ret
                  exact ⟨rfl, HBR.out⟩
                · by_cases g2 : (bl : Int) ≤ kk
                  · go_wp2
                    go_ret
                    exact ⟨rfl, HBR.out⟩
                  · obtain ⟨kn, rfl⟩ := Int.eq_ofNat_of_zero_le (show 0 ≤ kk by omega)
                    have hkn : kn < bl := by omega
                    have HRN : Hid (RowBZ B wr (.slice ra bl rc) (bitsOfAll s)) := HROW.out.later (HB7.out.trans (hb.out.mono HB7.out.size))
                    obtain ⟨gb, c2, hv2, hgbB, hgbl, hc2⟩ := HRN.out.full (by rw [HBL.out]; omega)
                    rw [HBL.out] at hv2 hc2
                    simp only [Value.slice.injEq, true_and] at hv2
                    obtain ⟨rfl, rfl⟩ := hv2
                    have HL5 : Hid (bitsErr ts hands.toNat ((bitsOfAll s).take kn ++ (bitsOfAll s).drop (kn + 1)) = 5) := HLESS.out kn hkn
                    clear HLAST HLESS HIN HLEN HOK
                    generalize bitsOfAll s = L at *
                    have hLb := HBL.out
                    have HRN2 : Hid (RowBZ B wr (.slice (some ⟨gb, 0, none⟩) L.length rc) L) := by rw [HBL.out]; exact HRN
                    have src1 := HRN2.out.srcTake (k := kn) (by omega)
                    have hlt1 : (flatZ (L.take kn)).length = kn * 3 := by rw [flatZ_length, List.length_take]; congr 1; omega
                    have hm1 : ∀ u ∈ flatZ (L.take kn), u.oneCell' = true := fun u hu => flatZ_mem hu
                    have hlt2 : (flatZ (L.drop (kn + 1))).length = (bl - (kn + 1)) * 3 := by rw [flatZ_length, List.length_drop, hLb]
                    have hm2 : ∀ u ∈ flatZ (L.drop (kn + 1)), u.oneCell' = true := fun u hu => flatZ_mem hu
                    have hb600 := HLL.out
                    have HLTK : Hid ((L.take kn).length = kn) := by show _ = _; rw [List.length_take]; omega
                    have HLDR : Hid ((L.drop (kn + 1)).length = bl - (kn + 1)) := by show _ = _; rw [List.length_drop, hLb]
                    have HLB : Hid (L.length = bl) := hLb
                    clear hLb
                    have HE5 : Hid (∀ wx, Below w.heap.size w wx → Calls Tryd.prog 8 #[.iface 51 (.int .i64 5), .int .i64 5] wx fun e w' => e = .returned (.bool true) ∧ Below wx.heap.size wx w') := fun wx hx => by
                      have h := error_any 5 5 wx (HT.out _ hx)
                      rw [errV_some (by decide)] at h
                      exact h
                    have HL9 : Hid ((L.take kn ++ L.drop (kn + 1)).length * 24 ≤ 140737488351232) := by show _ ≤ _; rw [List.length_append, HLTK.out, HLDR.out]; omega
                    by_cases hcap : rc = kn + 1
                    · subst hcap
                      obtain rfl : bl = kn + 1 := by omega
                      have hnil : L.drop (kn + 1) = [] := List.drop_of_length_le (by have := HLB.out; omega)
                      rw [hnil] at hlt2 hm2
                      have src2 : ∀ (w8 : World) (j : Nat) (u : Value), (flatZ [])[j]? = some u → w8.cell? ((⟨gb, 0, none⟩ : Addr).add j) = some u := fun _ j u hu => by simp [flatZ] at hu
                      have HNIL : Hid (L.drop (kn + 1) = []) := hnil
                      clear hnil
                      go_wp2_with (first | (at_builtin; refine wpList_append_own _ rfl (.tmp 157) (.tmp 160) 24 rfl wr.heap.size 43 i43 (.agg #[.int .i64 0, .int .i64 0, .int .i64 0]) 3 24 Tryd.underlying24 hi43 hz0 hz1 hz2 rfl (by decide) (.slice none 0 0) 0 [] rfl (World.ownsRow_nil _ _ _ _) ⟨gb, 0, none⟩ kn (kn + 1) (flatZ (L.take kn)) rfl hlt1 src1 hm1 (by unfold maxLen; omega) (by omega) (Nat.le_refl _) ?_; clear hlt1 src1; intro v2 w8 hown2 hgr2 _; have hown8 := own_zero hown2; have src2 := src2 w8; have hsz8 := hgr2.size; clear hown2) | (at_builtin; refine wpList_append_own _ rfl (.tmp 162) (.tmp 166) 24 rfl wr.heap.size 43 i43 (.agg #[.int .i64 0, .int .i64 0, .int .i64 0]) 3 24 Tryd.underlying24 hi43 hz0 hz1 hz2 rfl (by decide) v2 kn (flatZ (L.take kn)) rfl hown8 ⟨gb, 0, none⟩ _ _ (flatZ []) rfl (by simp [flatZ]) src2 hm2 (by unfold maxLen; omega) (by omega) hsz8 ?_; intro v3 w9 hown3 hgr3 _; have HR9 : Hid (RowBZ wr.heap.size w9 v3 (L.take kn ++ L.drop (kn + 1))) := RowBZ.twoNil hown3 HLTK.out (by omega) HNIL.out; have HBN : Hid (Below wr.heap.size wr w9) := below_apps hgr2 hown8 hgr3; have HBN2 : Hid (Below w.heap.size w w9) := HBR.out.trans (HBN.out.mono HBR.out.size); have c9 := bits_right (HP.out _ HBN2.out) (HR9.out.bitsAt HL9.out) HC.out h1 h6 HL5.out; rw [errV_some (by decide)] at c9; clear hown8 hown3 hgr2 hgr3 hlt2 src2) | (go_at_call 9; refine c9.mono ?_; clear c9; rintro e w10 ⟨rfl, hb10⟩; have HB10 : Hid (Below w.heap.size w w10) := HBN2.out.trans (hb10.mono HBN2.out.size); have c8 := HE5.out _ HB10.out; clear hb10) | (go_at_call 8; refine c8.mono ?_; clear c8; rintro e w11 ⟨rfl, hb11⟩))
                      go_ret
                      exact ⟨rfl, HB10.out.trans (hb11.mono HB10.out.size)⟩
                    · have hrc : kn + 1 < rc := by omega
                      go_wp2_with (first | (at_builtin; refine wpList_append_own _ rfl (.tmp 157) (.tmp 160) 24 rfl wr.heap.size 43 i43 (.agg #[.int .i64 0, .int .i64 0, .int .i64 0]) 3 24 Tryd.underlying24 hi43 hz0 hz1 hz2 rfl (by decide) (.slice none 0 0) 0 [] rfl (World.ownsRow_nil _ _ _ _) ⟨gb, 0, none⟩ kn rc (flatZ (L.take kn)) rfl hlt1 src1 hm1 (by unfold maxLen; omega) (by omega) (Nat.le_refl _) ?_; clear hlt1 src1; intro v2 w8 hown2 hgr2 _; have hown8 := own_zero hown2; have src2 := (HRN2.out.keptN hgr2).srcDrop (k := kn + 1) (Nat.le_trans hkn (Nat.le_of_eq HLB.out.symm)); have hsz8 := hgr2.size; clear hown2) | (at_builtin; refine wpList_append_own _ rfl (.tmp 162) (.tmp 166) 24 rfl wr.heap.size 43 i43 (.agg #[.int .i64 0, .int .i64 0, .int .i64 0]) 3 24 Tryd.underlying24 hi43 hz0 hz1 hz2 rfl (by decide) v2 kn (flatZ (L.take kn)) rfl hown8 ⟨gb, (kn + 1) * 3, none⟩ (bl - (kn + 1)) (rc - (kn + 1)) (flatZ (L.drop (kn + 1))) rfl hlt2 src2 hm2 (by unfold maxLen; omega) (by omega) hsz8 ?_; intro v3 w9 hown3 hgr3 _; have HR9 : Hid (RowBZ wr.heap.size w9 v3 (L.take kn ++ L.drop (kn + 1))) := RowBZ.two (C := L.drop (kn + 1)) hown3 HLTK.out HLDR.out; have HBN : Hid (Below wr.heap.size wr w9) := below_apps hgr2 hown8 hgr3; have HBN2 : Hid (Below w.heap.size w w9) := HBR.out.trans (HBN.out.mono HBR.out.size); have c9 := bits_right (HP.out _ HBN2.out) (HR9.out.bitsAt HL9.out) HC.out h1 h6 HL5.out; rw [errV_some (by decide)] at c9; clear hown8 hown3 hgr2 hgr3 hlt2 src2) | (go_at_call 9; refine c9.mono ?_; clear c9; rintro e w10 ⟨rfl, hb10⟩; have HB10 : Hid (Below w.heap.size w w10) := HBN2.out.trans (hb10.mono HBN2.out.size); have c8 := HE5.out _ HB10.out; clear hb10) | (go_at_call 8; refine c8.mono ?_; clear c8; rintro e w11 ⟨rfl, hb11⟩))
                      go_ret
                      exact ⟨rfl, HB10.out.trans (hb11.mono HB10.out.size)⟩
    · have hev := errV_some hse
      rw [hev]
      clear hev hse hc
      generalize staysErr ts hands.toNat s = gg at *
      go_wp2
      go_ret
      exact ⟨rfl, hB6⟩
end Go.Proofs.YtkgdhfdahafaoaaDoor
