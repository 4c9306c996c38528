/- The document's Bits. -/
import Derived.Test.YtkgdhfdahafaoaaDoorJf
import Derived.Test.YtkgdhfdahafaoaaDoorDg
import Derived.BigQuiet
namespace Go.Proofs.YtkgdhfdahafaoaaDoor
open Go.RowKit Go.Deep

theorem bit_at {w : World} {l : List BitZ} {n c : Nat} {a : Option Addr} (h : BitsAt w (.slice a n c) l) {k : Nat} (hk : k < l.length) : ∃ b o, a = some ⟨b, o, none⟩ ∧ b < w.heap.size := by
  obtain ⟨_, a', c', hv, h⟩ := h
  simp only [Value.slice.injEq] at hv
  rcases h with h | ⟨b, o, ha, hb, _⟩
  · subst h; simp at hk
  · exact ⟨b, o, hv.1.trans ha, hb⟩
theorem bit_cells {w : World} {l : List BitZ} {n c b o : Nat} (h : BitsAt w (.slice (some ⟨b, o, none⟩) n c) l) {k : Nat} (hk : k < l.length) :
    w.cell? ⟨b, o + k * 3, none⟩ = some (.int .i64 (l.getD k (0, 0, 0)).1) ∧ w.cell? ⟨b, o + k * 3 + 1, none⟩ = some (.int .i64 (l.getD k (0, 0, 0)).2.1) ∧ w.cell? ⟨b, o + k * 3 + 2, none⟩ = some (.int .i64 (l.getD k (0, 0, 0)).2.2) := by
  obtain ⟨_, a', c', hv, h⟩ := h
  simp only [Value.slice.injEq] at hv
  rcases h with h | ⟨b', o', ha, hb, hc⟩
  · subst h; simp at hk
  · have e := hv.1.trans ha
    simp only [Option.some.injEq, Addr.mk.injEq, and_true] at e
    rw [e.1, e.2]
    exact hc k hk
theorem bit_bad {ts : List (Int × List Int)} {h : Nat} {l : List BitZ} {k : Nat} (h0 : firstErr (bitErr ts h) [] (l.take k) = 0) (hk : k < l.length) {e : Int} (he : bitErr ts h (l.take k) (l.getD k (0, 0, 0)) = e) (hne : e ≠ 0) : bitsErr ts h l = e := by
  have h1 := firstErr_at hk h0 (by rw [(take_at (d := (0, 0, 0)) hk).2, he]; exact hne)
  rw [(take_at (d := (0, 0, 0)) hk).2, he] at h1
  unfold bitsErr
  rw [if_neg (by rw [h1]; exact hne), h1]
theorem bit_good {ts : List (Int × List Int)} {h : Nat} {l : List BitZ} {k : Nat} (h0 : firstErr (bitErr ts h) [] (l.take k) = 0) (hk : k < l.length) (he : bitErr ts h (l.take k) (l.getD k (0, 0, 0)) = 0) : firstErr (bitErr ts h) [] (l.take (k + 1)) = 0 := firstErr_next hk h0 (by rw [(take_at (d := (0, 0, 0)) hk).2]; exact he)
theorem outB_some {n h : Nat} {b : BitZ} (hs : b.1 < 0 ∨ 10000 < b.1 ∨ b.2.1 < 0 ∨ (h : Int) ≤ b.2.1 ∨ b.2.2 < 0 ∨ (n : Int) ≤ b.2.2) : outB n h b = true := by
  cases e : outB n h b with
  | true => rfl
  | false => have := outB_false.1 e; omega
theorem bitErr_out1 {ts : List (Int × List Int)} {h : Nat} {L : List BitZ} {b : BitZ} (hs : b.1 < 0 ∨ 10000 < b.1 ∨ b.2.1 < 0 ∨ (h : Int) ≤ b.2.1 ∨ b.2.2 < 0 ∨ (ts.length : Int) ≤ b.2.2) : bitErr ts h L b = 1 := by
  unfold bitErr
  rw [outB_some hs, if_pos rfl]
theorem bitErr_in {ts : List (Int × List Int)} {h : Nat} {L : List BitZ} {b : BitZ} (ho : outB ts.length h b = false) : bitErr ts h L b = if L.any (fun a => hitB a b) = true then 7 else if wkOf ts b.2.2.toNat ≤ manyB L b.2.2 then 4 else 0 := by
  unfold bitErr
  rw [ho, if_neg (by decide)]
theorem bmem_take {l : List BitZ} {k j : Nat} (hk : k ≤ l.length) (hj : j < k) : l.getD j (0, 0, 0) ∈ l.take k := by
  rw [List.mem_take_iff_getElem]
  refine ⟨j, by omega, ?_⟩
  rw [List.getD_eq_getElem?_getD, List.getElem?_eq_getElem (by omega)]; rfl
theorem bgetD_in {l : List BitZ} {j : Nat} (hj : j < l.length) : l.getD j (0, 0, 0) ∈ l := by
  rw [List.getD_eq_getElem?_getD, List.getElem?_eq_getElem hj]; exact List.getElem_mem hj
theorem bin_getD {l : List BitZ} {a : BitZ} (h : a ∈ l) : ∃ j, j < l.length ∧ l.getD j (0, 0, 0) = a := by
  obtain ⟨j, hj, rfl⟩ := List.getElem_of_mem h
  exact ⟨j, hj, by rw [List.getD_eq_getElem?_getD, List.getElem?_eq_getElem hj]; rfl⟩
theorem many_next {l : List BitZ} {j : Nat} (hj : j < l.length) (x : Int) : manyB (l.take (j + 1)) x = manyB (l.take j) x + if (l.getD j (0, 0, 0)).2.2 = x then 1 else 0 := by
  rw [(take_at (d := (0, 0, 0)) hj).1, manyB_append, manyB_one]
theorem last_next {l : List BitZ} {j : Nat} (hj : j < l.length) (x : Int) : lastB (l.take (j + 1)) x = if (l.getD j (0, 0, 0)).2.2 = x ∧ lastB (l.take j) x < (l.getD j (0, 0, 0)).1 then (l.getD j (0, 0, 0)).1 else lastB (l.take j) x := by
  rw [(take_at (d := (0, 0, 0)) hj).1]
  unfold lastB
  rw [List.foldl_append]
  rfl
theorem bfirst_in {ts : List (Int × List Int)} {h : Nat} {l : List BitZ} (h0 : firstErr (bitErr ts h) [] l = 0) : ∀ b, b ∈ l → outB ts.length h b = false := by
  intro b hb
  rw [firstErr_zero] at h0
  obtain ⟨k, hk, rfl⟩ := List.getElem_of_mem hb
  have := h0 k hk
  rw [List.nil_append] at this
  exact (bitErr_zero.1 this).1
theorem many_le (l : List BitZ) (x : Int) : manyB l x ≤ l.length := by unfold manyB; exact List.countP_le_length

/-- What Bits hands back: the last steps, in a row of their own, or nothing; and the fault. -/
def RefOut (ts : List (Int × List Int)) (h : Nat) (l : List BitZ) (n : Nat) (e : Ending) (w' : World) : Prop :=
  (bitsErr ts h l ≠ 0 ∧ e = .returned (.tuple #[.slice none 0 0, .int .i64 (bitsErr ts h l)])) ∨
  (bitsErr ts h l = 0 ∧ ∃ g, n ≤ g ∧ e = .returned (.tuple #[.slice (some ⟨g, 0, none⟩) ts.length ts.length, .int .i64 0]) ∧ w'.rowIs g 3 ts.length (intRow (fun x => lastB l (x : Int))))

/-- Two rows in blocks L and L + 1, all below L as it was. -/
structure BMem (L n : Nat) (w0 wr : World) (F G : Nat → Int) : Prop where
  last : wr.rowIs L 3 n (intRow F)
  many : wr.rowIs (L + 1) 3 n (intRow G)
  below : Below L w0 wr
theorem BMem.start (w : World) (n : Nat) : BMem w.heap.size n w ((w.alloc (.cells (madeCells #[.int .i64 0] n) 3)).alloc (.cells (madeCells #[.int .i64 0] n) 3)) (fun _ => 0) (fun _ => 0) := by
  have e1 : (w.alloc (.cells (madeCells #[.int .i64 0] n) 3)).heap.size = w.heap.size + 1 := by simp
  have r1 := World.rowIs_made w (.int .i64 0) n 3
  have r2 := World.rowIs_made (w.alloc (.cells (madeCells #[.int .i64 0] n) 3)) (.int .i64 0) n 3
  rw [e1] at r2
  exact ⟨(r1.alloc _).congr (fun k _ => rfl), r2.congr (fun k _ => rfl), ((Below.refl _ _).alloc (Nat.le_refl _) _).alloc (by simp) _⟩
theorem BMem.setM {L n : Nat} {w0 wr : World} {F G : Nat → Int} (m : BMem L n w0 wr F G) (x : Nat) (u : Int) : BMem L n w0 (wr.setCell ⟨L + 1, x, none⟩ (.int .i64 u)) F (upd G x u) :=
  ⟨m.last.of_block (Below.heap_setCell wr ⟨L + 1, x, none⟩ _ _ (by show L ≠ L + 1; omega)), row_upd m.many, m.below.setCell (p := ⟨L + 1, x, none⟩) (by show L ≤ L + 1; omega) _⟩
theorem BMem.setL {L n : Nat} {w0 wr : World} {F G : Nat → Int} (m : BMem L n w0 wr F G) (x : Nat) (u : Int) : BMem L n w0 (wr.setCell ⟨L, x, none⟩ (.int .i64 u)) (upd F x u) G :=
  ⟨row_upd m.last, m.many.of_block (Below.heap_setCell wr ⟨L, x, none⟩ _ _ (by show L + 1 ≠ L; omega)), m.below.setCell (p := ⟨L, x, none⟩) (Nat.le_refl _) _⟩
theorem BMem.drewN {L n : Nat} {w0 wr : World} {F G : Nat → Int} (m : BMem L n w0 wr F G) (q : Nat) : BMem L n w0 (wr.drewN q) F G := ⟨m.last.of_block rfl, m.many.of_block rfl, below_drewJ m.below q⟩
theorem BMem.congr {L n : Nat} {w0 wr : World} {F G F' G' : Nat → Int} (m : BMem L n w0 wr F G) (hF : ∀ x, x < n → F x = F' x) (hG : ∀ x, x < n → G x = G' x) : BMem L n w0 wr F' G' :=
  ⟨m.last.congr (fun k hk => by unfold intRow; rw [hF k hk]), m.many.congr (fun k hk => by unfold intRow; rw [hG k hk]), m.below⟩
theorem BMem.later {L n : Nat} {w0 wr w' : World} {F G : Nat → Int} (m : BMem L n w0 wr F G) (hb : Below wr.heap.size wr w') : BMem L n w0 w' F G :=
  ⟨m.last.of_block (hb.block _ m.last.lt), m.many.of_block (hb.block _ m.many.lt), m.below.trans (hb.mono (Nat.le_of_lt m.last.lt))⟩
theorem lackB_at {ts : List (Int × List Int)} {l : List BitZ} {x : Nat} (hx : x < ts.length) (h : (manyB l (x : Int) : Int) < wkOf ts x) : lackB ts l = true :=
  List.any_eq_true.2 ⟨x, List.mem_range.2 hx, decide_eq_true h⟩
theorem lackB_none {ts : List (Int × List Int)} {l : List BitZ} (h : ∀ x, x < ts.length → wkOf ts x ≤ (manyB l (x : Int) : Int)) : lackB ts l = false := by
  unfold lackB
  rw [List.any_eq_false]
  intro x hx
  have := h x (List.mem_range.1 hx)
  simp; omega
/-- One bit: is it not behind all that its task needs. -/
def earlyOne (ts : List (Int × List Int)) (l : List BitZ) (b : BitZ) : Bool := (needsOf ts b.2.2.toNat).any (fun y => decide (b.1 ≤ lastB l y))
theorem ints_cell {w : World} {a : Option Addr} {n c : Nat} {zs : List Int} (h : IntsAt w (.slice a n c) zs) {j : Nat} (hj : j < zs.length) : ∃ b o, a = some ⟨b, o, none⟩ ∧ b < w.heap.size ∧ w.cell? ⟨b, o + j, none⟩ = some (.int .i64 (zs.getD j 0)) := by
  obtain ⟨_, a', c', hv, h⟩ := h
  simp only [Value.slice.injEq] at hv
  rcases h with h | ⟨b, o, ha, hb, hc⟩
  · subst h; simp at hj
  · exact ⟨b, o, hv.1.trans ha, hb, hc j hj⟩
theorem zgetD_in {l : List Int} {j : Nat} (hj : j < l.length) : l.getD j 0 ∈ l := by
  rw [List.getD_eq_getElem?_getD, List.getElem?_eq_getElem hj]; exact List.getElem_mem hj
theorem zin_getD {l : List Int} {a : Int} (h : a ∈ l) : ∃ j, j < l.length ∧ l.getD j 0 = a := by
  obtain ⟨j, hj, rfl⟩ := List.getElem_of_mem h
  exact ⟨j, hj, by rw [List.getD_eq_getElem?_getD, List.getElem?_eq_getElem hj]; rfl⟩

set_option maxRecDepth 100000 in
set_option maxHeartbeats 8000000 in
theorem refBits_any (v lv : Value) (ts : List (Int × List Int)) (l : List BitZ) (hn : Nat) (w : World) (hp : PlanAt w v ts) (hl : BitsAt w lv l) (hw : Works ts) (hr : InRange ts) :
    Calls Tryd.prog 7 #[v, .int .i64 (hn : Int), lv] w fun e w' => RefOut ts hn l w.heap.size e w' ∧ Below w.heap.size w w' := by
  have HP : Hid (∀ wx, Below w.heap.size w wx → PlanAt wx v ts) := fun wx hx => hp.later hx
  have HL : Hid (∀ wx, Below w.heap.size w wx → BitsAt wx lv l) := fun wx hx => hl.later hx
  obtain ⟨hl0, a, c, rfl, hp⟩ := hp
  obtain ⟨hl1, la, lc, rfl, hl⟩ := hl
  have HW : Hid (Works ts) := hw
  have HR : Hid (InRange ts) := hr
  have h30 := hw.1
  have HERR : Hid (∀ e wx, bitsErr ts hn l = e → e ≠ 0 → RefOut ts hn l w.heap.size (.returned (.tuple #[.slice none 0 0, .int .i64 e])) wx) := fun e wx h1 h2 => Or.inl ⟨by rw [h1]; exact h2, by rw [h1]⟩
  clear hp hl hw hr
  go_enter Tryd.func7, Tryd.ntmps7
  go_wp2
  go_loopw [8] (fun s8 wr => ∃ k : Nat, k ≤ l.length ∧ s8 = .int .i64 k ∧ Hid (firstErr (bitErr ts hn) [] (l.take k) = 0) ∧ Below w.heap.size w wr) (fun s8 _ => l.length - (intOf s8).toNat)
  case atStart => exact ⟨0, Nat.zero_le _, rfl, rfl, Below.refl _ _⟩
  case round =>
    obtain ⟨k, hk, rfl, hno, hb⟩ := hrel
    by_cases hkl : k < l.length
    · obtain ⟨lb, lo, rfl, hlbl⟩ := bit_at (HL.out _ hb) hkl
      obtain ⟨hb0, hb1, hb2⟩ := bit_cells (HL.out _ hb) hkl
      have HBAD : Hid (∀ e, bitErr ts hn (l.take k) (l.getD k (0, 0, 0)) = e → e ≠ 0 → bitsErr ts hn l = e) := fun e he hne => bit_bad hno.out hkl he hne
      have HGOOD : Hid (bitErr ts hn (l.take k) (l.getD k (0, 0, 0)) = 0 → firstErr (bitErr ts hn) [] (l.take (k + 1)) = 0) := fun he => bit_good hno.out hkl he
      have hbs := hb.size
      have HBA : Hid (∀ o1, Below w.heap.size w (wr.alloc o1)) := fun o1 => hb.alloc hbs o1
      have HB : Hid (Below w.heap.size w wr) := hb
      clear hno hb
      generalize hgs : l.getD k (0, 0, 0) = s at *
      clear hgs
      obtain ⟨st, hh, tk⟩ := s
      dsimp only at hb0 hb1 hb2
      by_cases g0 : st < 0
      · have HE : Hid (bitsErr ts hn l = 1) := HBAD.out 1 (bitErr_out1 ((fun h => Or.inl h) g0)) (by omega)
        clear HBAD HGOOD
        go_wp2
        go_ret2
        exact ⟨HERR.out 1 _ HE.out (by omega), HBA.out _⟩
      by_cases g1 : 10000 < st
      · have HE : Hid (bitsErr ts hn l = 1) := HBAD.out 1 (bitErr_out1 ((fun h => Or.inr (Or.inl h)) g1)) (by omega)
        clear HBAD HGOOD
        go_wp2
        go_ret2
        exact ⟨HERR.out 1 _ HE.out (by omega), HBA.out _⟩
      by_cases g2 : hh < 0
      · have HE : Hid (bitsErr ts hn l = 1) := HBAD.out 1 (bitErr_out1 ((fun h => Or.inr (Or.inr (Or.inl h))) g2)) (by omega)
        clear HBAD HGOOD
        go_wp2
        go_ret2
        exact ⟨HERR.out 1 _ HE.out (by omega), HBA.out _⟩
      by_cases g3 : (hn : Int) ≤ hh
      · have HE : Hid (bitsErr ts hn l = 1) := HBAD.out 1 (bitErr_out1 ((fun h => Or.inr (Or.inr (Or.inr (Or.inl h)))) g3)) (by omega)
        clear HBAD HGOOD
        go_wp2
        go_ret2
        exact ⟨HERR.out 1 _ HE.out (by omega), HBA.out _⟩
      by_cases g4 : tk < 0
      · have HE : Hid (bitsErr ts hn l = 1) := HBAD.out 1 (bitErr_out1 ((fun h => Or.inr (Or.inr (Or.inr (Or.inr (Or.inl h))))) g4)) (by omega)
        clear HBAD HGOOD
        go_wp2
        go_ret2
        exact ⟨HERR.out 1 _ HE.out (by omega), HBA.out _⟩
      by_cases g5 : (ts.length : Int) ≤ tk
      · have HE : Hid (bitsErr ts hn l = 1) := HBAD.out 1 (bitErr_out1 ((fun h => Or.inr (Or.inr (Or.inr (Or.inr (Or.inr (h)))))) g5)) (by omega)
        clear HBAD HGOOD
        go_wp2
        go_ret2
        exact ⟨HERR.out 1 _ HE.out (by omega), HBA.out _⟩
      obtain ⟨x, rfl⟩ := Int.eq_ofNat_of_zero_le (show 0 ≤ tk by omega)
      have hxl : x < ts.length := by omega
      have HO : Hid (outB ts.length hn (st, hh, (x : Int)) = false) := outB_false.2 ⟨by dsimp only; omega, by dsimp only; omega, by dsimp only; omega, by dsimp only; omega, by dsimp only; omega, by dsimp only; omega⟩
      obtain ⟨b, o, rfl⟩ := plan_atJ (HP.out _ HB.out) hxl
      have HBY : Hid (bitErr ts hn (l.take k) (st, hh, (x : Int)) = if (l.take k).any (fun a => hitB a (st, hh, (x : Int))) = true then 7 else if wkOf ts x ≤ manyB (l.take k) (x : Int) then 4 else 0) := by
        have := bitErr_in (L := l.take k) HO.out
        rw [Int.toNat_natCast] at this
        exact this
      go_wp2
      obtain ⟨W, hW⟩ : ∃ W, W = wr.alloc (.cells #[.int .i64 st, .int .i64 hh, .int .i64 (x : Int)] 43) := ⟨_, rfl⟩
      have HBWW : Hid (Below w.heap.size w W) := by rw [hW]; exact HBA.out _
      have hXW : W.heap[wr.heap.size]? = some (.cells #[.int .i64 st, .int .i64 hh, .int .i64 (x : Int)] 43 (0, 0)) := by rw [hW]; exact blk_alloc_new _ _
      have HX : Hid (W.heap[wr.heap.size]? = some (.cells #[.int .i64 st, .int .i64 hh, .int .i64 (x : Int)] 43 (0, 0))) := hXW
      obtain ⟨X, hX⟩ : ∃ X, X = wr.heap.size := ⟨_, rfl⟩
      rw [← hW, ← hX]
      rw [← hX] at HX
      clear hW hX hXW hb0 hb1 hb2
      go_loopw [10, 11] (fun s10 s11 wr => ∃ j : Nat, j ≤ k ∧ s11 = .int .i64 j ∧ s10 = .int .i64 (manyB (l.take j) (x : Int) : Nat) ∧ Hid (∀ i, i < j → hitB (l.getD i (0, 0, 0)) (st, hh, (x : Int)) = false) ∧ Below W.heap.size W wr) (fun _ s11 _ => k - (intOf s11).toNat)
      case atStart => exact ⟨0, Nat.zero_le _, rfl, rfl, fun i hi => by omega, Below.refl _ _⟩
      case round =>
        obtain ⟨j, hj, rfl, rfl, hno, hb⟩ := hrel
        have hXr : wr.heap[X]? = some (.cells #[.int .i64 st, .int .i64 hh, .int .i64 (x : Int)] 43 (0, 0)) := (hb.block _ (Array.getElem?_eq_some_iff.1 HX.out).1).trans HX.out
        obtain ⟨hx0, hx1, hx2⟩ := three_cells hXr
        have hXl := (Array.getElem?_eq_some_iff.1 hXr).1
        have HBR : Hid (Below w.heap.size w wr) := HBWW.out.trans (hb.mono HBWW.out.size)
        by_cases hjk : j < k
        · obtain ⟨hc0, hc1, hc2⟩ := bit_cells (HL.out _ HBR.out) (k := j) (by omega)
          have HYES : Hid (hitB (l.getD j (0, 0, 0)) (st, hh, (x : Int)) = true → bitsErr ts hn l = 7) := fun h => by
            refine HBAD.out 7 ?_ (by omega)
            rw [HBY.out, if_pos (List.any_eq_true.2 ⟨_, bmem_take hk hjk, h⟩)]
          have HNO : Hid (hitB (l.getD j (0, 0, 0)) (st, hh, (x : Int)) = false → ∀ i, i < j + 1 → hitB (l.getD i (0, 0, 0)) (st, hh, (x : Int)) = false) := fun h i hi => by
            by_cases e : i = j
            · subst e; exact h
            · exact hno.out i (by omega)
          have HMN : Hid (((manyB (l.take (j + 1)) (x : Int) : Nat) : Int) = (manyB (l.take j) (x : Int) : Nat) + if (l.getD j (0, 0, 0)).2.2 = (x : Int) then 1 else 0) := by
            show _ = _
            rw [many_next (by omega)]
            split <;> simp
          have hml : manyB (l.take j) (x : Int) ≤ 10000000000000 := by
            have := many_le (l.take j) (x : Int)
            rw [List.length_take] at this
            omega
          clear hno hXr
          generalize l.getD j (0, 0, 0) = q at *
          obtain ⟨q0, q1, q2⟩ := q
          dsimp only at hc0 hc1 hc2 HMN
          have HH : Hid (hitB (q0, q1, q2) (st, hh, (x : Int)) = (decide (q0 = st) && (decide (q1 = hh) || decide (q2 = (x : Int))))) := rfl
          rw [HH.out] at HYES HNO
          clear HH
          generalize manyB (l.take j) (x : Int) = mj at *
          by_cases e0 : q0 = st
          · have f0 : (q0 == st) = true := by simp [e0]
            by_cases e1 : q1 = hh
            · have f1 : (q1 == hh) = true := by simp [e1]
              have HE : Hid (bitsErr ts hn l = 7) := HYES.out (by simp [e0, e1])
              clear HYES HNO HMN e0 e1
              go_wp2
              go_quiet (fail)
              go_wp2
              go_ret2
              exact ⟨HERR.out 7 _ HE.out (by omega), below_drewJ HBR.out _⟩
            · have f1 : (q1 == hh) = false := by simp [e1]
              by_cases e2 : q2 = (x : Int)
              · have f2 : (q2 == (x : Int)) = true := by simp [e2]
                have HE : Hid (bitsErr ts hn l = 7) := HYES.out (by simp [e0, e1, e2])
                clear HYES HNO HMN e0 e1 e2
                go_wp2
                go_quiet (fail)
                go_wp2
                go_ret2
                exact ⟨HERR.out 7 _ HE.out (by omega), below_drewJ HBR.out _⟩
              · have f2 : (q2 == (x : Int)) = false := by simp [e2]
                have HE := HNO.out (by simp [e0, e1, e2])
                have HE2 : Hid (∀ i, i < j + 1 → hitB (l.getD i (0, 0, 0)) (st, hh, (x : Int)) = false) := HE
                have HM2 : Hid (((manyB (l.take (j + 1)) (x : Int) : Nat) : Int) = (mj : Int)) := by
                  show _ = _
                  rw [HMN.out]
                  simp [e2]
                clear HYES HNO HE HMN e0 e1 e2
                go_wp2
                go_quiet (fail)
                go_wp2
                go_quiet (fail)
                go_wp2
                go_roundw
                case rel => exact ⟨j + 1, by omega, by go_num, by rw [HM2.out], HE2, below_drewJ hb _⟩
                case measure => simp [intOf]; omega
          · have f0 : (q0 == st) = false := by simp [e0]
            by_cases e2 : q2 = (x : Int)
            · have f2 : (q2 == (x : Int)) = true := by simp [e2]
              have HE := HNO.out (by simp [e0, e2])
              have HE2 : Hid (∀ i, i < j + 1 → hitB (l.getD i (0, 0, 0)) (st, hh, (x : Int)) = false) := HE
              have HM2 : Hid (((manyB (l.take (j + 1)) (x : Int) : Nat) : Int) = (mj : Int) + 1) := by
                show _ = _
                rw [HMN.out]
                simp [e2]
              clear HYES HNO HE HMN e0 e2
              go_wp2
              go_quiet (fail)
              go_wp2
              go_quiet (fail)
              go_wp2
              go_roundw
              case rel => exact ⟨j + 1, by omega, by go_num, by rw [HM2.out], HE2, below_drewJ hb _⟩
              case measure => simp [intOf]; omega
            · have f2 : (q2 == (x : Int)) = false := by simp [e2]
              have HE := HNO.out (by simp [e0, e2])
              have HE2 : Hid (∀ i, i < j + 1 → hitB (l.getD i (0, 0, 0)) (st, hh, (x : Int)) = false) := HE
              have HM2 : Hid (((manyB (l.take (j + 1)) (x : Int) : Nat) : Int) = (mj : Int)) := by
                show _ = _
                rw [HMN.out]
                simp [e2]
              clear HYES HNO HE HMN e0 e2
              go_wp2
              go_quiet (fail)
              go_wp2
              go_quiet (fail)
              go_wp2
              go_roundw
              case rel => exact ⟨j + 1, by omega, by go_num, by rw [HM2.out], HE2, below_drewJ hb _⟩
              case measure => simp [intOf]; omega
        · obtain rfl : j = k := by omega
          have hpx : wr.cell? ⟨b, o + x * 2, none⟩ = some (.int .i64 (wkOf ts x)) := plan_workJ (HP.out _ HBR.out) hxl (y := wkOf ts x) rfl
          have hany : ¬ (l.take j).any (fun a => hitB a (st, hh, (x : Int))) = true := fun h => by
            obtain ⟨q, hq, h2⟩ := List.any_eq_true.1 h
            rw [List.mem_take_iff_getElem] at hq
            obtain ⟨i, hi, rfl⟩ := hq
            have := hno.out i (by omega)
            rw [List.getD_eq_getElem?_getD, List.getElem?_eq_getElem (by omega)] at this
            rw [show l[i] = (some l[i]).getD (0, 0, 0) by rfl, this] at h2
            cases h2
          rw [if_neg hany] at HBY
          have HXY : Hid (wkOf ts x ≤ manyB (l.take j) (x : Int) → bitsErr ts hn l = 4) := fun h => HBAD.out 4 (by rw [HBY.out, if_pos h]) (by omega)
          have HXN : Hid (¬ wkOf ts x ≤ manyB (l.take j) (x : Int) → firstErr (bitErr ts hn) [] (l.take (j + 1)) = 0) := fun h => HGOOD.out (by rw [HBY.out, if_neg h])
          clear hno hXr hany
          generalize manyB (l.take j) (x : Int) = mj at *
          generalize wkOf ts x = y at *
          by_cases hy : y ≤ (mj : Int)
          · have HE : Hid (bitsErr ts hn l = 4) := HXY.out hy
            go_wp2
            go_ret2
            exact ⟨HERR.out 4 _ HE.out (by omega), HBR.out⟩
          · have HF : Hid (firstErr (bitErr ts hn) [] (l.take (j + 1)) = 0) := HXN.out hy
            go_wp2
            go_roundw
            case rel => exact ⟨j + 1, by omega, by go_num, HF, HBR.out⟩
            case measure => simp [intOf]; omega
    · have hkk : l.take k = l := List.take_of_length_le (by omega)
      rw [hkk] at hno
      have HF0 : Hid (firstErr (bitErr ts hn) [] l = 0) := hno
      have HOB : Hid (∀ b, b ∈ l → 0 ≤ b.1 ∧ b.1 ≤ 10000 ∧ 0 ≤ b.2.1 ∧ b.2.1 < (hn : Int) ∧ 0 ≤ b.2.2 ∧ b.2.2 < (ts.length : Int)) := fun b hb => outB_false.1 (bfirst_in hno.out b hb)
      have HB : Hid (Below w.heap.size w wr) := hb
      have HM0 : Hid (BMem wr.heap.size ts.length wr ((wr.alloc (.cells (madeCells #[.int .i64 0] ts.length) 3)).alloc (.cells (madeCells #[.int .i64 0] ts.length) 3)) (fun x => lastB (l.take 0) (x : Int)) (fun x => (manyB (l.take 0) (x : Int) : Nat))) := BMem.start wr ts.length
      have hmk := fun wx => run_make_row' (P := Tryd.prog) 27 3 (.int .i64 0) 8 Tryd.underlying27 Tryd.info3 rfl .i64 .i64 ts.length (by omega) (by omega) wx
      clear hno hkk hb
      go_wp2
      clear hmk
      obtain ⟨W0, hW0⟩ : ∃ W0, W0 = wr := ⟨_, rfl⟩
      obtain ⟨L, hL⟩ : ∃ L, L = wr.heap.size := ⟨_, rfl⟩
      rw [← hL] at HM0 ⊢
      have HLZ : Hid (L = W0.heap.size) := by rw [hW0]; exact hL
      rw [← hW0] at HB HM0 ⊢
      clear hW0 hL
      generalize (W0.alloc (.cells (madeCells #[.int .i64 0] ts.length) 3)).alloc (.cells (madeCells #[.int .i64 0] ts.length) 3) = W1 at *
      have HLN : Hid (w.heap.size ≤ L) := by have h1 := HB.out.size; have h2 := HLZ.out; show _ ≤ _; omega
      have HBB : Hid (∀ wx, Below L W0 wx → Below w.heap.size w wx) := fun wx h => HB.out.trans (h.mono HLN.out)
      go_loopw [14] (fun s14 wr => ∃ k : Nat, k ≤ l.length ∧ s14 = .int .i64 k ∧ Hid (BMem L ts.length W0 wr (fun x => lastB (l.take k) (x : Int)) (fun x => (manyB (l.take k) (x : Int) : Nat)))) (fun s14 _ => l.length - (intOf s14).toNat)
      case atStart => exact ⟨0, Nat.zero_le _, rfl, HM0⟩
      case round =>
        clear HM0
        obtain ⟨k, hk, rfl, hM⟩ := hrel
        by_cases hkl : k < l.length
        · have HBR : Hid (Below w.heap.size w wr) := HBB.out _ hM.out.below
          obtain ⟨lb, lo, rfl, hlbl⟩ := bit_at (HL.out _ HB.out) hkl
          obtain ⟨hb0, hb1, hb2⟩ := bit_cells (HL.out _ HBR.out) hkl
          have hor := HOB.out _ (bgetD_in hkl)
          have HMN : Hid (∀ y : Nat, ((manyB (l.take (k + 1)) (y : Int) : Nat) : Int) = (manyB (l.take k) (y : Int) : Nat) + if (l.getD k (0, 0, 0)).2.2 = (y : Int) then 1 else 0) := fun y => by
            rw [many_next hkl]
            split <;> simp
          have HLS : Hid (∀ y : Nat, lastB (l.take (k + 1)) (y : Int) = if (l.getD k (0, 0, 0)).2.2 = (y : Int) ∧ lastB (l.take k) (y : Int) < (l.getD k (0, 0, 0)).1 then (l.getD k (0, 0, 0)).1 else lastB (l.take k) (y : Int)) := fun y => last_next hkl _
          generalize l.getD k (0, 0, 0) = q at *
          obtain ⟨st, hh, tk⟩ := q
          dsimp only at hb0 hb1 hb2 hor HMN HLS
          obtain ⟨x, rfl⟩ := Int.eq_ofNat_of_zero_le hor.2.2.2.2.1
          have hxl : x < ts.length := by omega
          have hml : manyB (l.take k) (x : Int) ≤ 10000000000000 := by
            have := many_le (l.take k) (x : Int)
            rw [List.length_take] at this
            omega
          have hcm := hM.out.many.cell hxl
          unfold intRow at hcm
          dsimp only at hcm
          have hfm := hM.out.many.frozen x
          have hgm := hM.out.many.lt
          have hM1 := hM.out.setM x (((manyB (l.take k) (x : Int) : Nat) : Int) + 1)
          have hcl := hM.out.last.cell hxl
          unfold intRow at hcl
          dsimp only at hcl
          have hfl := hM.out.last.frozen x
          have hlL : lb < L := by have h1 := HLZ.out; omega
          have HM1 : Hid (BMem L ts.length W0 (wr.setCell ⟨L + 1, x, none⟩ (.int .i64 (((manyB (l.take k) (x : Int) : Nat) : Int) + 1))) (fun x => lastB (l.take k) (x : Int)) (upd (fun x => (manyB (l.take k) (x : Int) : Nat)) x (((manyB (l.take k) (x : Int) : Nat) : Int) + 1))) := hM1
          have HGX : Hid (∀ y : Nat, upd (fun x : Nat => ((manyB (l.take k) (x : Int) : Nat) : Int)) x (((manyB (l.take k) (x : Int) : Nat) : Int) + 1) y = (manyB (l.take (k + 1)) (y : Int) : Nat)) := fun y => by
            rw [HMN.out y]
            by_cases e : y = x
            · subst e; rw [upd_at, if_pos rfl]
            · rw [upd_ne _ _ e, if_neg (by omega)]; simp
          clear hM1 hM HMN
          generalize hmk : manyB (l.take k) (x : Int) = mk at *
          clear hmk
          generalize hlx : lastB (l.take k) (x : Int) = lx at *
          have HLX : Hid (lastB (l.take k) (x : Int) = lx) := hlx
          clear hlx
          by_cases hgt : lx < st
          · have HMN2 : Hid (∀ q, BMem L ts.length W0 (((wr.setCell ⟨L + 1, x, none⟩ (.int .i64 ((mk : Int) + 1))).drewN q).setCell ⟨L, x, none⟩ (.int .i64 st)) (fun x => lastB (l.take (k + 1)) (x : Int)) (fun x => (manyB (l.take (k + 1)) (x : Int) : Nat))) := fun q => ((HM1.out.drewN q).setL x st).congr (fun y _ => by
              rw [HLS.out y]
              by_cases e : y = x
              · subst e; rw [upd_at, if_pos ⟨rfl, by rw [HLX.out]; exact hgt⟩]
              · rw [upd_ne _ _ e, if_neg (fun h => e (by omega))]) (fun y _ => HGX.out y)
            clear HM1 HLS HGX
            go_wp2
            go_quiet (fail)
            go_wp2
            go_roundw
            case rel => exact ⟨k + 1, by omega, by go_num, HMN2.out _⟩
            case measure => simp [intOf]; omega
          · have HMN2 : Hid (∀ q, BMem L ts.length W0 ((wr.setCell ⟨L + 1, x, none⟩ (.int .i64 ((mk : Int) + 1))).drewN q) (fun x => lastB (l.take (k + 1)) (x : Int)) (fun x => (manyB (l.take (k + 1)) (x : Int) : Nat))) := fun q => (HM1.out.drewN q).congr (fun y _ => by
              rw [HLS.out y, if_neg]
              rintro ⟨h1, h2⟩
              have : x = y := by omega
              subst this
              rw [HLX.out] at h2
              exact hgt h2) (fun y _ => HGX.out y)
            clear HM1 HLS HGX
            go_wp2
            go_quiet (fail)
            go_wp2
            go_roundw
            case rel => exact ⟨k + 1, by omega, by go_num, HMN2.out _⟩
            case measure => simp [intOf]; omega
        · have hkk : l.take k = l := List.take_of_length_le (by omega)
          rw [hkk] at hM
          obtain ⟨W2, HW2⟩ : ∃ W2, W2 = wr := ⟨_, rfl⟩
          have HM : Hid (BMem L ts.length W0 W2 (fun x => lastB l (x : Int)) (fun x => (manyB l (x : Int) : Nat))) := by rw [HW2]; exact hM
          rw [← HW2]
          clear HW2 hM hkk
          go_wp2
          go_loopw [16] (fun s16 wr => ∃ k : Nat, k ≤ ts.length ∧ s16 = .int .i64 k ∧ Hid (∀ x, x < k → wkOf ts x ≤ (manyB l (x : Int) : Int)) ∧ Below W2.heap.size W2 wr) (fun s16 _ => ts.length - (intOf s16).toNat)
          case atStart => exact ⟨0, Nat.zero_le _, rfl, fun i hi => by omega, Below.refl _ _⟩
          case round =>
            obtain ⟨k, hk, rfl, hno, hb⟩ := hrel
            have HMR : Hid (BMem L ts.length W0 wr (fun x => lastB l (x : Int)) (fun x => (manyB l (x : Int) : Nat))) := HM.out.later hb
            have HBR : Hid (Below w.heap.size w wr) := HBB.out _ HMR.out.below
            by_cases hkl : k < ts.length
            · obtain ⟨b, o, rfl⟩ := plan_atJ (HP.out _ HBR.out) hkl
              have hpx : wr.cell? ⟨b, o + k * 2, none⟩ = some (.int .i64 (wkOf ts k)) := plan_workJ (HP.out _ HBR.out) hkl (y := wkOf ts k) rfl
              have hcm := HMR.out.many.cell hkl
              unfold intRow at hcm
              dsimp only at hcm
              have HYES : Hid ((manyB l (k : Int) : Int) < wkOf ts k → bitsErr ts hn l = 5) := fun h => by
                unfold bitsErr
                rw [if_pos HF0.out, lackB_at hkl h]; rfl
              have HNO : Hid (wkOf ts k ≤ (manyB l (k : Int) : Int) → ∀ x, x < k + 1 → wkOf ts x ≤ (manyB l (x : Int) : Int)) := fun h x hx => by
                by_cases e : x = k
                · subst e; exact h
                · exact hno.out x (by omega)
              clear hno
              generalize ((manyB l (k : Int) : Nat) : Int) = mk at *
              generalize wkOf ts k = y at *
              by_cases hlt : mk < y
              · have HE : Hid (bitsErr ts hn l = 5) := HYES.out hlt
                clear HYES HNO
                go_wp2
                go_quiet (fail)
                go_wp2
                go_ret2
                exact ⟨HERR.out 5 _ HE.out (by omega), below_drewJ HBR.out _⟩
              · have HE := HNO.out (by omega)
                have HE2 : Hid (∀ x, x < k + 1 → wkOf ts x ≤ (manyB l (x : Int) : Int)) := HE
                clear HYES HNO HE
                go_wp2
                go_quiet (fail)
                go_wp2
                go_roundw
                case rel => exact ⟨k + 1, by omega, by go_num, HE2, below_drewJ hb _⟩
                case measure => simp [intOf]; omega
            · have HLK : Hid (lackB ts l = false) := lackB_none (fun x hx => hno.out x (by omega))
              have HST : Hid (∀ r, earlyB ts l = r → bitsErr ts hn l = if r = true then 6 else 0) := fun r hr => by
                unfold bitsErr
                rw [if_pos HF0.out, HLK.out, hr]; rfl
              obtain ⟨W3, HW3⟩ : ∃ W3, W3 = wr := ⟨_, rfl⟩
              have HM3 : Hid (BMem L ts.length W0 W3 (fun x => lastB l (x : Int)) (fun x => (manyB l (x : Int) : Nat))) := by rw [HW3]; exact HMR
              rw [← HW3]
              clear HW3 hno HMR HBR hb
              go_wp2
              go_loopw [17] (fun s17 wr => ∃ k : Nat, k ≤ l.length ∧ s17 = .int .i64 k ∧ Hid (∀ i, i < k → earlyOne ts l (l.getD i (0, 0, 0)) = false) ∧ Below W3.heap.size W3 wr) (fun s17 _ => l.length - (intOf s17).toNat)
              case atStart => exact ⟨0, Nat.zero_le _, rfl, fun i hi => by omega, Below.refl _ _⟩
              case round =>
                obtain ⟨k, hk, rfl, hno, hb⟩ := hrel
                by_cases hkl : k < l.length
                · have HBR : Hid (Below w.heap.size w wr) := HBB.out _ (HM3.out.later hb).below
                  obtain ⟨lb, lo, rfl, hlbl⟩ := bit_at (HL.out _ HB.out) hkl
                  obtain ⟨hb0, hb1, hb2⟩ := bit_cells (HL.out _ HBR.out) hkl
                  have hor := HOB.out _ (bgetD_in hkl)
                  have HYES : Hid (earlyOne ts l (l.getD k (0, 0, 0)) = true → bitsErr ts hn l = 6) := fun h => by
                    rw [HST.out true (List.any_eq_true.2 ⟨_, bgetD_in hkl, h⟩)]; rfl
                  have HNO : Hid (earlyOne ts l (l.getD k (0, 0, 0)) = false → ∀ i, i < k + 1 → earlyOne ts l (l.getD i (0, 0, 0)) = false) := fun h i hi => by
                    by_cases e : i = k
                    · subst e; exact h
                    · exact hno.out i (by omega)
                  clear hno
                  generalize l.getD k (0, 0, 0) = q at *
                  obtain ⟨st, hh, tk⟩ := q
                  dsimp only at hb0 hb1 hb2 hor
                  obtain ⟨x, rfl⟩ := Int.eq_ofNat_of_zero_le hor.2.2.2.2.1
                  have hxl : x < ts.length := by omega
                  obtain ⟨b, o, rfl⟩ := plan_atJ (HP.out _ HBR.out) hxl
                  obtain ⟨a2, c2, hnc, hin⟩ := plan_needsJ (HP.out _ HBR.out) hxl
                  have HIN : Hid (∀ wx, Below wr.heap.size wr wx → IntsAt wx (.slice a2 (needsOf ts x).length c2) (needsOf ts x)) := fun wx hx => hin.later hx
                  have HEO : Hid (earlyOne ts l (st, hh, (x : Int)) = (needsOf ts x).any (fun y => decide (st ≤ lastB l y))) := by
                    show _ = _
                    unfold earlyOne
                    dsimp only
                    rw [Int.toNat_natCast]
                  rw [HEO.out] at HYES HNO
                  have HRX : Hid (∀ y, y ∈ needsOf ts x → 0 ≤ y ∧ y < (ts.length : Int)) := HR.out x hxl
                  have hnl8 := hin.1
                  obtain ⟨W4, HW4⟩ : ∃ W4, W4 = wr := ⟨_, rfl⟩
                  have HB4 : Hid (Below W3.heap.size W3 W4) := by rw [HW4]; exact hb
                  rw [← HW4] at HIN hb0 hb1 hb2 hnc ⊢
                  clear HW4 hb HBR HEO hin
                  go_wp2
                  go_loopw [19] (fun s19 wr => ∃ j : Nat, j ≤ (needsOf ts x).length ∧ s19 = .int .i64 j ∧ Hid (∀ i, i < j → decide (st ≤ lastB l ((needsOf ts x).getD i 0)) = false) ∧ Below W4.heap.size W4 wr) (fun s19 _ => (needsOf ts x).length - (intOf s19).toNat)
                  case atStart => exact ⟨0, Nat.zero_le _, rfl, fun i hi => by omega, Below.refl _ _⟩
                  case round =>
                    obtain ⟨j, hj, rfl, hnj, hb⟩ := hrel
                    have HBE : Hid (Below W3.heap.size W3 wr) := HB4.out.trans (hb.mono HB4.out.size)
                    have HMR : Hid (BMem L ts.length W0 wr (fun x => lastB l (x : Int)) (fun x => (manyB l (x : Int) : Nat))) := HM3.out.later HBE.out
                    have HBR : Hid (Below w.heap.size w wr) := HBB.out _ HMR.out.below
                    by_cases hjl : j < (needsOf ts x).length
                    · obtain ⟨nb, no, rfl, hnbl, hnj2⟩ := ints_cell (HIN.out _ hb) hjl
                      have hd0 := (hb.cell (p := ⟨lb, lo + k * 3, none⟩) (by show lb < _; have h1 := HLZ.out; have h2 := HM3.out.last.lt; have h3 := HB4.out.size; omega)).trans hb0
                      have hyr := HRX.out _ (zgetD_in hjl)
                      have HY : Hid (decide (st ≤ lastB l ((needsOf ts x).getD j 0)) = true → bitsErr ts hn l = 6) := fun h => HYES.out (List.any_eq_true.2 ⟨_, zgetD_in hjl, h⟩)
                      have HN : Hid (decide (st ≤ lastB l ((needsOf ts x).getD j 0)) = false → ∀ i, i < j + 1 → decide (st ≤ lastB l ((needsOf ts x).getD i 0)) = false) := fun h i hi => by
                        by_cases e : i = j
                        · subst e; exact h
                        · exact hnj.out i (by omega)
                      clear hnj
                      generalize (needsOf ts x).getD j 0 = yv at *
                      obtain ⟨yn, rfl⟩ := Int.eq_ofNat_of_zero_le hyr.1
                      have hyl : yn < ts.length := by omega
                      have hcl := HMR.out.last.cell hyl
                      unfold intRow at hcl
                      dsimp only at hcl
                      have hLl := HMR.out.last.lt
                      generalize lastB l (yn : Int) = ly at *
                      generalize (needsOf ts x).length = nl at *
                      by_cases hle : st ≤ ly
                      · have HE : Hid (bitsErr ts hn l = 6) := HY.out (by simp [hle])
                        clear HY HN HYES HNO
                        go_wp2
                        go_quiet (fail)
                        go_wp2
                        go_ret2
                        exact ⟨HERR.out 6 _ HE.out (by omega), below_drewJ HBR.out _⟩
                      · have HE := HN.out (by simp [hle])
                        have HE2 : Hid (∀ i, i < j + 1 → decide (st ≤ lastB l ((needsOf ts x).getD i 0)) = false) := HE
                        clear HY HN HYES HNO HE
                        go_wp2
                        go_quiet (fail)
                        go_wp2
                        go_roundw
                        case rel => exact ⟨j + 1, by omega, by go_num, HE2, below_drewJ hb _⟩
                        case measure => simp [intOf]; omega
                    · have HF : Hid (∀ i, i < k + 1 → earlyOne ts l (l.getD i (0, 0, 0)) = false) := HNO.out (by
                        rw [List.any_eq_false]
                        intro y hy
                        obtain ⟨i', hi', rfl⟩ := zin_getD hy
                        have := hnj.out i' (by omega)
                        rw [this]
                        decide)
                      clear hnj HYES HNO hb
                      generalize (needsOf ts x).length = nl at *
                      go_wp2
                      go_roundw
                      case rel => exact ⟨k + 1, by omega, by go_num, HF, HBE.out⟩
                      case measure => simp [intOf]; omega
                · have HE : Hid (bitsErr ts hn l = 0) := by
                    show _ = _
                    rw [HST.out false ?_]
                    · rfl
                    · show l.any (fun b => earlyOne ts l b) = false
                      rw [List.any_eq_false]
                      intro s hs
                      obtain ⟨i, hi, rfl⟩ := bin_getD hs
                      have := hno.out i (by omega)
                      simp only [this]
                      decide
                  have HMR : Hid (BMem L ts.length W0 wr (fun x => lastB l (x : Int)) (fun x => (manyB l (x : Int) : Nat))) := HM3.out.later hb
                  have HOK : Hid (RefOut ts hn l w.heap.size (.returned (.tuple #[.slice (some ⟨L, 0, none⟩) ts.length ts.length, .int .i64 0])) wr) := Or.inr ⟨HE.out, L, HLN.out, rfl, HMR.out.last⟩
                  have hbe : Below w.heap.size w wr := HBB.out _ HMR.out.below
                  clear hno hb
                  go_wp2
                  go_ret2
                  exact ⟨HOK.out, hbe⟩
end Go.Proofs.YtkgdhfdahafaoaaDoor
