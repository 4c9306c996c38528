/- A list that is read; yardsame.Ints; the document's Cutting. -/
import Derived.Test.YtfbikjoljfnlbaaDoorD
import Derived.Maps.AppendAt
namespace Go.Proofs.YtfbikjoljfnlbaaDoor
open Go.RowKit Go.Deep

/-- A slice that reads as these numbers, in a block from C on. -/
def Rds (C : Nat) (w : World) (v : Value) (xs : List Int) : Prop :=
  ∃ a c, v = .slice a xs.length c ∧ xs.length ≤ c ∧ ∀ k, k < xs.length → ∃ b o, a = some ⟨b, o, none⟩ ∧ C ≤ b ∧ b < w.heap.size ∧ w.cell? ⟨b, o + k, none⟩ = some (.int .i64 (xs.getD k 0))
theorem Rds.mono {C C' : Nat} {w : World} {v : Value} {xs : List Int} (h : Rds C w v xs) (hc : C' ≤ C) : Rds C' w v xs := by
  obtain ⟨a, c, hv, hl, h⟩ := h
  refine ⟨a, c, hv, hl, fun k hk => ?_⟩
  obtain ⟨b, o, ha, hb, hw⟩ := h k hk
  exact ⟨b, o, ha, by omega, hw⟩
theorem Rds.of_blocks {C : Nat} {w w' : World} {v : Value} {xs : List Int} (h : Rds C w v xs) (hs : w.heap.size ≤ w'.heap.size) (hk : ∀ b, C ≤ b → b < w.heap.size → w'.heap[b]? = w.heap[b]?) : Rds C w' v xs := by
  obtain ⟨a, c, hv, hl, h⟩ := h
  refine ⟨a, c, hv, hl, fun k hk' => ?_⟩
  obtain ⟨b, o, ha, hb, hw, hc⟩ := h k hk'
  exact ⟨b, o, ha, hb, by omega, (World.cell?_of_block (hk b hb hw)).trans hc⟩
theorem Rds.kr {C R : Nat} {w w' : World} {v : Value} {xs : List Int} (h : Rds C w v xs) (hk : Kr R w w') (hR : R < C) : Rds C w' v xs := h.of_blocks hk.size (fun b hb hw => hk.block b hw (by omega))
theorem Rds.later {C : Nat} {w w' : World} {v : Value} {xs : List Int} (h : Rds C w v xs) (hb : Below w.heap.size w w') : Rds C w' v xs := h.of_blocks hb.size (fun b _ hw => hb.block b hw)
theorem Rds.nil (C : Nat) (w : World) : Rds C w (.slice none 0 0) [] := ⟨none, 0, rfl, Nat.le_refl _, fun k hk => by simp at hk⟩
theorem RowZ.rds {C B : Nat} {w : World} {v : Value} {xs : List Int} (h : RowZ B w v xs) (hC : C ≤ B) : Rds C w v xs := by
  obtain ⟨b, c, hv, hcap, hb, hl, hc⟩ := h
  exact ⟨_, c, hv, hcap, fun k hk => ⟨b, 0, rfl, by omega, hl, by rw [Nat.zero_add]; exact hc k hk⟩⟩
theorem owns_rds {C B n : Nat} {w : World} {v : Value} {xs : List Int} (h : w.ownsRow B 3 1 v n (xs.map (Value.int .i64))) (hC : C ≤ B) : Rds C w v xs := by
  have hl : xs.length = n := by simpa using h.1
  subst hl
  rcases h.2 with ⟨rfl, h0⟩ | ⟨g, cap, cur, rfl, hb, hh, hcap, _⟩
  · exact ⟨none, 0, by rw [h0], by omega, fun k hk => by omega⟩
  · refine ⟨_, cap, rfl, hcap, fun k hk => ⟨g, 0, rfl, by omega, ?_, ?_⟩⟩
    · rcases Nat.lt_or_ge g w.heap.size with h1 | h1
      · exact h1
      · rw [Array.getElem?_eq_none h1] at hh; cases hh
    · rw [Nat.zero_add, World.ownsRow.cellAt h k (by omega)]
      simp [hk]
/-- The last one is cut off. -/
theorem Rds.init {C : Nat} {w : World} {a : Option Addr} {c : Nat} {x : Int} {xs : List Int} (h : Rds C w (.slice a (xs.length + 1) c) (xs ++ [x])) : Rds C w (.slice a xs.length c) xs := by
  obtain ⟨a', c', hv, hl, h⟩ := h
  simp only [Value.slice.injEq] at hv
  obtain ⟨rfl, _, rfl⟩ := hv
  simp only [List.length_append, List.length_singleton] at hl h
  refine ⟨a, c, rfl, by omega, fun k hk => ?_⟩
  obtain ⟨b, o, ha, hb, hw, hc⟩ := h k (by omega)
  exact ⟨b, o, ha, hb, hw, by rw [hc, getD_snoc_lt _ _ hk]⟩
/-- The first one is cut off. -/
theorem Rds.tail {C : Nat} {w : World} {b o : Nat} {c c' : Nat} {a' : Option Addr} {x : Int} {xs : List Int} (h : Rds C w (.slice (some ⟨b, o, none⟩) (xs.length + 1) c) (x :: xs)) (ha : xs ≠ [] → a' = some ⟨b, o + 1, none⟩) (hc' : xs.length ≤ c') : Rds C w (.slice a' xs.length c') xs := by
  obtain ⟨a2, c2, hv, hl, h⟩ := h
  simp only [Value.slice.injEq] at hv
  obtain ⟨rfl, _, rfl⟩ := hv
  refine ⟨a', c', rfl, hc', fun k hk => ?_⟩
  obtain ⟨b2, o2, ha2, hb, hw, hc⟩ := h (k + 1) (by simp; omega)
  simp only [Option.some.injEq, Addr.mk.injEq] at ha2
  obtain ⟨rfl, rfl, _⟩ := ha2
  refine ⟨b, o + 1, ha (by intro e; subst e; simp at hk), hb, hw, ?_⟩
  rw [show o + 1 + k = o + (k + 1) by omega, hc]
  simp

set_option maxHeartbeats 1000000 in
theorem ints_same (v1 v2 : Value) (xs : List Int) (w : World) (h1 : Rds 0 w v1 xs) (h2 : Rds 0 w v2 xs) (hx : xs.length ≤ 100) :
    Calls Tryd.prog 10 #[v1, v2] w fun e w' => e = .returned (.bool true) ∧ ∃ q, w' = w.drewN q := by
  obtain ⟨a1, c1, rfl, hl1, h1⟩ := h1
  obtain ⟨a2, c2, rfl, hl2, h2⟩ := h2
  have H1 : Hid (∀ k, k < xs.length → ∃ b o, a1 = some ⟨b, o, none⟩ ∧ 0 ≤ b ∧ b < w.heap.size ∧ w.cell? ⟨b, o + k, none⟩ = some (.int .i64 (xs.getD k 0))) := h1
  have H2 : Hid (∀ k, k < xs.length → ∃ b o, a2 = some ⟨b, o, none⟩ ∧ 0 ≤ b ∧ b < w.heap.size ∧ w.cell? ⟨b, o + k, none⟩ = some (.int .i64 (xs.getD k 0))) := h2
  have hne : ((xs.length : Int) != (xs.length : Int)) = false := by simp
  clear h1 h2 hl1 hl2
  go_enter Tryd.func10, Tryd.ntmps10
  go_wp2
  go_loopw [5] (fun i wr => ∃ k n : Nat, k ≤ xs.length ∧ i = .int .i64 k ∧ wr = w.drewN n) (fun i _ => xs.length - (intOf i).toNat)
  case atStart => exact ⟨0, 0, Nat.zero_le _, rfl, rfl⟩
  case round =>
    obtain ⟨k, n, hk, rfl, rfl⟩ := hrel
    by_cases hkl : k < xs.length
    · obtain ⟨b1, o1, rfl, _, _, hc1⟩ := H1.out k hkl
      obtain ⟨b2, o2, rfl, _, _, hc2⟩ := H2.out k hkl
      generalize xs.getD k 0 = x at *
      have he : (x != x) = false := by simp
      go_wp2
      go_quiet (fail)
      go_wp2
      go_roundw
      case rel => exact ⟨k + 1, _, by omega, by go_num, rfl⟩
      case measure => simp [intOf]; omega
    · go_wp2
      go_ret
      exact ⟨rfl, n, rfl⟩

/-- Two rows that share no block. -/
def Apart (va vb : Value) : Prop := ∀ k, va.ownBlock = some k → vb.ownBlock = some k → False
theorem two_grow {B : Nat} {w1 w2 : World} {va vb v' : Value} {nb : Nat} {xb : List Value} (hb : w1.ownsRow B 3 1 vb nb xb) (hap : Apart va vb) (hg : w1.grownBy w2 va.ownBlock) (hat : v'.ownBlock = va.ownBlock ∨ v'.ownBlock = some w1.heap.size) : w2.ownsRow B 3 1 vb nb xb ∧ Apart v' vb := by
  refine ⟨hb.kept hg ?_, fun k h1 h2 => ?_⟩
  · cases h : vb.ownBlock with
    | none => exact Or.inl rfl
    | some k => exact Or.inr (fun e => hap k e.symm h)
  · rcases hat with h | h
    · exact hap k (h.symm.trans h1) h2
    · have := (hb.lt k h2).2
      rw [h] at h1
      simp only [Option.some.injEq] at h1
      omega
theorem Apart.symm {va vb : Value} (h : Apart va vb) : Apart vb va := fun k h1 h2 => h k h2 h1

/-- What Cutting's loop has come to: two rows of their own. -/
structure CutM (n k : Nat) (xs la lb : List Int) (w wr : World) (va vb : Value) : Prop where
  ea : la = xs.take (min k n)
  eb : lb = (xs.take k).drop n
  a : wr.ownsRow w.heap.size 3 1 va la.length (la.map (Value.int .i64))
  b : wr.ownsRow w.heap.size 3 1 vb lb.length (lb.map (Value.int .i64))
  ap : Apart va vb
  below : Below w.heap.size w wr

theorem take_one (xs : List Int) {k : Nat} (h : k < xs.length) : xs.take (k + 1) = xs.take k ++ [xs.getD k 0] := by
  rw [List.take_succ_eq_append_getElem h, List.getD_eq_getElem?_getD, List.getElem?_eq_getElem h]; rfl
theorem owned_shape {w : World} {B e size n : Nat} {v : Value} {xs : List Value} (h : w.ownsRow B e size v n xs) : ∃ a c, v = .slice a n c := by
  rcases h.2 with ⟨rfl, h0⟩ | ⟨g, cap, cur, rfl, _⟩
  · exact ⟨none, 0, by rw [h0]⟩
  · exact ⟨_, _, rfl⟩

set_option maxRecDepth 100000 in
set_option maxHeartbeats 2000000 in
theorem cutting_any (v : Value) (xs : List Int) (n : Nat) (w : World) (h : Rds 0 w v xs) (hx : xs.length ≤ 100) :
    Calls Tryd.prog 8 #[v, .int .i64 n] w fun e w' => ∃ va vb, e = .returned (.tuple #[va, vb]) ∧ Rds w.heap.size w' va (xs.take n) ∧ Rds w.heap.size w' vb (xs.drop n) ∧ Below w.heap.size w w' := by
  obtain ⟨a1, c1, rfl, hl1, h⟩ := h
  have H : Hid (∀ k, k < xs.length → ∃ b o, a1 = some ⟨b, o, none⟩ ∧ 0 ≤ b ∧ b < w.heap.size ∧ w.cell? ⟨b, o + k, none⟩ = some (.int .i64 (xs.getD k 0))) := h
  obtain ⟨i3, hi3, hy0, hy1, hy2⟩ := info_parts Tryd.info3
  clear h hl1
  go_enter Tryd.func8, Tryd.ntmps8
  go_wp2
  go_loopw [6, 7, 8] (fun va vb s8 wr => ∃ (k : Nat) (la lb : List Int), k ≤ xs.length ∧ s8 = .int .i64 k ∧ Hid (CutM n k xs la lb w wr va vb)) (fun _ _ s8 _ => xs.length - (intOf s8).toNat)
  case atStart => exact ⟨0, [], [], Nat.zero_le _, rfl, ⟨by simp, by simp, World.ownsRow_nil _ _ _ _, World.ownsRow_nil _ _ _ _, fun k h => by simp [Value.ownBlock] at h, Below.refl _ _⟩⟩
  case round =>
    obtain ⟨k, la, lb, hk, rfl, hM⟩ := hrel
    obtain ⟨aa, ac, rfl⟩ := owned_shape hM.out.a
    obtain ⟨ba, bc, rfl⟩ := owned_shape hM.out.b
    have hla : la.length ≤ 100 := by rw [hM.out.ea]; simp; omega
    have hlb : lb.length ≤ 100 := by rw [hM.out.eb]; simp; omega
    by_cases hkl : k < xs.length
    · obtain ⟨b1, o1, rfl, _, hb1, hc1⟩ := H.out k hkl
      have hc2 := (hM.out.below.cell (p := ⟨b1, o1 + k, none⟩) hb1).trans hc1
      have hT := take_one xs hkl
      have HT : Hid (xs.take (k + 1) = xs.take k ++ [xs.getD k 0]) := hT
      clear hc1 hT
      generalize xs.getD k 0 = x at *
      have hsz := hM.out.below.size
      by_cases hkn : k < n
      · have hkn' : (k : Int) < (n : Int) := by omega
        have hoa := hM.out.a.alloc (.cells #[.int .i64 x] 3)
        go_wp2_with (first | (at_builtin; refine wpList_append_own_at _ rfl (.tmp 18) (.tmp 23) 22 rfl w.heap.size 3 i3 (.int .i64 0) 1 8 Tryd.underlying22 hi3 hy0 hy1 hy2 rfl (by decide) _ _ _ rfl hoa ⟨wr.heap.size, 0, none⟩ 1 1 [.int .i64 x] rfl rfl (cell_one_new wr (.int .i64 x) 3) ?c2 ?c3 ?c4 ?c5 ?_))
        case c2 => first | rfl | (intro u hu; simp at hu; subst hu; rfl)
        case c3 => unfold maxLen; omega
        case c4 => omega
        case c5 => first | omega | (simp; omega)
        intro v2 w2 hown2 hgr2 _ hat2
        obtain ⟨hb2, hap2⟩ := two_grow (hM.out.b.alloc (.cells #[.int .i64 x] 3)) hM.out.ap hgr2 (by simpa using hat2)
        have hM2 : Hid (CutM n (k + 1) xs (la ++ [x]) lb w w2 v2 (.slice ba lb.length bc)) := by
          refine ⟨?_, ?_, by simpa using hown2, hb2, hap2, (hM.out.below.alloc hsz _).grown hgr2 (by simp; omega) (fun j e => (hM.out.a.lt j e).1)⟩
          · rw [show min (k + 1) n = k + 1 by omega, HT.out, hM.out.ea, show min k n = k by omega]
          · rw [hM.out.eb, List.drop_eq_nil_of_le (by simp; omega), List.drop_eq_nil_of_le (by simp; omega)]
        clear hM hown2 hgr2 hat2 hb2 hap2 hoa
        go_wp2
        go_roundw
        case rel => exact ⟨k + 1, _, _, by omega, by go_num, hM2⟩
        case measure => simp [intOf]; omega
      · have hkn' : ¬ (k : Int) < (n : Int) := by omega
        have hob := hM.out.b.alloc (.cells #[.int .i64 x] 3)
        go_wp2_with (first | (at_builtin; refine wpList_append_own_at _ rfl (.tmp 25) (.tmp 30) 22 rfl w.heap.size 3 i3 (.int .i64 0) 1 8 Tryd.underlying22 hi3 hy0 hy1 hy2 rfl (by decide) _ _ _ rfl hob ⟨wr.heap.size, 0, none⟩ 1 1 [.int .i64 x] rfl rfl (cell_one_new wr (.int .i64 x) 3) ?c2 ?c3 ?c4 ?c5 ?_))
        case c2 => first | rfl | (intro u hu; simp at hu; subst hu; rfl)
        case c3 => unfold maxLen; omega
        case c4 => omega
        case c5 => first | omega | (simp; omega)
        intro v2 w2 hown2 hgr2 _ hat2
        obtain ⟨ha2, hap2⟩ := two_grow (hM.out.a.alloc (.cells #[.int .i64 x] 3)) hM.out.ap.symm hgr2 (by simpa using hat2)
        have hM2 : Hid (CutM n (k + 1) xs la (lb ++ [x]) w w2 (.slice aa la.length ac) v2) := by
          refine ⟨?_, ?_, ha2, by simpa using hown2, hap2.symm, (hM.out.below.alloc hsz _).grown hgr2 (by simp; omega) (fun j e => (hM.out.b.lt j e).1)⟩
          · rw [show min (k + 1) n = min k n by omega]
            exact hM.out.ea
          · rw [HT.out, List.drop_append_of_le_length (by simp; omega), hM.out.eb]
        clear hM hown2 hgr2 hat2 ha2 hap2 hob
        go_wp2
        go_roundw
        case rel => exact ⟨k + 1, _, _, by omega, by go_num, hM2⟩
        case measure => simp [intOf]; omega
    · have hke : k = xs.length := by omega
      have hkl' : ¬ (k : Int) < (xs.length : Int) := by omega
      have HA : Hid (Rds w.heap.size wr (.slice aa la.length ac) (xs.take n)) := by
        have := owns_rds hM.out.a (Nat.le_refl _)
        have e := hM.out.ea
        rw [show xs.take (min k n) = xs.take n from by rw [hke, Nat.min_comm, ← List.take_eq_take_min]] at e
        rwa [e] at this ⊢
      have HBB : Hid (Rds w.heap.size wr (.slice ba lb.length bc) (xs.drop n)) := by
        have := owns_rds hM.out.b (Nat.le_refl _)
        have e := hM.out.eb
        rw [hke, List.take_length] at e
        rwa [e] at this ⊢
      have HL : Hid (Below w.heap.size w wr) := hM.out.below
      clear hM
      go_wp2
      go_ret2
      exact ⟨_, _, rfl, HA.out, HBB.out, HL.out⟩
end Go.Proofs.YtfbikjoljfnlbaaDoor
