/- yardsame.Ints; the document's Cutting, In. -/
import Derived.Test.YtajpkchcfphehaaDoorD
namespace Go.Proofs.YtajpkchcfphehaaDoor
open Go.RowKit Go.Deep

set_option maxHeartbeats 1000000 in
theorem ints_same (A1 A2 : Nat → Prop) (v1 v2 : Value) (xs : List Int) (w : World) (h1 : Rds A1 w v1 xs) (h2 : Rds A2 w v2 xs) (hx : xs.length ≤ 100) :
    Calls Tryd.prog 8 #[v1, v2] w fun e w' => e = .returned (.bool true) ∧ ∃ q, w' = w.drewN q := by
  obtain ⟨a1, c1, rfl, hl1, h1⟩ := h1
  obtain ⟨a2, c2, rfl, hl2, h2⟩ := h2
  have H1 : Hid (∀ k, k < xs.length → ∃ b o, a1 = some ⟨b, o, none⟩ ∧ A1 b ∧ b < w.heap.size ∧ w.cell? ⟨b, o + k, none⟩ = some (.int .i64 (xs.getD k 0))) := h1
  have H2 : Hid (∀ k, k < xs.length → ∃ b o, a2 = some ⟨b, o, none⟩ ∧ A2 b ∧ b < w.heap.size ∧ w.cell? ⟨b, o + k, none⟩ = some (.int .i64 (xs.getD k 0))) := h2
  have hne : ((xs.length : Int) != (xs.length : Int)) = false := by simp
  clear h1 h2 hl1 hl2
  go_enter Tryd.func8, Tryd.ntmps8
  go_wp2
  go_loopw [5] (fun i wr => ∃ k n : Nat, k ≤ xs.length ∧ i = .int .i64 k ∧ wr = w.drewN n) (fun i _ => xs.length - (intOf i).toNat)
  case atStart => exact ⟨0, 0, Nat.zero_le _, rfl, rfl⟩
  case round =>
    obtain ⟨k, n, hk, rfl, rfl⟩ := hrel
    by_cases hkl : k < xs.length
    · obtain ⟨b1, o1, rfl, _, _, hc1⟩ := H1.out k hkl
      obtain ⟨b2, o2, rfl, _, _, hc2⟩ := H2.out k hkl
      generalize xs.getD k 0 = x at *
      have he : (x != x) = false := by simp
      go_wp2
      go_quiet (fail)
      go_wp2
      go_roundw
      case rel => exact ⟨k + 1, _, by omega, by go_num, rfl⟩
      case measure => simp [intOf]; omega
    · go_wp2
      go_ret
      exact ⟨rfl, n, rfl⟩

/-- Two rows that share no block. -/
def Apart (va vb : Value) : Prop := ∀ k, va.ownBlock = some k → vb.ownBlock = some k → False
theorem Apart.symm {va vb : Value} (h : Apart va vb) : Apart vb va := fun k h1 h2 => h k h2 h1
theorem two_grow {B : Nat} {w1 w2 : World} {va vb v' : Value} {nb : Nat} {xb : List Value} (hb : w1.ownsRow B 3 1 vb nb xb) (hap : Apart va vb) (hg : w1.grownBy w2 va.ownBlock) (hat : v'.ownBlock = va.ownBlock ∨ v'.ownBlock = some w1.heap.size) : w2.ownsRow B 3 1 vb nb xb ∧ Apart v' vb := by
  refine ⟨hb.kept hg ?_, fun k h1 h2 => ?_⟩
  · cases h : vb.ownBlock with
    | none => exact Or.inl rfl
    | some k => exact Or.inr (fun e => hap k e.symm h)
  · rcases hat with h | h
    · exact hap k (h.symm.trans h1) h2
    · have := (hb.lt k h2).2
      rw [h] at h1
      simp only [Option.some.injEq] at h1
      omega

/-- What Cutting's loop has come to: two rows of their own. -/
structure CutM (n k : Nat) (xs la lb : List Int) (w wr : World) (va vb : Value) : Prop where
  ea : la = xs.take (min k n)
  eb : lb = (xs.take k).drop n
  a : RowI w.heap.size wr va la
  b : RowI w.heap.size wr vb lb
  ap : Apart va vb
  below : Below w.heap.size w wr

theorem take_one (xs : List Int) {k : Nat} (h : k < xs.length) : xs.take (k + 1) = xs.take k ++ [xs.getD k 0] := by
  rw [List.take_succ_eq_append_getElem h, List.getD_eq_getElem?_getD, List.getElem?_eq_getElem h]; rfl
set_option maxRecDepth 100000 in
set_option maxHeartbeats 2000000 in
theorem cutting_any (A : Nat → Prop) (v : Value) (xs : List Int) (n : Nat) (w : World) (h : Rds A w v xs) (hx : xs.length ≤ 100) :
    Calls Tryd.prog 6 #[v, .int .i64 n] w fun e w' => ∃ va vb, e = .returned (.tuple #[va, vb]) ∧ RowI w.heap.size w' va (xs.take n) ∧ RowI w.heap.size w' vb (xs.drop n) ∧ Apart va vb ∧ Below w.heap.size w w' := by
  obtain ⟨a1, c1, rfl, hl1, h⟩ := h
  have H : Hid (∀ k, k < xs.length → ∃ b o, a1 = some ⟨b, o, none⟩ ∧ A b ∧ b < w.heap.size ∧ w.cell? ⟨b, o + k, none⟩ = some (.int .i64 (xs.getD k 0))) := h
  clear h hl1
  go_enter Tryd.func6, Tryd.ntmps6
  go_wp2
  go_loopw [6, 7, 8] (fun va vb s8 wr => ∃ (k : Nat) (la lb : List Int), k ≤ xs.length ∧ s8 = .int .i64 k ∧ Hid (CutM n k xs la lb w wr va vb)) (fun _ _ s8 _ => xs.length - (intOf s8).toNat)
  case atStart => exact ⟨0, [], [], Nat.zero_le _, rfl, ⟨by simp, by simp, RowI.nil _ _, RowI.nil _ _, fun k h => by simp [Value.ownBlock] at h, Below.refl _ _⟩⟩
  case round =>
    obtain ⟨k, la, lb, hk, rfl, hM⟩ := hrel
    obtain ⟨aa, ac, rfl⟩ := hM.out.a.shape
    obtain ⟨ba, bc, rfl⟩ := hM.out.b.shape
    have hla : la.length ≤ 100 := by rw [hM.out.ea]; simp; omega
    have hlb : lb.length ≤ 100 := by rw [hM.out.eb]; simp; omega
    by_cases hkl : k < xs.length
    · obtain ⟨b1, o1, rfl, _, hb1, hc1⟩ := H.out k hkl
      have hc2 := (hM.out.below.cell (p := ⟨b1, o1 + k, none⟩) hb1).trans hc1
      have hT := take_one xs hkl
      have HT : Hid (xs.take (k + 1) = xs.take k ++ [xs.getD k 0]) := hT
      clear hc1 hT
      generalize xs.getD k 0 = x at *
      have hsz := hM.out.below.size
      have HO : Hid (Rds (fun _ => True) (wr.alloc (.cells #[.int .i64 x] 3)) (.slice (some ⟨wr.heap.size, 0, none⟩) 1 1) [x]) := one_rds wr x
      by_cases hkn : k < n
      · have hkn' : (k : Int) < (n : Int) := by omega
        have hoa := hM.out.a.alloc (.cells #[.int .i64 x] 3)
        go_wp2_with (first | (at_builtin; refine wpList_append_rows rfl (.tmp 18) (.tmp 23) rfl w.heap.size (fun _ => True) (.slice aa la.length ac) (.slice (some ⟨wr.heap.size, 0, none⟩) 1 1) la [x] rfl rfl hoa HO.out (by simp; omega) (by simp; omega) ?_; intro v2 w2 hown2 hgr2 hat2))
        obtain ⟨hb2, hap2⟩ := two_grow (hM.out.b.alloc (.cells #[.int .i64 x] 3)) hM.out.ap hgr2 (by simpa using hat2)
        have hM2 : Hid (CutM n (k + 1) xs (la ++ [x]) lb w w2 v2 (.slice ba lb.length bc)) := by
          refine ⟨?_, ?_, hown2, hb2, hap2, (hM.out.below.alloc hsz _).grown hgr2 (by simp; omega) (fun j e => (hM.out.a.low e).1)⟩
          · rw [show min (k + 1) n = k + 1 by omega, HT.out, hM.out.ea, show min k n = k by omega]
          · rw [hM.out.eb, List.drop_eq_nil_of_le (by simp; omega), List.drop_eq_nil_of_le (by simp; omega)]
        clear hM hown2 hgr2 hat2 hb2 hap2 hoa HO
        go_wp2
        go_roundw
        case rel => exact ⟨k + 1, _, _, by omega, by go_num, hM2⟩
        case measure => simp [intOf]; omega
      · have hkn' : ¬ (k : Int) < (n : Int) := by omega
        have hob := hM.out.b.alloc (.cells #[.int .i64 x] 3)
        go_wp2_with (first | (at_builtin; refine wpList_append_rows rfl (.tmp 25) (.tmp 30) rfl w.heap.size (fun _ => True) (.slice ba lb.length bc) (.slice (some ⟨wr.heap.size, 0, none⟩) 1 1) lb [x] rfl rfl hob HO.out (by simp; omega) (by simp; omega) ?_; intro v2 w2 hown2 hgr2 hat2))
        obtain ⟨ha2, hap2⟩ := two_grow (hM.out.a.alloc (.cells #[.int .i64 x] 3)) hM.out.ap.symm hgr2 (by simpa using hat2)
        have hM2 : Hid (CutM n (k + 1) xs la (lb ++ [x]) w w2 (.slice aa la.length ac) v2) := by
          refine ⟨?_, ?_, ha2, hown2, hap2.symm, (hM.out.below.alloc hsz _).grown hgr2 (by simp; omega) (fun j e => (hM.out.b.low e).1)⟩
          · rw [show min (k + 1) n = min k n by omega]
            exact hM.out.ea
          · rw [HT.out, List.drop_append_of_le_length (by simp; omega), hM.out.eb]
        clear hM hown2 hgr2 hat2 ha2 hap2 hob HO
        go_wp2
        go_roundw
        case rel => exact ⟨k + 1, _, _, by omega, by go_num, hM2⟩
        case measure => simp [intOf]; omega
    · have hke : k = xs.length := by omega
      have hkl' : ¬ (k : Int) < (xs.length : Int) := by omega
      have HA : Hid (RowI w.heap.size wr (.slice aa la.length ac) (xs.take n)) := by
        have := hM.out.a
        have e := hM.out.ea
        rw [show xs.take (min k n) = xs.take n from by rw [hke, Nat.min_comm, ← List.take_eq_take_min]] at e
        rwa [e] at this ⊢
      have HBB : Hid (RowI w.heap.size wr (.slice ba lb.length bc) (xs.drop n)) := by
        have := hM.out.b
        have e := hM.out.eb
        rw [hke, List.take_length] at e
        rwa [e] at this ⊢
      have HL : Hid (Below w.heap.size w wr) := hM.out.below
      have HP : Hid (Apart (.slice aa la.length ac) (.slice ba lb.length bc)) := hM.out.ap
      clear hM
      go_wp2
      go_ret2
      exact ⟨_, _, rfl, HA.out, HBB.out, HP.out, HL.out⟩
set_option maxHeartbeats 800000 in
theorem in_any (A : Nat → Prop) (v : Value) (zs : List Int) (x : Int) (w : World) (hz : Rds A w v zs) (hx : zs.length ≤ 1000) :
    Calls Tryd.prog 9 #[v, .int .i64 x] w fun e w' => e = .returned (.bool (memB zs x)) ∧ w' = w := by
  obtain ⟨a, c, rfl, -, hz⟩ := hz
  have HZ : Hid (∀ k, k < zs.length → ∃ b o, a = some ⟨b, o, none⟩ ∧ A b ∧ b < w.heap.size ∧ w.cell? ⟨b, o + k, none⟩ = some (.int .i64 (zs.getD k 0))) := hz
  clear hz
  go_enter Tryd.func9, Tryd.ntmps9
  go_wp2
  go_loop [5] (fun i => ∃ k : Nat, k ≤ zs.length ∧ i = .int .i64 k ∧ Hid (x ∉ zs.take k)) (fun i => zs.length - (intOf i).toNat)
  case atStart => exact ⟨0, Nat.zero_le _, rfl, by simp [Hid]⟩
  case round =>
    obtain ⟨k, hk, rfl, hno⟩ := hrel
    by_cases hkl : k < zs.length
    · obtain ⟨b, o, rfl, -, -, hck⟩ := HZ.out k hkl
      generalize hy : zs.getD k 0 = y at hck
      have HY : Hid (zs.getD k 0 = y) := hy
      clear hy
      by_cases e : y = x
      · have he : (y == x) = true := by simp [e]
        have HM : Hid (x ∈ zs) := mem_at hkl (HY.out.trans e)
        clear e
        go_wp2
        go_ret
        exact ⟨ret_bool (by simp [memB, HM.out]), rfl⟩
      · have he : (y == x) = false := by simp [e]
        have HM : Hid (x ∉ zs.take (k + 1)) := take_succ_none x zs k hkl hno.out (by rw [HY.out]; exact e)
        clear e
        go_wp2
        go_round
        case rel => exact ⟨k + 1, by omega, by go_num, HM⟩
        case measure => simp [intOf]; omega
    · have HM : Hid (x ∉ zs) := by have := hno.out; rwa [List.take_of_length_le (by omega)] at this
      go_wp2
      go_ret
      exact ⟨ret_bool (by simp [memB, HM.out]), rfl⟩
end Go.Proofs.YtajpkchcfphehaaDoor
