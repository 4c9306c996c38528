/- Bits in a row of their own; the law's own plan and bits. -/
import Derived.Test.YtkgdhfdahafaoaaDoorJs
import Derived.Test.YtkgdhfdahafaoaaDoorJv
import Derived.Test.YtkgdhfdahafaoaaDoorJd
import Derived.Test.YtkgdhfdahafaoaaDoorI
import Derived.Deep.OwnRows
import Derived.Maps.AppendAt
namespace Go.Proofs.YtkgdhfdahafaoaaDoor
open Go.RowKit Go.Deep

def bitV (b : BitZ) : List Value := [.int .i64 b.1, .int .i64 b.2.1, .int .i64 b.2.2]
def flatZ (l : List BitZ) : List Value := l.flatMap bitV
theorem flatZ_append (a b : List BitZ) : flatZ (a ++ b) = flatZ a ++ flatZ b := by simp [flatZ]
theorem flatZ_one (s : BitZ) : flatZ [s] = bitV s := by simp [flatZ]
theorem flatZ_length (l : List BitZ) : (flatZ l).length = l.length * 3 := by
  induction l with
  | nil => rfl
  | cons b r ih =>
    have : flatZ (b :: r) = flatZ [b] ++ flatZ r := flatZ_append [b] r
    rw [this, List.length_append, ih, flatZ_one]
    simp [bitV]; omega
theorem flatZ_at {l : List BitZ} {k : Nat} (hk : k < l.length) : ∀ j, j < 3 → (flatZ l)[k * 3 + j]? = (bitV (l.getD k (0, 0, 0)))[j]? := by
  induction l generalizing k with
  | nil => simp at hk
  | cons b r ih =>
    intro j hj
    have e : flatZ (b :: r) = bitV b ++ flatZ r := by rw [← flatZ_one]; exact flatZ_append [b] r
    have hl : (bitV b).length = 3 := rfl
    rw [e]
    cases k with
    | zero =>
      rw [List.getElem?_append_left (by rw [hl]; omega)]
      simp
    | succ k =>
      rw [List.getElem?_append_right (by rw [hl]; omega), hl]
      rw [show (k + 1) * 3 + j - 3 = k * 3 + j by omega]
      simpa using ih (k := k) (by simp at hk; omega) j hj
/-- Bits in a row of their own, from block b on. -/
def RowBZ (b : Nat) (w : World) (v : Value) (l : List BitZ) : Prop := w.ownsRow b 43 3 v l.length (flatZ l)
theorem RowBZ.nil (b : Nat) (w : World) : RowBZ b w (.slice none 0 0) [] := World.ownsRow_nil _ _ _ _
theorem RowBZ.shape {b : Nat} {w : World} {v : Value} {l : List BitZ} (h : RowBZ b w v l) : ∃ a c, v = .slice a l.length c := by
  rcases h.2 with ⟨rfl, hn⟩ | ⟨g, cap, cur, rfl, _, _, hc, _⟩
  · exact ⟨none, 0, by rw [hn]⟩
  · exact ⟨_, _, rfl⟩
theorem RowBZ.low {b : Nat} {w : World} {v : Value} {l : List BitZ} (h : RowBZ b w v l) {k : Nat} (hk : v.ownBlock = some k) : b ≤ k ∧ k < w.heap.size := World.ownsRow.lt h k hk
theorem RowBZ.of_blocks {b : Nat} {w w' : World} {v : Value} {l : List BitZ} (h : RowBZ b w v l) (hk : ∀ k, v.ownBlock = some k → w'.heap[k]? = w.heap[k]?) : RowBZ b w' v l := by
  rcases h.2 with ⟨rfl, hn⟩ | ⟨g, cap, cur, rfl, hg, hh, hr⟩
  · exact ⟨h.1, Or.inl ⟨rfl, hn⟩⟩
  · exact ⟨h.1, Or.inr ⟨g, cap, cur, rfl, hg, (hk g rfl).trans hh, hr⟩⟩
theorem RowBZ.later {b : Nat} {w w' : World} {v : Value} {l : List BitZ} (h : RowBZ b w v l) (hb : Below w.heap.size w w') : RowBZ b w' v l := h.of_blocks (fun k e => hb.block k (h.low e).2)
theorem RowBZ.full {b : Nat} {w : World} {v : Value} {l : List BitZ} (h : RowBZ b w v l) (hz : 0 < l.length) : ∃ g c, v = .slice (some ⟨g, 0, none⟩) l.length c ∧ b ≤ g ∧ g < w.heap.size ∧ l.length ≤ c := by
  rcases h.2 with ⟨_, h0⟩ | ⟨g, cap, cur, hv, hb, hh, hc, hm, _⟩
  · omega
  · exact ⟨g, cap, hv, hb, (Array.getElem?_eq_some_iff.1 hh).1, hc⟩
theorem RowBZ.cells {b g c : Nat} {w : World} {l : List BitZ} (h : RowBZ b w (.slice (some ⟨g, 0, none⟩) l.length c) l) (j : Nat) (hj : j < l.length * 3) : w.cell? ⟨g, j, none⟩ = (flatZ l)[j]? := World.ownsRow.cellAt h j hj
theorem RowBZ.bitsAt {b : Nat} {w : World} {v : Value} {l : List BitZ} (h : RowBZ b w v l) (hl : l.length * 24 ≤ 140737488351232) : BitsAt w v l := by
  by_cases hz : 0 < l.length
  · obtain ⟨g, c, rfl, _, hlt, _⟩ := h.full hz
    refine ⟨hl, _, _, rfl, Or.inr ⟨g, 0, rfl, hlt, fun k hk => ?_⟩⟩
    have hc : ∀ j, j < 3 → w.cell? ⟨g, k * 3 + j, none⟩ = (bitV (l.getD k (0, 0, 0)))[j]? := fun j hj => (h.cells (k * 3 + j) (by omega)).trans (flatZ_at hk j hj)
    rw [Nat.zero_add]
    exact ⟨hc 0 (by omega), hc 1 (by omega), hc 2 (by omega)⟩
  · obtain ⟨a, c, rfl⟩ := h.shape
    exact ⟨hl, a, c, rfl, Or.inl (List.eq_nil_of_length_eq_zero (by omega))⟩
theorem Tryd.info43 : (Tryd.prog.info? 43).map (fun i => (i.zero, i.size, i.bytes)) = some (some (.agg #[.int .i64 0, .int .i64 0, .int .i64 0]), 3, 24) := by kernel_rfl
theorem cell_three (w : World) (q : Nat) (hq : q = w.heap.size) (a b c : Value) (t : TypeId) : ∀ j u, [a, b, c][j]? = some u → (w.alloc (.cells #[a, b, c] t)).cell? ((⟨q, 0, none⟩ : Addr).add j) = some u := by
  intro j u hu
  subst hq
  rw [Addr.add_lit, Nat.zero_add]
  unfold World.cell?
  dsimp only
  rw [blk_alloc_new]
  show (#[a, b, c])[j]? = some u
  simpa using hu
theorem flatZ_mem {l : List BitZ} {u : Value} (h : u ∈ flatZ l) : u.oneCell' = true := by
  unfold flatZ at h
  obtain ⟨b, _, hb⟩ := List.mem_flatMap.1 h
  simp only [bitV, List.mem_cons, List.not_mem_nil, or_false] at hb
  rcases hb with rfl | rfl | rfl <;> rfl
theorem flatZ_take (l : List BitZ) (k : Nat) : (flatZ l).take (k * 3) = flatZ (l.take k) := by
  by_cases hk : k ≤ l.length
  · have e : flatZ l = flatZ (l.take k) ++ flatZ (l.drop k) := by rw [← flatZ_append, List.take_append_drop]
    rw [e, List.take_left']
    rw [flatZ_length, List.length_take]; congr 1; omega
  · rw [List.take_of_length_le (by rw [flatZ_length]; omega), List.take_of_length_le (by omega)]
theorem flatZ_drop (l : List BitZ) (k : Nat) (hk : k ≤ l.length) : (flatZ l).drop (k * 3) = flatZ (l.drop k) := by
  have e : flatZ l = flatZ (l.take k) ++ flatZ (l.drop k) := by rw [← flatZ_append, List.take_append_drop]
  rw [e, List.drop_left']
  rw [flatZ_length, List.length_take]; congr 1; omega

/-- One more, behind a block of three cells. -/
theorem RowBZ.more {b : Nat} {w' : World} {v' : Value} {l : List BitZ} {x : BitZ} (ho : w'.ownsRow b 43 3 v' (l.length + 1) (flatZ l ++ bitV x)) : RowBZ b w' v' (l ++ [x]) := by
  unfold RowBZ
  rw [flatZ_append, flatZ_one, List.length_append]
  exact ho

/-- The law's own plan: one task of two units. -/
def oneJ : List (Int × List Int) := [(2, [])]
theorem oneJ_needs (x : Nat) : needsOf oneJ x = [] := by
  unfold needsOf oneJ
  match x with
  | 0 => rfl
  | _ + 1 => rfl
theorem oneJ_check : CheckIs oneJ 0 0 := by
  refine CheckIs.none (by decide) (fun j hj => ?_) (fun j _ h => ?_)
  · have : j < 1 := hj
    obtain rfl : j = 0 := by omega
    decide
  · have hno : ∀ x y, ¬ Need oneJ x y := fun x y h => by unfold Need at h; rw [oneJ_needs] at h; cases h
    obtain ⟨n, h⟩ := h
    cases n with
    | zero => exact hno _ _ h
    | succ n => obtain ⟨y, _, h⟩ := h; exact hno _ _ h
theorem oneJ_plan (w : World) : PlanAt (w.alloc (.cells #[.int .i64 2, .slice none 0 0] 41)) (.slice (some ⟨w.heap.size, 0, none⟩) 1 1) oneJ := by
  have hb := blk_alloc_new w (.cells #[.int .i64 2, .slice none 0 0] 41)
  generalize w.alloc (.cells #[.int .i64 2, .slice none 0 0] 41) = W at hb ⊢
  have hl := (Array.getElem?_eq_some_iff.1 hb).1
  refine ⟨by decide, _, _, rfl, Or.inr ⟨w.heap.size, 0, rfl, hl, fun k hk => ?_⟩⟩
  have hk2 : k < 1 := hk
  obtain rfl : k = 0 := by omega
  refine ⟨by simp [World.cell?, hb, oneJ], _, by simp [World.cell?, hb]; rfl, ?_⟩
  exact ⟨by rw [oneJ_needs]; decide, none, 0, by rw [oneJ_needs]; rfl, Or.inl (oneJ_needs _)⟩
theorem two_bits (w : World) : BitsAt (w.alloc (.cells #[.int .i64 0, .int .i64 0, .int .i64 0, .int .i64 1, .int .i64 0, .int .i64 0] 43)) (.slice (some ⟨w.heap.size, 0, none⟩) 2 2) [(0, 0, 0), (1, 0, 0)] := by
  have hb := blk_alloc_new w (.cells #[.int .i64 0, .int .i64 0, .int .i64 0, .int .i64 1, .int .i64 0, .int .i64 0] 43)
  generalize w.alloc (.cells #[.int .i64 0, .int .i64 0, .int .i64 0, .int .i64 1, .int .i64 0, .int .i64 0] 43) = W at hb ⊢
  refine ⟨by decide, _, _, rfl, Or.inr ⟨w.heap.size, 0, rfl, (Array.getElem?_eq_some_iff.1 hb).1, fun k hk => ?_⟩⟩
  have hk2 : k < 2 := hk
  rcases (by omega : k = 0 ∨ k = 1) with rfl | rfl <;> simp [World.cell?, hb]
theorem one_bit (w : World) : BitsAt (w.alloc (.cells #[.int .i64 0, .int .i64 0, .int .i64 0] 43)) (.slice (some ⟨w.heap.size, 0, none⟩) 1 1) [(0, 0, 0)] := by
  have hb := blk_alloc_new w (.cells #[.int .i64 0, .int .i64 0, .int .i64 0] 43)
  generalize w.alloc (.cells #[.int .i64 0, .int .i64 0, .int .i64 0] 43) = W at hb ⊢
  refine ⟨by decide, _, _, rfl, Or.inr ⟨w.heap.size, 0, rfl, (Array.getElem?_eq_some_iff.1 hb).1, fun k hk => ?_⟩⟩
  have hk2 : k < 1 := hk
  obtain rfl : k = 0 := by omega
  simp [World.cell?, hb]
theorem fact_two : bitsErr oneJ 1 [(0, 0, 0), (1, 0, 0)] = 0 := by decide
theorem fact_one : bitsErr oneJ 1 [(0, 0, 0)] = 5 := by decide
/-- Bits tells the error, where the plan is right. -/
theorem bits_right {v lv : Value} {ts : List (Int × List Int)} {l : List BitZ} {hands : Int} {w : World} {q : Int} (hp : PlanAt w v ts) (hl : BitsAt w lv l) (hc : CheckIs ts 0 0) (h1 : 1 ≤ hands) (h6 : hands ≤ 6) (hq : bitsErr ts hands.toNat l = q) :
    Calls Tryd.prog 9 #[v, .int .i64 hands, lv] w fun e w' => e = .returned (errV q) ∧ Below w.heap.size w w' := by
  refine (bits_any v lv ts l hands w hp hl).mono (fun e w' h => ⟨?_, h.2⟩)
  rcases h.1 with ⟨p, q', hc', hne, _⟩ | ⟨_, _, _, h⟩
  · exfalso
    obtain ⟨_, rfl⟩ := hc.det hc'
    apply hne
    unfold jErr
    rw [if_pos rfl, if_neg (by omega)]
  · rw [h, hq]

/-- A stay's bits from its beginning to below a step. -/
def runB (hh tk : Int) (f j : Nat) : List BitZ := (List.range (j - f)).map (fun (i : Nat) => ((f : Int) + (i : Int), hh, tk))
theorem runB_start (hh tk : Int) (f : Nat) : runB hh tk f f = [] := by unfold runB; simp
theorem runB_next (hh tk : Int) {f j : Nat} (h : f ≤ j) : runB hh tk f (j + 1) = runB hh tk f j ++ [((j : Int), hh, tk)] := by
  unfold runB
  rw [show j + 1 - f = (j - f) + 1 by omega, List.range_succ, List.map_append]
  simp
  omega
theorem runB_all (hh tk : Int) {f t : Nat} (h : f ≤ t) : bitsOfS (hh, tk, (f : Int), (t : Int)) = runB hh tk f t := by
  unfold bitsOfS runB
  dsimp only
  rw [show ((t : Int) - (f : Int)).toNat = t - f by omega]
theorem runB_length (hh tk : Int) (f j : Nat) : (runB hh tk f j).length = j - f := by simp [runB]
theorem all_next {s : List StyZ} {k : Nat} (hk : k < s.length) : bitsOfAll (s.take (k + 1)) = bitsOfAll (s.take k) ++ bitsOfS (s.getD k (0, 0, 0, 0)) := by
  rw [(take_at (d := (0, 0, 0, 0)) hk).1]
  unfold bitsOfAll
  rw [List.flatMap_append]
  simp
theorem all_length {s : List StyZ} (h : ∀ x, x ∈ s → x.2.2.2 - x.2.2.1 ≤ 20) : (bitsOfAll s).length ≤ s.length * 20 := by
  induction s with
  | nil => simp [bitsOfAll]
  | cons x r ih =>
    have h1 := ih (fun y hy => h y (List.mem_cons_of_mem _ hy))
    have h2 := h x (List.mem_cons_self ..)
    have e : (bitsOfS x).length = (x.2.2.2 - x.2.2.1).toNat := by simp [bitsOfS]
    rw [bitsOfAll_cons, List.length_append, e, List.length_cons]
    omega
end Go.Proofs.YtkgdhfdahafaoaaDoor
