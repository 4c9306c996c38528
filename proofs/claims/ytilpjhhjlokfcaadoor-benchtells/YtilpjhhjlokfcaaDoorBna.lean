/- What is wrong with bits; the contracts of bench.below, bench.check and its closure, slices.IndexFunc and ContainsFunc at bits. -/
import Derived.Test.YtilpjhhjlokfcaaDoorBnt
namespace Go.Proofs.YtilpjhhjlokfcaaDoor
open Go.RowKit Go.Deep

/-- The bit at a place. -/
def bitA (l : List BitZ) (k : Nat) : BitZ := l.getD k (0, 0, 0)
def belowB (n b : Int) : Bool := decide (0 ≤ n) && decide (n < b)
def badBit (hands : Int) (b : BitZ) : Bool := !belowB b.1 10001 || !belowB b.2.1 hands || !belowB b.2.2 30
def anyB (p : BitZ → Bool) (l : List BitZ) : Bool := (List.range l.length).any (fun k => p (bitA l k))
/-- What is wrong with bits of so many hands. -/
def bnErr (l : List BitZ) (hands : Int) : Int := if 600 < l.length then 4 else if hands < 1 ∨ 6 < hands then 1 else if anyB (badBit hands) l = true then 1 else 0
theorem anyB_hit {p : BitZ → Bool} {l : List BitZ} {k : Nat} (hk : k < l.length) (h : p (bitA l k) = true) : anyB p l = true := List.any_eq_true.2 ⟨k, List.mem_range.2 hk, h⟩
theorem anyB_miss {p : BitZ → Bool} {l : List BitZ} (h : ∀ k, k < l.length → p (bitA l k) = false) : anyB p l = false := by
  cases e : anyB p l with
  | false => rfl
  | true =>
    obtain ⟨k, hk, hp⟩ := List.any_eq_true.1 e
    rw [h k (List.mem_range.1 hk)] at hp
    cases hp
theorem anyB_none {p : BitZ → Bool} {l : List BitZ} (h : anyB p l = false) : ∀ k, k < l.length → p (bitA l k) = false := fun k hk => by
  cases e : p (bitA l k) with
  | false => rfl
  | true => rw [anyB_hit hk e] at h; cases h

theorem below_any (n b : Int) (w : World) : Calls Tryd.prog 25 #[.int .i64 n, .int .i64 b] w fun e w' => e = .returned (.bool (belowB n b)) ∧ w' = w := by
  by_cases h1 : 0 ≤ n
  · by_cases h2 : n < b
    · have HE : Hid (belowB n b = true) := by show _ = _; unfold belowB; simp; omega
      go_enter Tryd.func25, Tryd.ntmps25
      go_wp2
      go_ret
      exact ⟨by rw [HE.out]; rfl, rfl⟩
    · have HE : Hid (belowB n b = false) := by show _ = _; unfold belowB; simp; omega
      go_enter Tryd.func25, Tryd.ntmps25
      go_wp2
      go_ret
      exact ⟨by rw [HE.out]; rfl, rfl⟩
  · have HE : Hid (belowB n b = false) := by show _ = _; unfold belowB; simp; omega
    go_enter Tryd.func25, Tryd.ntmps25
    go_wp2
    go_ret
    exact ⟨by rw [HE.out]; rfl, rfl⟩

theorem new_bit (w : World) (x y z : Int) : (w.alloc (.cells #[.int .i64 x, .int .i64 y, .int .i64 z] 28)).cell? ⟨w.heap.size, 0, none⟩ = some (.int .i64 x) ∧ (w.alloc (.cells #[.int .i64 x, .int .i64 y, .int .i64 z] 28)).cell? ⟨w.heap.size, 1, none⟩ = some (.int .i64 y) ∧ (w.alloc (.cells #[.int .i64 x, .int .i64 y, .int .i64 z] 28)).cell? ⟨w.heap.size, 2, none⟩ = some (.int .i64 z) := by
  unfold World.cell?
  dsimp only
  rw [blk_alloc_new]
  exact ⟨rfl, rfl, rfl⟩
theorem drawn_belowB (w : World) (q : Nat) : Below w.heap.size w (w.drewN q) := ⟨rfl, rfl, rfl, Nat.le_refl _, fun _ _ => rfl⟩
set_option maxRecDepth 100000 in
set_option maxHeartbeats 2000000 in
theorem closure_bit (x y z hands : Int) (ah : Addr) (w : World) (hc : w.cell? ah = some (.int .i64 hands)) (hl : ah.block < w.heap.size) :
    Calls Tryd.prog 24 (#[.agg #[.int .i64 x, .int .i64 y, .int .i64 z]] ++ #[.pointer (some ah)]) w fun e w' => e = .returned (.bool (badBit hands (x, y, z))) ∧ Below w.heap.size w w' := by
  show Calls Tryd.prog 24 #[.agg #[.int .i64 x, .int .i64 y, .int .i64 z], .pointer (some ah)] w _
  have HB : Hid (∀ q, Below w.heap.size w ((w.alloc (.cells #[.int .i64 x, .int .i64 y, .int .i64 z] 28)).drewN q)) := fun q => ((Below.refl _ _).alloc (Nat.le_refl _) _).trans ((drawn_belowB _ q).mono (by simp))
  have hc' : (w.alloc (.cells #[.int .i64 x, .int .i64 y, .int .i64 z] 28)).cell? ah = some (.int .i64 hands) := (World.cell?_alloc_lt _ _ ah hl).trans hc
  obtain ⟨b0, b1, b2⟩ := new_bit w x y z
  have HE : Hid (badBit hands (x, y, z) = (!belowB x 10001 || !belowB y hands || !belowB z 30)) := rfl
  have c1 : ∀ wx, Calls Tryd.prog 25 #[.int .i64 x, .int .i64 10001] wx fun e w' => e = .returned (.bool (belowB x 10001)) ∧ w' = wx := below_any _ _
  have c2 : ∀ wx, Calls Tryd.prog 25 #[.int .i64 y, .int .i64 hands] wx fun e w' => e = .returned (.bool (belowB y hands)) ∧ w' = wx := below_any _ _
  have c3 : ∀ wx, Calls Tryd.prog 25 #[.int .i64 z, .int .i64 30] wx fun e w' => e = .returned (.bool (belowB z 30)) ∧ w' = wx := below_any _ _
  rw [HE.out]
  clear HE
  generalize belowB x 10001 = e1 at *
  generalize belowB y hands = e2 at *
  generalize belowB z 30 = e3 at *
  cases e1
  · go_enter Tryd.func24, Tryd.ntmps24
    go_wp2_with (first | (go_at_call 25; refine (c1 _).mono ?_; clear c1; rintro e w' ⟨rfl, rfl⟩))
    go_ret
    exact ⟨rfl, HB.out 0⟩
  · cases e2
    · go_enter Tryd.func24, Tryd.ntmps24
      go_wp2_with (first | (go_at_call 25; refine (c1 _).mono ?_; clear c1; rintro e w' ⟨rfl, rfl⟩) | (go_at_call 25; refine (c2 _).mono ?_; clear c2; rintro e w' ⟨rfl, rfl⟩))
      go_ret
      exact ⟨rfl, HB.out 0⟩
    · cases e3
      all_goals
        go_enter Tryd.func24, Tryd.ntmps24
        go_wp2_with (first | (go_at_call 25; refine (c1 _).mono ?_; clear c1; rintro e w' ⟨rfl, rfl⟩) | (go_at_call 25; refine (c2 _).mono ?_; clear c2; rintro e w' ⟨rfl, rfl⟩) | (go_at_call 25; refine (c3 _).mono ?_; clear c3; rintro e w' ⟨rfl, rfl⟩))
        go_ret
        exact ⟨rfl, HB.out 0⟩
theorem bit_enters : ∀ args w, (callFunc 24 args).run Tryd.prog w = .ok (.enter 24 args) w := enters_of Tryd.func24 (by kernel_rfl) rfl

/-- What is asked of a predicate of bits, with what it captures. -/
def PredB (g : Nat) (cap : Array Value) (p : BitZ → Bool) (w : World) : Prop :=
  (∀ args w, (callFunc g args).run Tryd.prog w = .ok (.enter g args) w) ∧ ∀ x y z wx, Below w.heap.size w wx → Calls Tryd.prog g (#[.agg #[.int .i64 x, .int .i64 y, .int .i64 z]] ++ cap) wx fun e w' => e = .returned (.bool (p (x, y, z))) ∧ Below wx.heap.size wx w'
/-- Where the first is that is so. -/
def IdxB (p : BitZ → Bool) (l : List BitZ) (r : Int) : Prop :=
  (∃ k : Nat, r = k ∧ k < l.length ∧ p (bitA l k) = true) ∨ (r = -1 ∧ ∀ j, j < l.length → p (bitA l j) = false)
set_option maxRecDepth 100000 in
set_option maxHeartbeats 1000000 in
theorem indexB_any (g : Nat) (cap : Array Value) (p : BitZ → Bool) (v : Value) (l : List BitZ) (w : World) (hp : PredB g cap p w) (hc : BitsAt w v l) :
    Calls Tryd.prog 31 #[v, .func (.func g) #[] cap] w fun e w' => (∃ r, e = .returned (.int .i64 r) ∧ IdxB p l r) ∧ Below w.heap.size w w' := by
  obtain ⟨hl, a, c, rfl, hc⟩ := hc
  obtain ⟨ef, hp⟩ := hp
  have HP : Hid (∀ x y z wx, Below w.heap.size w wx → Calls Tryd.prog g (#[.agg #[.int .i64 x, .int .i64 y, .int .i64 z]] ++ cap) wx fun e w' => e = .returned (.bool (p (x, y, z))) ∧ Below wx.heap.size wx w') := hp
  clear hp
  go_enter Tryd.func31, Tryd.ntmps31
  go_wp2
  go_loopw [8] (fun s8 wr => ∃ k : Nat, k ≤ l.length ∧ s8 = .int .i64 k ∧ Hid (∀ j, j < k → p (bitA l j) = false) ∧ Below w.heap.size w wr) (fun s8 _ => l.length - (intOf s8).toNat)
  case atStart => exact ⟨0, Nat.zero_le _, rfl, fun j hj => by omega, Below.refl _ _⟩
  case round =>
    obtain ⟨k, hk, rfl, hno, hb⟩ := hrel
    by_cases hkl : k < l.length
    · rcases hc with rfl | ⟨b, o, rfl, hbl, hc⟩
      · simp at hkl
      obtain ⟨hc1, hc2, hc3⟩ := hc k hkl
      have hc1' := (hb.cell (p := ⟨b, o + k * 3, none⟩) hbl).trans hc1
      have hc2' := (hb.cell (p := ⟨b, o + k * 3 + 1, none⟩) hbl).trans hc2
      have hc3' := (hb.cell (p := ⟨b, o + k * 3 + 2, none⟩) hbl).trans hc3
      clear hc hc1 hc2 hc3
      have hcall := HP.out (bitA l k).1 (bitA l k).2.1 (bitA l k).2.2 wr hb
      have HA : Hid (bitA l k = ((bitA l k).1, (bitA l k).2.1, (bitA l k).2.2)) := rfl
      have e1 : (l.getD k (0, 0, 0)) = bitA l k := rfl
      rw [e1] at hc1' hc2' hc3'
      clear e1
      cases hf : p (bitA l k)
      · have HF : Hid (∀ j, j < k + 1 → p (bitA l j) = false) := fun j hj => by
          by_cases e : j = k
          · rw [e]; exact hf
          · exact hno.out j (by omega)
        rw [show ((bitA l k).1, (bitA l k).2.1, (bitA l k).2.2) = bitA l k from rfl, hf] at hcall
        clear hf hno HA
        generalize (bitA l k).1 = x at *
        generalize (bitA l k).2.1 = y at *
        generalize (bitA l k).2.2 = z at *
        go_wp2_with (go_at_fn g; refine hcall.mono ?_; rintro e w2 ⟨rfl, hb2⟩)
        go_roundw
        case rel => exact ⟨k + 1, by omega, by go_num, HF, hb.trans (hb2.mono hb.size)⟩
        case measure => simp [intOf]; omega
      · have HF : Hid (IdxB p l k) := Or.inl ⟨k, rfl, hkl, hf⟩
        rw [show ((bitA l k).1, (bitA l k).2.1, (bitA l k).2.2) = bitA l k from rfl, hf] at hcall
        clear hf hno HA
        generalize (bitA l k).1 = x at *
        generalize (bitA l k).2.1 = y at *
        generalize (bitA l k).2.2 = z at *
        go_wp2_with (go_at_fn g; refine hcall.mono ?_; rintro e w2 ⟨rfl, hb2⟩)
        go_ret
        exact ⟨⟨_, rfl, HF.out⟩, hb.trans (hb2.mono hb.size)⟩
    · clear hc
      have HF : Hid (IdxB p l (-1)) := Or.inr ⟨rfl, fun j hj => hno.out j (by omega)⟩
      go_wp2
      go_ret
      exact ⟨⟨_, rfl, HF.out⟩, hb⟩
theorem idxB_any {p : BitZ → Bool} {l : List BitZ} {r : Int} (h : IdxB p l r) : decide (0 ≤ r) = anyB p l := by
  rcases h with ⟨k, rfl, hk, hp⟩ | ⟨rfl, h⟩
  · rw [anyB_hit hk hp]; simp
  · rw [anyB_miss h]; rfl
set_option maxRecDepth 100000 in
theorem containsB_any (g : Nat) (cap : Array Value) (p : BitZ → Bool) (v : Value) (l : List BitZ) (w : World) (hp : PredB g cap p w) (hc : BitsAt w v l) :
    Calls Tryd.prog 26 #[v, .func (.func g) #[] cap] w fun e w' => e = .returned (.bool (anyB p l)) ∧ Below w.heap.size w w' := by
  have hix := indexB_any g cap p v l w hp hc
  clear hp
  obtain ⟨hl, a, c, rfl, hc⟩ := hc
  clear hc
  go_enter Tryd.func26, Tryd.ntmps26
  go_wp2_with (go_at_call 31; refine hix.mono ?_; clear hix; rintro e w2 ⟨⟨r, rfl, hF⟩, hb2⟩; have HF : Hid (decide (0 ≤ r) = anyB p l) := idxB_any hF; clear hF)
  go_ret
  exact ⟨ret_bool HF.out, hb2⟩

theorem bnErr_full {l : List BitZ} {hands : Int} (h : 600 < l.length) : bnErr l hands = 4 := if_pos h
theorem bnErr_hands {l : List BitZ} {hands : Int} (h : ¬ 600 < l.length) (h1 : hands < 1 ∨ 6 < hands) : bnErr l hands = 1 := by unfold bnErr; rw [if_neg h, if_pos h1]
theorem bnErr_any {l : List BitZ} {hands : Int} (h : ¬ 600 < l.length) (h1 : ¬ (hands < 1 ∨ 6 < hands)) : bnErr l hands = if anyB (badBit hands) l = true then 1 else 0 := by unfold bnErr; rw [if_neg h, if_neg h1]
theorem bnErr_zero {l : List BitZ} {hands : Int} (h : bnErr l hands = 0) : l.length ≤ 600 ∧ 1 ≤ hands ∧ hands ≤ 6 ∧ ∀ k, k < l.length → 0 ≤ (bitA l k).1 ∧ (bitA l k).1 ≤ 10000 ∧ 0 ≤ (bitA l k).2.1 ∧ (bitA l k).2.1 < hands ∧ 0 ≤ (bitA l k).2.2 ∧ (bitA l k).2.2 < 30 := by
  by_cases hl : 600 < l.length
  · rw [bnErr_full hl] at h; cases h
  · by_cases h1 : hands < 1 ∨ 6 < hands
    · rw [bnErr_hands hl h1] at h; cases h
    · rw [bnErr_any hl h1] at h
      refine ⟨by omega, by omega, by omega, fun k hk => ?_⟩
      cases e : anyB (badBit hands) l with
      | true => rw [e] at h; cases h
      | false =>
        have := anyB_none e k hk
        unfold badBit belowB at this
        simp at this
        omega
set_option maxRecDepth 100000 in
set_option maxHeartbeats 2000000 in
theorem bcheck_any (v : Value) (l : List BitZ) (hands : Int) (w : World) (hg : BitsAt w v l) :
    Calls Tryd.prog 15 #[v, .int .i64 hands] w fun e w' => e = .returned (errV (bnErr l hands)) ∧ Below w.heap.size w w' := by
  have HBX : Hid (Below w.heap.size w (w.alloc (.cells #[.int .i64 hands] 3))) := (Below.refl _ _).alloc (Nat.le_refl _) _
  have hcl : (w.alloc (.cells #[.int .i64 hands] 3)).cell? ⟨w.heap.size, 0, none⟩ = some (.int .i64 hands) := by
    unfold World.cell?
    dsimp only
    rw [blk_alloc_new]
    rfl
  have hct := containsB_any 24 #[.pointer (some ⟨w.heap.size, 0, none⟩)] (badBit hands) v l (w.alloc (.cells #[.int .i64 hands] 3)) ⟨bit_enters, fun x y z wx hx => closure_bit x y z hands _ wx ((hx.cell (p := ⟨w.heap.size, 0, none⟩) (by show w.heap.size < _; simp)).trans hcl) (by show w.heap.size < _; have := hx.size; simp at this; omega)⟩ (hg.later HBX.out)
  obtain ⟨hl, a, c, rfl, hg⟩ := hg
  clear hg
  by_cases h6 : 600 < l.length
  · have hfi : (600 : Int) < (l.length : Int) := by omega
    rw [bnErr_full h6]
    clear hct
    go_enter Tryd.func15, Tryd.ntmps15
    go_wp2
    go_ret
    exact ⟨rfl, HBX.out⟩
  · have hfi : ¬ (600 : Int) < (l.length : Int) := by omega
    by_cases h1 : hands < 1
    · rw [bnErr_hands h6 (Or.inl h1)]
      clear hct
      go_enter Tryd.func15, Tryd.ntmps15
      go_wp2
      go_ret
      exact ⟨rfl, HBX.out⟩
    · by_cases h2 : 6 < hands
      · rw [bnErr_hands h6 (Or.inr h2)]
        clear hct
        go_enter Tryd.func15, Tryd.ntmps15
        go_wp2
        go_ret
        exact ⟨rfl, HBX.out⟩
      · rw [bnErr_any h6 (by omega)]
        generalize anyB (badBit hands) l = bb at *
        have HB2 : Hid (∀ w2, Below (w.alloc (.cells #[.int .i64 hands] 3)).heap.size (w.alloc (.cells #[.int .i64 hands] 3)) w2 → Below w.heap.size w w2) := fun w2 h => HBX.out.trans (h.mono (by simp))
        cases bb
        all_goals
          go_enter Tryd.func15, Tryd.ntmps15
          go_wp2_with (go_at_call 26; refine hct.mono ?_; clear hct; rintro e w2 ⟨rfl, hb2⟩)
          go_ret
          exact ⟨rfl, HB2.out _ hb2⟩
end Go.Proofs.YtilpjhhjlokfcaaDoor
