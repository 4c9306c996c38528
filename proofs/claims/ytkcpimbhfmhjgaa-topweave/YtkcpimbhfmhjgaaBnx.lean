/- Bits that a slice reads as: see the texts of judge. What is wrong with bits; the contracts of bench.below, bench.check and its closure, slices.IndexFunc and ContainsFunc at bits. How many steps; how many bits are of each; the contracts of bench.steps, count, Busy, Row, Waste. -/
import Derived.Test.YtkcpimbhfmhjgaaBg
import Derived.Lib.MinMax

namespace Go.Proofs.Ytkcpimbhfmhjgaa
end Go.Proofs.Ytkcpimbhfmhjgaa

namespace Go.Proofs.Ytkcpimbhfmhjgaa
open Go.RowKit Go.Deep

/-- The bit at a place. -/
def bitA (l : List BitZ) (k : Nat) : BitZ := l.getD k (0, 0, 0)
def belowB (n b : Int) : Bool := decide (0 ≤ n) && decide (n < b)
def badBit (hands : Int) (b : BitZ) : Bool := !belowB b.1 10001 || !belowB b.2.1 hands || !belowB b.2.2 30
def anyB (p : BitZ → Bool) (l : List BitZ) : Bool := (List.range l.length).any (fun k => p (bitA l k))
/-- What is wrong with bits of so many hands. -/
def bnErr (l : List BitZ) (hands : Int) : Int := if 600 < l.length then 4 else if hands < 1 ∨ 6 < hands then 1 else if anyB (badBit hands) l = true then 1 else 0
theorem anyB_hit {p : BitZ → Bool} {l : List BitZ} {k : Nat} (hk : k < l.length) (h : p (bitA l k) = true) : anyB p l = true := List.any_eq_true.2 ⟨k, List.mem_range.2 hk, h⟩
theorem anyB_miss {p : BitZ → Bool} {l : List BitZ} (h : ∀ k, k < l.length → p (bitA l k) = false) : anyB p l = false := by
  cases e : anyB p l with
  | false => rfl
  | true =>
    obtain ⟨k, hk, hp⟩ := List.any_eq_true.1 e
    rw [h k (List.mem_range.1 hk)] at hp
    cases hp
theorem anyB_none {p : BitZ → Bool} {l : List BitZ} (h : anyB p l = false) : ∀ k, k < l.length → p (bitA l k) = false := fun k hk => by
  cases e : p (bitA l k) with
  | false => rfl
  | true => rw [anyB_hit hk e] at h; cases h

theorem belowBn_any (n b : Int) (w : World) : Calls Try.prog 45 #[.int .i64 n, .int .i64 b] w fun e w' => e = .returned (.bool (belowB n b)) ∧ w' = w := by
  by_cases h1 : 0 ≤ n
  · by_cases h2 : n < b
    · have HE : Hid (belowB n b = true) := by show _ = _; unfold belowB; simp; omega
      go_enter Try.func45, Try.ntmps45
      go_wp2
      go_ret
      exact ⟨by rw [HE.out]; rfl, rfl⟩
    · have HE : Hid (belowB n b = false) := by show _ = _; unfold belowB; simp; omega
      go_enter Try.func45, Try.ntmps45
      go_wp2
      go_ret
      exact ⟨by rw [HE.out]; rfl, rfl⟩
  · have HE : Hid (belowB n b = false) := by show _ = _; unfold belowB; simp; omega
    go_enter Try.func45, Try.ntmps45
    go_wp2
    go_ret
    exact ⟨by rw [HE.out]; rfl, rfl⟩

theorem new_bit (w : World) (x y z : Int) : (w.alloc (.cells #[.int .i64 x, .int .i64 y, .int .i64 z] 57)).cell? ⟨w.heap.size, 0, none⟩ = some (.int .i64 x) ∧ (w.alloc (.cells #[.int .i64 x, .int .i64 y, .int .i64 z] 57)).cell? ⟨w.heap.size, 1, none⟩ = some (.int .i64 y) ∧ (w.alloc (.cells #[.int .i64 x, .int .i64 y, .int .i64 z] 57)).cell? ⟨w.heap.size, 2, none⟩ = some (.int .i64 z) := by
  unfold World.cell?
  dsimp only
  rw [blk_alloc_new]
  exact ⟨rfl, rfl, rfl⟩
theorem drawn_belowB (w : World) (q : Nat) : Below w.heap.size w (w.drewN q) := ⟨rfl, rfl, rfl, Nat.le_refl _, fun _ _ => rfl⟩
set_option maxRecDepth 100000 in
set_option maxHeartbeats 2000000 in
theorem closure_bit (x y z hands : Int) (ah : Addr) (w : World) (hc : w.cell? ah = some (.int .i64 hands)) (hl : ah.block < w.heap.size) :
    Calls Try.prog 44 (#[.agg #[.int .i64 x, .int .i64 y, .int .i64 z]] ++ #[.pointer (some ah)]) w fun e w' => e = .returned (.bool (badBit hands (x, y, z))) ∧ Below w.heap.size w w' := by
  show Calls Try.prog 44 #[.agg #[.int .i64 x, .int .i64 y, .int .i64 z], .pointer (some ah)] w _
  have HB : Hid (∀ q, Below w.heap.size w ((w.alloc (.cells #[.int .i64 x, .int .i64 y, .int .i64 z] 57)).drewN q)) := fun q => ((Below.refl _ _).alloc (Nat.le_refl _) _).trans ((drawn_belowB _ q).mono (by simp))
  have hc' : (w.alloc (.cells #[.int .i64 x, .int .i64 y, .int .i64 z] 57)).cell? ah = some (.int .i64 hands) := (World.cell?_alloc_lt _ _ ah hl).trans hc
  obtain ⟨b0, b1, b2⟩ := new_bit w x y z
  have HE : Hid (badBit hands (x, y, z) = (!belowB x 10001 || !belowB y hands || !belowB z 30)) := rfl
  have c1 : ∀ wx, Calls Try.prog 45 #[.int .i64 x, .int .i64 10001] wx fun e w' => e = .returned (.bool (belowB x 10001)) ∧ w' = wx := belowBn_any _ _
  have c2 : ∀ wx, Calls Try.prog 45 #[.int .i64 y, .int .i64 hands] wx fun e w' => e = .returned (.bool (belowB y hands)) ∧ w' = wx := belowBn_any _ _
  have c3 : ∀ wx, Calls Try.prog 45 #[.int .i64 z, .int .i64 30] wx fun e w' => e = .returned (.bool (belowB z 30)) ∧ w' = wx := belowBn_any _ _
  rw [HE.out]
  clear HE
  generalize belowB x 10001 = e1 at *
  generalize belowB y hands = e2 at *
  generalize belowB z 30 = e3 at *
  cases e1
  · go_enter Try.func44, Try.ntmps44
    go_wp2_with (first | (go_at_call 45; refine (c1 _).mono ?_; clear c1; rintro e w' ⟨rfl, rfl⟩))
    go_ret
    exact ⟨rfl, HB.out 0⟩
  · cases e2
    · go_enter Try.func44, Try.ntmps44
      go_wp2_with (first | (go_at_call 45; refine (c1 _).mono ?_; clear c1; rintro e w' ⟨rfl, rfl⟩) | (go_at_call 45; refine (c2 _).mono ?_; clear c2; rintro e w' ⟨rfl, rfl⟩))
      go_ret
      exact ⟨rfl, HB.out 0⟩
    · cases e3
      all_goals
        go_enter Try.func44, Try.ntmps44
        go_wp2_with (first | (go_at_call 45; refine (c1 _).mono ?_; clear c1; rintro e w' ⟨rfl, rfl⟩) | (go_at_call 45; refine (c2 _).mono ?_; clear c2; rintro e w' ⟨rfl, rfl⟩) | (go_at_call 45; refine (c3 _).mono ?_; clear c3; rintro e w' ⟨rfl, rfl⟩))
        go_ret
        exact ⟨rfl, HB.out 0⟩
theorem bit_enters : ∀ args w, (callFunc 44 args).run Try.prog w = .ok (.enter 44 args) w := enters_of Try.func44 (by kernel_rfl) rfl

/-- What is asked of a predicate of bits, with what it captures. -/
def PredB (g : Nat) (cap : Array Value) (p : BitZ → Bool) (w : World) : Prop :=
  (∀ args w, (callFunc g args).run Try.prog w = .ok (.enter g args) w) ∧ ∀ x y z wx, Below w.heap.size w wx → Calls Try.prog g (#[.agg #[.int .i64 x, .int .i64 y, .int .i64 z]] ++ cap) wx fun e w' => e = .returned (.bool (p (x, y, z))) ∧ Below wx.heap.size wx w'
/-- Where the first is that is so. -/
def IdxB (p : BitZ → Bool) (l : List BitZ) (r : Int) : Prop :=
  (∃ k : Nat, r = k ∧ k < l.length ∧ p (bitA l k) = true) ∨ (r = -1 ∧ ∀ j, j < l.length → p (bitA l j) = false)
set_option maxRecDepth 100000 in
set_option maxHeartbeats 1000000 in
theorem indexB_any (g : Nat) (cap : Array Value) (p : BitZ → Bool) (v : Value) (l : List BitZ) (w : World) (hp : PredB g cap p w) (hc : BitsAt w v l) :
    Calls Try.prog 69 #[v, .func (.func g) #[] cap] w fun e w' => (∃ r, e = .returned (.int .i64 r) ∧ IdxB p l r) ∧ Below w.heap.size w w' := by
  obtain ⟨hl, a, c, rfl, hc⟩ := hc
  obtain ⟨ef, hp⟩ := hp
  have HP : Hid (∀ x y z wx, Below w.heap.size w wx → Calls Try.prog g (#[.agg #[.int .i64 x, .int .i64 y, .int .i64 z]] ++ cap) wx fun e w' => e = .returned (.bool (p (x, y, z))) ∧ Below wx.heap.size wx w') := hp
  clear hp
  go_enter Try.func69, Try.ntmps69
  go_wp2
  go_loopw [8] (fun s8 wr => ∃ k : Nat, k ≤ l.length ∧ s8 = .int .i64 k ∧ Hid (∀ j, j < k → p (bitA l j) = false) ∧ Below w.heap.size w wr) (fun s8 _ => l.length - (intOf s8).toNat)
  case atStart => exact ⟨0, Nat.zero_le _, rfl, fun j hj => by omega, Below.refl _ _⟩
  case round =>
    obtain ⟨k, hk, rfl, hno, hb⟩ := hrel
    by_cases hkl : k < l.length
    · rcases hc with rfl | ⟨b, o, rfl, hbl, hc⟩
      · simp at hkl
      obtain ⟨hc1, hc2, hc3⟩ := hc k hkl
      have hc1' := (hb.cell (p := ⟨b, o + k * 3, none⟩) hbl).trans hc1
      have hc2' := (hb.cell (p := ⟨b, o + k * 3 + 1, none⟩) hbl).trans hc2
      have hc3' := (hb.cell (p := ⟨b, o + k * 3 + 2, none⟩) hbl).trans hc3
      clear hc hc1 hc2 hc3
      have hcall := HP.out (bitA l k).1 (bitA l k).2.1 (bitA l k).2.2 wr hb
      have HA : Hid (bitA l k = ((bitA l k).1, (bitA l k).2.1, (bitA l k).2.2)) := rfl
      have e1 : (l.getD k (0, 0, 0)) = bitA l k := rfl
      rw [e1] at hc1' hc2' hc3'
      clear e1
      cases hf : p (bitA l k)
      · have HF : Hid (∀ j, j < k + 1 → p (bitA l j) = false) := fun j hj => by
          by_cases e : j = k
          · rw [e]; exact hf
          · exact hno.out j (by omega)
        rw [show ((bitA l k).1, (bitA l k).2.1, (bitA l k).2.2) = bitA l k from rfl, hf] at hcall
        clear hf hno HA
        generalize (bitA l k).1 = x at *
        generalize (bitA l k).2.1 = y at *
        generalize (bitA l k).2.2 = z at *
        go_wp2_with (go_at_fn g; refine hcall.mono ?_; rintro e w2 ⟨rfl, hb2⟩)
        go_roundw
        case rel => exact ⟨k + 1, by omega, by go_num, HF, hb.trans (hb2.mono hb.size)⟩
        case measure => simp [intOf]; omega
      · have HF : Hid (IdxB p l k) := Or.inl ⟨k, rfl, hkl, hf⟩
        rw [show ((bitA l k).1, (bitA l k).2.1, (bitA l k).2.2) = bitA l k from rfl, hf] at hcall
        clear hf hno HA
        generalize (bitA l k).1 = x at *
        generalize (bitA l k).2.1 = y at *
        generalize (bitA l k).2.2 = z at *
        go_wp2_with (go_at_fn g; refine hcall.mono ?_; rintro e w2 ⟨rfl, hb2⟩)
        go_ret
        exact ⟨⟨_, rfl, HF.out⟩, hb.trans (hb2.mono hb.size)⟩
    · clear hc
      have HF : Hid (IdxB p l (-1)) := Or.inr ⟨rfl, fun j hj => hno.out j (by omega)⟩
      go_wp2
      go_ret
      exact ⟨⟨_, rfl, HF.out⟩, hb⟩
theorem idxB_any {p : BitZ → Bool} {l : List BitZ} {r : Int} (h : IdxB p l r) : decide (0 ≤ r) = anyB p l := by
  rcases h with ⟨k, rfl, hk, hp⟩ | ⟨rfl, h⟩
  · rw [anyB_hit hk hp]; simp
  · rw [anyB_miss h]; rfl
set_option maxRecDepth 100000 in
theorem containsB_any (g : Nat) (cap : Array Value) (p : BitZ → Bool) (v : Value) (l : List BitZ) (w : World) (hp : PredB g cap p w) (hc : BitsAt w v l) :
    Calls Try.prog 46 #[v, .func (.func g) #[] cap] w fun e w' => e = .returned (.bool (anyB p l)) ∧ Below w.heap.size w w' := by
  have hix := indexB_any g cap p v l w hp hc
  clear hp
  obtain ⟨hl, a, c, rfl, hc⟩ := hc
  clear hc
  go_enter Try.func46, Try.ntmps46
  go_wp2_with (go_at_call 69; refine hix.mono ?_; clear hix; rintro e w2 ⟨⟨r, rfl, hF⟩, hb2⟩; have HF : Hid (decide (0 ≤ r) = anyB p l) := idxB_any hF; clear hF)
  go_ret
  exact ⟨ret_bool HF.out, hb2⟩

theorem bnErr_full {l : List BitZ} {hands : Int} (h : 600 < l.length) : bnErr l hands = 4 := if_pos h
theorem bnErr_hands {l : List BitZ} {hands : Int} (h : ¬ 600 < l.length) (h1 : hands < 1 ∨ 6 < hands) : bnErr l hands = 1 := by unfold bnErr; rw [if_neg h, if_pos h1]
theorem bnErr_any {l : List BitZ} {hands : Int} (h : ¬ 600 < l.length) (h1 : ¬ (hands < 1 ∨ 6 < hands)) : bnErr l hands = if anyB (badBit hands) l = true then 1 else 0 := by unfold bnErr; rw [if_neg h, if_neg h1]
theorem bnErr_zero {l : List BitZ} {hands : Int} (h : bnErr l hands = 0) : l.length ≤ 600 ∧ 1 ≤ hands ∧ hands ≤ 6 ∧ ∀ k, k < l.length → 0 ≤ (bitA l k).1 ∧ (bitA l k).1 ≤ 10000 ∧ 0 ≤ (bitA l k).2.1 ∧ (bitA l k).2.1 < hands ∧ 0 ≤ (bitA l k).2.2 ∧ (bitA l k).2.2 < 30 := by
  by_cases hl : 600 < l.length
  · rw [bnErr_full hl] at h; cases h
  · by_cases h1 : hands < 1 ∨ 6 < hands
    · rw [bnErr_hands hl h1] at h; cases h
    · rw [bnErr_any hl h1] at h
      refine ⟨by omega, by omega, by omega, fun k hk => ?_⟩
      cases e : anyB (badBit hands) l with
      | true => rw [e] at h; cases h
      | false =>
        have := anyB_none e k hk
        unfold badBit belowB at this
        simp at this
        omega
set_option maxRecDepth 100000 in
set_option maxHeartbeats 2000000 in
theorem bcheck_any (v : Value) (l : List BitZ) (hands : Int) (w : World) (hg : BitsAt w v l) :
    Calls Try.prog 24 #[v, .int .i64 hands] w fun e w' => e = .returned (errV (bnErr l hands)) ∧ Below w.heap.size w w' := by
  have HBX : Hid (Below w.heap.size w (w.alloc (.cells #[.int .i64 hands] 3))) := (Below.refl _ _).alloc (Nat.le_refl _) _
  have hcl : (w.alloc (.cells #[.int .i64 hands] 3)).cell? ⟨w.heap.size, 0, none⟩ = some (.int .i64 hands) := by
    unfold World.cell?
    dsimp only
    rw [blk_alloc_new]
    rfl
  have hct := containsB_any 44 #[.pointer (some ⟨w.heap.size, 0, none⟩)] (badBit hands) v l (w.alloc (.cells #[.int .i64 hands] 3)) ⟨bit_enters, fun x y z wx hx => closure_bit x y z hands _ wx ((hx.cell (p := ⟨w.heap.size, 0, none⟩) (by show w.heap.size < _; simp)).trans hcl) (by show w.heap.size < _; have := hx.size; simp at this; omega)⟩ (hg.later HBX.out)
  obtain ⟨hl, a, c, rfl, hg⟩ := hg
  clear hg
  by_cases h6 : 600 < l.length
  · have hfi : (600 : Int) < (l.length : Int) := by omega
    rw [bnErr_full h6]
    clear hct
    go_enter Try.func24, Try.ntmps24
    go_wp2
    go_ret
    exact ⟨rfl, HBX.out⟩
  · have hfi : ¬ (600 : Int) < (l.length : Int) := by omega
    by_cases h1 : hands < 1
    · rw [bnErr_hands h6 (Or.inl h1)]
      clear hct
      go_enter Try.func24, Try.ntmps24
      go_wp2
      go_ret
      exact ⟨rfl, HBX.out⟩
    · by_cases h2 : 6 < hands
      · rw [bnErr_hands h6 (Or.inr h2)]
        clear hct
        go_enter Try.func24, Try.ntmps24
        go_wp2
        go_ret
        exact ⟨rfl, HBX.out⟩
      · rw [bnErr_any h6 (by omega)]
        generalize anyB (badBit hands) l = bb at *
        have HB2 : Hid (∀ w2, Below (w.alloc (.cells #[.int .i64 hands] 3)).heap.size (w.alloc (.cells #[.int .i64 hands] 3)) w2 → Below w.heap.size w w2) := fun w2 h => HBX.out.trans (h.mono (by simp))
        cases bb
        all_goals
          go_enter Try.func24, Try.ntmps24
          go_wp2_with (go_at_call 46; refine hct.mono ?_; clear hct; rintro e w2 ⟨rfl, hb2⟩)
          go_ret
          exact ⟨rfl, HB2.out _ hb2⟩
end Go.Proofs.Ytkcpimbhfmhjgaa

namespace Go.Proofs.Ytkcpimbhfmhjgaa
open Go.RowKit Go.Deep

/-- Steps up to the last one, of the first k. -/
def stepsZ (l : List BitZ) : Nat → Nat
  | 0 => 0
  | k + 1 => max (stepsZ l k) ((bitA l k).1 + 1).toNat
/-- How many of the first k are of j. -/
def cntZ (f : BitZ → Int) (l : List BitZ) : Nat → Nat → Int
  | 0, _ => 0
  | k + 1, j => cntZ f l k j + if f (bitA l k) = j then 1 else 0
theorem stepsZ_le (l : List BitZ) (n : Nat) (h : ∀ k, k < n → (bitA l k).1 ≤ 10000) : ∀ k, k ≤ n → stepsZ l k ≤ 10001 := by
  intro k
  induction k with
  | zero => intro _; show 0 ≤ 10001; omega
  | succ k ih =>
    intro hk
    have h1 := ih (by omega)
    have h2 := h k (by omega)
    show max (stepsZ l k) ((bitA l k).1 + 1).toNat ≤ 10001
    omega
theorem stepsZ_lt (l : List BitZ) (n : Nat) : ∀ k, k < n → (bitA l k).1 < stepsZ l n := by
  induction n with
  | zero => intro k hk; omega
  | succ n ih =>
    intro k hk
    show (bitA l k).1 < ((max (stepsZ l n) ((bitA l n).1 + 1).toNat : Nat) : Int)
    by_cases e : k = n
    · subst e; omega
    · have := ih k (by omega); omega
theorem cntZ_bound (f : BitZ → Int) (l : List BitZ) (j : Nat) : ∀ k, 0 ≤ cntZ f l k j ∧ cntZ f l k j ≤ k := by
  intro k
  induction k with
  | zero => exact ⟨Int.le_refl _, by show (0 : Int) ≤ _; omega⟩
  | succ k ih =>
    unfold cntZ
    split <;> omega

set_option maxRecDepth 100000 in
set_option maxHeartbeats 2000000 in
theorem bsteps_any (v : Value) (l : List BitZ) (w : World) (hg : BitsAt w v l) (hk : ∀ k, k < l.length → 0 ≤ (bitA l k).1 ∧ (bitA l k).1 ≤ 10000) :
    Calls Try.prog 25 #[v] w fun e w' => e = .returned (.int .i64 (stepsZ l l.length)) ∧ Below w.heap.size w w' := by
  have HS : Hid (∀ k, k ≤ l.length → stepsZ l k ≤ 10001) := stepsZ_le l l.length (fun k h => (hk k h).2)
  have HK : Hid (∀ k, k < l.length → 0 ≤ (bitA l k).1 ∧ (bitA l k).1 ≤ 10000) := hk
  clear hk
  obtain ⟨hl, a, c, rfl, hc⟩ := hg
  go_enter Try.func25, Try.ntmps25
  go_wp2
  go_loopw [3, 8] (fun s3 s8 wr => ∃ k : Nat, k ≤ l.length ∧ s8 = .int .i64 k ∧ s3 = .int .i64 (stepsZ l k) ∧ Below w.heap.size w wr) (fun _ s8 _ => l.length - (intOf s8).toNat)
  case atStart => exact ⟨0, Nat.zero_le _, rfl, rfl, Below.refl _ _⟩
  case round =>
    obtain ⟨k, hkn, rfl, rfl, hb⟩ := hrel
    by_cases hkl : k < l.length
    · rcases hc with rfl | ⟨b, o, rfl, hbl, hc⟩
      · simp at hkl
      obtain ⟨hc1, hc2, hc3⟩ := hc k hkl
      have hc1' := (hb.cell (p := ⟨b, o + k * 3, none⟩) hbl).trans hc1
      have hc2' := (hb.cell (p := ⟨b, o + k * 3 + 1, none⟩) hbl).trans hc2
      have hc3' := (hb.cell (p := ⟨b, o + k * 3 + 2, none⟩) hbl).trans hc3
      clear hc hc1 hc2 hc3
      have e1 : (l.getD k (0, 0, 0)) = bitA l k := rfl
      rw [e1] at hc1' hc2' hc3'
      clear e1
      obtain ⟨hx0, hx1⟩ := HK.out k hkl
      have hsk := HS.out k hkn
      have hmx : max ((stepsZ l k : Nat) : Int) ((bitA l k).1 + 1) = ((stepsZ l (k + 1) : Nat) : Int) := by
        show _ = ((max (stepsZ l k) ((bitA l k).1 + 1).toNat : Nat) : Int)
        omega
      generalize (bitA l k).1 = x at *
      generalize (bitA l k).2.1 = y at *
      generalize (bitA l k).2.2 = z at *
      obtain ⟨n2, hn2⟩ : ∃ n2, n2 = stepsZ l (k + 1) := ⟨_, rfl⟩
      have HN2 : Hid (n2 = stepsZ l (k + 1)) := hn2
      rw [← hn2] at hmx
      clear hn2
      generalize stepsZ l k = n1 at *
      go_wp2
      go_roundw
      case rel => exact ⟨k + 1, by omega, by go_num, by rw [HN2.out], hb.alloc hb.size _⟩
      case measure => simp [intOf]; omega
    · have hke : k = l.length := by omega
      have HE : Hid (stepsZ l k = stepsZ l l.length) := by show _ = _; rw [hke]
      clear hc hke
      generalize stepsZ l k = n1 at *
      go_wp2
      go_ret
      exact ⟨by rw [← HE.out]; rfl, hb⟩

/-- What is asked of a function from bits to numbers. -/
def FunB (g : Nat) (f : BitZ → Int) : Prop :=
  (∀ args w, (callFunc g args).run Try.prog w = .ok (.enter g args) w) ∧ ∀ x y z w, Calls Try.prog g #[.agg #[.int .i64 x, .int .i64 y, .int .i64 z]] w fun e w' => e = .returned (.int .i64 (f (x, y, z))) ∧ Below w.heap.size w w'
/-- What a count has in memory. -/
structure CntM (N n : Nat) (w wr : World) (F : Nat → Int) : Prop where
  row : wr.rowIs N 3 n (fun j => .int .i64 (F j))
  below : Below N w wr
theorem CntM.later {N n : Nat} {w wr w' : World} {F : Nat → Int} (h : CntM N n w wr F) (hb : Below wr.heap.size wr w') : CntM N n w w' F :=
  ⟨h.row.of_block (hb.block _ h.row.lt), h.below.trans (hb.mono (Nat.le_of_lt h.row.lt))⟩
theorem CntM.set {N n : Nat} {w wr : World} {F : Nat → Int} (h : CntM N n w wr F) (x : Nat) (u : Int) {F' : Nat → Int} (hF : ∀ j, j < n → F' j = if j = x then u else F j) : CntM N n w (wr.setCell ⟨N, x, none⟩ (.int .i64 u)) F' :=
  ⟨(h.row.set x (.int .i64 u)).congr (fun j hj => by rw [hF j hj]; split <;> rfl), h.below.setCell (p := ⟨N, x, none⟩) (Nat.le_refl _) _⟩
theorem Try.infoIntB : (Try.prog.info? 3).map (fun i => (i.zero, i.size, i.bytes)) = some (some (.int .i64 0), 1, 8) := by kernel_rfl
/-- Numbers: how many there are of each. -/
def cntL (f : BitZ → Int) (l : List BitZ) (many : Nat) : List Int := (List.range many).map (fun j => cntZ f l l.length j)
theorem cntL_length (f : BitZ → Int) (l : List BitZ) (many : Nat) : (cntL f l many).length = many := by simp [cntL]
theorem cntL_getD (f : BitZ → Int) (l : List BitZ) {many j : Nat} (h : j < many) : (cntL f l many).getD j 0 = cntZ f l l.length j := by simp [cntL, h]
theorem CntM.ints {N n : Nat} {w wr : World} {f : BitZ → Int} {l : List BitZ} (h : CntM N n w wr (fun j => cntZ f l l.length j)) (hn : n ≤ 10001) : IntsAt wr (.slice (some ⟨N, 0, none⟩) n n) (cntL f l n) := by
  refine ⟨by rw [cntL_length]; omega, some ⟨N, 0, none⟩, n, by rw [cntL_length], Or.inr ⟨N, 0, rfl, h.row.lt, fun k hk => ?_⟩⟩
  rw [cntL_length] at hk
  rw [cntL_getD f l hk, Nat.zero_add]
  exact h.row.cell hk

/-- Of no fault, or of one: what a call with numbers tells. -/
def BusyOut (l : List BitZ) (hands : Int) (e : Ending) (N : Nat) (w' : World) : Prop :=
  (bnErr l hands ≠ 0 ∧ e = .returned (.tuple #[.slice none 0 0, errV (bnErr l hands)])) ∨
  (bnErr l hands = 0 ∧ ∃ b, e = .returned (.tuple #[.slice (some ⟨b, 0, none⟩) hands.toNat hands.toNat, .nilIface]) ∧ N ≤ b ∧ b < w'.heap.size ∧ w'.rowIs b 3 hands.toNat (fun j => .int .i64 (cntZ (fun b => b.2.1) l l.length j)))
def RowOut (l : List BitZ) (e : Ending) (N : Nat) (w' : World) : Prop :=
  (bnErr l 6 ≠ 0 ∧ e = .returned (.tuple #[.slice none 0 0, errV (bnErr l 6)])) ∨
  (bnErr l 6 = 0 ∧ ∃ b, e = .returned (.tuple #[.slice (some ⟨b, 0, none⟩) (stepsZ l l.length) (stepsZ l l.length), .nilIface]) ∧ N ≤ b ∧ b < w'.heap.size ∧ w'.rowIs b 3 (stepsZ l l.length) (fun j => .int .i64 (cntZ (fun b => b.1) l l.length j)))
/-- What Waste tells. -/
def wasteZ (l : List BitZ) (hands : Int) : Int := if bnErr l hands = 0 then hands * (stepsZ l l.length : Int) - l.length else 0
theorem waste_mul {hands : Int} {s : Nat} (h1 : 1 ≤ hands) (h6 : hands ≤ 6) (hs : s ≤ 10001) : 0 ≤ hands * (s : Int) ∧ hands * (s : Int) ≤ 60006 := by
  have : hands = 1 ∨ hands = 2 ∨ hands = 3 ∨ hands = 4 ∨ hands = 5 ∨ hands = 6 := by omega
  rcases this with rfl | rfl | rfl | rfl | rfl | rfl <;> omega
set_option maxRecDepth 100000 in
set_option maxHeartbeats 2000000 in
theorem waste_any (v : Value) (l : List BitZ) (hands : Int) (w : World) (hg : BitsAt w v l) :
    Calls Try.prog 10 #[v, .int .i64 hands] w fun e w' => e = .returned (.tuple #[.int .i64 (wasteZ l hands), errV (bnErr l hands)]) ∧ Below w.heap.size w w' := by
  have HG : Hid (BitsAt w v l) := hg
  have hck := bcheck_any v l hands w hg
  obtain ⟨hl, a, c, rfl, hc⟩ := hg
  clear hc
  by_cases hq : bnErr l hands = 0
  · obtain ⟨h600, h1, h6, hb⟩ := bnErr_zero hq
    have HS : Hid (∀ wx, Below w.heap.size w wx → Calls Try.prog 25 #[.slice a l.length c] wx fun e w' => e = .returned (.int .i64 (stepsZ l l.length)) ∧ Below wx.heap.size wx w') := fun wx hx => bsteps_any _ l wx (HG.out.later hx) (fun k hk => ⟨(hb k hk).1, (hb k hk).2.1⟩)
    have hsl := stepsZ_le l l.length (fun k hk => (hb k hk).2.1) l.length (Nat.le_refl _)
    have hml := waste_mul h1 h6 hsl
    have HE : Hid (wasteZ l hands = hands * (stepsZ l l.length : Int) - l.length) := if_pos hq
    rw [hq, errV_zero] at hck ⊢
    rw [HE.out]
    clear hq hb HE
    generalize stepsZ l l.length = st at *
    generalize hpr : hands * (st : Int) = pr at *
    go_enter Try.func10, Try.ntmps10
    go_wp2_with fail
    refine hck.mono ?_
    clear hck
    rintro e w1 ⟨rfl, hb1⟩
    have hst := HS.out w1 hb1
    have HB1 : Hid (Below w.heap.size w w1) := hb1
    clear HS hb1
    go_wp2_with (go_at_call 25; refine hst.mono ?_; clear hst; rintro e w2 ⟨rfl, hb2⟩; have HB2 : Hid (Below w.heap.size w w2) := HB1.out.trans (hb2.mono HB1.out.size); clear hb2)
    go_ret2
    exact ⟨rfl, HB2.out⟩
  · have hev := errV_some hq
    rw [show wasteZ l hands = 0 from if_neg hq]
    rw [hev] at hck ⊢
    clear hq hev
    generalize bnErr l hands = g at *
    go_enter Try.func10, Try.ntmps10
    go_wp2_with fail
    refine hck.mono ?_
    clear hck
    rintro e w1 ⟨rfl, hb1⟩
    go_wp2
    go_ret2
    exact ⟨rfl, hb1⟩
end Go.Proofs.Ytkcpimbhfmhjgaa
