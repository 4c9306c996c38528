/- How many steps; how many bits are of each; the contracts of bench.steps, count, Busy, Row, Waste. -/
import Derived.Test.YtilpjhhjlokfcaaDoorBna
import Derived.Lib.MinMax
namespace Go.Proofs.YtilpjhhjlokfcaaDoor
open Go.RowKit Go.Deep

/-- Steps up to the last one, of the first k. -/
def stepsZ (l : List BitZ) : Nat → Nat
  | 0 => 0
  | k + 1 => max (stepsZ l k) ((bitA l k).1 + 1).toNat
/-- How many of the first k are of j. -/
def cntZ (f : BitZ → Int) (l : List BitZ) : Nat → Nat → Int
  | 0, _ => 0
  | k + 1, j => cntZ f l k j + if f (bitA l k) = j then 1 else 0
theorem stepsZ_le (l : List BitZ) (n : Nat) (h : ∀ k, k < n → (bitA l k).1 ≤ 10000) : ∀ k, k ≤ n → stepsZ l k ≤ 10001 := by
  intro k
  induction k with
  | zero => intro _; show 0 ≤ 10001; omega
  | succ k ih =>
    intro hk
    have h1 := ih (by omega)
    have h2 := h k (by omega)
    show max (stepsZ l k) ((bitA l k).1 + 1).toNat ≤ 10001
    omega
theorem stepsZ_lt (l : List BitZ) (n : Nat) : ∀ k, k < n → (bitA l k).1 < stepsZ l n := by
  induction n with
  | zero => intro k hk; omega
  | succ n ih =>
    intro k hk
    show (bitA l k).1 < ((max (stepsZ l n) ((bitA l n).1 + 1).toNat : Nat) : Int)
    by_cases e : k = n
    · subst e; omega
    · have := ih k (by omega); omega
theorem cntZ_bound (f : BitZ → Int) (l : List BitZ) (j : Nat) : ∀ k, 0 ≤ cntZ f l k j ∧ cntZ f l k j ≤ k := by
  intro k
  induction k with
  | zero => exact ⟨Int.le_refl _, by show (0 : Int) ≤ _; omega⟩
  | succ k ih =>
    unfold cntZ
    split <;> omega

set_option maxRecDepth 100000 in
set_option maxHeartbeats 2000000 in
theorem bsteps_any (v : Value) (l : List BitZ) (w : World) (hg : BitsAt w v l) (hk : ∀ k, k < l.length → 0 ≤ (bitA l k).1 ∧ (bitA l k).1 ≤ 10000) :
    Calls Tryd.prog 19 #[v] w fun e w' => e = .returned (.int .i64 (stepsZ l l.length)) ∧ Below w.heap.size w w' := by
  have HS : Hid (∀ k, k ≤ l.length → stepsZ l k ≤ 10001) := stepsZ_le l l.length (fun k h => (hk k h).2)
  have HK : Hid (∀ k, k < l.length → 0 ≤ (bitA l k).1 ∧ (bitA l k).1 ≤ 10000) := hk
  clear hk
  obtain ⟨hl, a, c, rfl, hc⟩ := hg
  go_enter Tryd.func19, Tryd.ntmps19
  go_wp2
  go_loopw [3, 8] (fun s3 s8 wr => ∃ k : Nat, k ≤ l.length ∧ s8 = .int .i64 k ∧ s3 = .int .i64 (stepsZ l k) ∧ Below w.heap.size w wr) (fun _ s8 _ => l.length - (intOf s8).toNat)
  case atStart => exact ⟨0, Nat.zero_le _, rfl, rfl, Below.refl _ _⟩
  case round =>
    obtain ⟨k, hkn, rfl, rfl, hb⟩ := hrel
    by_cases hkl : k < l.length
    · rcases hc with rfl | ⟨b, o, rfl, hbl, hc⟩
      · simp at hkl
      obtain ⟨hc1, hc2, hc3⟩ := hc k hkl
      have hc1' := (hb.cell (p := ⟨b, o + k * 3, none⟩) hbl).trans hc1
      have hc2' := (hb.cell (p := ⟨b, o + k * 3 + 1, none⟩) hbl).trans hc2
      have hc3' := (hb.cell (p := ⟨b, o + k * 3 + 2, none⟩) hbl).trans hc3
      clear hc hc1 hc2 hc3
      have e1 : (l.getD k (0, 0, 0)) = bitA l k := rfl
      rw [e1] at hc1' hc2' hc3'
      clear e1
      obtain ⟨hx0, hx1⟩ := HK.out k hkl
      have hsk := HS.out k hkn
      have hmx : max ((stepsZ l k : Nat) : Int) ((bitA l k).1 + 1) = ((stepsZ l (k + 1) : Nat) : Int) := by
        show _ = ((max (stepsZ l k) ((bitA l k).1 + 1).toNat : Nat) : Int)
        omega
      generalize (bitA l k).1 = x at *
      generalize (bitA l k).2.1 = y at *
      generalize (bitA l k).2.2 = z at *
      obtain ⟨n2, hn2⟩ : ∃ n2, n2 = stepsZ l (k + 1) := ⟨_, rfl⟩
      have HN2 : Hid (n2 = stepsZ l (k + 1)) := hn2
      rw [← hn2] at hmx
      clear hn2
      generalize stepsZ l k = n1 at *
      go_wp2
      go_roundw
      case rel => exact ⟨k + 1, by omega, by go_num, by rw [HN2.out], hb.alloc hb.size _⟩
      case measure => simp [intOf]; omega
    · have hke : k = l.length := by omega
      have HE : Hid (stepsZ l k = stepsZ l l.length) := by show _ = _; rw [hke]
      clear hc hke
      generalize stepsZ l k = n1 at *
      go_wp2
      go_ret
      exact ⟨by rw [← HE.out]; rfl, hb⟩

/-- What is asked of a function from bits to numbers. -/
def FunB (g : Nat) (f : BitZ → Int) : Prop :=
  (∀ args w, (callFunc g args).run Tryd.prog w = .ok (.enter g args) w) ∧ ∀ x y z w, Calls Tryd.prog g #[.agg #[.int .i64 x, .int .i64 y, .int .i64 z]] w fun e w' => e = .returned (.int .i64 (f (x, y, z))) ∧ Below w.heap.size w w'
set_option maxRecDepth 100000 in
theorem handB_any : FunB 17 (fun b => b.2.1) := by
  refine ⟨enters_of Tryd.func17 (by kernel_rfl) rfl, fun x y z w => ?_⟩
  have HB : Hid (∀ q, Below w.heap.size w ((w.alloc (.cells #[.int .i64 x, .int .i64 y, .int .i64 z] 28)).drewN q)) := fun q => ((Below.refl _ _).alloc (Nat.le_refl _) _).trans ((drawn_belowB _ q).mono (by simp))
  go_enter Tryd.func17, Tryd.ntmps17
  go_wp2
  go_ret
  exact ⟨rfl, HB.out 0⟩
set_option maxRecDepth 100000 in
theorem stepB_any : FunB 20 (fun b => b.1) := by
  refine ⟨enters_of Tryd.func20 (by kernel_rfl) rfl, fun x y z w => ?_⟩
  have HB : Hid (∀ q, Below w.heap.size w ((w.alloc (.cells #[.int .i64 x, .int .i64 y, .int .i64 z] 28)).drewN q)) := fun q => ((Below.refl _ _).alloc (Nat.le_refl _) _).trans ((drawn_belowB _ q).mono (by simp))
  go_enter Tryd.func20, Tryd.ntmps20
  go_wp2
  go_ret
  exact ⟨rfl, HB.out 0⟩

/-- What a count has in memory. -/
structure CntM (N n : Nat) (w wr : World) (F : Nat → Int) : Prop where
  row : wr.rowIs N 3 n (fun j => .int .i64 (F j))
  below : Below N w wr
theorem CntM.later {N n : Nat} {w wr w' : World} {F : Nat → Int} (h : CntM N n w wr F) (hb : Below wr.heap.size wr w') : CntM N n w w' F :=
  ⟨h.row.of_block (hb.block _ h.row.lt), h.below.trans (hb.mono (Nat.le_of_lt h.row.lt))⟩
theorem CntM.set {N n : Nat} {w wr : World} {F : Nat → Int} (h : CntM N n w wr F) (x : Nat) (u : Int) {F' : Nat → Int} (hF : ∀ j, j < n → F' j = if j = x then u else F j) : CntM N n w (wr.setCell ⟨N, x, none⟩ (.int .i64 u)) F' :=
  ⟨(h.row.set x (.int .i64 u)).congr (fun j hj => by rw [hF j hj]; split <;> rfl), h.below.setCell (p := ⟨N, x, none⟩) (Nat.le_refl _) _⟩
theorem Tryd.infoIntB : (Tryd.prog.info? 3).map (fun i => (i.zero, i.size, i.bytes)) = some (some (.int .i64 0), 1, 8) := by kernel_rfl
set_option maxRecDepth 100000 in
set_option maxHeartbeats 4000000 in
theorem bcount_any (g : Nat) (f : BitZ → Int) (hf : FunB g f) (v : Value) (l : List BitZ) (many : Nat) (w : World) (hg : BitsAt w v l) (h600 : l.length ≤ 600) (hm : many ≤ 10001) (hr : ∀ k, k < l.length → 0 ≤ f (bitA l k) ∧ f (bitA l k) < many) :
    Calls Tryd.prog 16 #[v, .int .i64 many, .func (.func g) #[] #[]] w fun e w' => e = .returned (.slice (some ⟨w.heap.size, 0, none⟩) many many) ∧ CntM w.heap.size many w w' (fun j => cntZ f l l.length j) := by
  have HR : Hid (∀ k, k < l.length → 0 ≤ f (bitA l k) ∧ f (bitA l k) < many) := hr
  have HG : Hid (BitsAt w v l) := hg
  obtain ⟨ef, hp⟩ := hf
  have HP : Hid (∀ x y z w, Calls Tryd.prog g #[.agg #[.int .i64 x, .int .i64 y, .int .i64 z]] w fun e w' => e = .returned (.int .i64 (f (x, y, z))) ∧ Below w.heap.size w w') := hp
  obtain ⟨hl, a, c, rfl, hc⟩ := hg
  have hmk := fun wx => run_make_row' (P := Tryd.prog) 26 3 (.int .i64 0) 8 Tryd.underlying26 Tryd.infoIntB rfl .i64 .i64 many (by omega) (by omega) wx
  have HM0 : Hid (CntM w.heap.size many w (w.alloc (.cells (madeCells #[.int .i64 0] many) 3)) (fun j => cntZ f l 0 j)) :=
    ⟨(World.rowIs_made w (.int .i64 0) many 3).congr (fun k _ => rfl), (Below.refl _ _).alloc (Nat.le_refl _) _⟩
  clear hp hr
  go_enter Tryd.func16, Tryd.ntmps16
  go_wp2
  clear hmk
  obtain ⟨N, hN⟩ : ∃ N, N = w.heap.size := ⟨_, rfl⟩
  have HN : Hid (N = w.heap.size) := hN
  rw [← hN] at HM0 hc ⊢
  clear hN
  go_loopw [14] (fun s14 wr => ∃ k : Nat, k ≤ l.length ∧ s14 = .int .i64 k ∧ Hid (CntM N many w wr (fun j => cntZ f l k j))) (fun s14 _ => l.length - (intOf s14).toNat)
  case atStart => exact ⟨0, Nat.zero_le _, rfl, HM0⟩
  case round =>
    clear HM0
    obtain ⟨k, hkn, rfl, hM⟩ := hrel
    by_cases hkl : k < l.length
    · rcases hc with rfl | ⟨b, o, rfl, hbl, hc⟩
      · simp at hkl
      obtain ⟨hc1, hc2, hc3⟩ := hc k hkl
      have hc1' := (hM.out.below.cell (p := ⟨b, o + k * 3, none⟩) hbl).trans hc1
      have hc2' := (hM.out.below.cell (p := ⟨b, o + k * 3 + 1, none⟩) hbl).trans hc2
      have hc3' := (hM.out.below.cell (p := ⟨b, o + k * 3 + 2, none⟩) hbl).trans hc3
      clear hc hc1 hc2 hc3
      have e1 : (l.getD k (0, 0, 0)) = bitA l k := rfl
      rw [e1] at hc1' hc2' hc3'
      clear e1
      obtain ⟨hf0, hf1⟩ := HR.out k hkl
      have hcall := HP.out (bitA l k).1 (bitA l k).2.1 (bitA l k).2.2
      rw [show ((bitA l k).1, (bitA l k).2.1, (bitA l k).2.2) = bitA l k from rfl] at hcall
      obtain ⟨q, hq⟩ : ∃ q : Nat, f (bitA l k) = q := ⟨(f (bitA l k)).toNat, by omega⟩
      have hbd := cntZ_bound f l q k
      have HNX : Hid (∀ j, cntZ f l (k + 1) j = if j = q then cntZ f l k q + 1 else cntZ f l k j) := fun j => by
        show cntZ f l k j + (if f (bitA l k) = j then 1 else 0) = _
        rw [hq]
        by_cases e : j = q
        · subst e; rw [if_pos rfl, if_pos rfl]
        · rw [if_neg e, if_neg (by omega)]; omega
      rw [hq] at hcall hf1
      clear hq hf0
      have hq2 : q < many := by omega
      clear hf1
      have HMA : Hid (CntM N many w (wr.alloc (.cells #[.int .i64 (bitA l k).1, .int .i64 (bitA l k).2.1, .int .i64 (bitA l k).2.2] 28)) (fun j => cntZ f l k j)) := hM.out.later ((Below.refl _ _).alloc (Nat.le_refl _) _)
      clear hM
      obtain ⟨b0, b1, b2⟩ := new_bit wr (bitA l k).1 (bitA l k).2.1 (bitA l k).2.2
      obtain ⟨u, hu⟩ : ∃ u, cntZ f l k q = u := ⟨_, rfl⟩
      have HU : Hid (cntZ f l k q = u) := hu
      rw [hu] at hbd HNX
      clear hu
      generalize (bitA l k).1 = x at *
      generalize (bitA l k).2.1 = y at *
      generalize (bitA l k).2.2 = z at *
      go_wp2_with (go_at_fn g; refine (hcall _).mono ?_; rintro e w4 ⟨rfl, hb4⟩; have hM4 := HMA.out.later hb4; have hc4 : w4.cell? ⟨N, q, none⟩ = some (.int .i64 u) := (hM4.row.cell hq2).trans (by rw [HU.out]); have hf4 := hM4.row.frozen q; have hl4 := hM4.row.lt; have HM4 : Hid (CntM N many w w4 (fun j => cntZ f l k j)) := hM4; clear hM4)
      have HM5 : Hid (CntM N many w (w4.setCell ⟨N, q, none⟩ (.int .i64 (u + 1))) (fun j => cntZ f l (k + 1) j)) := HM4.out.set q (u + 1) (fun j _ => HNX.out j)
      go_roundw
      case rel => exact ⟨k + 1, by omega, by go_num, HM5⟩
      case measure => simp [intOf]; omega
    · have hke : k = l.length := by omega
      have HE : Hid (CntM N many w wr (fun j => cntZ f l l.length j)) := by rw [← hke]; exact hM
      clear hM hc
      go_wp2
      go_ret
      exact ⟨by rw [HN.out]; rfl, by rw [← HN.out]; exact HE.out⟩

/-- Numbers: how many there are of each. -/
def cntL (f : BitZ → Int) (l : List BitZ) (many : Nat) : List Int := (List.range many).map (fun j => cntZ f l l.length j)
theorem cntL_length (f : BitZ → Int) (l : List BitZ) (many : Nat) : (cntL f l many).length = many := by simp [cntL]
theorem cntL_getD (f : BitZ → Int) (l : List BitZ) {many j : Nat} (h : j < many) : (cntL f l many).getD j 0 = cntZ f l l.length j := by simp [cntL, h]
theorem CntM.ints {N n : Nat} {w wr : World} {f : BitZ → Int} {l : List BitZ} (h : CntM N n w wr (fun j => cntZ f l l.length j)) (hn : n ≤ 10001) : IntsAt wr (.slice (some ⟨N, 0, none⟩) n n) (cntL f l n) := by
  refine ⟨by rw [cntL_length]; omega, some ⟨N, 0, none⟩, n, by rw [cntL_length], Or.inr ⟨N, 0, rfl, h.row.lt, fun k hk => ?_⟩⟩
  rw [cntL_length] at hk
  rw [cntL_getD f l hk, Nat.zero_add]
  exact h.row.cell hk

/-- Of no fault, or of one: what a call with numbers tells. -/
def BusyOut (l : List BitZ) (hands : Int) (e : Ending) (N : Nat) (w' : World) : Prop :=
  (bnErr l hands ≠ 0 ∧ e = .returned (.tuple #[.slice none 0 0, errV (bnErr l hands)])) ∨
  (bnErr l hands = 0 ∧ ∃ b, e = .returned (.tuple #[.slice (some ⟨b, 0, none⟩) hands.toNat hands.toNat, .nilIface]) ∧ N ≤ b ∧ b < w'.heap.size ∧ w'.rowIs b 3 hands.toNat (fun j => .int .i64 (cntZ (fun b => b.2.1) l l.length j)))
set_option maxRecDepth 100000 in
set_option maxHeartbeats 2000000 in
theorem busy_any (v : Value) (l : List BitZ) (hands : Int) (w : World) (hg : BitsAt w v l) :
    Calls Tryd.prog 5 #[v, .int .i64 hands] w fun e w' => BusyOut l hands e w.heap.size w' ∧ Below w.heap.size w w' := by
  have HG : Hid (BitsAt w v l) := hg
  have hck := bcheck_any v l hands w hg
  obtain ⟨hl, a, c, rfl, hc⟩ := hg
  clear hc
  by_cases hq : bnErr l hands = 0
  · have HQ : Hid (bnErr l hands = 0) := hq
    obtain ⟨h600, h1, h6, hb⟩ := bnErr_zero hq
    have HC : Hid (∀ wx, Below w.heap.size w wx → Calls Tryd.prog 16 #[.slice a l.length c, .int .i64 hands, .func (.func 17) #[] #[]] wx fun e w' => e = .returned (.slice (some ⟨wx.heap.size, 0, none⟩) hands.toNat hands.toNat) ∧ CntM wx.heap.size hands.toNat wx w' (fun j => cntZ (fun b => b.2.1) l l.length j)) := fun wx hx => by
      have := bcount_any 17 (fun b => b.2.1) handB_any _ l hands.toNat wx (HG.out.later hx) h600 (by omega) (fun k hk => by have := hb k hk; exact ⟨this.2.2.1, by omega⟩)
      rwa [show ((hands.toNat : Nat) : Int) = hands by omega] at this
    rw [hq, errV_zero] at hck
    clear hq hb
    go_enter Tryd.func5, Tryd.ntmps5
    go_wp2_with fail
    refine hck.mono ?_
    clear hck
    rintro e w1 ⟨rfl, hb1⟩
    have hct := HC.out w1 hb1
    clear HC
    go_wp2_with (go_at_call 16; refine hct.mono ?_; clear hct; rintro e w2 ⟨rfl, hM⟩; have HM : Hid (CntM w1.heap.size hands.toNat w1 w2 (fun j => cntZ (fun b => b.2.1) l l.length j)) := hM; clear hM)
    go_ret2
    exact ⟨Or.inr ⟨HQ.out, _, rfl, hb1.size, HM.out.row.lt, HM.out.row⟩, hb1.trans (HM.out.below.mono hb1.size)⟩
  · have HF : Hid (∀ u, u = errV (bnErr l hands) → BusyOut l hands (.returned (.tuple #[.slice none 0 0, u])) w.heap.size w) := fun u hu => Or.inl ⟨hq, by rw [hu]⟩
    have HF2 : Hid (∀ w', BusyOut l hands (.returned (.tuple #[.slice none 0 0, errV (bnErr l hands)])) w.heap.size w') := fun w' => Or.inl ⟨hq, rfl⟩
    have hev := errV_some hq
    rw [hev] at hck HF2
    clear hq hev HF
    generalize bnErr l hands = g at *
    go_enter Tryd.func5, Tryd.ntmps5
    go_wp2_with fail
    refine hck.mono ?_
    clear hck
    rintro e w1 ⟨rfl, hb1⟩
    go_wp2
    go_ret2
    exact ⟨HF2.out _, hb1⟩

def RowOut (l : List BitZ) (e : Ending) (N : Nat) (w' : World) : Prop :=
  (bnErr l 6 ≠ 0 ∧ e = .returned (.tuple #[.slice none 0 0, errV (bnErr l 6)])) ∨
  (bnErr l 6 = 0 ∧ ∃ b, e = .returned (.tuple #[.slice (some ⟨b, 0, none⟩) (stepsZ l l.length) (stepsZ l l.length), .nilIface]) ∧ N ≤ b ∧ b < w'.heap.size ∧ w'.rowIs b 3 (stepsZ l l.length) (fun j => .int .i64 (cntZ (fun b => b.1) l l.length j)))
set_option maxRecDepth 100000 in
set_option maxHeartbeats 2000000 in
theorem brow_any (v : Value) (l : List BitZ) (w : World) (hg : BitsAt w v l) :
    Calls Tryd.prog 9 #[v] w fun e w' => RowOut l e w.heap.size w' ∧ Below w.heap.size w w' := by
  have HG : Hid (BitsAt w v l) := hg
  have hck := bcheck_any v l 6 w hg
  obtain ⟨hl, a, c, rfl, hc⟩ := hg
  clear hc
  by_cases hq : bnErr l 6 = 0
  · have HQ : Hid (bnErr l 6 = 0) := hq
    obtain ⟨h600, h1, h6, hb⟩ := bnErr_zero hq
    have HS : Hid (∀ wx, Below w.heap.size w wx → Calls Tryd.prog 19 #[.slice a l.length c] wx fun e w' => e = .returned (.int .i64 (stepsZ l l.length)) ∧ Below wx.heap.size wx w') := fun wx hx => bsteps_any _ l wx (HG.out.later hx) (fun k hk => ⟨(hb k hk).1, (hb k hk).2.1⟩)
    have hsl := stepsZ_le l l.length (fun k hk => (hb k hk).2.1) l.length (Nat.le_refl _)
    have HC : Hid (∀ wx, Below w.heap.size w wx → Calls Tryd.prog 16 #[.slice a l.length c, .int .i64 (stepsZ l l.length), .func (.func 20) #[] #[]] wx fun e w' => e = .returned (.slice (some ⟨wx.heap.size, 0, none⟩) (stepsZ l l.length) (stepsZ l l.length)) ∧ CntM wx.heap.size (stepsZ l l.length) wx w' (fun j => cntZ (fun b => b.1) l l.length j)) := fun wx hx =>
      bcount_any 20 (fun b => b.1) stepB_any _ l (stepsZ l l.length) wx (HG.out.later hx) h600 hsl (fun k hk => ⟨(hb k hk).1, stepsZ_lt l l.length k hk⟩)
    have HF : Hid (∀ N w' b, N ≤ b → b < w'.heap.size → w'.rowIs b 3 (stepsZ l l.length) (fun j => .int .i64 (cntZ (fun b => b.1) l l.length j)) → RowOut l (.returned (.tuple #[.slice (some ⟨b, 0, none⟩) (stepsZ l l.length) (stepsZ l l.length), .nilIface])) N w') := fun N w' b h1 h2 h3 => Or.inr ⟨HQ.out, b, rfl, h1, h2, h3⟩
    rw [hq, errV_zero] at hck
    clear hq hb h1 h6
    generalize stepsZ l l.length = st at *
    go_enter Tryd.func9, Tryd.ntmps9
    go_wp2_with fail
    refine hck.mono ?_
    clear hck
    rintro e w1 ⟨rfl, hb1⟩
    have hst := HS.out w1 hb1
    have HB1 : Hid (Below w.heap.size w w1) := hb1
    clear HS hb1
    go_wp2_with (first | (go_at_call 19; refine hst.mono ?_; clear hst; rintro e w2 ⟨rfl, hb2⟩; have HB2 : Hid (Below w.heap.size w w2) := HB1.out.trans (hb2.mono HB1.out.size); clear hb2; have hct := HC.out w2 HB2.out; clear HC) | (go_at_call 16; refine hct.mono ?_; clear hct; rintro e w3 ⟨rfl, hM⟩; have HM : Hid (CntM w2.heap.size st w2 w3 (fun j => cntZ (fun b => b.1) l l.length j)) := hM; clear hM))
    go_ret2
    exact ⟨HF.out _ _ _ HB2.out.size HM.out.row.lt HM.out.row, HB2.out.trans (HM.out.below.mono HB2.out.size)⟩
  · have HF2 : Hid (∀ w', RowOut l (.returned (.tuple #[.slice none 0 0, errV (bnErr l 6)])) w.heap.size w') := fun w' => Or.inl ⟨hq, rfl⟩
    have hev := errV_some hq
    rw [hev] at hck HF2
    clear hq hev
    generalize bnErr l 6 = g at *
    go_enter Tryd.func9, Tryd.ntmps9
    go_wp2_with fail
    refine hck.mono ?_
    clear hck
    rintro e w1 ⟨rfl, hb1⟩
    go_wp2
    go_ret2
    exact ⟨HF2.out _, hb1⟩

/-- What Waste tells. -/
def wasteZ (l : List BitZ) (hands : Int) : Int := if bnErr l hands = 0 then hands * (stepsZ l l.length : Int) - l.length else 0
theorem waste_mul {hands : Int} {s : Nat} (h1 : 1 ≤ hands) (h6 : hands ≤ 6) (hs : s ≤ 10001) : 0 ≤ hands * (s : Int) ∧ hands * (s : Int) ≤ 60006 := by
  have : hands = 1 ∨ hands = 2 ∨ hands = 3 ∨ hands = 4 ∨ hands = 5 ∨ hands = 6 := by omega
  rcases this with rfl | rfl | rfl | rfl | rfl | rfl <;> omega
set_option maxRecDepth 100000 in
set_option maxHeartbeats 2000000 in
theorem waste_any (v : Value) (l : List BitZ) (hands : Int) (w : World) (hg : BitsAt w v l) :
    Calls Tryd.prog 10 #[v, .int .i64 hands] w fun e w' => e = .returned (.tuple #[.int .i64 (wasteZ l hands), errV (bnErr l hands)]) ∧ Below w.heap.size w w' := by
  have HG : Hid (BitsAt w v l) := hg
  have hck := bcheck_any v l hands w hg
  obtain ⟨hl, a, c, rfl, hc⟩ := hg
  clear hc
  by_cases hq : bnErr l hands = 0
  · obtain ⟨h600, h1, h6, hb⟩ := bnErr_zero hq
    have HS : Hid (∀ wx, Below w.heap.size w wx → Calls Tryd.prog 19 #[.slice a l.length c] wx fun e w' => e = .returned (.int .i64 (stepsZ l l.length)) ∧ Below wx.heap.size wx w') := fun wx hx => bsteps_any _ l wx (HG.out.later hx) (fun k hk => ⟨(hb k hk).1, (hb k hk).2.1⟩)
    have hsl := stepsZ_le l l.length (fun k hk => (hb k hk).2.1) l.length (Nat.le_refl _)
    have hml := waste_mul h1 h6 hsl
    have HE : Hid (wasteZ l hands = hands * (stepsZ l l.length : Int) - l.length) := if_pos hq
    rw [hq, errV_zero] at hck ⊢
    rw [HE.out]
    clear hq hb HE
    generalize stepsZ l l.length = st at *
    generalize hpr : hands * (st : Int) = pr at *
    go_enter Tryd.func10, Tryd.ntmps10
    go_wp2_with fail
    refine hck.mono ?_
    clear hck
    rintro e w1 ⟨rfl, hb1⟩
    have hst := HS.out w1 hb1
    have HB1 : Hid (Below w.heap.size w w1) := hb1
    clear HS hb1
    go_wp2_with (go_at_call 19; refine hst.mono ?_; clear hst; rintro e w2 ⟨rfl, hb2⟩; have HB2 : Hid (Below w.heap.size w w2) := HB1.out.trans (hb2.mono HB1.out.size); clear hb2)
    go_ret2
    exact ⟨rfl, HB2.out⟩
  · have hev := errV_some hq
    rw [show wasteZ l hands = 0 from if_neg hq]
    rw [hev] at hck ⊢
    clear hq hev
    generalize bnErr l hands = g at *
    go_enter Tryd.func10, Tryd.ntmps10
    go_wp2_with fail
    refine hck.mono ?_
    clear hck
    rintro e w1 ⟨rfl, hb1⟩
    go_wp2
    go_ret2
    exact ⟨rfl, hb1⟩
end Go.Proofs.YtilpjhhjlokfcaaDoor
