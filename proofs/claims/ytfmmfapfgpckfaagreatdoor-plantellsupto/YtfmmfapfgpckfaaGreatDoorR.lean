/- The contract of readNumber. -/
import Derived.Test.YtfmmfapfgpckfaaGreatDoorN
import Derived.Test.YtfmmfapfgpckfaaGreatDoorQ
import Derived.Test.YtfmmfapfgpckfaaGreatDoorShelf
namespace Go.Proofs.YtfmmfapfgpckfaaGreatDoor
open Go.RowKit Go.Deep

def isDig (b : UInt8) : Bool := decide (48 ≤ b.toNat) && decide (b.toNat ≤ 57)
def noDig (r : Nat) : Bool := decide (r < 48) || decide (57 < r)

theorem noDig_isDig (b : UInt8) : noDig b.toNat = !isDig b := by
  unfold noDig isDig
  by_cases h1 : b.toNat < 48
  · have : ¬ 48 ≤ b.toNat := by omega
    simp [h1, this]
  · by_cases h2 : 57 < b.toNat
    · have : ¬ b.toNat ≤ 57 := by omega
      simp [h2, this]
    · have h3 : 48 ≤ b.toNat := by omega
      have h4 : b.toNat ≤ 57 := by omega
      simp [h1, h2, h3, h4]

theorem decodeN_high (n b0 b1 b2 b3 : Nat) (h : 128 ≤ b0) : 57 < (Lib.decodeN n b0 b1 b2 b3).1 := by
  unfold Lib.decodeN
  rw [if_neg (by omega)]
  split
  · split <;> simp; omega
  · split
    · split
      · rename_i hh; simp; omega
      · simp
    · split
      · split
        · rename_i hh; simp; omega
        · simp
      · simp

theorem idx_from (s : ByteArray) : ∀ f pos, s.size - pos ≤ f → (0 ≤ Lib.idxFuncFrom noDig true s f pos ↔ ∃ i, ∃ h : i < s.size, pos ≤ i ∧ isDig (s[i]'h) = false) := by
  intro f
  induction f with
  | zero =>
    intro pos hf
    constructor
    · intro h; simp [Lib.idxFuncFrom] at h
    · rintro ⟨i, h, hp, _⟩; omega
  | succ f ih =>
    intro pos hf
    unfold Lib.idxFuncFrom
    by_cases hp : pos < s.size
    · rw [if_pos hp]
      by_cases ha : (s[pos]'hp).toNat < 128
      · rw [decode_ascii s pos hp ha]
        simp only [noDig_isDig]
        cases hd : isDig (s[pos]'hp) with
        | false =>
          simp only [Bool.not_false, ↓reduceIte]
          exact ⟨fun _ => ⟨pos, hp, Nat.le_refl _, hd⟩, fun _ => by omega⟩
        | true =>
          simp only [Bool.not_true, Bool.false_eq_true, ↓reduceIte]
          rw [ih (pos + 1) (by omega)]
          constructor
          · rintro ⟨i, h, h1, h2⟩; exact ⟨i, h, by omega, h2⟩
          · rintro ⟨i, h, h1, h2⟩
            by_cases e : i = pos
            · subst e; rw [hd] at h2; simp at h2
            · exact ⟨i, h, by omega, h2⟩
      · have hh : 57 < (Utf8.decode s pos).1 := by
          rw [Lib.decode_at]
          refine decodeN_high _ _ _ _ _ ?_
          have : s.get! pos = s[pos]'hp := by simp [ByteArray.get!, hp]; rfl
          rw [this]; omega
        have ht : noDig (Utf8.decode s pos).1 = true := by unfold noDig; simp [hh]
        rw [ht]
        simp only [↓reduceIte]
        refine ⟨fun _ => ⟨pos, hp, Nat.le_refl _, ?_⟩, fun _ => by omega⟩
        unfold isDig
        have : ¬ (s[pos]'hp).toNat ≤ 57 := by omega
        simp [this]
    · rw [if_neg hp]
      constructor
      · intro h; omega
      · rintro ⟨i, h, h1, _⟩; omega

theorem idx_any (s : ByteArray) : decide (0 ≤ Lib.idxFunc noDig true s) = s.data.toList.any (fun b => !isDig b) := by
  rw [Bool.eq_iff_iff, decide_eq_true_iff]
  unfold Lib.idxFunc
  rw [idx_from s s.size 0 (by omega), List.any_eq_true]
  constructor
  · rintro ⟨i, h, _, hd⟩
    refine ⟨s[i]'h, ?_, by simp [hd]⟩
    have : s[i]'h = s.data.toList[i]'(by simpa using h) := by simp; rfl
    rw [this]; exact List.getElem_mem _
  · rintro ⟨b, hb, hd⟩
    obtain ⟨i, hi, he⟩ := List.getElem_of_mem hb
    have hi' : i < s.size := by simpa using hi
    refine ⟨i, hi', Nat.zero_le _, ?_⟩
    have : s[i]'hi' = s.data.toList[i]'hi := by simp; rfl
    rw [this, he]
    simpa using hd

theorem enters40 : ∀ args w, (callFunc 56 args).run Tryz.prog w = .ok (.enter 56 args) w := enters_of Tryz.func56 (by kernel_rfl) rfl

theorem closure_num (w : World) : PredAt Tryz.prog 56 #[] encR noDig w := fun W x _ => by
  show Calls Tryz.prog 56 #[.int .i32 x] W _
  by_cases h1 : x < 48
  · have i1 : (x : Int) < 48 := by omega
    go_enter Tryz.func56, Tryz.ntmps56
    go_wp2
    go_ret
    exact ⟨ret_bool (by simp [noDig, h1]), 0, rfl⟩
  · have i1 : ¬ (x : Int) < 48 := by omega
    by_cases h2 : 57 < x
    · have i2 : (57 : Int) < (x : Int) := by omega
      go_enter Tryz.func56, Tryz.ntmps56
      go_wp2
      go_ret
      exact ⟨ret_bool (by simp [noDig, h2]), 0, rfl⟩
    · have i2 : ¬ (57 : Int) < (x : Int) := by omega
      go_enter Tryz.func56, Tryz.ntmps56
      go_wp2
      go_ret
      exact ⟨ret_bool (by simp [noDig, h1, h2]), 0, rfl⟩

/-- The variable strconv.ErrSyntax holds an error. -/
def Synt (w : World) : Prop := ∃ te pe, w.cell? ⟨3, 0, none⟩ = some (.iface te pe) ∧ 3 < w.heap.size
theorem Synt.later {w w' : World} (h : Synt w) (hb : Below w.heap.size w w') : Synt w' := by
  obtain ⟨te, pe, hc, hl⟩ := h
  exact ⟨te, pe, (hb.cell (p := ⟨3, 0, none⟩) hl).trans hc, Nat.lt_of_lt_of_le hl hb.size⟩

theorem decFrom_some (acc : Nat) (l : List UInt8) (h : l.any (fun b => !isDig b) = false) : ∃ n, Lib.decFrom acc l = some n := by
  induction l generalizing acc with
  | nil => exact ⟨acc, rfl⟩
  | cons b r ih =>
    simp only [List.any_cons, Bool.or_eq_false_iff, Bool.not_eq_false'] at h
    have hd : 48 ≤ b.toNat ∧ b.toNat ≤ 57 := by simpa [isDig] using h.1
    have hv : Lib.digitVal b = some (b.toNat - 48) := by unfold Lib.digitVal; rw [if_pos hd]
    obtain ⟨n, hn⟩ := ih (acc * 10 + (b.toNat - 48)) h.2
    exact ⟨n, by unfold Lib.decFrom; rw [hv]; exact hn⟩
theorem decFrom_none (acc : Nat) (l : List UInt8) (h : l.any (fun b => !isDig b) = true) : Lib.decFrom acc l = none := by
  induction l generalizing acc with
  | nil => simp at h
  | cons b r ih =>
    unfold Lib.decFrom
    cases hv : Lib.digitVal b with
    | none => rfl
    | some d =>
      have hd : isDig b = true := by
        unfold Lib.digitVal at hv
        split at hv
        · rename_i hh; simp [isDig, hh]
        · simp at hv
      simp only [List.any_cons, hd, Bool.not_true, Bool.false_or] at h
      exact ih _ h

theorem atoi_of (l : List UInt8) (n : Nat) (h0 : l ≠ []) (h : l.any (fun b => !isDig b) = false) (hn : Lib.decFrom 0 l = some n) : Lib.atoi l = some (n : Int) := by
  cases l with
  | nil => exact absurd rfl h0
  | cons b r =>
    simp only [List.any_cons, Bool.or_eq_false_iff, Bool.not_eq_false'] at h
    have hd : 48 ≤ b.toNat ∧ b.toNat ≤ 57 := by simpa [isDig] using h.1
    have h1 : (b == 45) = false := by
      rw [beq_eq_false_iff_ne]; rintro rfl; simp at hd
    have h2 : (b == 43) = false := by
      rw [beq_eq_false_iff_ne]; rintro rfl; simp at hd
    simp [Lib.atoi, h1, h2, Lib.decNat, hn]

theorem head_at (s : ByteArray) (h : 0 < s.size) : s.data.toList.head? = some (s[0]'h) := by
  rw [List.head?_eq_getElem?, List.getElem?_eq_getElem (by simpa using h)]
  simp; rfl

set_option maxRecDepth 100000 in
set_option maxHeartbeats 2000000 in
theorem readNumber_any (s : ByteArray) (w : World) (hs : s.size ≤ 1048576) (he : Synt w) :
    Calls Tryz.prog 45 #[.string s] w fun e w' => e = .returned (.tuple #[.int .i64 (((numOf s.data.toList).getD 0 : Nat) : Int), .bool (numOf s.data.toList).isSome]) ∧ Below w.heap.size w w' := by
  have hll : s.data.toList.length = s.size := by simp
  by_cases h4 : 4 < s.size
  · have i4 : (4 : Int) < (s.size : Int) := by omega
    have HN : Hid (numOf s.data.toList = none) := by unfold numOf; rw [if_pos (Or.inl (by omega))]; rfl
    clear he hll
    go_enter Tryz.func45, Tryz.ntmps45
    go_wp2
    go_ret2
    exact ⟨by rw [HN.out]; rfl, Below.refl _ _⟩
  have i4 : ¬ (4 : Int) < (s.size : Int) := by omega
  by_cases h1 : 1 < s.size ∧ s.data.toList.head? = some 48
  · obtain ⟨h1, hh⟩ := h1
    have i1 : (1 : Int) < (s.size : Int) := by omega
    have hp : 0 < s.size := by omega
    have h48 : s[0]'hp = 48 := by rw [head_at s hp] at hh; exact Option.some.inj hh
    have hb : (((s[0]'hp).toNat : Int) == 48) = true := by rw [h48]; rfl
    have HN : Hid (numOf s.data.toList = none) := by unfold numOf; rw [if_pos (Or.inr ⟨by omega, hh⟩)]; rfl
    clear he hll hh h48
    go_enter Tryz.func45, Tryz.ntmps45
    go_wp2
    go_ret2
    exact ⟨by rw [HN.out]; rfl, Below.refl _ _⟩
  have hguard : ¬ (1 : Int) < (s.size : Int) ∨ ((1 : Int) < (s.size : Int) ∧ ∃ hp : 0 < s.size, (((s[0]'hp).toNat : Int) == 48) = false) := by
    by_cases h : 1 < s.size
    · right
      have hp : 0 < s.size := by omega
      refine ⟨by omega, hp, ?_⟩
      rw [beq_eq_false_iff_ne]
      intro e
      refine h1 ⟨h, ?_⟩
      rw [head_at s hp]
      have : (s[0]'hp).toNat = 48 := by omega
      exact congrArg some (UInt8.toNat_inj.1 this)
    · left; omega
  have hnum : numOf s.data.toList = Lib.decNat s.data.toList := by
    unfold numOf
    rw [if_neg]
    rintro (h | ⟨h, hh⟩)
    · omega
    · exact h1 ⟨by omega, hh⟩
  have hcf := Tryz.strings_ContainsFunc 56 #[] enters40 noDig s w (closure_num w)
  rw [idx_any] at hcf
  clear h1
  cases ha : s.data.toList.any (fun b => !isDig b)
  · rw [ha] at hcf
    by_cases h0 : s.size = 0
    · have hnil : s.data.toList = [] := List.eq_nil_of_length_eq_zero (by omega)
      have HN : Hid (numOf s.data.toList = none) := by rw [hnum, hnil]; rfl
      obtain ⟨te, pe, hc, hl⟩ := he
      have hsy := fun (W : World) (hW : W.cell? ⟨3, 0, none⟩ = some (.iface te pe)) => Tryz.strconv_Atoi_syntax s (by omega) (by rw [hnil]; rfl) (.iface te pe) W hW (Or.inr ⟨te, pe, rfl⟩)
      clear ha hnum hll
      rcases hguard with hg | ⟨hg, _⟩
      · go_enter Tryz.func45, Tryz.ntmps45
        go_wp2_with (go_at_call 55; refine hcf.mono ?_; rintro e w1 ⟨rfl, hb1⟩)
        refine (hsy w1 ((hb1.cell (p := ⟨3, 0, none⟩) hl).trans hc)).mono ?_
        rintro e w2 ⟨N, rfl, _, _, hb2⟩
        have hB : Below w.heap.size w w2 := hb1.trans (hb2.mono hb1.size)
        clear hsy hcf hb1 hb2 hc
        go_wp2
        go_quiet (fail)
        go_wp2
        go_ret2
        exact ⟨by rw [HN.out]; rfl, ⟨hB.os, hB.tape, hB.output, hB.size, hB.block⟩⟩
      · omega
    · obtain ⟨n, hn⟩ := decFrom_some 0 s.data.toList ha
      have hne : s.data.toList ≠ [] := fun e => by rw [e] at hll; simp at hll; omega
      have HN : Hid (numOf s.data.toList = some n) := by
        rw [hnum]; unfold Lib.decNat
        rw [if_neg (by simpa using hne)]; exact hn
      have hat := fun (W : World) => Tryz.strconv_Atoi s n (by omega) (atoi_of _ n hne ha hn) W
      clear ha hnum hll hn hne he
      rcases hguard with hg | ⟨hg, hp, hz⟩
      all_goals
        go_enter Tryz.func45, Tryz.ntmps45
        go_wp2_with (go_at_call 55; refine hcf.mono ?_; rintro e w1 ⟨rfl, hb1⟩)
        refine (hat w1).mono ?_
        rintro e w2 ⟨rfl, t, hw2⟩
        have hB : Below w.heap.size w w2 := by rw [hw2]; exact hb1.trans ((Lib.bytesWorld_below _ _ _).mono hb1.size)
        clear hat hcf hb1 hw2
        go_wp2
        go_quiet (fail)
        go_wp2
        go_ret2
        exact ⟨by rw [HN.out]; rfl, ⟨hB.os, hB.tape, hB.output, hB.size, hB.block⟩⟩
  · rw [ha] at hcf
    have HN : Hid (numOf s.data.toList = none) := by
      rw [hnum]; unfold Lib.decNat
      split
      · rfl
      · exact decFrom_none 0 _ ha
    clear ha hnum hll he
    rcases hguard with hg | ⟨hg, hp, hz⟩
    all_goals
      go_enter Tryz.func45, Tryz.ntmps45
      go_wp2_with (go_at_call 55; refine hcf.mono ?_; rintro e w1 ⟨rfl, hb1⟩)
      go_ret2
      exact ⟨by rw [HN.out]; rfl, hb1⟩
end Go.Proofs.YtfmmfapfgpckfaaGreatDoor
