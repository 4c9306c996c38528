/- trace.Parse: the contracts of strings.Cut, CutSuffix, readNumber, readWord, readLine. -/
import Derived.Test.YtiekhigjllbalaaGreatDoorTpr
import Derived.Test.YtiekhigjllbalaaGreatDoorTrq
import Derived.BigQuiet
namespace Go.Proofs.YtiekhigjllbalaaGreatDoor
open Go.RowKit Go.Deep

theorem drewBq (w : World) (q : Nat) : Below w.heap.size w (w.drewN q) := ⟨rfl, rfl, rfl, Nat.le_refl _, fun _ _ => rfl⟩
def strL (l : List UInt8) : Value := .string ⟨l.toArray⟩
theorem bsize (l : List UInt8) : (⟨l.toArray⟩ : ByteArray).size = l.length := by show l.toArray.size = _; simp
theorem extract_bytes (l : List UInt8) (f i : Nat) : (⟨l.toArray⟩ : ByteArray).extract f i = ⟨((l.drop f).take (i - f)).toArray⟩ := by
  apply ByteArray.ext
  simp
theorem cutB_ix (c : UInt8) (l : List UInt8) : cutB c l = if 0 ≤ Lib.indexByte l c then (l.take (Lib.indexByte l c).toNat, l.drop ((Lib.indexByte l c).toNat + 1), true) else (l, [], false) := by
  rw [← cut_eq]
  unfold Lib.cut
  rw [Lib.index_one]
  rfl
set_option maxRecDepth 100000 in
set_option maxHeartbeats 2000000 in
theorem cut_blank (l : List UInt8) (hl : l.length ≤ 9223372036854775806) (w : World) : Calls Tryz.prog 46 #[strL l, .string ⟨#[32]⟩] w fun e w' => e = .returned (.tuple #[strL (cutB 32 l).1, strL (cutB 32 l).2.1, .bool (cutB 32 l).2.2]) ∧ Below w.heap.size w w' := by
  have hin : Calls Tryz.prog 65 #[strL l, .string ⟨#[32]⟩] w fun e w' => e = .returned (.tuple #[strL (cutB 32 l).1, strL (cutB 32 l).2.1, .bool (cutB 32 l).2.2]) ∧ Below w.heap.size w w' := by
    have hix := Tryz.stringslite_Index_one ⟨l.toArray⟩ 32 w
    have hdl : (⟨l.toArray⟩ : ByteArray).data.toList = l := by simp
    rw [hdl] at hix
    have hsz := bsize l
    unfold strL
    rw [cutB_ix]
    by_cases h0 : 0 ≤ Lib.indexByte l 32
    · obtain ⟨i, hi⟩ := Int.eq_ofNat_of_zero_le h0
      have hil : i < l.length := by
        have := (Lib.indexByte_some hi).1
        exact (List.getElem?_eq_some_iff.1 this).1
      rw [if_pos h0]
      rw [hi] at hix ⊢
      rw [Int.toNat_natCast]
      have e1 : (⟨l.toArray⟩ : ByteArray).extract 0 i = ⟨(l.take i).toArray⟩ := by rw [extract_bytes]; simp
      have e2 : (⟨l.toArray⟩ : ByteArray).extract (i + 1) l.length = ⟨(l.drop (i + 1)).toArray⟩ := by rw [extract_bytes, List.take_of_length_le (by simp)]
      have b1 : (i : Int) ≤ (l.length : Int) := by omega
      have b2 : ((i : Int) + 1) ≤ (l.length : Int) := by omega
      have b3 : (i + 1) ≤ l.length := by omega
      have hw1 : IntKind.i64.wrap ((i : Int) + 1) = ((i + 1 : Nat) : Int) := by rw [IntKind.wrap_i64]; omega
      have HE1 : Hid ((⟨l.toArray⟩ : ByteArray).extract 0 i = ⟨(l.take i).toArray⟩) := e1
      have HE2 : Hid ((⟨l.toArray⟩ : ByteArray).extract (i + 1) l.length = ⟨(l.drop (i + 1)).toArray⟩) := e2
      clear h0 hi hdl
      go_enter Tryz.func65, Tryz.ntmps65
      go_wp2_with (first | (go_at_call 75; refine hix.mono ?_; clear hix; rintro e w1 ⟨rfl, rfl⟩))
      go_quiet (fail)
      go_wp2
      go_ret3
      exact ⟨by simp, drewBq _ _⟩
    · have hi : Lib.indexByte l 32 = -1 := by have := Lib.indexByte_ge l 32; omega
      rw [if_neg h0]
      rw [hi] at hix
      clear h0 hi hdl
      go_enter Tryz.func65, Tryz.ntmps65
      go_wp2_with (first | (go_at_call 75; refine hix.mono ?_; clear hix; rintro e w1 ⟨rfl, rfl⟩))
      go_ret3
      exact ⟨rfl, Below.refl _ _⟩
  unfold strL at hin ⊢
  generalize (cutB 32 l).1 = a at *
  generalize (cutB 32 l).2.1 = b at *
  generalize (cutB 32 l).2.2 = c at *
  go_enter Tryz.func46, Tryz.ntmps46
  go_wp2_with (first | (go_at_call 65; refine hin.mono ?_; clear hin; rintro e w1 ⟨rfl, hb1⟩))
  go_ret3
  exact ⟨rfl, hb1⟩
/-- A line without its end, and whether it has one. -/
def sufN (l : List UInt8) : List UInt8 × Bool := if l.getLast? = some 10 then (l.dropLast, true) else (l, false)
set_option maxRecDepth 100000 in
set_option maxHeartbeats 2000000 in
theorem hasNl_any (l : List UInt8) (hl : l.length ≤ 9223372036854775806) (w : World) : Calls Tryz.prog 74 #[strL l, .string ⟨#[10]⟩] w fun e w' => e = .returned (.bool (decide (l.getLast? = some 10))) ∧ w' = w := by
  unfold strL
  have hsz := bsize l
  rcases List.eq_nil_or_concat l with rfl | ⟨r, c, hcon⟩
  · go_enter Tryz.func74, Tryz.ntmps74
    go_wp2
    go_ret
    exact ⟨rfl, rfl⟩
  · rw [List.concat_eq_append] at hcon
    subst hcon
    have hlen : (r ++ [c]).length = r.length + 1 := by simp
    have e1 : (⟨(r ++ [c]).toArray⟩ : ByteArray).extract r.length (r.length + 1) = ⟨#[c]⟩ := by rw [extract_bytes]; simp
    have hw1 : IntKind.i64.wrap (((r.length + 1 : Nat) : Int) - 1) = (r.length : Int) := by
      rw [IntKind.wrap_i64]
      have hl2 : r.length + 1 ≤ 9223372036854775806 := by rw [← hlen]; exact hl
      omega
    rw [hlen] at hsz hl
    have hw2 : IntKind.i64.wrap ((r.length : Int) + 1 - 1) = (r.length : Int) := by rw [IntKind.wrap_i64]; omega
    rw [show (r ++ [c]).getLast? = some c by simp]
    have b1 : (r.length : Int) ≤ ((r.length + 1 : Nat) : Int) := by omega
    have b2 : (r.length : Int) ≤ (r.length : Int) + 1 := by omega
    have b3 : (1 : Int) ≤ (r.length : Int) + 1 := by omega
    generalize (⟨(r ++ [c]).toArray⟩ : ByteArray) = S at *
    by_cases hc : c = 10
    · subst hc
      go_enter Tryz.func74, Tryz.ntmps74
      go_wp2
      go_ret
      exact ⟨by simp, rfl⟩
    · have hne : ¬ (⟨#[c]⟩ : ByteArray) = ⟨#[10]⟩ := fun e => hc (by have := congrArg (fun b : ByteArray => b.data.toList) e; simpa using this)
      go_enter Tryz.func74, Tryz.ntmps74
      go_wp2
      go_ret
      exact ⟨by simp [hc], rfl⟩
set_option maxRecDepth 100000 in
set_option maxHeartbeats 2000000 in
theorem cutNl_any (l : List UInt8) (hl : l.length ≤ 9223372036854775806) (w : World) : Calls Tryz.prog 45 #[strL l, .string ⟨#[10]⟩] w fun e w' => e = .returned (.tuple #[strL (sufN l).1, .bool (sufN l).2]) ∧ w' = w := by
  have hin : Calls Tryz.prog 64 #[strL l, .string ⟨#[10]⟩] w fun e w' => e = .returned (.tuple #[strL (sufN l).1, .bool (sufN l).2]) ∧ w' = w := by
    have hhs := hasNl_any l hl w
    unfold sufN
    by_cases h : l.getLast? = some 10
    · rw [if_pos h]
      rw [decide_eq_true h] at hhs
      have hne : l ≠ [] := by rintro rfl; simp at h
      have hpos : 0 < l.length := List.length_pos_iff.2 hne
      have hsz := bsize l
      have e1 : (⟨l.toArray⟩ : ByteArray).extract 0 (l.length - 1) = ⟨l.dropLast.toArray⟩ := by rw [extract_bytes, List.dropLast_eq_take]; simp
      obtain ⟨n, hn⟩ : ∃ n, l.length = n + 1 := ⟨l.length - 1, by omega⟩
      rw [hn, Nat.add_sub_cancel] at e1
      rw [hn] at hsz hl
      have hw1 : IntKind.i64.wrap (((n + 1 : Nat) : Int) - 1) = (n : Int) := by rw [IntKind.wrap_i64]; omega
      have hw2 : IntKind.i64.wrap ((n : Int) + 1 - 1) = (n : Int) := by rw [IntKind.wrap_i64]; omega
      have b1 : (n : Int) ≤ ((n + 1 : Nat) : Int) := by omega
      have b2 : (n : Int) ≤ (n : Int) + 1 := by omega
      unfold strL at hhs ⊢
      generalize (⟨l.dropLast.toArray⟩ : ByteArray) = T at *
      generalize (⟨l.toArray⟩ : ByteArray) = S at *
      clear h hne hpos hn
      go_enter Tryz.func64, Tryz.ntmps64
      go_wp2_with (first | (go_at_call 74; refine hhs.mono ?_; clear hhs; rintro e w1 ⟨rfl, rfl⟩))
      go_ret2
      exact ⟨rfl, rfl⟩
    · rw [if_neg h]
      rw [decide_eq_false h] at hhs
      unfold strL at hhs ⊢
      clear h
      go_enter Tryz.func64, Tryz.ntmps64
      go_wp2_with (first | (go_at_call 74; refine hhs.mono ?_; clear hhs; rintro e w1 ⟨rfl, rfl⟩))
      go_ret2
      exact ⟨rfl, rfl⟩
  unfold strL at hin ⊢
  generalize (sufN l).1 = a at *
  generalize (sufN l).2 = b at *
  go_enter Tryz.func45, Tryz.ntmps45
  go_wp2_with (first | (go_at_call 64; refine hin.mono ?_; clear hin; rintro e w1 ⟨rfl, rfl⟩))
  go_ret2
  exact ⟨rfl, rfl⟩
/-- The variable strconv.ErrSyntax holds an error. -/
def Synt (w : World) : Prop := ∃ te pe, w.cell? ⟨4, 0, none⟩ = some (.iface te pe) ∧ 4 < w.heap.size
theorem Synt.later {w w' : World} (h : Synt w) (hb : Below w.heap.size w w') : Synt w' := by
  obtain ⟨te, pe, hc, hl⟩ := h
  exact ⟨te, pe, (hb.cell (p := ⟨4, 0, none⟩) hl).trans hc, Nat.lt_of_lt_of_le hl hb.size⟩
set_option maxRecDepth 100000 in
set_option maxHeartbeats 2000000 in
theorem readNum_any (l : List UInt8) (hl : l.length ≤ 9223372036854775806) (w : World) (he : Synt w) :
    Calls Tryz.prog 48 #[strL l] w fun e w' => (∃ n : Int, e = .returned (.tuple #[.int .i64 n, .bool (num2 l).isSome]) ∧ ∀ m : Nat, num2 l = some m → n = m) ∧ Below w.heap.size w w' := by
  unfold strL
  have hsz := bsize l
  have hdl : (⟨l.toArray⟩ : ByteArray).data.toList = l := by simp
  by_cases h2 : 2 < l.length
  · have h2i : (2 : Int) < (l.length : Int) := by omega
    have HN : Hid (num2 l = none) := (show num2 l = none by unfold num2; rw [if_pos h2])
    go_enter Tryz.func48, Tryz.ntmps48
    go_wp2
    go_ret2
    exact ⟨⟨0, by rw [HN.out]; rfl, fun m hm => by rw [HN.out] at hm; cases hm⟩, Below.refl _ _⟩
  have h2i : ¬ (2 : Int) < (l.length : Int) := by omega
  rcases atoi_two l (by omega) with hat | ⟨v, hat, hv⟩
  · have HN : Hid (num2 l = none) := num2_syntax hat
    obtain ⟨te, pe, hc, hlt⟩ := he
    have hsy := Tryz.strconv_Atoi_syntax ⟨l.toArray⟩ (by rw [hsz]; omega) (by rw [hdl]; exact hat) (.iface te pe) w hc (Or.inr ⟨te, pe, rfl⟩)
    clear hat hc hlt hdl
    go_enter Tryz.func48, Tryz.ntmps48
    go_wp2_with (first | (go_at_call 66; refine hsy.mono ?_; clear hsy; rintro e w2 ⟨N, rfl, _, _, hb2⟩))
    go_ret2
    exact ⟨⟨0, by rw [HN.out]; rfl, fun m hm => by rw [HN.out] at hm; cases hm⟩, hb2⟩
  · have hok := Tryz.strconv_Atoi_ok ⟨l.toArray⟩ (by rw [hsz]; omega) v (by rw [hdl]; exact hat) w
    have hok2 := hok.mono (R' := fun e w' => e = .returned (.tuple #[.int .i64 v, .nilIface]) ∧ Below w.heap.size w w') (fun e w' ⟨h1, h2⟩ => ⟨h1, by
      rcases h2 with rfl | ⟨t, rfl⟩
      · exact Below.refl _ _
      · exact Lib.bytesWorld_below _ _ _⟩)
    clear hok hdl
    by_cases h0 : 0 ≤ v
    · have hit := fun wx => Tryz.strconv_Itoa_small v.toNat (by omega) wx
      rw [Int.toNat_of_nonneg h0] at hit
      by_cases hd : digs v = l
      · have HN : Hid (num2 l = some v.toNat) := (show num2 l = some v.toNat by rw [← hd]; exact num2_yes h0 hv)
        have hd2 : Lib.decDigits v.toNat = l := hd
        rw [hd2] at hit
        have HV : Hid (v = ((v.toNat : Nat) : Int)) := (Int.toNat_of_nonneg h0).symm
        clear hd hd2 hat
        go_enter Tryz.func48, Tryz.ntmps48
        go_wp2_with (first | (go_at_call 66; refine hok2.mono ?_; clear hok2; rintro e w2 ⟨rfl, hb2⟩) | (go_at_call 42; refine (hit _).mono ?_; rintro e w3 ⟨rfl, rfl⟩))
        go_ret2
        exact ⟨⟨v, by rw [HN.out]; simp, fun m hm => by rw [HN.out] at hm; rw [← Option.some.inj hm]; exact HV.out⟩, hb2⟩
      · have HN : Hid (num2 l = none) := num2_no hat (fun h => hd h.2)
        have hd2 : ¬ Lib.decDigits v.toNat = l := hd
        have hne : ¬ (⟨(Lib.decDigits v.toNat).toArray⟩ : ByteArray) = ⟨l.toArray⟩ := fun e => hd2 (by have := congrArg (fun b : ByteArray => b.data.toList) e; simpa using this)
        clear hd hat
        go_enter Tryz.func48, Tryz.ntmps48
        go_wp2_with (first | (go_at_call 66; refine hok2.mono ?_; clear hok2; rintro e w2 ⟨rfl, hb2⟩) | (go_at_call 42; refine (hit _).mono ?_; rintro e w3 ⟨rfl, rfl⟩))
        go_ret2
        exact ⟨⟨v, by rw [HN.out]; simp [hd2], fun m hm => by rw [HN.out] at hm; cases hm⟩, hb2⟩
    · have HN : Hid (num2 l = none) := num2_no hat (fun h => h0 h.1)
      clear hat
      go_enter Tryz.func48, Tryz.ntmps48
      go_wp2_with (first | (go_at_call 66; refine hok2.mono ?_; clear hok2; rintro e w2 ⟨rfl, hb2⟩))
      go_ret2
      exact ⟨⟨v, by rw [HN.out]; rfl, fun m hm => by rw [HN.out] at hm; cases hm⟩, hb2⟩
end Go.Proofs.YtiekhigjllbalaaGreatDoor
