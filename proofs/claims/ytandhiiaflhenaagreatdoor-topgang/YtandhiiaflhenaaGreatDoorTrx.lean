/- trace.Parse: the contracts of strings.Cut, CutSuffix, readNumber, readWord, readLine. trace.Parse: the contracts of readWord, readLine. trace.Parse: the contract of readLine. -/
import Derived.Test.YtandhiiaflhenaaGreatDoorTpr
import Derived.Test.YtandhiiaflhenaaGreatDoorTpq
import Derived.BigQuiet

namespace Go.Proofs.YtandhiiaflhenaaGreatDoor
open Go.RowKit Go.Deep

theorem drewBq (w : World) (q : Nat) : Below w.heap.size w (w.drewN q) := ⟨rfl, rfl, rfl, Nat.le_refl _, fun _ _ => rfl⟩
def strL (l : List UInt8) : Value := .string ⟨l.toArray⟩
theorem bsize (l : List UInt8) : (⟨l.toArray⟩ : ByteArray).size = l.length := by show l.toArray.size = _; simp
theorem extract_bytes (l : List UInt8) (f i : Nat) : (⟨l.toArray⟩ : ByteArray).extract f i = ⟨((l.drop f).take (i - f)).toArray⟩ := by
  apply ByteArray.ext
  simp
theorem cutB_ix (c : UInt8) (l : List UInt8) : cutB c l = if 0 ≤ Lib.indexByte l c then (l.take (Lib.indexByte l c).toNat, l.drop ((Lib.indexByte l c).toNat + 1), true) else (l, [], false) := by
  rw [← cut_eq]
  unfold Lib.cut
  rw [Lib.index_one]
  rfl
set_option maxRecDepth 100000 in
set_option maxHeartbeats 2000000 in
theorem cut_blank (l : List UInt8) (hl : l.length ≤ 9223372036854775806) (w : World) : Calls Tryz.prog 65 #[strL l, .string ⟨#[32]⟩] w fun e w' => e = .returned (.tuple #[strL (cutB 32 l).1, strL (cutB 32 l).2.1, .bool (cutB 32 l).2.2]) ∧ Below w.heap.size w w' := by
  have hin : Calls Tryz.prog 100 #[strL l, .string ⟨#[32]⟩] w fun e w' => e = .returned (.tuple #[strL (cutB 32 l).1, strL (cutB 32 l).2.1, .bool (cutB 32 l).2.2]) ∧ Below w.heap.size w w' := by
    have hix := Tryz.stringslite_Index_one ⟨l.toArray⟩ 32 w
    have hdl : (⟨l.toArray⟩ : ByteArray).data.toList = l := by simp
    rw [hdl] at hix
    have hsz := bsize l
    unfold strL
    rw [cutB_ix]
    by_cases h0 : 0 ≤ Lib.indexByte l 32
    · obtain ⟨i, hi⟩ := Int.eq_ofNat_of_zero_le h0
      have hil : i < l.length := by
        have := (Lib.indexByte_some hi).1
        exact (List.getElem?_eq_some_iff.1 this).1
      rw [if_pos h0]
      rw [hi] at hix ⊢
      rw [Int.toNat_natCast]
      have e1 : (⟨l.toArray⟩ : ByteArray).extract 0 i = ⟨(l.take i).toArray⟩ := by rw [extract_bytes]; simp
      have e2 : (⟨l.toArray⟩ : ByteArray).extract (i + 1) l.length = ⟨(l.drop (i + 1)).toArray⟩ := by rw [extract_bytes, List.take_of_length_le (by simp)]
      have b1 : (i : Int) ≤ (l.length : Int) := by omega
      have b2 : ((i : Int) + 1) ≤ (l.length : Int) := by omega
      have b3 : (i + 1) ≤ l.length := by omega
      have hw1 : IntKind.i64.wrap ((i : Int) + 1) = ((i + 1 : Nat) : Int) := by rw [IntKind.wrap_i64]; omega
      have HE1 : Hid ((⟨l.toArray⟩ : ByteArray).extract 0 i = ⟨(l.take i).toArray⟩) := e1
      have HE2 : Hid ((⟨l.toArray⟩ : ByteArray).extract (i + 1) l.length = ⟨(l.drop (i + 1)).toArray⟩) := e2
      clear h0 hi hdl
      go_enter Tryz.func100, Tryz.ntmps100
      go_wp2_with (first | (go_at_call 122; refine hix.mono ?_; clear hix; rintro e w1 ⟨rfl, rfl⟩))
      go_quiet (fail)
      go_wp2
      go_ret3
      exact ⟨by simp, drewBq _ _⟩
    · have hi : Lib.indexByte l 32 = -1 := by have := Lib.indexByte_ge l 32; omega
      rw [if_neg h0]
      rw [hi] at hix
      clear h0 hi hdl
      go_enter Tryz.func100, Tryz.ntmps100
      go_wp2_with (first | (go_at_call 122; refine hix.mono ?_; clear hix; rintro e w1 ⟨rfl, rfl⟩))
      go_ret3
      exact ⟨rfl, Below.refl _ _⟩
  unfold strL at hin ⊢
  generalize (cutB 32 l).1 = a at *
  generalize (cutB 32 l).2.1 = b at *
  generalize (cutB 32 l).2.2 = c at *
  go_enter Tryz.func65, Tryz.ntmps65
  go_wp2_with (first | (go_at_call 100; refine hin.mono ?_; clear hin; rintro e w1 ⟨rfl, hb1⟩))
  go_ret3
  exact ⟨rfl, hb1⟩
/-- A line without its end, and whether it has one. -/
def sufN (l : List UInt8) : List UInt8 × Bool := if l.getLast? = some 10 then (l.dropLast, true) else (l, false)
set_option maxRecDepth 100000 in
set_option maxHeartbeats 2000000 in
theorem hasNl_any (l : List UInt8) (hl : l.length ≤ 9223372036854775806) (w : World) : Calls Tryz.prog 121 #[strL l, .string ⟨#[10]⟩] w fun e w' => e = .returned (.bool (decide (l.getLast? = some 10))) ∧ w' = w := by
  unfold strL
  have hsz := bsize l
  rcases List.eq_nil_or_concat l with rfl | ⟨r, c, hcon⟩
  · go_enter Tryz.func121, Tryz.ntmps121
    go_wp2
    go_ret
    exact ⟨rfl, rfl⟩
  · rw [List.concat_eq_append] at hcon
    subst hcon
    have hlen : (r ++ [c]).length = r.length + 1 := by simp
    have e1 : (⟨(r ++ [c]).toArray⟩ : ByteArray).extract r.length (r.length + 1) = ⟨#[c]⟩ := by rw [extract_bytes]; simp
    have hw1 : IntKind.i64.wrap (((r.length + 1 : Nat) : Int) - 1) = (r.length : Int) := by
      rw [IntKind.wrap_i64]
      have hl2 : r.length + 1 ≤ 9223372036854775806 := by rw [← hlen]; exact hl
      omega
    rw [hlen] at hsz hl
    have hw2 : IntKind.i64.wrap ((r.length : Int) + 1 - 1) = (r.length : Int) := by rw [IntKind.wrap_i64]; omega
    rw [show (r ++ [c]).getLast? = some c by simp]
    have b1 : (r.length : Int) ≤ ((r.length + 1 : Nat) : Int) := by omega
    have b2 : (r.length : Int) ≤ (r.length : Int) + 1 := by omega
    have b3 : (1 : Int) ≤ (r.length : Int) + 1 := by omega
    generalize (⟨(r ++ [c]).toArray⟩ : ByteArray) = S at *
    by_cases hc : c = 10
    · subst hc
      go_enter Tryz.func121, Tryz.ntmps121
      go_wp2
      go_ret
      exact ⟨by simp, rfl⟩
    · have hne : ¬ (⟨#[c]⟩ : ByteArray) = ⟨#[10]⟩ := fun e => hc (by have := congrArg (fun b : ByteArray => b.data.toList) e; simpa using this)
      go_enter Tryz.func121, Tryz.ntmps121
      go_wp2
      go_ret
      exact ⟨by simp [hc], rfl⟩
set_option maxRecDepth 100000 in
set_option maxHeartbeats 2000000 in
theorem cutNl_any (l : List UInt8) (hl : l.length ≤ 9223372036854775806) (w : World) : Calls Tryz.prog 64 #[strL l, .string ⟨#[10]⟩] w fun e w' => e = .returned (.tuple #[strL (sufN l).1, .bool (sufN l).2]) ∧ w' = w := by
  have hin : Calls Tryz.prog 99 #[strL l, .string ⟨#[10]⟩] w fun e w' => e = .returned (.tuple #[strL (sufN l).1, .bool (sufN l).2]) ∧ w' = w := by
    have hhs := hasNl_any l hl w
    unfold sufN
    by_cases h : l.getLast? = some 10
    · rw [if_pos h]
      rw [decide_eq_true h] at hhs
      have hne : l ≠ [] := by rintro rfl; simp at h
      have hpos : 0 < l.length := List.length_pos_iff.2 hne
      have hsz := bsize l
      have e1 : (⟨l.toArray⟩ : ByteArray).extract 0 (l.length - 1) = ⟨l.dropLast.toArray⟩ := by rw [extract_bytes, List.dropLast_eq_take]; simp
      obtain ⟨n, hn⟩ : ∃ n, l.length = n + 1 := ⟨l.length - 1, by omega⟩
      rw [hn, Nat.add_sub_cancel] at e1
      rw [hn] at hsz hl
      have hw1 : IntKind.i64.wrap (((n + 1 : Nat) : Int) - 1) = (n : Int) := by rw [IntKind.wrap_i64]; omega
      have hw2 : IntKind.i64.wrap ((n : Int) + 1 - 1) = (n : Int) := by rw [IntKind.wrap_i64]; omega
      have b1 : (n : Int) ≤ ((n + 1 : Nat) : Int) := by omega
      have b2 : (n : Int) ≤ (n : Int) + 1 := by omega
      unfold strL at hhs ⊢
      generalize (⟨l.dropLast.toArray⟩ : ByteArray) = T at *
      generalize (⟨l.toArray⟩ : ByteArray) = S at *
      clear h hne hpos hn
      go_enter Tryz.func99, Tryz.ntmps99
      go_wp2_with (first | (go_at_call 121; refine hhs.mono ?_; clear hhs; rintro e w1 ⟨rfl, rfl⟩))
      go_ret2
      exact ⟨rfl, rfl⟩
    · rw [if_neg h]
      rw [decide_eq_false h] at hhs
      unfold strL at hhs ⊢
      clear h
      go_enter Tryz.func99, Tryz.ntmps99
      go_wp2_with (first | (go_at_call 121; refine hhs.mono ?_; clear hhs; rintro e w1 ⟨rfl, rfl⟩))
      go_ret2
      exact ⟨rfl, rfl⟩
  unfold strL at hin ⊢
  generalize (sufN l).1 = a at *
  generalize (sufN l).2 = b at *
  go_enter Tryz.func64, Tryz.ntmps64
  go_wp2_with (first | (go_at_call 99; refine hin.mono ?_; clear hin; rintro e w1 ⟨rfl, rfl⟩))
  go_ret2
  exact ⟨rfl, rfl⟩
/-- The variable strconv.ErrSyntax holds an error. -/
def Synt (w : World) : Prop := ∃ te pe, w.cell? ⟨3, 0, none⟩ = some (.iface te pe) ∧ 3 < w.heap.size
theorem Synt.later {w w' : World} (h : Synt w) (hb : Below w.heap.size w w') : Synt w' := by
  obtain ⟨te, pe, hc, hl⟩ := h
  exact ⟨te, pe, (hb.cell (p := ⟨3, 0, none⟩) hl).trans hc, Nat.lt_of_lt_of_le hl hb.size⟩
set_option maxRecDepth 100000 in
set_option maxHeartbeats 2000000 in
theorem readNum_any (l : List UInt8) (hl : l.length ≤ 9223372036854775806) (w : World) (he : Synt w) :
    Calls Tryz.prog 67 #[strL l] w fun e w' => (∃ n : Int, e = .returned (.tuple #[.int .i64 n, .bool (num2 l).isSome]) ∧ ∀ m : Nat, num2 l = some m → n = m) ∧ Below w.heap.size w w' := by
  unfold strL
  have hsz := bsize l
  have hdl : (⟨l.toArray⟩ : ByteArray).data.toList = l := by simp
  by_cases h2 : 2 < l.length
  · have h2i : (2 : Int) < (l.length : Int) := by omega
    have HN : Hid (num2 l = none) := (show num2 l = none by unfold num2; rw [if_pos h2])
    go_enter Tryz.func67, Tryz.ntmps67
    go_wp2
    go_ret2
    exact ⟨⟨0, by rw [HN.out]; rfl, fun m hm => by rw [HN.out] at hm; cases hm⟩, Below.refl _ _⟩
  have h2i : ¬ (2 : Int) < (l.length : Int) := by omega
  rcases atoi_two l (by omega) with hat | ⟨v, hat, hv⟩
  · have HN : Hid (num2 l = none) := num2_syntax hat
    obtain ⟨te, pe, hc, hlt⟩ := he
    have hsy := Tryz.strconv_Atoi_syntax ⟨l.toArray⟩ (by rw [hsz]; omega) (by rw [hdl]; exact hat) (.iface te pe) w hc (Or.inr ⟨te, pe, rfl⟩)
    clear hat hc hlt hdl
    go_enter Tryz.func67, Tryz.ntmps67
    go_wp2_with (first | (go_at_call 101; refine hsy.mono ?_; clear hsy; rintro e w2 ⟨N, rfl, _, _, hb2⟩))
    go_ret2
    exact ⟨⟨0, by rw [HN.out]; rfl, fun m hm => by rw [HN.out] at hm; cases hm⟩, hb2⟩
  · have hok := Tryz.strconv_Atoi_ok ⟨l.toArray⟩ (by rw [hsz]; omega) v (by rw [hdl]; exact hat) w
    have hok2 := hok.mono (R' := fun e w' => e = .returned (.tuple #[.int .i64 v, .nilIface]) ∧ Below w.heap.size w w') (fun e w' ⟨h1, h2⟩ => ⟨h1, by
      rcases h2 with rfl | ⟨t, rfl⟩
      · exact Below.refl _ _
      · exact Lib.bytesWorld_below _ _ _⟩)
    clear hok hdl
    by_cases h0 : 0 ≤ v
    · have hit := fun wx => Tryz.strconv_Itoa_small v.toNat (by omega) wx
      rw [Int.toNat_of_nonneg h0] at hit
      by_cases hd : digs v = l
      · have HN : Hid (num2 l = some v.toNat) := (show num2 l = some v.toNat by rw [← hd]; exact num2_yes h0 hv)
        have hd2 : Lib.decDigits v.toNat = l := hd
        rw [hd2] at hit
        have HV : Hid (v = ((v.toNat : Nat) : Int)) := (Int.toNat_of_nonneg h0).symm
        clear hd hd2 hat
        go_enter Tryz.func67, Tryz.ntmps67
        go_wp2_with (first | (go_at_call 101; refine hok2.mono ?_; clear hok2; rintro e w2 ⟨rfl, hb2⟩) | (go_at_call 61; refine (hit _).mono ?_; rintro e w3 ⟨rfl, rfl⟩))
        go_ret2
        exact ⟨⟨v, by rw [HN.out]; simp, fun m hm => by rw [HN.out] at hm; rw [← Option.some.inj hm]; exact HV.out⟩, hb2⟩
      · have HN : Hid (num2 l = none) := num2_no hat (fun h => hd h.2)
        have hd2 : ¬ Lib.decDigits v.toNat = l := hd
        have hne : ¬ (⟨(Lib.decDigits v.toNat).toArray⟩ : ByteArray) = ⟨l.toArray⟩ := fun e => hd2 (by have := congrArg (fun b : ByteArray => b.data.toList) e; simpa using this)
        clear hd hat
        go_enter Tryz.func67, Tryz.ntmps67
        go_wp2_with (first | (go_at_call 101; refine hok2.mono ?_; clear hok2; rintro e w2 ⟨rfl, hb2⟩) | (go_at_call 61; refine (hit _).mono ?_; rintro e w3 ⟨rfl, rfl⟩))
        go_ret2
        exact ⟨⟨v, by rw [HN.out]; simp [hd2], fun m hm => by rw [HN.out] at hm; cases hm⟩, hb2⟩
    · have HN : Hid (num2 l = none) := num2_no hat (fun h => h0 h.1)
      clear hat
      go_enter Tryz.func67, Tryz.ntmps67
      go_wp2_with (first | (go_at_call 101; refine hok2.mono ?_; clear hok2; rintro e w2 ⟨rfl, hb2⟩))
      go_ret2
      exact ⟨⟨v, by rw [HN.out]; rfl, fun m hm => by rw [HN.out] at hm; cases hm⟩, hb2⟩
end Go.Proofs.YtandhiiaflhenaaGreatDoor

namespace Go.Proofs.YtandhiiaflhenaaGreatDoor
open Go.RowKit Go.Deep

theorem FormsAt.words {w : World} (h : FormsAt w) : w.cell? ⟨0, 0, none⟩ = some (.string ⟨#[116, 111, 111, 107]⟩) ∧ w.cell? ⟨0, 1, none⟩ = some (.int .i64 2) ∧ w.cell? ⟨0, 2, none⟩ = some (.string ⟨#[115, 116, 111, 108, 101]⟩) ∧ w.cell? ⟨0, 3, none⟩ = some (.int .i64 3) ∧ w.cell? ⟨0, 4, none⟩ = some (.string ⟨#[102, 101, 116, 99, 104, 101, 100]⟩) ∧ w.cell? ⟨0, 5, none⟩ = some (.int .i64 2) ∧ w.cell? ⟨0, 6, none⟩ = some (.string ⟨#[102, 105, 110, 105, 115, 104, 101, 100]⟩) ∧ w.cell? ⟨0, 7, none⟩ = some (.int .i64 2) ∧ w.cell? ⟨0, 8, none⟩ = some (.string ⟨#[115, 108, 101, 112, 116]⟩) ∧ w.cell? ⟨0, 9, none⟩ = some (.int .i64 1) ∧ w.cell? ⟨0, 10, none⟩ = some (.string ⟨#[119, 111, 107, 101]⟩) ∧ w.cell? ⟨0, 11, none⟩ = some (.int .i64 1) :=
  ⟨(h.2 0 (by omega)).1, (h.2 0 (by omega)).2, (h.2 1 (by omega)).1, (h.2 1 (by omega)).2, (h.2 2 (by omega)).1, (h.2 2 (by omega)).2, (h.2 3 (by omega)).1, (h.2 3 (by omega)).2, (h.2 4 (by omega)).1, (h.2 4 (by omega)).2, (h.2 5 (by omega)).1, (h.2 5 (by omega)).2⟩
theorem form_ix0 (a0 a1 a2 a3 a4 a5 a6 a7 a8 a9 a10 a11 : Value) (w : World) : (Instr.index 138 (.agg #[a0, a1, a2, a3, a4, a5, a6, a7, a8, a9, a10, a11]) (.int .i64 0)).run Tryz.prog w = .ok (.agg #[a0, a1]) w := by kernel_rfl
theorem form_ix1 (a0 a1 a2 a3 a4 a5 a6 a7 a8 a9 a10 a11 : Value) (w : World) : (Instr.index 138 (.agg #[a0, a1, a2, a3, a4, a5, a6, a7, a8, a9, a10, a11]) (.int .i64 1)).run Tryz.prog w = .ok (.agg #[a2, a3]) w := by kernel_rfl
theorem form_ix2 (a0 a1 a2 a3 a4 a5 a6 a7 a8 a9 a10 a11 : Value) (w : World) : (Instr.index 138 (.agg #[a0, a1, a2, a3, a4, a5, a6, a7, a8, a9, a10, a11]) (.int .i64 2)).run Tryz.prog w = .ok (.agg #[a4, a5]) w := by kernel_rfl
theorem form_ix3 (a0 a1 a2 a3 a4 a5 a6 a7 a8 a9 a10 a11 : Value) (w : World) : (Instr.index 138 (.agg #[a0, a1, a2, a3, a4, a5, a6, a7, a8, a9, a10, a11]) (.int .i64 3)).run Tryz.prog w = .ok (.agg #[a6, a7]) w := by kernel_rfl
theorem form_ix4 (a0 a1 a2 a3 a4 a5 a6 a7 a8 a9 a10 a11 : Value) (w : World) : (Instr.index 138 (.agg #[a0, a1, a2, a3, a4, a5, a6, a7, a8, a9, a10, a11]) (.int .i64 4)).run Tryz.prog w = .ok (.agg #[a8, a9]) w := by kernel_rfl
theorem form_ix5 (a0 a1 a2 a3 a4 a5 a6 a7 a8 a9 a10 a11 : Value) (w : World) : (Instr.index 138 (.agg #[a0, a1, a2, a3, a4, a5, a6, a7, a8, a9, a10, a11]) (.int .i64 5)).run Tryz.prog w = .ok (.agg #[a10, a11]) w := by kernel_rfl
set_option maxRecDepth 100000 in
set_option maxHeartbeats 4000000 in
theorem readWord_any (l : List UInt8) (w : World) (hf : FormsAt w) :
    Calls Tryz.prog 66 #[strL l] w fun e w' => e = .returned (.tuple #[.int .i64 (whatD l), .bool (decide (whatD l ≠ 0))]) ∧ Below w.heap.size w w' := by
  obtain ⟨c0, c1, c2, c3, c4, c5, c6, c7, c8, c9, c10, c11⟩ := hf.words
  have i0 := form_ix0
  have i1 := form_ix1
  have i2 := form_ix2
  have i3 := form_ix3
  have i4 := form_ix4
  have i5 := form_ix5
  clear hf
  unfold strL
  by_cases h1 : [116, 111, 111, 107] = l
  · subst h1
    have HR : Hid (whatD [116, 111, 111, 107] = 1) := (show whatD [116, 111, 111, 107] = 1 by decide)
    go_enter Tryz.func66, Tryz.ntmps66
    go_wp2
    refine wp_loop_rounds 1 ?_
    rw [rounds_succ]
    go_wp2
    go_ret2
    refine ⟨by rw [HR.out]; rfl, ?_⟩
    repeat (refine Below.alloc ?_ (by first | omega | (simp only [nblk_alloc]; omega)) _)
    exact Below.refl _ _
  by_cases h2 : [115, 116, 111, 108, 101] = l
  · subst h2
    have HR : Hid (whatD [115, 116, 111, 108, 101] = 2) := (show whatD [115, 116, 111, 108, 101] = 2 by decide)
    go_enter Tryz.func66, Tryz.ntmps66
    go_wp2
    refine wp_loop_rounds 2 ?_
    rw [rounds_succ]
    go_wp2
    rw [rounds_succ]
    go_wp2
    go_ret2
    refine ⟨by rw [HR.out]; rfl, ?_⟩
    repeat (refine Below.alloc ?_ (by first | omega | (simp only [nblk_alloc]; omega)) _)
    exact Below.refl _ _
  by_cases h3 : [102, 101, 116, 99, 104, 101, 100] = l
  · subst h3
    have HR : Hid (whatD [102, 101, 116, 99, 104, 101, 100] = 3) := (show whatD [102, 101, 116, 99, 104, 101, 100] = 3 by decide)
    go_enter Tryz.func66, Tryz.ntmps66
    go_wp2
    refine wp_loop_rounds 3 ?_
    rw [rounds_succ]
    go_wp2
    rw [rounds_succ]
    go_wp2
    rw [rounds_succ]
    go_wp2
    go_ret2
    refine ⟨by rw [HR.out]; rfl, ?_⟩
    repeat (refine Below.alloc ?_ (by first | omega | (simp only [nblk_alloc]; omega)) _)
    exact Below.refl _ _
  by_cases h4 : [102, 105, 110, 105, 115, 104, 101, 100] = l
  · subst h4
    have HR : Hid (whatD [102, 105, 110, 105, 115, 104, 101, 100] = 4) := (show whatD [102, 105, 110, 105, 115, 104, 101, 100] = 4 by decide)
    go_enter Tryz.func66, Tryz.ntmps66
    go_wp2
    refine wp_loop_rounds 4 ?_
    rw [rounds_succ]
    go_wp2
    rw [rounds_succ]
    go_wp2
    rw [rounds_succ]
    go_wp2
    rw [rounds_succ]
    go_wp2
    go_ret2
    refine ⟨by rw [HR.out]; rfl, ?_⟩
    repeat (refine Below.alloc ?_ (by first | omega | (simp only [nblk_alloc]; omega)) _)
    exact Below.refl _ _
  by_cases h5 : [115, 108, 101, 112, 116] = l
  · subst h5
    have HR : Hid (whatD [115, 108, 101, 112, 116] = 5) := (show whatD [115, 108, 101, 112, 116] = 5 by decide)
    go_enter Tryz.func66, Tryz.ntmps66
    go_wp2
    refine wp_loop_rounds 5 ?_
    rw [rounds_succ]
    go_wp2
    rw [rounds_succ]
    go_wp2
    rw [rounds_succ]
    go_wp2
    rw [rounds_succ]
    go_wp2
    rw [rounds_succ]
    go_wp2
    go_ret2
    refine ⟨by rw [HR.out]; rfl, ?_⟩
    repeat (refine Below.alloc ?_ (by first | omega | (simp only [nblk_alloc]; omega)) _)
    exact Below.refl _ _
  by_cases h6 : [119, 111, 107, 101] = l
  · subst h6
    have HR : Hid (whatD [119, 111, 107, 101] = 6) := (show whatD [119, 111, 107, 101] = 6 by decide)
    go_enter Tryz.func66, Tryz.ntmps66
    go_wp2
    refine wp_loop_rounds 6 ?_
    rw [rounds_succ]
    go_wp2
    rw [rounds_succ]
    go_wp2
    rw [rounds_succ]
    go_wp2
    rw [rounds_succ]
    go_wp2
    rw [rounds_succ]
    go_wp2
    rw [rounds_succ]
    go_wp2
    go_ret2
    refine ⟨by rw [HR.out]; rfl, ?_⟩
    repeat (refine Below.alloc ?_ (by first | omega | (simp only [nblk_alloc]; omega)) _)
    exact Below.refl _ _
  have n0 : (([116, 111, 111, 107] : List UInt8) == l) = false := beq_eq_false_iff_ne.2 h1
  have n1 : (([115, 116, 111, 108, 101] : List UInt8) == l) = false := beq_eq_false_iff_ne.2 h2
  have n2 : (([102, 101, 116, 99, 104, 101, 100] : List UInt8) == l) = false := beq_eq_false_iff_ne.2 h3
  have n3 : (([102, 105, 110, 105, 115, 104, 101, 100] : List UInt8) == l) = false := beq_eq_false_iff_ne.2 h4
  have n4 : (([115, 108, 101, 112, 116] : List UInt8) == l) = false := beq_eq_false_iff_ne.2 h5
  have n5 : (([119, 111, 107, 101] : List UInt8) == l) = false := beq_eq_false_iff_ne.2 h6
  have HR : Hid (whatD l = 0) := (show whatD l = 0 by unfold whatD; rw [if_neg (fun e => h1 e.symm), if_neg (fun e => h2 e.symm), if_neg (fun e => h3 e.symm), if_neg (fun e => h4 e.symm), if_neg (fun e => h5 e.symm), if_neg (fun e => h6 e.symm)])
  go_enter Tryz.func66, Tryz.ntmps66
  go_wp2
  refine wp_loop_rounds 7 ?_
  rw [rounds_succ]
  go_wp2
  rw [rounds_succ]
  go_wp2
  rw [rounds_succ]
  go_wp2
  rw [rounds_succ]
  go_wp2
  rw [rounds_succ]
  go_wp2
  rw [rounds_succ]
  go_wp2
  rw [rounds_succ]
  go_wp2
  go_ret2
  refine ⟨by rw [HR.out]; rfl, ?_⟩
  repeat (refine Below.alloc ?_ (by first | omega | (simp only [nblk_alloc]; omega)) _)
  exact Below.refl _ _
/-- A function that returns a deed, which lies in a block of its own, and a bool. -/
theorem deed_ret2 {fn : Func} {Q : Ending → World → Prop} {a : Act} {w : World} {b s t : Nat} {a1 a2 a3 a4 v : Value} (hr : fn.results = #[ResultVar.cell s 43, ResultVar.tmp t]) (h : w.heap[b]? = some (.cells #[a1, a2, a3, a4] 43 (0, 0))) (ht : a.tmps[s]? = some (.pointer (some ⟨b, 0, none⟩))) (hu : a.tmps[t]? = some v) (hd : a.defers = []) (hq : Q (.returned (.tuple #[.agg #[a1, a2, a3, a4], v])) w) :
    bodyPost Tryz.prog fn Q Exit.ret a w := by
  have q0 : w.cell? ⟨b, 0, none⟩ = some a1 := by simp [World.cell?, h]
  have q1 : w.cell? ⟨b, 1, none⟩ = some a2 := by simp [World.cell?, h]
  have q2 : w.cell? ⟨b, 2, none⟩ = some a3 := by simp [World.cell?, h]
  have q3 : w.cell? ⟨b, 3, none⟩ = some a4 := by simp [World.cell?, h]
  refine bodyPost_ret (v := .tuple #[.agg #[a1, a2, a3, a4], v]) ?_ hd hq
  simp [results, hr, go_sem, ht, hu, q0, q1, q2, q3]
def deed4 (w : World) (b : Nat) (a1 a2 a3 a4 : Value) : World := (((w.setCell ⟨b, 0, none⟩ a1).setCell ⟨b, 1, none⟩ a2).setCell ⟨b, 2, none⟩ a3).setCell ⟨b, 3, none⟩ a4
theorem blk_set_same (w : World) (g k : Nat) (cur : Array Value) (t : TypeId) (x : Value) (h : w.heap[g]? = some (.cells cur t (0, 0))) : (w.setCell ⟨g, k, none⟩ x).heap[g]? = some (.cells (cur.setIfInBounds k x) t (0, 0)) := by
  rw [setCell_eq_setRow w g k cur t (0, 0) x h, setRow_heap w g cur _ t _ h]
theorem deed4_block {w : World} {b : Nat} {t : TypeId} {o1 o2 o3 o4 : Value} (h : w.heap[b]? = some (.cells #[o1, o2, o3, o4] t (0, 0))) (a1 a2 a3 a4 : Value) : (deed4 w b a1 a2 a3 a4).heap[b]? = some (.cells #[a1, a2, a3, a4] t (0, 0)) := by
  have h1 := blk_set_same w b 0 _ t a1 h
  have h2 := blk_set_same _ b 1 _ t a2 h1
  have h3 := blk_set_same _ b 2 _ t a3 h2
  have h4 := blk_set_same _ b 3 _ t a4 h3
  simpa [deed4] using h4
theorem deed4_below {B : Nat} {w0 w : World} {b : Nat} (h : Below B w0 w) (hb : B ≤ b) (a1 a2 a3 a4 : Value) : Below B w0 (deed4 w b a1 a2 a3 a4) :=
  (((h.setCell (p := ⟨b, 0, none⟩) hb _).setCell (p := ⟨b, 1, none⟩) hb _).setCell (p := ⟨b, 2, none⟩) hb _).setCell (p := ⟨b, 3, none⟩) hb _
/-- What readLine tells of a line. -/
def LineOut (l : List UInt8) (w : World) (e : Ending) (w' : World) : Prop := (∃ a b c d : Int, e = .returned (.tuple #[.agg #[.int .i64 a, .int .i64 b, .int .i64 c, .int .i64 d], .bool (lineD l).isSome]) ∧ ∀ x, lineD l = some x → x = (a, b, c, d)) ∧ Below w.heap.size w w'
theorem LineOut.no {l : List UInt8} {w w' : World} (h : lineD l = none) (a b c d : Int) (hb : Below w.heap.size w w') : LineOut l w (.returned (.tuple #[.agg #[.int .i64 a, .int .i64 b, .int .i64 c, .int .i64 d], .bool false])) w' :=
  ⟨⟨a, b, c, d, by rw [h]; rfl, fun x hx => by rw [h] at hx; cases hx⟩, hb⟩
theorem LineOut.yes {l : List UInt8} {w w' : World} {a b c d : Int} (h : lineD l = some (a, b, c, d)) (hb : Below w.heap.size w w') : LineOut l w (.returned (.tuple #[.agg #[.int .i64 a, .int .i64 b, .int .i64 c, .int .i64 d], .bool true])) w' :=
  ⟨⟨a, b, c, d, by rw [h]; rfl, fun x hx => by rw [h] at hx; exact (Option.some.inj hx).symm⟩, hb⟩
end Go.Proofs.YtandhiiaflhenaaGreatDoor

namespace Go.Proofs.YtandhiiaflhenaaGreatDoor
open Go.RowKit Go.Deep

theorem nsD_snoc (ns : List Nat) (m k : Nat) : (if k = ns.length then m else ns.getD k 0) = (ns ++ [m]).getD k 0 := by
  rw [List.getD_eq_getElem?_getD, List.getD_eq_getElem?_getD]
  by_cases e : k = ns.length
  · rw [if_pos e, e]; simp
  · rw [if_neg e]
    by_cases h : k < ns.length
    · rw [List.getElem?_append_left h]
    · rw [List.getElem?_eq_none (by omega), List.getElem?_eq_none (by simp; omega)]
def numRow (ns : List Nat) : Nat → Value := fun k => .int .i64 ((ns.getD k 0 : Nat) : Int)
theorem numRow_set (ns : List Nat) (m i : Nat) (h : ns.length = i) (j : Nat) : (if j = i then Value.int .i64 (m : Int) else numRow ns j) = numRow (ns ++ [m]) j := by
  unfold numRow
  rw [← nsD_snoc, h]
  by_cases e : j = i
  · rw [if_pos e, if_pos e]
  · rw [if_neg e, if_neg e]
set_option maxRecDepth 100000 in
set_option maxHeartbeats 8000000 in
theorem readLine_any (l : List UInt8) (hl : l.length ≤ 9223372036854775806) (w : World) (hf : FormsAt w) (hs : Synt w) : Calls Tryz.prog 37 #[strL l] w (LineOut l w) := by
  obtain ⟨W, hW⟩ : ∃ W, W = w.alloc (.cells #[.int .i64 0, .int .i64 0, .int .i64 0, .int .i64 0] 43) := ⟨_, rfl⟩
  have hbW : Below w.heap.size w W := by rw [hW]; exact (Below.refl _ _).alloc (Nat.le_refl _) _
  have hrb : W.heap[w.heap.size]? = some (.cells #[.int .i64 0, .int .i64 0, .int .i64 0, .int .i64 0] 43 (0, 0)) := by rw [hW]; exact blk_alloc_new _ _
  have hcs := cutNl_any l hl W
  have hll : (sufN l).1.length ≤ l.length := by unfold sufN; split <;> simp
  have hcb := fun wx => cut_blank (sufN l).1 (by omega) wx
  have HRW : Hid (∀ wx, Below W.heap.size W wx → Calls Tryz.prog 66 #[strL (cutB 32 (sufN l).1).1] wx fun e w' => e = .returned (.tuple #[.int .i64 (whatD (cutB 32 (sufN l).1).1), .bool (decide (whatD (cutB 32 (sufN l).1).1 ≠ 0))]) ∧ Below wx.heap.size wx w') := fun wx hb => readWord_any _ wx ((hf.later hbW).later hb)
  have HB0 : Hid (∀ wx, Below W.heap.size W wx → Below w.heap.size w wx ∧ wx.heap[w.heap.size]? = some (.cells #[.int .i64 0, .int .i64 0, .int .i64 0, .int .i64 0] 43 (0, 0)) ∧ FormsAt wx ∧ Synt wx) := fun wx hb => ⟨hbW.trans (hb.mono hbW.size), (hb.block _ (lt_of_block hrb)).trans hrb, (hf.later hbW).later hb, (hs.later hbW).later hb⟩
  have HW : Hid (W = w.alloc (.cells #[.int .i64 0, .int .i64 0, .int .i64 0, .int .i64 0] 43)) := hW
  obtain ⟨ws, hsp, hrem⟩ := RemW.cut (sufN l).1
  have hcl := cutB_len 32 (sufN l).1
  clear hW hbW hrb hf hs
  unfold strL at hcs ⊢
  by_cases hend : l.getLast? = some 10
  case neg =>
    have HN : Hid (lineD l = none) := if_neg hend
    have he : (sufN l).2 = false := by unfold sufN; rw [if_neg hend]
    rw [he] at hcs
    clear hsp hrem hcl hend he
    unfold strL at hcb HRW
    generalize (cutB 32 (sufN l).1).1 = wd at *
    generalize (cutB 32 (sufN l).1).2.1 = rs at *
    generalize (cutB 32 (sufN l).1).2.2 = mr at *
    generalize (sufN l).1 = ln at *
    generalize whatD wd = wh at *
    generalize decide (wh ≠ 0) = ok at *
    go_enter Tryz.func37, Tryz.ntmps37
    go_upto_region 1 with fail
    rw [← HW.out]
    go_wp2_with (first | (go_at_call 64; refine hcs.mono ?_; clear hcs; rintro e w1 ⟨rfl, rfl⟩) | (go_at_call 65; refine (hcb _).mono ?_; clear hcb; rintro e w2 ⟨rfl, hb2⟩; have hrw := HRW.out w2 hb2; have HB2 : Hid (Below w1.heap.size w1 w2) := hb2; clear HRW hb2) | (go_at_call 66; refine hrw.mono ?_; clear hrw; rintro e w3 ⟨rfl, hb3⟩; obtain ⟨hB, hrs, -, -⟩ := HB0.out w3 (HB2.out.trans (hb3.mono HB2.out.size)); have q0 : w3.cell? ⟨w.heap.size, 0, none⟩ = some (.int .i64 0) := (by simp [World.cell?, hrs]); have q1 : w3.cell? ⟨w.heap.size, 1, none⟩ = some (.int .i64 0) := (by simp [World.cell?, hrs]); have q2 : w3.cell? ⟨w.heap.size, 2, none⟩ = some (.int .i64 0) := (by simp [World.cell?, hrs]); have q3 : w3.cell? ⟨w.heap.size, 3, none⟩ = some (.int .i64 0) := (by simp [World.cell?, hrs]); have ff : ∀ j, w3.frozen? ⟨w.heap.size, j, none⟩ = false := (fun j => by simp [World.frozen?, hrs]); have HRS : Hid (Below w.heap.size w w3 ∧ w3.heap[w.heap.size]? = some (.cells #[.int .i64 0, .int .i64 0, .int .i64 0, .int .i64 0] 43 (0, 0))) := ⟨hB, hrs⟩; clear hb3 hB hrs))
    exact deed_ret2 Tryz.results37 (deed4_block HRS.out.2 _ _ _ _) rfl rfl rfl (LineOut.no HN.out _ _ _ _ (deed4_below HRS.out.1 (Nat.le_refl _) _ _ _ _))
  case pos =>
    have he : (sufN l).2 = true := by unfold sufN; rw [if_pos hend]
    have hln : (sufN l).1 = l.dropLast := by unfold sufN; rw [if_pos hend]
    have hLD : lineD l = deedW (cutB 32 (sufN l).1).1 ws := by unfold lineD; rw [if_pos hend, ← hln]; exact deedOf_words _ hsp
    rw [he] at hcs
    clear hend he hln hsp
    by_cases hw0 : whatD (cutB 32 (sufN l).1).1 = 0
    · have HN : Hid (lineD l = none) := (show lineD l = none by rw [hLD]; unfold deedW; rw [if_pos hw0])
      rw [hw0] at HRW
      clear hLD hrem hcl hw0
      unfold strL at hcb HRW
      generalize (cutB 32 (sufN l).1).1 = wd at *
      generalize (cutB 32 (sufN l).1).2.1 = rs at *
      generalize (cutB 32 (sufN l).1).2.2 = mr at *
      generalize (sufN l).1 = ln at *
      go_enter Tryz.func37, Tryz.ntmps37
      go_upto_region 1 with fail
      rw [← HW.out]
      go_wp2_with (first | (go_at_call 64; refine hcs.mono ?_; clear hcs; rintro e w1 ⟨rfl, rfl⟩) | (go_at_call 65; refine (hcb _).mono ?_; clear hcb; rintro e w2 ⟨rfl, hb2⟩; have hrw := HRW.out w2 hb2; have HB2 : Hid (Below w1.heap.size w1 w2) := hb2; clear HRW hb2) | (go_at_call 66; refine hrw.mono ?_; clear hrw; rintro e w3 ⟨rfl, hb3⟩; obtain ⟨hB, hrs, -, -⟩ := HB0.out w3 (HB2.out.trans (hb3.mono HB2.out.size)); have q0 : w3.cell? ⟨w.heap.size, 0, none⟩ = some (.int .i64 0) := (by simp [World.cell?, hrs]); have q1 : w3.cell? ⟨w.heap.size, 1, none⟩ = some (.int .i64 0) := (by simp [World.cell?, hrs]); have q2 : w3.cell? ⟨w.heap.size, 2, none⟩ = some (.int .i64 0) := (by simp [World.cell?, hrs]); have q3 : w3.cell? ⟨w.heap.size, 3, none⟩ = some (.int .i64 0) := (by simp [World.cell?, hrs]); have ff : ∀ j, w3.frozen? ⟨w.heap.size, j, none⟩ = false := (fun j => by simp [World.frozen?, hrs]); have HRS : Hid (Below w.heap.size w w3 ∧ w3.heap[w.heap.size]? = some (.cells #[.int .i64 0, .int .i64 0, .int .i64 0, .int .i64 0] 43 (0, 0))) := ⟨hB, hrs⟩; clear hb3 hB hrs))
      exact deed_ret2 Tryz.results37 (deed4_block HRS.out.2 _ _ _ _) rfl rfl rfl (LineOut.no HN.out _ _ _ _ (deed4_below HRS.out.1 (Nat.le_refl _) _ _ _ _))
    · obtain ⟨h1, -⟩ : (1 ≤ whatD (cutB 32 (sufN l).1).1 ∧ whatD (cutB 32 (sufN l).1).1 ≤ 6) ∧ True := by
        rcases whatD_cases (cutB 32 (sufN l).1).1 with h | h
        · exact absurd h hw0
        · exact ⟨h.1, trivial⟩
      unfold deedW at hLD
      rw [if_neg hw0] at hLD
      rw [decide_eq_true hw0] at HRW
      unfold strL at hcb HRW
      have hnl := numsD_le (whatD (cutB 32 (sufN l).1).1)
      have HRL : Hid ((cutB 32 (sufN l).1).2.1.length ≤ 9223372036854775806) := (show _ ≤ _ by omega)
      generalize (cutB 32 (sufN l).1).1 = wd at *
      generalize (cutB 32 (sufN l).1).2.1 = rs at *
      generalize (cutB 32 (sufN l).1).2.2 = mr at *
      generalize (sufN l).1 = ln at *
      obtain ⟨k, hk⟩ : ∃ k : Nat, whatD wd = (k : Int) + 1 := ⟨(whatD wd - 1).toNat, by omega⟩
      have hk6 : k < 6 := by omega
      have hki : (k : Int) < 6 := by omega
      generalize whatD wd = wh at *
      have hsub : IntKind.i64.wrap (wh - 1) = (k : Int) := by rw [hk, Int.add_sub_cancel]; rw [IntKind.wrap_i64]; omega
      have HFM : Hid (∀ wx, FormsAt wx → wx.cell? ⟨0, k * 2 + 1, none⟩ = some (.int .i64 ((numsD wh : Nat) : Int))) := fun wx h => by rw [hk]; exact (h.2 k hk6).2
      generalize hnn : numsD wh = n at *
      have HLD : Hid (lineD l = match numsR n ws with | some (ns, []) => some (wh, ((ns.getD 0 0 : Nat) : Int), ((ns.getD 1 0 : Nat) : Int), ((ns.getD 2 0 : Nat) : Int)) | _ => none) := hLD
      have HRM : Hid (RemW rs mr ws) := hrem
      clear hLD hrem hcl hw0 h1 hk hnn hll hl
      go_enter Tryz.func37, Tryz.ntmps37
      go_upto_region 1 with fail
      rw [← HW.out]
      go_wp2_with (first | (go_at_call 64; refine hcs.mono ?_; clear hcs; rintro e w1 ⟨rfl, rfl⟩) | (go_at_call 65; refine (hcb _).mono ?_; clear hcb; rintro e w2 ⟨rfl, hb2⟩; have hrw := HRW.out w2 hb2; have HB2 : Hid (Below w1.heap.size w1 w2) := hb2; clear HRW hb2) | (go_at_call 66; refine hrw.mono ?_; clear hrw; rintro e w3 ⟨rfl, hb3⟩; have hb13 := HB2.out.trans (hb3.mono HB2.out.size); have hfm := HFM.out _ (HB0.out _ (hb13.alloc hb13.size (.cells #[.int .i64 0, .int .i64 0, .int .i64 0] 140))).2.2.1; have HB3 : Hid (Below w1.heap.size w1 w3) := hb13; clear hb3 hb13 HB2 HFM))
      have HR0 : Hid ((w3.alloc (.cells #[.int .i64 0, .int .i64 0, .int .i64 0] 140)).rowIs w3.heap.size 140 3 (numRow [])) := World.rowIs_alloc w3 #[.int .i64 0, .int .i64 0, .int .i64 0] 140 (numRow []) (fun i hi => by
        have hi3 : i < 3 := hi
        rcases (by omega : i = 0 ∨ i = 1 ∨ i = 2) with rfl | rfl | rfl <;> rfl)
      have HB4 : Hid (Below w1.heap.size w1 (w3.alloc (.cells #[.int .i64 0, .int .i64 0, .int .i64 0] 140))) := HB3.out.alloc HB3.out.size _
      have HLT : Hid (w1.heap.size ≤ w3.heap.size ∧ w.heap.size < w1.heap.size) := ⟨HB3.out.size, lt_of_block (HB0.out w1 (Below.refl _ _)).2.1⟩
      clear hfm HW HB3
      go_loopw [6, 7, 40] (fun s6 s7 s40 wr => ∃ (i : Nat) (ns : List Nat) (rest : List UInt8) (more : Bool) (r : List (List UInt8)), i ≤ n ∧ s40 = .int .i64 i ∧ s6 = .string ⟨rest.toArray⟩ ∧ s7 = .bool more ∧ Hid (numsR i ws = some (ns, r) ∧ RemW rest more r ∧ rest.length ≤ 9223372036854775806) ∧ Hid (wr.rowIs w3.heap.size 140 3 (numRow ns)) ∧ Hid (Below w1.heap.size w1 wr)) (fun _ _ s40 _ => n - (intOf s40).toNat)
      case atStart => exact ⟨0, [], rs, mr, ws, Nat.zero_le _, rfl, rfl, rfl, ⟨rfl, HRM.out, HRL.out⟩, HR0, HB4⟩
      case round =>
        clear HR0 HB4 HRM HRL
        obtain ⟨i, ns, rest, more, r, hi, rfl, rfl, rfl, hN, hrow, hB⟩ := hrel
        obtain ⟨hBw, hrs, hfr, hsr⟩ := HB0.out wr hB.out
        have hnlen := numsR_len i ws ns r hN.out.1
        by_cases hin : i < n
        · have hi3 : i < 3 := by omega
          have hi3i : (i : Int) < 3 := by omega
          have hcut := fun wx => cut_blank rest hN.out.2.2 wx
          have HNM : Hid (∀ wx, Below wr.heap.size wr wx → Calls Tryz.prog 67 #[strL (cutB 32 rest).1] wx fun e w' => (∃ n : Int, e = .returned (.tuple #[.int .i64 n, .bool (num2 (cutB 32 rest).1).isSome]) ∧ ∀ m : Nat, num2 (cutB 32 rest).1 = some m → n = m) ∧ Below wx.heap.size wx w') := fun wx hb => readNum_any _ (by have := (cutB_len 32 rest).1; have := hN.out.2.2; omega) wx (hsr.later hb)
          have HKP : Hid (∀ wx, Below wr.heap.size wr wx → wx.rowIs w3.heap.size 140 3 (numRow ns) ∧ Below w1.heap.size w1 wx) := fun wx hb => ⟨hrow.out.of_block (hb.block _ hrow.out.lt), hB.out.trans (hb.mono hB.out.size)⟩
          cases hm : num2 (cutB 32 rest).1
          case none =>
            have HBAD : Hid (lineD l = none) := by
              have : numsR n ws = none := by
                rcases hN.out.2.1.next with ⟨e, _, _⟩ | ⟨r', e, _, _⟩
                · exact numsR_stop i ws ns (by rw [hN.out.1, e]) n hin
                · exact numsR_bad i ws ns _ r' (by rw [hN.out.1, e]) hm n hin
              show lineD l = none
              rw [HLD.out, this]
            rw [hm] at HNM
            unfold strL at hcut HNM
            clear hm hN hrow hB hnlen hfr hsr HLD hBw hrs
            generalize (cutB 32 rest).1 = wd2 at *
            generalize (cutB 32 rest).2.1 = rs2 at *
            generalize (cutB 32 rest).2.2 = mr2 at *
            go_wp2_with (first | (go_at_call 65; refine (hcut _).mono ?_; clear hcut; rintro e w5 ⟨rfl, hb5⟩; have hnm := HNM.out w5 hb5; have HB5 : Hid (Below wr.heap.size wr w5) := hb5; clear HNM hb5) | (go_at_call 67; refine hnm.mono ?_; clear hnm; rintro e w6 ⟨⟨z, rfl, -⟩, hb6⟩; obtain ⟨hrw6, hb16⟩ := HKP.out w6 (HB5.out.trans (hb6.mono HB5.out.size)); have cc := hrw6.cell hi3; have cf := hrw6.frozen i; unfold numRow at cc; have HQ : Hid (Below w.heap.size w (w6.setCell ⟨w3.heap.size, i, none⟩ (.int .i64 z)) ∧ (w6.setCell ⟨w3.heap.size, i, none⟩ (.int .i64 z)).heap[w.heap.size]? = some (.cells #[.int .i64 0, .int .i64 0, .int .i64 0, .int .i64 0] 43 (0, 0))) := ⟨(HB0.out w6 hb16).1.setCell (p := ⟨w3.heap.size, i, none⟩) (by have := HLT.out; show w.heap.size ≤ w3.heap.size; omega) _, (Below.heap_setCell _ _ _ _ (by have := HLT.out; show w.heap.size ≠ w3.heap.size; omega)).trans (HB0.out w6 hb16).2.1⟩; have hrs := HQ.out.2; have q0 : (w6.setCell ⟨w3.heap.size, i, none⟩ (.int .i64 z)).cell? ⟨w.heap.size, 0, none⟩ = some (.int .i64 0) := (by simp [World.cell?, hrs]); have q1 : (w6.setCell ⟨w3.heap.size, i, none⟩ (.int .i64 z)).cell? ⟨w.heap.size, 1, none⟩ = some (.int .i64 0) := (by simp [World.cell?, hrs]); have q2 : (w6.setCell ⟨w3.heap.size, i, none⟩ (.int .i64 z)).cell? ⟨w.heap.size, 2, none⟩ = some (.int .i64 0) := (by simp [World.cell?, hrs]); have q3 : (w6.setCell ⟨w3.heap.size, i, none⟩ (.int .i64 z)).cell? ⟨w.heap.size, 3, none⟩ = some (.int .i64 0) := (by simp [World.cell?, hrs]); have ff : ∀ j, (w6.setCell ⟨w3.heap.size, i, none⟩ (.int .i64 z)).frozen? ⟨w.heap.size, j, none⟩ = false := (fun j => by simp [World.frozen?, hrs]); clear hb6 hrw6 hb16 hrs))
            exact deed_ret2 Tryz.results37 (deed4_block HQ.out.2 _ _ _ _) rfl rfl rfl (LineOut.no HBAD.out _ _ _ _ (deed4_below HQ.out.1 (Nat.le_refl _) _ _ _ _))
          case some m =>
            have HST : Hid (∃ r', numsR (i + 1) ws = some (ns ++ [m], r') ∧ RemW (cutB 32 rest).2.1 (cutB 32 rest).2.2 r' ∧ (cutB 32 rest).2.1.length ≤ 9223372036854775806) := by
              rcases hN.out.2.1.next with ⟨_, e, _⟩ | ⟨r', e, hr', _⟩
              · rw [e] at hm; cases hm
              · exact ⟨r', numsR_step i ws ns _ r' m (by rw [hN.out.1, e]) hm, hr', by have := (cutB_len 32 rest).2; have := hN.out.2.2; omega⟩
            rw [hm] at HNM
            unfold strL at hcut HNM
            have HLEN : Hid (ns.length = i) := hnlen
            clear hm hN hrow hB hfr hsr hBw hrs hnlen
            generalize (cutB 32 rest).1 = wd2 at *
            generalize (cutB 32 rest).2.1 = rs2 at *
            generalize (cutB 32 rest).2.2 = mr2 at *
            go_wp2_with (first | (go_at_call 65; refine (hcut _).mono ?_; clear hcut; rintro e w5 ⟨rfl, hb5⟩; have hnm := HNM.out w5 hb5; have HB5 : Hid (Below wr.heap.size wr w5) := hb5; clear HNM hb5) | (go_at_call 67; refine hnm.mono ?_; clear hnm; rintro e w6 ⟨⟨z, rfl, hz⟩, hb6⟩; have hzm := hz m rfl; subst hzm; clear hz; obtain ⟨hrw6, hb16⟩ := HKP.out w6 (HB5.out.trans (hb6.mono HB5.out.size)); have cc := hrw6.cell hi3; have cf := hrw6.frozen i; unfold numRow at cc; have HR6 : Hid ((w6.setCell ⟨w3.heap.size, i, none⟩ (.int .i64 (m : Int))).rowIs w3.heap.size 140 3 (numRow (ns ++ [m]))) := (hrw6.set i _).congr (fun j _ => numRow_set ns m i HLEN.out j); have HB6 : Hid (Below w1.heap.size w1 (w6.setCell ⟨w3.heap.size, i, none⟩ (.int .i64 (m : Int)))) := hb16.setCell (p := ⟨w3.heap.size, i, none⟩) HLT.out.1 _; clear hb6 hrw6 hb16))
            go_roundw
            case rel =>
              obtain ⟨r', h1, h2, h3⟩ := HST.out
              exact ⟨i + 1, ns ++ [m], rs2, mr2, r', by omega, by go_num, rfl, rfl, ⟨h1, h2, h3⟩, HR6, HB6⟩
            case measure => simp [intOf]; omega
        · have hie : i = n := by omega
          subst hie
          have c0 := hrow.out.cell (i := 0) (by omega)
          have c1 := hrow.out.cell (i := 1) (by omega)
          have c2 := hrow.out.cell (i := 2) (by omega)
          unfold numRow at c0 c1 c2
          have q0 : wr.cell? ⟨w.heap.size, 0, none⟩ = some (.int .i64 0) := by simp [World.cell?, hrs]
          have q1 : wr.cell? ⟨w.heap.size, 1, none⟩ = some (.int .i64 0) := by simp [World.cell?, hrs]
          have q2 : wr.cell? ⟨w.heap.size, 2, none⟩ = some (.int .i64 0) := by simp [World.cell?, hrs]
          have q3 : wr.cell? ⟨w.heap.size, 3, none⟩ = some (.int .i64 0) := by simp [World.cell?, hrs]
          have ff : ∀ j, wr.frozen? ⟨w.heap.size, j, none⟩ = false := fun j => by simp [World.frozen?, hrs]
          have HQ : Hid (Below w.heap.size w wr ∧ wr.heap[w.heap.size]? = some (.cells #[.int .i64 0, .int .i64 0, .int .i64 0, .int .i64 0] 43 (0, 0))) := ⟨hBw, hrs⟩
          have hrem := hN.out.2.1
          have hNs := hN.out.1
          cases r
          case nil =>
            have hmo := hrem.none
            subst hmo
            have HY : Hid (lineD l = some (wh, ((ns.getD 0 0 : Nat) : Int), ((ns.getD 1 0 : Nat) : Int), ((ns.getD 2 0 : Nat) : Int))) := (show _ = _ by rw [HLD.out, hNs])
            clear hrem hNs hN HLD hB hrow hBw hrs hfr hsr hnlen
            generalize ns.getD 0 0 = z0 at *
            generalize ns.getD 1 0 = z1 at *
            generalize ns.getD 2 0 = z2 at *
            go_wp2
            exact deed_ret2 Tryz.results37 (deed4_block HQ.out.2 _ _ _ _) rfl rfl rfl (LineOut.yes HY.out (deed4_below HQ.out.1 (Nat.le_refl _) _ _ _ _))
          case cons x r =>
            have hmo := hrem.some
            subst hmo
            have HN : Hid (lineD l = none) := (show _ = _ by rw [HLD.out, hNs])
            clear hrem hNs hN HLD hB hrow hBw hrs hfr hsr hnlen
            generalize ns.getD 0 0 = z0 at *
            generalize ns.getD 1 0 = z1 at *
            generalize ns.getD 2 0 = z2 at *
            go_wp2
            exact deed_ret2 Tryz.results37 (deed4_block HQ.out.2 _ _ _ _) rfl rfl rfl (LineOut.no HN.out _ _ _ _ (deed4_below HQ.out.1 (Nat.le_refl _) _ _ _ _))
end Go.Proofs.YtandhiiaflhenaaGreatDoor
