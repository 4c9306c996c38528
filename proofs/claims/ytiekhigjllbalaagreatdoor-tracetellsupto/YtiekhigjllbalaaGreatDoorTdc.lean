/- The document's Digits and DeedText. -/
import Derived.Test.YtiekhigjllbalaaGreatDoorTda
import Derived.Test.YtiekhigjllbalaaGreatDoorTb
namespace Go.Proofs.YtiekhigjllbalaaGreatDoor
open Go.RowKit Go.Deep

theorem bytes_app (l m : List UInt8) : (⟨l.toArray⟩ : ByteArray) ++ ⟨m.toArray⟩ = ⟨(l ++ m).toArray⟩ := by
  apply ByteArray.ext
  simp
theorem digit_at (n : Nat) (hn : n < 10) : (⟨#[48, 49, 50, 51, 52, 53, 54, 55, 56, 57]⟩ : ByteArray).extract n (n + 1) = ⟨[UInt8.ofNat (48 + n)].toArray⟩ := by
  have h : ∀ k : Fin 10, (⟨#[48, 49, 50, 51, 52, 53, 54, 55, 56, 57]⟩ : ByteArray).extract k.val (k.val + 1) = ⟨[UInt8.ofNat (48 + k.val)].toArray⟩ := by decide +kernel
  exact h ⟨n, hn⟩
theorem ret_string {a b : ByteArray} (h : a = b) : Ending.returned (.string a) = .returned (.string b) := by rw [h]

set_option maxRecDepth 100000 in
theorem digitsR_small (n : Nat) (w : World) (hn : n < 10) : Calls Tryz.prog 23 #[.int .i64 n] w fun e w' => e = .returned (.string ⟨(Lib.decDigits n).toArray⟩) ∧ w' = w := by
  go_enter Tryz.func23, Tryz.ntmps23
  go_wp2
  go_ret
  exact ⟨ret_string (by rw [digit_at n hn, dec_small n hn]), rfl⟩
set_option maxRecDepth 100000 in
theorem digitsR_more (n : Nat) (w : World) (hn : ¬ n < 10) (h2 : n < 100) : Calls Tryz.prog 23 #[.int .i64 n] w fun e w' => e = .returned (.string ⟨(Lib.decDigits n).toArray⟩) ∧ w' = w := by
  have hi := digitsR_small (n / 10) w (by omega)
  have hm : n % 10 < 10 := Nat.mod_lt _ (by omega)
  have hdl : (Lib.decDigits (n / 10)).length ≤ 2 := by rw [dec_small (n / 10) (by omega)]; simp
  go_enter Tryz.func23, Tryz.ntmps23
  go_wp2_with fail
  rw [show ((n : Int) / 10) = ((n / 10 : Nat) : Int) by omega]
  refine hi.mono ?_
  rintro e w' ⟨rfl, rfl⟩
  rw [show ((n : Int) % 10) = ((n % 10 : Nat) : Int) by omega]
  go_wp2
  go_ret
  exact ⟨ret_string (by rw [digit_at _ hm, bytes_app, dec_more n (by omega)]), rfl⟩
theorem digitsR_any (n : Nat) (w : World) (h2 : n < 100) : Calls Tryz.prog 23 #[.int .i64 n] w fun e w' => e = .returned (.string ⟨(digs (n : Int)).toArray⟩) ∧ w' = w := by
  unfold digs
  rw [Int.toNat_natCast]
  by_cases h : n < 10
  · exact digitsR_small n w h
  · exact digitsR_more n w h h2
/-- The text of a deed, by its word. -/
theorem joinC_two (c : UInt8) (a b : List UInt8) : joinC c [a, b] = a ++ c :: b := rfl
theorem joinC_three (c : UInt8) (a b d : List UInt8) : joinC c [a, b, d] = a ++ c :: (b ++ c :: d) := rfl
theorem joinC_four (c : UInt8) (a b d e : List UInt8) : joinC c [a, b, d, e] = a ++ c :: (b ++ c :: (d ++ c :: e)) := rfl
set_option maxRecDepth 100000 in
set_option maxHeartbeats 2000000 in
theorem dText_1 (h t : Nat) (hh : h < 100) (ht : t < 100) (w : World) : Calls Tryz.prog 9 #[.agg #[.int .i64 1, .int .i64 (h : Int), .int .i64 (t : Int), .int .i64 0]] w fun e w' => e = .returned (.string ⟨(deedText (1, (h : Int), (t : Int), 0)).toArray⟩) ∧ Below w.heap.size w w' := by
  have hdh := fun wx => digitsR_any h wx hh
  have hl2 := digs_len (z := (h : Int)) (by omega)
  have hdt := fun wx => digitsR_any t wx ht
  have hl3 := digs_len (z := (t : Int)) (by omega)
  have HB : Hid (Below w.heap.size w ((w.alloc (.cells #[.int .i64 1, .int .i64 (h : Int), .int .i64 (t : Int), .int .i64 0] 34)).alloc (.cells #[.string ⟨#[]⟩, .string ⟨#[116, 111, 111, 107]⟩, .string ⟨#[115, 116, 111, 108, 101]⟩, .string ⟨#[102, 101, 116, 99, 104, 101, 100]⟩, .string ⟨#[102, 105, 110, 105, 115, 104, 101, 100]⟩, .string ⟨#[115, 108, 101, 112, 116]⟩, .string ⟨#[119, 111, 107, 101]⟩] 9))) := ((Below.refl _ _).alloc (Nat.le_refl _) _).alloc (by simp) _
  have HT : Hid (deedText (1, (h : Int), (t : Int), 0) = joinC 32 [wordD 1, digs (h : Int), digs (t : Int)]) := rfl
  generalize digs (h : Int) = lh at *
  generalize digs (t : Int) = lt at *
  go_enter Tryz.func9, Tryz.ntmps9
  go_wp2_with fail
  refine (hdh _).mono ?_
  clear hdh
  rintro e wx ⟨rfl, rfl⟩
  go_wp2_with fail
  refine (hdt _).mono ?_
  clear hdt
  rintro e wx ⟨rfl, rfl⟩
  go_wp2
  go_ret
  refine ⟨ret_string ?_, HB.out⟩
  rw [HT.out, joinC_three]
  apply ByteArray.ext
  simp [wordD]
set_option maxRecDepth 100000 in
set_option maxHeartbeats 2000000 in
theorem dText_2 (h t o : Nat) (hh : h < 100) (ht : t < 100) (ho : o < 100) (w : World) : Calls Tryz.prog 9 #[.agg #[.int .i64 2, .int .i64 (h : Int), .int .i64 (t : Int), .int .i64 (o : Int)]] w fun e w' => e = .returned (.string ⟨(deedText (2, (h : Int), (t : Int), (o : Int))).toArray⟩) ∧ Below w.heap.size w w' := by
  have hdh := fun wx => digitsR_any h wx hh
  have hl2 := digs_len (z := (h : Int)) (by omega)
  have hdt := fun wx => digitsR_any t wx ht
  have hl3 := digs_len (z := (t : Int)) (by omega)
  have hdo := fun wx => digitsR_any o wx ho
  have hl4 := digs_len (z := (o : Int)) (by omega)
  have HB : Hid (Below w.heap.size w ((w.alloc (.cells #[.int .i64 2, .int .i64 (h : Int), .int .i64 (t : Int), .int .i64 (o : Int)] 34)).alloc (.cells #[.string ⟨#[]⟩, .string ⟨#[116, 111, 111, 107]⟩, .string ⟨#[115, 116, 111, 108, 101]⟩, .string ⟨#[102, 101, 116, 99, 104, 101, 100]⟩, .string ⟨#[102, 105, 110, 105, 115, 104, 101, 100]⟩, .string ⟨#[115, 108, 101, 112, 116]⟩, .string ⟨#[119, 111, 107, 101]⟩] 9))) := ((Below.refl _ _).alloc (Nat.le_refl _) _).alloc (by simp) _
  have HT : Hid (deedText (2, (h : Int), (t : Int), (o : Int)) = joinC 32 [wordD 2, digs (h : Int), digs (t : Int), digs (o : Int)]) := rfl
  generalize digs (h : Int) = lh at *
  generalize digs (t : Int) = lt at *
  generalize digs (o : Int) = lo at *
  go_enter Tryz.func9, Tryz.ntmps9
  go_wp2_with fail
  refine (hdh _).mono ?_
  clear hdh
  rintro e wx ⟨rfl, rfl⟩
  go_wp2_with fail
  refine (hdt _).mono ?_
  clear hdt
  rintro e wx ⟨rfl, rfl⟩
  go_wp2_with fail
  refine (hdo _).mono ?_
  clear hdo
  rintro e wx ⟨rfl, rfl⟩
  go_wp2
  go_ret
  refine ⟨ret_string ?_, HB.out⟩
  rw [HT.out, joinC_four]
  apply ByteArray.ext
  simp [wordD]
set_option maxRecDepth 100000 in
set_option maxHeartbeats 2000000 in
theorem dText_3 (h t : Nat) (hh : h < 100) (ht : t < 100) (w : World) : Calls Tryz.prog 9 #[.agg #[.int .i64 3, .int .i64 (h : Int), .int .i64 (t : Int), .int .i64 0]] w fun e w' => e = .returned (.string ⟨(deedText (3, (h : Int), (t : Int), 0)).toArray⟩) ∧ Below w.heap.size w w' := by
  have hdh := fun wx => digitsR_any h wx hh
  have hl2 := digs_len (z := (h : Int)) (by omega)
  have hdt := fun wx => digitsR_any t wx ht
  have hl3 := digs_len (z := (t : Int)) (by omega)
  have HB : Hid (Below w.heap.size w ((w.alloc (.cells #[.int .i64 3, .int .i64 (h : Int), .int .i64 (t : Int), .int .i64 0] 34)).alloc (.cells #[.string ⟨#[]⟩, .string ⟨#[116, 111, 111, 107]⟩, .string ⟨#[115, 116, 111, 108, 101]⟩, .string ⟨#[102, 101, 116, 99, 104, 101, 100]⟩, .string ⟨#[102, 105, 110, 105, 115, 104, 101, 100]⟩, .string ⟨#[115, 108, 101, 112, 116]⟩, .string ⟨#[119, 111, 107, 101]⟩] 9))) := ((Below.refl _ _).alloc (Nat.le_refl _) _).alloc (by simp) _
  have HT : Hid (deedText (3, (h : Int), (t : Int), 0) = joinC 32 [wordD 3, digs (h : Int), digs (t : Int)]) := rfl
  generalize digs (h : Int) = lh at *
  generalize digs (t : Int) = lt at *
  go_enter Tryz.func9, Tryz.ntmps9
  go_wp2_with fail
  refine (hdh _).mono ?_
  clear hdh
  rintro e wx ⟨rfl, rfl⟩
  go_wp2_with fail
  refine (hdt _).mono ?_
  clear hdt
  rintro e wx ⟨rfl, rfl⟩
  go_wp2
  go_ret
  refine ⟨ret_string ?_, HB.out⟩
  rw [HT.out, joinC_three]
  apply ByteArray.ext
  simp [wordD]
set_option maxRecDepth 100000 in
set_option maxHeartbeats 2000000 in
theorem dText_4 (h t : Nat) (hh : h < 100) (ht : t < 100) (w : World) : Calls Tryz.prog 9 #[.agg #[.int .i64 4, .int .i64 (h : Int), .int .i64 (t : Int), .int .i64 0]] w fun e w' => e = .returned (.string ⟨(deedText (4, (h : Int), (t : Int), 0)).toArray⟩) ∧ Below w.heap.size w w' := by
  have hdh := fun wx => digitsR_any h wx hh
  have hl2 := digs_len (z := (h : Int)) (by omega)
  have hdt := fun wx => digitsR_any t wx ht
  have hl3 := digs_len (z := (t : Int)) (by omega)
  have HB : Hid (Below w.heap.size w ((w.alloc (.cells #[.int .i64 4, .int .i64 (h : Int), .int .i64 (t : Int), .int .i64 0] 34)).alloc (.cells #[.string ⟨#[]⟩, .string ⟨#[116, 111, 111, 107]⟩, .string ⟨#[115, 116, 111, 108, 101]⟩, .string ⟨#[102, 101, 116, 99, 104, 101, 100]⟩, .string ⟨#[102, 105, 110, 105, 115, 104, 101, 100]⟩, .string ⟨#[115, 108, 101, 112, 116]⟩, .string ⟨#[119, 111, 107, 101]⟩] 9))) := ((Below.refl _ _).alloc (Nat.le_refl _) _).alloc (by simp) _
  have HT : Hid (deedText (4, (h : Int), (t : Int), 0) = joinC 32 [wordD 4, digs (h : Int), digs (t : Int)]) := rfl
  generalize digs (h : Int) = lh at *
  generalize digs (t : Int) = lt at *
  go_enter Tryz.func9, Tryz.ntmps9
  go_wp2_with fail
  refine (hdh _).mono ?_
  clear hdh
  rintro e wx ⟨rfl, rfl⟩
  go_wp2_with fail
  refine (hdt _).mono ?_
  clear hdt
  rintro e wx ⟨rfl, rfl⟩
  go_wp2
  go_ret
  refine ⟨ret_string ?_, HB.out⟩
  rw [HT.out, joinC_three]
  apply ByteArray.ext
  simp [wordD]
set_option maxRecDepth 100000 in
set_option maxHeartbeats 2000000 in
theorem dText_5 (h : Nat) (hh : h < 100) (w : World) : Calls Tryz.prog 9 #[.agg #[.int .i64 5, .int .i64 (h : Int), .int .i64 0, .int .i64 0]] w fun e w' => e = .returned (.string ⟨(deedText (5, (h : Int), 0, 0)).toArray⟩) ∧ Below w.heap.size w w' := by
  have hdh := fun wx => digitsR_any h wx hh
  have hl2 := digs_len (z := (h : Int)) (by omega)
  have HB : Hid (Below w.heap.size w ((w.alloc (.cells #[.int .i64 5, .int .i64 (h : Int), .int .i64 0, .int .i64 0] 34)).alloc (.cells #[.string ⟨#[]⟩, .string ⟨#[116, 111, 111, 107]⟩, .string ⟨#[115, 116, 111, 108, 101]⟩, .string ⟨#[102, 101, 116, 99, 104, 101, 100]⟩, .string ⟨#[102, 105, 110, 105, 115, 104, 101, 100]⟩, .string ⟨#[115, 108, 101, 112, 116]⟩, .string ⟨#[119, 111, 107, 101]⟩] 9))) := ((Below.refl _ _).alloc (Nat.le_refl _) _).alloc (by simp) _
  have HT : Hid (deedText (5, (h : Int), 0, 0) = joinC 32 [wordD 5, digs (h : Int)]) := rfl
  generalize digs (h : Int) = lh at *
  go_enter Tryz.func9, Tryz.ntmps9
  go_wp2_with fail
  refine (hdh _).mono ?_
  clear hdh
  rintro e wx ⟨rfl, rfl⟩
  go_wp2
  go_ret
  refine ⟨ret_string ?_, HB.out⟩
  rw [HT.out, joinC_two]
  apply ByteArray.ext
  simp [wordD]
set_option maxRecDepth 100000 in
set_option maxHeartbeats 2000000 in
theorem dText_6 (h : Nat) (hh : h < 100) (w : World) : Calls Tryz.prog 9 #[.agg #[.int .i64 6, .int .i64 (h : Int), .int .i64 0, .int .i64 0]] w fun e w' => e = .returned (.string ⟨(deedText (6, (h : Int), 0, 0)).toArray⟩) ∧ Below w.heap.size w w' := by
  have hdh := fun wx => digitsR_any h wx hh
  have hl2 := digs_len (z := (h : Int)) (by omega)
  have HB : Hid (Below w.heap.size w ((w.alloc (.cells #[.int .i64 6, .int .i64 (h : Int), .int .i64 0, .int .i64 0] 34)).alloc (.cells #[.string ⟨#[]⟩, .string ⟨#[116, 111, 111, 107]⟩, .string ⟨#[115, 116, 111, 108, 101]⟩, .string ⟨#[102, 101, 116, 99, 104, 101, 100]⟩, .string ⟨#[102, 105, 110, 105, 115, 104, 101, 100]⟩, .string ⟨#[115, 108, 101, 112, 116]⟩, .string ⟨#[119, 111, 107, 101]⟩] 9))) := ((Below.refl _ _).alloc (Nat.le_refl _) _).alloc (by simp) _
  have HT : Hid (deedText (6, (h : Int), 0, 0) = joinC 32 [wordD 6, digs (h : Int)]) := rfl
  generalize digs (h : Int) = lh at *
  go_enter Tryz.func9, Tryz.ntmps9
  go_wp2_with fail
  refine (hdh _).mono ?_
  clear hdh
  rintro e wx ⟨rfl, rfl⟩
  go_wp2
  go_ret
  refine ⟨ret_string ?_, HB.out⟩
  rw [HT.out, joinC_two]
  apply ByteArray.ext
  simp [wordD]
end Go.Proofs.YtiekhigjllbalaaGreatDoor
