/- The document's own Cut. What the document's Line is made of: word, name, Digits of any number, two. -/
import Derived.Test.YtlfbdjeojgbniaaGreatDoorRwg03
import Derived.Test.YtlfbdjeojgbniaaGreatDoorRcm16

namespace Go.Proofs.YtlfbdjeojgbniaaGreatDoor
open Go.RowKit Go.Deep

theorem Tryz.info9 : (Tryz.prog.info? 9).map (fun i => (i.zero, i.size, i.bytes)) = some (some (.string ⟨#[]⟩), 1, 16) := by kernel_rfl

theorem extract_list (l : List UInt8) (f i : Nat) : (⟨l.toArray⟩ : ByteArray).extract f i = ⟨((l.drop f).take (i - f)).toArray⟩ := by
  apply ByteArray.ext
  simp

/-- Where the cutting of a text stands: the pieces so far, where the next one begins, how far one has looked. -/
def CutAt (c : UInt8) (l : List UInt8) (done : List (List UInt8)) (f i : Nat) : Prop :=
  splitC c l = done ++ splitC c (l.drop f) ∧ f ≤ i ∧ c ∉ (l.drop f).take (i - f)
theorem CutAt.start (c : UInt8) (l : List UInt8) : CutAt c l [] 0 0 := ⟨rfl, Nat.le_refl _, by simp⟩
theorem CutAt.skip {c : UInt8} {l : List UInt8} {done : List (List UInt8)} {f i : Nat} (h : CutAt c l done f i) (hi : i < l.length) (hx : l[i] ≠ c) : CutAt c l done f (i + 1) := by
  obtain ⟨h1, h2, h3⟩ := h
  refine ⟨h1, by omega, ?_⟩
  rw [show i + 1 - f = (i - f) + 1 by omega, List.take_succ_eq_append_getElem (by simp; omega)]
  intro hm
  rcases List.mem_append.1 hm with hm | hm
  · exact h3 hm
  · simp only [List.mem_singleton, List.getElem_drop] at hm
    have : f + (i - f) = i := by omega
    simp only [this] at hm
    exact hx hm.symm
theorem CutAt.hit {c : UInt8} {l : List UInt8} {done : List (List UInt8)} {f i : Nat} (h : CutAt c l done f i) (hi : i < l.length) (hx : l[i] = c) : CutAt c l (done ++ [(l.drop f).take (i - f)]) (i + 1) (i + 1) := by
  obtain ⟨h1, h2, h3⟩ := h
  refine ⟨?_, Nat.le_refl _, by simp⟩
  have hsp : l.drop f = (l.drop f).take (i - f) ++ c :: l.drop (i + 1) := by
    conv => lhs; rw [← List.take_append_drop (i - f) (l.drop f)]
    congr 1
    rw [List.drop_drop, show f + (i - f) = i by omega, List.drop_eq_getElem_cons hi, hx]
  rw [h1]
  conv => lhs; rw [hsp]
  rw [splitC_append c _ _ h3, List.append_assoc]; rfl
theorem CutAt.ends {c : UInt8} {l : List UInt8} {done : List (List UInt8)} {f : Nat} (h : CutAt c l done f l.length) : splitC c l = done ++ [l.drop f] := by
  obtain ⟨h1, h2, h3⟩ := h
  rw [List.take_of_length_le (by simp)] at h3
  rw [h1, splitC_clean c _ h3]
theorem CutAt.few {c : UInt8} {l : List UInt8} {done : List (List UInt8)} {f i : Nat} (h : CutAt c l done f i) : done.length ≤ l.length := by
  have h1 := congrArg List.length h.1
  have h2 := splitC_len c l
  have h3 : 0 < (splitC c (l.drop f)).length := List.length_pos_iff.2 (splitC_ne c _)
  simp at h1
  omega

set_option maxRecDepth 100000 in
set_option maxHeartbeats 4000000 in
theorem cutR_any (l : List UInt8) (c : UInt8) (w : World) (hs : l.length ≤ 100000000) :
    Calls Tryz.prog 7 #[.string ⟨l.toArray⟩, .int .u8 (c.toNat : Int)] w fun e w' => (∃ ov, e = .returned ov ∧ w'.ownsRow w.heap.size 9 1 ov (splitC c l).length ((splitC c l).map strV)) ∧ Below w.heap.size w w' := by
  obtain ⟨i9, hi9, hz0, hz1, hz2⟩ := info_parts Tryz.info9
  go_enter Tryz.func7, Tryz.ntmps7
  go_wp2
  go_loopw [5, 6, 7] (fun s5 s6 s7 wr => ∃ done, ∃ f i : Nat, i ≤ l.length ∧ s6 = .int .i64 f ∧ s7 = .int .i64 i ∧ f ≤ i ∧ Hid (wr.ownsRow w.heap.size 9 1 s5 done.length (done.map strV)) ∧ Hid (CutAt c l done f i) ∧ Below w.heap.size w wr) (fun _ _ s7 _ => l.length - (intOf s7).toNat)
  case atStart => exact ⟨[], 0, 0, Nat.zero_le _, rfl, rfl, Nat.le_refl _, World.ownsRow_nil _ _ _ _, CutAt.start c l, Below.refl _ _⟩
  case round =>
    obtain ⟨done, f, i, hi, rfl, rfl, hfi, hown, hcut, hb⟩ := hrel
    have hfew := hcut.out.few
    by_cases hil : i < l.length
    · have hsz : i < (⟨l.toArray⟩ : ByteArray).size := by show i < l.toArray.size; simpa using hil
      by_cases hx : l[i] = c
      · have hx' : (((⟨l.toArray⟩ : ByteArray)[i]'hsz).toNat : Int) = (c.toNat : Int) := by show ((l[i]).toNat : Int) = _; rw [hx]
        have HC : Hid (CutAt c l (done ++ [(l.drop f).take (i - f)]) (i + 1) (i + 1)) := hcut.out.hit hil hx
        have HEL : Hid (Value.string ((⟨l.toArray⟩ : ByteArray).extract f i) = strV ((l.drop f).take (i - f))) := val_string (extract_list l f i)
        have hown2 := hown.out.alloc (.cells #[.string ((⟨l.toArray⟩ : ByteArray).extract f i)] 9)
        clear hx
        go_wp2_with (at_builtin; (refine wpList_append_own _ rfl (.tmp 19) (.tmp 24) 23 rfl w.heap.size 9 i9 (.string ⟨#[]⟩) 1 16 Tryz.underlying23 hi9 hz0 hz1 hz2 rfl (by decide) _ done.length (done.map strV) rfl hown2 ⟨wr.heap.size, 0, none⟩ 1 1 [.string ((⟨l.toArray⟩ : ByteArray).extract f i)] rfl rfl ?c1 ?c2 ?c3 ?c4 ?c5 ?_))
        case c1 => exact cell_one_new wr _ 9
        case c2 => intro u hu; simp at hu; subst hu; rfl
        case c3 => unfold maxLen; omega
        case c4 => omega
        case c5 => have := hb.size; simp; omega
        intro v' w2 hown' hgrow _
        have hb2 : Below w.heap.size w w2 := (hb.alloc hb.size _).grown hgrow (by have := hb.size; simp; omega) (fun j e => (hown2.lt j e).1)
        have HO : Hid (w2.ownsRow w.heap.size 9 1 v' (done ++ [(l.drop f).take (i - f)]).length ((done ++ [(l.drop f).take (i - f)]).map strV)) := by
          rw [HEL.out] at hown'
          simpa [Hid] using hown'
        clear hown' hgrow hown2 hown
        go_wp2
        go_roundw
        case rel => exact ⟨_, i + 1, i + 1, by omega, by go_num, by go_num, Nat.le_refl _, HO, HC, hb2⟩
        case measure => simp [intOf]; omega
      · have hx' : ¬ (((⟨l.toArray⟩ : ByteArray)[i]'hsz).toNat : Int) = (c.toNat : Int) := fun e => hx (by
          have e' : ((l[i]).toNat : Int) = (c.toNat : Int) := e
          exact UInt8.toNat_inj.1 (by omega))
        have HC : Hid (CutAt c l done f (i + 1)) := hcut.out.skip hil hx
        clear hx
        go_wp2
        go_roundw
        case rel => exact ⟨_, f, i + 1, by omega, rfl, by go_num, by omega, hown, HC, hb⟩
        case measure => simp [intOf]; omega
    · have hie : i = l.length := by omega
      subst hie
      have HE : Hid (splitC c l = done ++ [l.drop f]) := hcut.out.ends
      have HEL : Hid (Value.string ((⟨l.toArray⟩ : ByteArray).extract f l.length) = strV (l.drop f)) := val_string (by rw [extract_list, List.take_of_length_le (by simp)])
      have hown2 := hown.out.alloc (.cells #[.string ((⟨l.toArray⟩ : ByteArray).extract f l.length)] 9)
      go_wp2_with (at_builtin; (refine wpList_append_own _ rfl (.tmp 28) (.tmp 32) 23 rfl w.heap.size 9 i9 (.string ⟨#[]⟩) 1 16 Tryz.underlying23 hi9 hz0 hz1 hz2 rfl (by decide) _ done.length (done.map strV) rfl hown2 ⟨wr.heap.size, 0, none⟩ 1 1 [.string ((⟨l.toArray⟩ : ByteArray).extract f l.length)] rfl rfl ?c1 ?c2 ?c3 ?c4 ?c5 ?_))
      case c1 => exact cell_one_new wr _ 9
      case c2 => intro u hu; simp at hu; subst hu; rfl
      case c3 => unfold maxLen; omega
      case c4 => omega
      case c5 => have := hb.size; simp; omega
      intro v' w2 hown' hgrow _
      have hb2 : Below w.heap.size w w2 := (hb.alloc hb.size _).grown hgrow (by have := hb.size; simp; omega) (fun j e => (hown2.lt j e).1)
      have HO : Hid (w2.ownsRow w.heap.size 9 1 v' (splitC c l).length ((splitC c l).map strV)) := by
        rw [HEL.out] at hown'
        rw [HE.out]
        simpa [Hid] using hown'
      clear hown' hgrow hown2 hown
      go_wp2
      go_ret
      exact ⟨⟨_, rfl, HO.out⟩, hb2⟩
end Go.Proofs.YtlfbdjeojgbniaaGreatDoor

namespace Go.Proofs.YtlfbdjeojgbniaaGreatDoor
open Go.RowKit Go.Deep

theorem drewDl (w : World) (q : Nat) : Below w.heap.size w (w.drewN q) := ⟨rfl, rfl, rfl, Nat.le_refl _, fun _ _ => rfl⟩
theorem extractD_list (l : List UInt8) (f i : Nat) : (⟨l.toArray⟩ : ByteArray).extract f i = ⟨((l.drop f).take (i - f)).toArray⟩ := by
  apply ByteArray.ext
  simp
theorem bytesD_app (l m : List UInt8) : (⟨l.toArray⟩ : ByteArray) ++ ⟨m.toArray⟩ = ⟨(l ++ m).toArray⟩ := by
  apply ByteArray.ext
  simp
theorem digitD_at (n : Nat) (hn : n < 10) : (⟨#[48, 49, 50, 51, 52, 53, 54, 55, 56, 57]⟩ : ByteArray).extract n (n + 1) = ⟨[UInt8.ofNat (48 + n)].toArray⟩ := by
  have h : ∀ k : Fin 10, (⟨#[48, 49, 50, 51, 52, 53, 54, 55, 56, 57]⟩ : ByteArray).extract k.val (k.val + 1) = ⟨[UInt8.ofNat (48 + k.val)].toArray⟩ := by decide +kernel
  exact h ⟨n, hn⟩
theorem retD_string {a b : ByteArray} (h : a = b) : Ending.returned (.string a) = .returned (.string b) := by rw [h]
theorem decD_len : ∀ n : Nat, (Lib.decDigits n).length ≤ n + 1 := by
  intro n
  induction n using Nat.strongRecOn with
  | ind n ih =>
    by_cases h : n < 10
    · rw [dec_small n h]; simp
    · rw [dec_more n (by omega)]
      have := ih (n / 10) (by omega)
      simp; omega

set_option maxRecDepth 100000 in
theorem digitsD_any : ∀ (n : Nat) (w : World), n ≤ 1000000 → Calls Tryz.prog 9 #[.int .i64 n] w fun e w' => e = .returned (.string ⟨(Lib.decDigits n).toArray⟩) ∧ w' = w := by
  intro n
  induction n using Nat.strongRecOn with
  | ind n ih =>
    intro w hn
    by_cases h : n < 10
    · clear ih
      go_enter Tryz.func9, Tryz.ntmps9
      go_wp2
      go_ret
      exact ⟨retD_string (by rw [digitD_at n h, dec_small n h]), rfl⟩
    · have hi := ih (n / 10) (by omega) w (by omega)
      have hm : n % 10 < 10 := Nat.mod_lt _ (by omega)
      have hdl := decD_len (n / 10)
      have hn10 : n / 10 ≤ 100000 := by omega
      have hI : ¬ (n : Int) < 10 := by omega
      clear ih
      go_enter Tryz.func9, Tryz.ntmps9
      go_wp2_with fail
      rw [show ((n : Int) / 10) = ((n / 10 : Nat) : Int) by omega]
      refine hi.mono ?_
      rintro e w' ⟨rfl, rfl⟩
      rw [show ((n : Int) % 10) = ((n % 10 : Nat) : Int) by omega]
      go_wp2
      go_ret
      exact ⟨retD_string (by rw [digitD_at _ hm, bytesD_app, dec_more n (by omega)]), rfl⟩
theorem digitsD_int (n : Nat) (w : World) (hn : n ≤ 1000000) : Calls Tryz.prog 9 #[.int .i64 n] w fun e w' => e = .returned (.string ⟨(digs (n : Int)).toArray⟩) ∧ w' = w := by
  unfold digs
  rw [Int.toNat_natCast]
  exact digitsD_any n w hn

set_option maxRecDepth 100000 in
theorem twoD_any (a b : Nat) (w : World) (ha : a ≤ 1000000) (hb : b ≤ 1000000) : Calls Tryz.prog 28 #[.int .i64 a, .int .i64 b] w fun e w' => e = .returned (.string ⟨(twoT (a : Int) (b : Int)).toArray⟩) ∧ w' = w := by
  have h1 := digitsD_int a w ha
  have h2 := digitsD_int b w hb
  have l1 : (digs (a : Int)).length ≤ 1000001 := by unfold digs; have := decD_len (a : Int).toNat; omega
  have l2 : (digs (b : Int)).length ≤ 1000001 := by unfold digs; have := decD_len (b : Int).toNat; omega
  have HT : Hid ((⟨(digs (a : Int)).toArray⟩ : ByteArray) ++ ⟨#[32]⟩ ++ ⟨(digs (b : Int)).toArray⟩ = ⟨(twoT (a : Int) (b : Int)).toArray⟩) := by
    show _ = _
    rw [show (⟨#[32]⟩ : ByteArray) = ⟨[(32 : UInt8)].toArray⟩ from rfl, bytesD_app, bytesD_app]
    simp [twoT]
  go_enter Tryz.func28, Tryz.ntmps28
  go_wp2_with fail
  refine h1.mono ?_
  rintro e w' ⟨rfl, rfl⟩
  go_wp2_with fail
  refine h2.mono ?_
  rintro e w' ⟨rfl, rfl⟩
  go_wp2
  go_ret
  exact ⟨retD_string HT.out, rfl⟩

set_option maxRecDepth 100000 in
set_option maxHeartbeats 4000000 in
theorem nameD_any (q : Int) (w : World) (h1 : 1 ≤ q) (h8 : q ≤ 8) : Calls Tryz.prog 25 #[.int .i64 q] w fun e w' => e = .returned (.string ⟨(nameT q).toArray⟩) ∧ Below w.heap.size w w' := by
  have hq : q = 1 ∨ q = 2 ∨ q = 3 ∨ q = 4 ∨ q = 5 ∨ q = 6 ∨ q = 7 ∨ q = 8 := by omega
  rcases hq with rfl | rfl | rfl | rfl | rfl | rfl | rfl | rfl
  all_goals
    go_enter Tryz.func25, Tryz.ntmps25
    go_wp2
    go_ret
    exact ⟨rfl, (Below.refl _ _).alloc (Nat.le_refl _) _⟩

set_option maxRecDepth 100000 in
set_option maxHeartbeats 4000000 in
theorem wordD_any (l : List UInt8) (w : World) (hs : l.length ≤ 1048576) :
    Calls Tryz.prog 23 #[.string ⟨l.toArray⟩] w fun e w' => e = .returned (.tuple #[.string ⟨(cutB 32 l).1.toArray⟩, .string ⟨(cutB 32 l).2.1.toArray⟩, .bool (cutB 32 l).2.2]) ∧ Below w.heap.size w w' := by
  go_enter Tryz.func23, Tryz.ntmps23
  go_wp2
  go_loopw [5] (fun s5 wr => ∃ i : Nat, i ≤ l.length ∧ s5 = .int .i64 i ∧ Hid ((32 : UInt8) ∉ l.take i) ∧ Below w.heap.size w wr) (fun s5 _ => l.length - (intOf s5).toNat)
  case atStart => exact ⟨0, Nat.zero_le _, rfl, by simp [Hid], Below.refl _ _⟩
  case round =>
    obtain ⟨i, hi, rfl, hno, hb⟩ := hrel
    by_cases hil : i < l.length
    · have hsz : i < (⟨l.toArray⟩ : ByteArray).size := by show i < l.toArray.size; simpa using hil
      by_cases hx : l[i] = 32
      · have hx' : (((⟨l.toArray⟩ : ByteArray)[i]'hsz).toNat : Int) = 32 := by show ((l[i]).toNat : Int) = _; rw [hx]; rfl
        have HC : Hid (cutB 32 l = (l.take i, l.drop (i + 1), true)) := by
          show _ = _
          have e : l = l.take i ++ 32 :: l.drop (i + 1) := by
            conv => lhs; rw [← List.take_append_drop i l, List.drop_eq_getElem_cons hil, hx]
          conv => lhs; rw [e]
          exact cutB_at 32 _ _ hno.out
        have H1 : Hid ((⟨l.toArray⟩ : ByteArray).extract 0 i = ⟨(cutB 32 l).1.toArray⟩) := by
          show _ = _
          rw [extractD_list, HC.out]; simp
        have H2 : Hid ((⟨l.toArray⟩ : ByteArray).extract (i + 1) l.length = ⟨(cutB 32 l).2.1.toArray⟩) := by
          show _ = _
          rw [extractD_list, HC.out, List.take_of_length_le (by simp)]
        have H3 : Hid ((cutB 32 l).2.2 = true) := by rw [HC.out]; rfl
        clear hx
        have b1 : (i : Int) ≤ (l.length : Int) := by omega
        have b2 : ((i : Int) + 1) ≤ (l.length : Int) := by omega
        have b3 : (i + 1) ≤ l.length := by omega
        have hw1 : IntKind.i64.wrap ((i : Int) + 1) = ((i + 1 : Nat) : Int) := by rw [IntKind.wrap_i64]; omega
        go_wp2
        go_quiet (fail)
        go_wp2
        rw [H1.out, H2.out]
        go_ret3
        exact ⟨by rw [H3.out]; rfl, hb.trans ((drewDl _ _).mono hb.size)⟩
      · have hx' : ¬ (((⟨l.toArray⟩ : ByteArray)[i]'hsz).toNat : Int) = 32 := fun e => hx (by
          have e' : ((l[i]).toNat : Int) = 32 := e
          exact UInt8.toNat_inj.1 (by show l[i].toNat = 32; omega))
        have HN : Hid ((32 : UInt8) ∉ l.take (i + 1)) := by
          show _ ∉ _
          rw [List.take_succ_eq_append_getElem hil]
          intro hm
          rcases List.mem_append.1 hm with hm | hm
          · exact hno.out hm
          · exact hx (List.mem_singleton.1 hm).symm
        clear hx
        go_wp2
        go_roundw
        case rel => exact ⟨i + 1, by omega, by go_num, HN, hb⟩
        case measure => simp [intOf]; omega
    · have HC : Hid (cutB 32 l = (l, [], false)) := by
        show _ = _
        have := hno.out
        rw [List.take_of_length_le (by omega)] at this
        exact cutB_clean 32 _ this
      go_wp2
      go_ret3
      exact ⟨by rw [HC.out]; rfl, hb⟩
end Go.Proofs.YtlfbdjeojgbniaaGreatDoor
