/- The document's Cut. -/
import Derived.Test.YtiekhigjllbalaaGreatDoorTa
import Derived.Test.YtiekhigjllbalaaGreatDoorDdm
import Derived.Maps.AppendAt
import Derived.BigRegion
namespace Go.Proofs.YtiekhigjllbalaaGreatDoor
open Go.RowKit Go.Deep

theorem val_string {a b : ByteArray} (h : a = b) : Value.string a = .string b := by rw [h]
def strV (l : List UInt8) : Value := .string ⟨l.toArray⟩
theorem Tryz.infoStr : (Tryz.prog.info? 9).map (fun i => (i.zero, i.size, i.bytes)) = some (some (.string ⟨#[]⟩), 1, 16) := by kernel_rfl

theorem extract_list (l : List UInt8) (f i : Nat) : (⟨l.toArray⟩ : ByteArray).extract f i = ⟨((l.drop f).take (i - f)).toArray⟩ := by
  apply ByteArray.ext
  simp

/-- Where the cutting of a text stands: the pieces so far, where the next one begins, how far one has looked. -/
def CutAt (c : UInt8) (l : List UInt8) (done : List (List UInt8)) (f i : Nat) : Prop :=
  splitC c l = done ++ splitC c (l.drop f) ∧ f ≤ i ∧ c ∉ (l.drop f).take (i - f)
theorem CutAt.start (c : UInt8) (l : List UInt8) : CutAt c l [] 0 0 := ⟨rfl, Nat.le_refl _, by simp⟩
theorem CutAt.skip {c : UInt8} {l : List UInt8} {done : List (List UInt8)} {f i : Nat} (h : CutAt c l done f i) (hi : i < l.length) (hx : l[i] ≠ c) : CutAt c l done f (i + 1) := by
  obtain ⟨h1, h2, h3⟩ := h
  refine ⟨h1, by omega, ?_⟩
  rw [show i + 1 - f = (i - f) + 1 by omega, List.take_succ_eq_append_getElem (by simp; omega)]
  intro hm
  rcases List.mem_append.1 hm with hm | hm
  · exact h3 hm
  · simp only [List.mem_singleton, List.getElem_drop] at hm
    have : f + (i - f) = i := by omega
    simp only [this] at hm
    exact hx hm.symm
theorem CutAt.hit {c : UInt8} {l : List UInt8} {done : List (List UInt8)} {f i : Nat} (h : CutAt c l done f i) (hi : i < l.length) (hx : l[i] = c) : CutAt c l (done ++ [(l.drop f).take (i - f)]) (i + 1) (i + 1) := by
  obtain ⟨h1, h2, h3⟩ := h
  refine ⟨?_, Nat.le_refl _, by simp⟩
  have hsp : l.drop f = (l.drop f).take (i - f) ++ c :: l.drop (i + 1) := by
    conv => lhs; rw [← List.take_append_drop (i - f) (l.drop f)]
    congr 1
    rw [List.drop_drop, show f + (i - f) = i by omega, List.drop_eq_getElem_cons hi, hx]
  rw [h1]
  conv => lhs; rw [hsp]
  rw [splitC_append c _ _ h3, List.append_assoc]; rfl
theorem CutAt.ends {c : UInt8} {l : List UInt8} {done : List (List UInt8)} {f : Nat} (h : CutAt c l done f l.length) : splitC c l = done ++ [l.drop f] := by
  obtain ⟨h1, h2, h3⟩ := h
  rw [List.take_of_length_le (by simp)] at h3
  rw [h1, splitC_clean c _ h3]
theorem splitC_len (c : UInt8) (l : List UInt8) : (splitC c l).length ≤ l.length + 1 := by
  induction l with
  | nil => simp [splitC]
  | cons b r ih =>
    rw [splitC_cons]
    split
    · simp; omega
    · cases hs : splitC c r with
      | nil => simp
      | cons x xs => rw [hs] at ih; simp at ih ⊢; omega
theorem CutAt.few {c : UInt8} {l : List UInt8} {done : List (List UInt8)} {f i : Nat} (h : CutAt c l done f i) : done.length ≤ l.length := by
  have h1 := congrArg List.length h.1
  have h2 := splitC_len c l
  have h3 : 0 < (splitC c (l.drop f)).length := List.length_pos_iff.2 (splitC_ne c _)
  simp at h1
  omega

set_option maxRecDepth 100000 in
set_option maxHeartbeats 4000000 in
theorem cutR_any (l : List UInt8) (c : UInt8) (w : World) (hs : l.length ≤ 1048576) :
    Calls Tryz.prog 26 #[.string ⟨l.toArray⟩, .int .u8 (c.toNat : Int)] w fun e w' => (∃ ov, e = .returned ov ∧ w'.ownsRow w.heap.size 9 1 ov (splitC c l).length ((splitC c l).map strV)) ∧ Below w.heap.size w w' := by
  obtain ⟨i9, hi9, hz0, hz1, hz2⟩ := info_parts Tryz.infoStr
  go_enter Tryz.func26, Tryz.ntmps26
  go_wp2
  go_loopw [5, 6, 7] (fun s5 s6 s7 wr => ∃ done, ∃ f i : Nat, i ≤ l.length ∧ s6 = .int .i64 f ∧ s7 = .int .i64 i ∧ f ≤ i ∧ Hid (wr.ownsRow w.heap.size 9 1 s5 done.length (done.map strV)) ∧ Hid (CutAt c l done f i) ∧ Below w.heap.size w wr) (fun _ _ s7 _ => l.length - (intOf s7).toNat)
  case atStart => exact ⟨[], 0, 0, Nat.zero_le _, rfl, rfl, Nat.le_refl _, World.ownsRow_nil _ _ _ _, CutAt.start c l, Below.refl _ _⟩
  case round =>
    obtain ⟨done, f, i, hi, rfl, rfl, hfi, hown, hcut, hb⟩ := hrel
    have hfew := hcut.out.few
    by_cases hil : i < l.length
    · have hsz : i < (⟨l.toArray⟩ : ByteArray).size := by show i < l.toArray.size; simpa using hil
      by_cases hx : l[i] = c
      · have hx' : (((⟨l.toArray⟩ : ByteArray)[i]'hsz).toNat : Int) = (c.toNat : Int) := by show ((l[i]).toNat : Int) = _; rw [hx]
        have HC : Hid (CutAt c l (done ++ [(l.drop f).take (i - f)]) (i + 1) (i + 1)) := hcut.out.hit hil hx
        have HEL : Hid (Value.string ((⟨l.toArray⟩ : ByteArray).extract f i) = strV ((l.drop f).take (i - f))) := val_string (extract_list l f i)
        have hown2 := hown.out.alloc (.cells #[.string ((⟨l.toArray⟩ : ByteArray).extract f i)] 9)
        clear hx
        go_wp2_with (at_builtin; (refine wpList_append_own _ rfl (.tmp 19) (.tmp 24) 59 rfl w.heap.size 9 i9 (.string ⟨#[]⟩) 1 16 Tryz.underlying59 hi9 hz0 hz1 hz2 rfl (by decide) _ done.length (done.map strV) rfl hown2 ⟨wr.heap.size, 0, none⟩ 1 1 [.string ((⟨l.toArray⟩ : ByteArray).extract f i)] rfl rfl ?c1 ?c2 ?c3 ?c4 ?c5 ?_))
        case c1 => exact cell_one_new wr _ 9
        case c2 => intro u hu; simp at hu; subst hu; rfl
        case c3 => unfold maxLen; omega
        case c4 => omega
        case c5 => have := hb.size; simp; omega
        intro v' w2 hown' hgrow _
        have hb2 : Below w.heap.size w w2 := (hb.alloc hb.size _).grown hgrow (by have := hb.size; simp; omega) (fun j e => (hown2.lt j e).1)
        have HO : Hid (w2.ownsRow w.heap.size 9 1 v' (done ++ [(l.drop f).take (i - f)]).length ((done ++ [(l.drop f).take (i - f)]).map strV)) := by
          rw [HEL.out] at hown'
          simpa [Hid] using hown'
        clear hown' hgrow hown2 hown
        go_wp2
        go_roundw
        case rel => exact ⟨_, i + 1, i + 1, by omega, by go_num, by go_num, Nat.le_refl _, HO, HC, hb2⟩
        case measure => simp [intOf]; omega
      · have hx' : ¬ (((⟨l.toArray⟩ : ByteArray)[i]'hsz).toNat : Int) = (c.toNat : Int) := fun e => hx (by
          have e' : ((l[i]).toNat : Int) = (c.toNat : Int) := e
          exact UInt8.toNat_inj.1 (by omega))
        have HC : Hid (CutAt c l done f (i + 1)) := hcut.out.skip hil hx
        clear hx
        go_wp2
        go_roundw
        case rel => exact ⟨_, f, i + 1, by omega, rfl, by go_num, by omega, hown, HC, hb⟩
        case measure => simp [intOf]; omega
    · have hie : i = l.length := by omega
      subst hie
      have HE : Hid (splitC c l = done ++ [l.drop f]) := hcut.out.ends
      have HEL : Hid (Value.string ((⟨l.toArray⟩ : ByteArray).extract f l.length) = strV (l.drop f)) := val_string (by rw [extract_list, List.take_of_length_le (by simp)])
      have hown2 := hown.out.alloc (.cells #[.string ((⟨l.toArray⟩ : ByteArray).extract f l.length)] 9)
      go_wp2_with (at_builtin; (refine wpList_append_own _ rfl (.tmp 28) (.tmp 32) 59 rfl w.heap.size 9 i9 (.string ⟨#[]⟩) 1 16 Tryz.underlying59 hi9 hz0 hz1 hz2 rfl (by decide) _ done.length (done.map strV) rfl hown2 ⟨wr.heap.size, 0, none⟩ 1 1 [.string ((⟨l.toArray⟩ : ByteArray).extract f l.length)] rfl rfl ?c1 ?c2 ?c3 ?c4 ?c5 ?_))
      case c1 => exact cell_one_new wr _ 9
      case c2 => intro u hu; simp at hu; subst hu; rfl
      case c3 => unfold maxLen; omega
      case c4 => omega
      case c5 => have := hb.size; simp; omega
      intro v' w2 hown' hgrow _
      have hb2 : Below w.heap.size w w2 := (hb.alloc hb.size _).grown hgrow (by have := hb.size; simp; omega) (fun j e => (hown2.lt j e).1)
      have HO : Hid (w2.ownsRow w.heap.size 9 1 v' (splitC c l).length ((splitC c l).map strV)) := by
        rw [HEL.out] at hown'
        rw [HE.out]
        simpa [Hid] using hown'
      clear hown' hgrow hown2 hown
      go_wp2
      go_ret
      exact ⟨⟨_, rfl, HO.out⟩, hb2⟩
end Go.Proofs.YtiekhigjllbalaaGreatDoor
