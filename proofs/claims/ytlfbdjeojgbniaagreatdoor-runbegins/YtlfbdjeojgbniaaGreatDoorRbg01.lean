/- The walk of RunBegins, with what a session answers as a premise (the contract of Run comes from the landed text). -/
import Derived.Test.YtlfbdjeojgbniaaGreatDoorRcm17

namespace Go.Proofs.YtlfbdjeojgbniaaGreatDoor
open Go.RowKit Go.Deep

theorem extractR_list (l : List UInt8) (f i : Nat) : (⟨l.toArray⟩ : ByteArray).extract f i = ⟨((l.drop f).take (i - f)).toArray⟩ := by
  apply ByteArray.ext
  simp
theorem extractR_take (l : List UInt8) (i : Nat) : (⟨l.toArray⟩ : ByteArray).extract 0 i = ⟨(l.take i).toArray⟩ := by rw [extractR_list]; simp
/-- A call of Run. -/
def RunC (w0 : World) : Prop := ∀ (u : List UInt8) (wx : World), Below w0.heap.size w0 wx → u.length ≤ 140737488351232 → Calls Tryz.prog 6 #[.string ⟨u.toArray⟩] wx fun e w' => (∃ out, e = .returned (.string ⟨out.toArray⟩) ∧ SessionIs u out ∧ out.length ≤ 100000000) ∧ Below wx.heap.size wx w'
/-- How far the beginning goes. -/
def BegAt (t : List UInt8) (many : Int) (k n : Nat) : Prop := k = 0 ∨ (∃ z, t.take k = z ++ [10]) ∨ (n : Int) < many
theorem BegAt.hit {t : List UInt8} {many : Int} {k n : Nat} (hk : k < t.length) (h : t[k] = 10) : BegAt t many (k + 1) n :=
  Or.inr (Or.inl ⟨t.take k, by rw [List.take_succ_eq_append_getElem hk, h]⟩)
theorem BegAt.ends {t : List UInt8} {many : Int} {k n : Nat} {a b : List UInt8} (h : BegAt t many k n) (hl : t.length ≤ 3000) (he : k = t.length ∨ many ≤ (n : Int)) (ha : SessionIs (t.take k) a) (hb : SessionIs t b) : ∃ c, b = a ++ c := by
  rcases he with rfl | he
  · rw [List.take_of_length_le (Nat.le_refl _)] at ha
    exact ⟨[], by rw [List.append_nil]; exact SessionIs.det hb ha⟩
  · have hx : t.take k = [] ∨ ∃ z, t.take k = z ++ [10] := by
      rcases h with rfl | h | h
      · exact Or.inl rfl
      · exact Or.inr h
      · exact absurd h (by omega)
    refine session_begins (x := t.take k) (y := t.drop k) (by rw [List.take_append_drop]; exact hl) hx ha (by rw [List.take_append_drop]; exact hb)

set_option maxRecDepth 100000 in
set_option maxHeartbeats 4000000 in
theorem runBegins_any (w : World) (hrun : RunC w) (t : List UInt8) (many : Int) (ht : t.length ≤ 140737488351232) :
    Calls Tryz.prog 4 #[.string ⟨t.toArray⟩, .int .i64 many] w fun e w' => e = .returned (.bool true) ∧ Below w.heap.size w w' := by
  have HR : Hid (RunC w) := hrun
  clear hrun
  have h1 := HR.out beginT w (Below.refl _ _) (by decide)
  unfold beginT at h1
  go_enter Tryz.func4, Tryz.ntmps4
  go_wp2_with fail
  refine h1.mono ?_
  clear h1
  rintro e w1 ⟨⟨o1, rfl, hs1, -⟩, hb1⟩
  obtain rfl := SessionIs.det hs1 begin_run
  clear hs1
  unfold beginO
  by_cases hlong : 3000 < t.length
  · have h2 := HR.out t w1 hb1 ht
    go_wp2_with fail
    refine h2.mono ?_
    clear h2
    rintro e w2 ⟨⟨o2, rfl, hs2, -⟩, hb2⟩
    unfold SessionIs at hs2
    rw [if_pos hlong] at hs2
    subst hs2
    unfold longT
    go_wp2
    go_ret
    exact ⟨rfl, hb1.trans (hb2.mono hb1.size)⟩
  · have hlI : ¬ (3000 : Int) < (t.length : Int) := by omega
    go_wp2
    go_loopw [7, 8] (fun s5 s6 wr => ∃ k n : Nat, k ≤ t.length ∧ n ≤ k ∧ s5 = .int .i64 k ∧ s6 = .int .i64 n ∧ Hid (BegAt t many k n) ∧ Below w.heap.size w wr) (fun s5 _ _ => t.length - (intOf s5).toNat)
    case atStart => exact ⟨0, 0, Nat.zero_le _, Nat.le_refl _, rfl, rfl, Or.inl rfl, hb1⟩
    case round =>
      obtain ⟨k, n, hk, hnk, rfl, rfl, hbeg, hb⟩ := hrel
      by_cases hkl : k < t.length
      · by_cases hn : (n : Int) < many
        · have hsz : k < (⟨t.toArray⟩ : ByteArray).size := by show k < t.toArray.size; simpa using hkl
          by_cases hx : t[k] = 10
          · have hx' : (((⟨t.toArray⟩ : ByteArray)[k]'hsz).toNat : Int) = 10 := by show ((t[k]).toNat : Int) = _; rw [hx]; rfl
            have HB : Hid (BegAt t many (k + 1) (n + 1)) := BegAt.hit hkl hx
            clear hx
            go_wp2
            go_roundw
            case rel => exact ⟨k + 1, n + 1, by omega, by omega, by go_num, by go_num, HB, hb⟩
            case measure => simp [intOf]; omega
          · have hx' : ¬ (((⟨t.toArray⟩ : ByteArray)[k]'hsz).toNat : Int) = 10 := fun e => hx (by
              have e' : ((t[k]).toNat : Int) = 10 := e
              exact UInt8.toNat_inj.1 (by show t[k].toNat = 10; omega))
            have HB : Hid (BegAt t many (k + 1) n) := Or.inr (Or.inr hn)
            clear hx
            go_wp2
            go_roundw
            case rel => exact ⟨k + 1, n, by omega, by omega, by go_num, rfl, HB, hb⟩
            case measure => simp [intOf]; omega
        · have HE : Hid (k = t.length ∨ many ≤ (n : Int)) := Or.inr (by omega)
          have HX : Hid ((⟨t.toArray⟩ : ByteArray).extract 0 k = ⟨(t.take k).toArray⟩) := extractR_take t k
          have h3 : ∀ wx, Below w.heap.size w wx → Calls Tryz.prog 6 #[.string ((⟨t.toArray⟩ : ByteArray).extract 0 k)] wx fun e w' => (∃ out, e = .returned (.string ⟨out.toArray⟩) ∧ SessionIs (t.take k) out ∧ out.length ≤ 100000000) ∧ Below wx.heap.size wx w' := fun wx hbx => by
            rw [HX.out]; exact HR.out (t.take k) wx hbx (by simp; omega)
          have h3' := h3 wr hb
          go_wp2_with fail
          refine h3'.mono ?_
          clear h3 h3'
          rintro e w2 ⟨⟨o2, rfl, hs2, -⟩, hb2⟩
          have h4 := HR.out t w2 (hb.trans (hb2.mono hb.size)) ht
          go_wp2_with fail
          refine h4.mono ?_
          clear h4
          rintro e w3 ⟨⟨o3, rfl, hs3, -⟩, hb3⟩
          obtain ⟨c, rfl⟩ := BegAt.ends hbeg.out (by omega) HE.out hs2 hs3
          have HP : Hid ((⟨(o2 ++ c).toArray⟩ : ByteArray).extract 0 o2.length = ⟨o2.toArray⟩) := by
            show _ = _
            rw [extractR_take, List.take_left']
            rfl
          have hlen : o2.length ≤ (o2 ++ c).length := by simp
          have HQ : Hid ((((⟨(o2 ++ c).toArray⟩ : ByteArray).extract 0 o2.length).toList == o2) = true) := by
            show _ = _
            rw [HP.out]
            rw [ByteArray.toList_eq]; simp
          go_wp2
          rw [HQ.out]
          go_ret
          exact ⟨rfl, (hb.trans (hb2.mono hb.size)).trans (hb3.mono (by have := hb.size; have := hb2.size; omega))⟩
      · have HE : Hid (k = t.length ∨ many ≤ (n : Int)) := Or.inl (by omega)
        have HX : Hid ((⟨t.toArray⟩ : ByteArray).extract 0 k = ⟨(t.take k).toArray⟩) := extractR_take t k
        have h3 : ∀ wx, Below w.heap.size w wx → Calls Tryz.prog 6 #[.string ((⟨t.toArray⟩ : ByteArray).extract 0 k)] wx fun e w' => (∃ out, e = .returned (.string ⟨out.toArray⟩) ∧ SessionIs (t.take k) out ∧ out.length ≤ 100000000) ∧ Below wx.heap.size wx w' := fun wx hbx => by
          rw [HX.out]; exact HR.out (t.take k) wx hbx (by simp; omega)
        have h3' := h3 wr hb
        go_wp2_with fail
        refine h3'.mono ?_
        clear h3 h3'
        rintro e w2 ⟨⟨o2, rfl, hs2, -⟩, hb2⟩
        have h4 := HR.out t w2 (hb.trans (hb2.mono hb.size)) ht
        go_wp2_with fail
        refine h4.mono ?_
        clear h4
        rintro e w3 ⟨⟨o3, rfl, hs3, -⟩, hb3⟩
        obtain ⟨c, rfl⟩ := BegAt.ends hbeg.out (by omega) HE.out hs2 hs3
        have HP : Hid ((⟨(o2 ++ c).toArray⟩ : ByteArray).extract 0 o2.length = ⟨o2.toArray⟩) := by
          show _ = _
          rw [extractR_take, List.take_left']
          rfl
        have hlen : o2.length ≤ (o2 ++ c).length := by simp
        have HQ : Hid ((((⟨(o2 ++ c).toArray⟩ : ByteArray).extract 0 o2.length).toList == o2) = true) := by
          show _ = _
          rw [HP.out]
          rw [ByteArray.toList_eq]; simp
        go_wp2
        rw [HQ.out]
        go_ret
        exact ⟨rfl, (hb.trans (hb2.mono hb.size)).trans (hb3.mono (by have := hb.size; have := hb2.size; omega))⟩
end Go.Proofs.YtlfbdjeojgbniaaGreatDoor
