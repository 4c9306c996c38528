/- The contracts of weave's isDigit, take, number. -/
import Derived.Test.YtkcpimbhfmhjgaaWb
import Derived.Test.YtkcpimbhfmhjgaaPln
import Derived.RegionTactic
namespace Go.Proofs.Ytkcpimbhfmhjgaa
open Go.RowKit Go.Deep

theorem isDigit_any (b : UInt8) (w : World) : Calls Try.prog 84 #[.int .u8 (b.toNat : Int)] w fun e w' => e = .returned (.bool (isDig b)) ∧ w' = w := by
  by_cases h1 : 48 ≤ b.toNat
  · by_cases h2 : b.toNat ≤ 57
    · have g1 : (48 : Int) ≤ (b.toNat : Int) := by omega
      have g2 : (b.toNat : Int) ≤ 57 := by omega
      go_enter Try.func84, Try.ntmps84
      go_wp2
      go_ret
      exact ⟨by simp [isDig, h1, h2], rfl⟩
    · have g1 : (48 : Int) ≤ (b.toNat : Int) := by omega
      have g2 : ¬ (b.toNat : Int) ≤ 57 := by omega
      go_enter Try.func84, Try.ntmps84
      go_wp2
      go_ret
      exact ⟨by simp [isDig, h1, h2], rfl⟩
  · have g1 : ¬ (48 : Int) ≤ (b.toNat : Int) := by omega
    go_enter Try.func84, Try.ntmps84
    go_wp2
    go_ret
    exact ⟨by simp [isDig, h1], rfl⟩

theorem head_drop {l : List UInt8} {i : Nat} (h : i < l.length) : (l.drop i).head? = some l[i] := by rw [List.drop_eq_getElem_cons h]; rfl
theorem head_end {l : List UInt8} {i : Nat} (h : l.length ≤ i) : (l.drop i).head? = none := by rw [List.drop_of_length_le h]; rfl

set_option maxRecDepth 100000 in
set_option maxHeartbeats 1000000 in
theorem take_any (R : Nat) (l : List UInt8) (i : Nat) (ts : List (Int × List Int)) (A : Nat → Prop) (c : UInt8) (w : World) (hl : l.length ≤ 200) (hi : i ≤ l.length) (hr : Rd R l i ts A w) :
    Calls Try.prog 51 #[.pointer (some ⟨R, 0, none⟩), .int .u8 (c.toNat : Int)] w fun e w' => Kp R w w' ∧
      (((l.drop i).head? ≠ some c ∧ e = .returned (.bool false) ∧ Rd R l i ts A w') ∨ (i < l.length ∧ l.drop i = c :: l.drop (i + 1) ∧ e = .returned (.bool true) ∧ Rd R l (i + 1) ts A w')) := by
  obtain ⟨h0, h1, _, hf⟩ := hr.cells
  have hf1 := hf 1
  have HR : Hid (Rd R l i ts A w) := hr
  clear hr hf
  by_cases hil : i < l.length
  · have hsz : i < (⟨l.toArray⟩ : ByteArray).size := by show i < l.toArray.size; simpa using hil
    have hxe : (⟨l.toArray⟩ : ByteArray)[i]'hsz = l[i] := rfl
    have hne : ((i : Int) == (l.length : Int)) = false := by simp; omega
    have hli : (i : Int) < (l.length : Int) := by omega
    by_cases hc : l[i] = c
    · have hb : (((((⟨l.toArray⟩ : ByteArray)[i]'hsz).toNat : Int)) != (c.toNat : Int)) = false := by rw [hxe, hc]; simp
      have HD : Hid (l.drop i = c :: l.drop (i + 1)) := by show _ = _; rw [List.drop_eq_getElem_cons hil, hc]
      clear hxe hc
      go_enter Try.func51, Try.ntmps51
      go_wp2
      go_quiet (fail)
      go_wp2
      go_ret
      refine ⟨?_, Or.inr ⟨hil, HD.out, rfl, ?_⟩⟩
      · exact ((Kp.refl R w).setR 1 _).drewN _
      · exact (HR.out.place (i + 1)).drewN _
    · have hb : (((((⟨l.toArray⟩ : ByteArray)[i]'hsz).toNat : Int)) != (c.toNat : Int)) = true := by
        rw [hxe, bne_iff_ne]
        intro e
        exact hc (UInt8.toNat_inj.1 (by omega))
      have HD : Hid ((l.drop i).head? ≠ some c) := by show _ ≠ _; rw [head_drop hil]; simpa using hc
      clear hxe hc
      go_enter Try.func51, Try.ntmps51
      go_wp2
      go_quiet (fail)
      go_wp2
      go_ret
      exact ⟨(Kp.refl R w).drewN _, Or.inl ⟨HD.out, rfl, HR.out.drewN _⟩⟩
  · have hie : i = l.length := by omega
    have HD : Hid ((l.drop i).head? ≠ some c) := by show _ ≠ _; rw [head_end (by omega)]; simp
    subst hie
    have hne : ((l.length : Int) == (l.length : Int)) = true := by simp
    clear hil
    go_enter Try.func51, Try.ntmps51
    go_wp2
    go_quiet (fail)
    go_wp2
    go_ret
    exact ⟨(Kp.refl R w).drewN _, Or.inl ⟨HD.out, rfl, HR.out.drewN _⟩⟩

/-- A number, as the program reckons it: what is above 20 stays 21. -/
def cap1 (n : Nat) (d : UInt8) : Nat := min (10 * n + (d.toNat - 48)) 21
def V1 (ds : List UInt8) : Int := (ds.foldl cap1 0 : Nat)
theorem cap1_le (ds : List UInt8) (n : Nat) (h : n ≤ 21) : ds.foldl cap1 n ≤ 21 := by
  induction ds generalizing n with
  | nil => exact h
  | cons d r ih => exact ih _ (by unfold cap1; omega)
theorem V1_le (ds : List UInt8) : 0 ≤ V1 ds ∧ V1 ds ≤ 21 := by
  have := cap1_le ds 0 (by omega)
  unfold V1; omega

theorem takeWhile_whole {p q : List UInt8} (h : ∀ x, x ∈ p → isDig x = true) (hq : ∀ x, q.head? = some x → isDig x = false) : (p ++ q).takeWhile isDig = p ∧ (p ++ q).dropWhile isDig = q := by
  induction p with
  | nil =>
    cases q with
    | nil => exact ⟨rfl, rfl⟩
    | cons b r => have := hq b rfl; simp [this]
  | cons a r ih =>
    have h1 := h a (by simp)
    have h2 := ih (fun x hx => h x (by simp [hx]))
    simp [h1, h2.1, h2.2]

/-- While a number is read from place i on: at k, p was read. -/
def NumAt (l : List UInt8) (i k : Nat) (p : List UInt8) : Prop := l.drop i = p ++ l.drop k ∧ (∀ x, x ∈ p → isDig x = true) ∧ k = i + p.length ∧ k ≤ l.length
theorem NumAt.start {l : List UInt8} {i : Nat} (h : i ≤ l.length) : NumAt l i i [] := ⟨rfl, fun x hx => by simp at hx, by simp, h⟩
theorem NumAt.step {l : List UInt8} {i k : Nat} {p : List UInt8} (h : NumAt l i k p) (hk : k < l.length) (hd : isDig l[k] = true) : NumAt l i (k + 1) (p ++ [l[k]]) := by
  obtain ⟨h1, h2, h3, h4⟩ := h
  refine ⟨by rw [h1, List.drop_eq_getElem_cons hk]; simp, fun x hx => ?_, by simp; omega, by omega⟩
  rcases List.mem_append.1 hx with hx | hx
  · exact h2 x hx
  · rw [List.mem_singleton.1 hx]; exact hd
theorem NumAt.ends {l : List UInt8} {i k : Nat} {p : List UInt8} (h : NumAt l i k p) (hk : ∀ x, (l.drop k).head? = some x → isDig x = false) : (l.drop i).takeWhile isDig = p ∧ (l.drop i).dropWhile isDig = l.drop k := by
  rw [h.1]
  exact takeWhile_whole h.2.1 hk
theorem numR_none {s : List UInt8} (h : s.takeWhile isDig = []) : numR s = none := by unfold numR; rw [h]
theorem numR_zero {s r : List UInt8} (h : s.takeWhile isDig = 48 :: r) : numR s = none := by unfold numR; rw [h]; simp
theorem numR_some {s r : List UInt8} {d : UInt8} (h : s.takeWhile isDig = d :: r) (hd : d ≠ 48) : numR s = some (.num (d :: r), s.dropWhile isDig) := by unfold numR; rw [h]; simp [hd]

/-- What a panic for a wrong form is. -/
def synErr : Value := .iface 47 (.int .i64 2)

/-- What number answers. -/
def NumOut (R : Nat) (l : List UInt8) (i : Nat) (ts : List (Int × List Int)) (A : Nat → Prop) (w : World) (e : Ending) (w' : World) : Prop :=
  Kp R w w' ∧ ((numR (l.drop i) = none ∧ e = .panicked [{ v := synErr, recovered := false }]) ∨
    ∃ p k, numR (l.drop i) = some (.num p, l.drop k) ∧ i < k ∧ k ≤ l.length ∧ e = .returned (.int .i64 (V1 p)) ∧ Rd R l k ts A w' ∧ w'.cell? ⟨R, 2, none⟩ = w.cell? ⟨R, 2, none⟩)

set_option maxRecDepth 100000 in
set_option maxHeartbeats 4000000 in
theorem number_any (R : Nat) (l : List UInt8) (i : Nat) (ts : List (Int × List Int)) (A : Nat → Prop) (w : World) (hl : l.length ≤ 200) (hi : i ≤ l.length) (hr : Rd R l i ts A w) :
    Calls Try.prog 83 #[.pointer (some ⟨R, 0, none⟩)] w (NumOut R l i ts A w) := by
  obtain ⟨h0, h1, _, hf⟩ := hr.cells
  have HR : Hid (Rd R l i ts A w) := hr
  clear hr hf
  go_enter Try.func83, Try.ntmps83
  go_wp2
  clear h0 h1
  go_loopg [4] l.length (fun gg s4 wr => ∃ k p, s4 = .int .i64 (p.foldl cap1 0 : Nat) ∧ Hid (NumAt l i k p) ∧ Hid (Rd R l k ts A wr) ∧ Hid (Kp R w wr) ∧ l.length - k ≤ gg ∧ Hid (wr.cell? ⟨R, 2, none⟩ = w.cell? ⟨R, 2, none⟩))
  case atStart => exact ⟨i, [], rfl, NumAt.start hi, HR, Kp.refl _ _, by omega, rfl⟩
  case round =>
    clear HR
    obtain ⟨k, p, rfl, hn, HR, HK, hg, H2⟩ := hrel
    obtain ⟨h0, h1, _, hf⟩ := HR.out.cells
    have hf1 := hf 1
    clear hf
    have hcap := cap1_le p 0 (by omega)
    have HC : Hid (∀ d, (p ++ [d]).foldl cap1 0 = min (10 * p.foldl cap1 0 + (d.toNat - 48)) 21) := fun d => by show _ = _; rw [List.foldl_append]; rfl
    have HV : Hid (V1 p = (p.foldl cap1 0 : Nat)) := rfl
    generalize p.foldl cap1 0 = n at *
    have hkl := hn.out.2.2.2
    by_cases hil : k < l.length
    · have hsz : k < (⟨l.toArray⟩ : ByteArray).size := by show k < l.toArray.size; simpa using hil
      have hxe : (⟨l.toArray⟩ : ByteArray)[k]'hsz = l[k] := rfl
      have hli : (k : Int) < (l.length : Int) := by omega
      have hcall := fun m => isDigit_any ((⟨l.toArray⟩ : ByteArray)[k]'hsz) (wr.drewN m)
      cases hd : isDig l[k]
      · rw [hxe, hd] at hcall
        have HE : Hid (∀ x, (l.drop k).head? = some x → isDig x = false) := fun x hx => by
          rw [head_drop hil] at hx
          rw [← Option.some.inj hx]; exact hd
        rw [← hxe] at hcall
        clear hxe hd
        rcases p with _ | ⟨d, r⟩
        · have hki : k = i := by have := hn.out.2.2.1; simpa using this
          subst hki
          have HNO : Hid (numR (l.drop k) = none) := numR_none (hn.out.ends HE.out).1
          have hkk : ((k : Int) == (k : Int)) = true := by simp
          go_wp2
          go_quiet ((go_at_call 84; refine Calls.quiet_of_same (hcall _)))
          go_wp2
          exact ⟨rfl, HK.out.drewN _, Or.inl ⟨HNO.out, rfl⟩⟩
        · have hik : i < k := by have := hn.out.2.2.1; simp at this; omega
          have hiL : i < l.length := by omega
          have hszi : i < (⟨l.toArray⟩ : ByteArray).size := by show i < l.toArray.size; simpa using hiL
          have hxi : (⟨l.toArray⟩ : ByteArray)[i]'hszi = l[i] := rfl
          have hld : l[i] = d := by
            have h1 := hn.out.1
            rw [List.drop_eq_getElem_cons hiL] at h1
            exact (List.cons.inj h1).1
          have hki : ((k : Int) == (i : Int)) = false := by simp; omega
          have hki' : ¬ (k : Int) = (i : Int) := by omega
          have hli2 : (i : Int) < (l.length : Int) := by omega
          have hTW := hn.out.ends HE.out
          by_cases h48 : d = 48
          · subst h48
            have HNO : Hid (numR (l.drop i) = none) := numR_zero hTW.1
            have h48' : ((((⟨l.toArray⟩ : ByteArray)[i]'hszi).toNat : Int) == 48) = true := by rw [hxi, hld]; rfl
            have h48i : ((l[i].toNat : Int) == 48) = true := by rw [hld]; rfl
            clear hTW hxi hld
            go_wp2
            go_quiet ((go_at_call 84; refine Calls.quiet_of_same (hcall _)))
            go_wp2
            exact ⟨rfl, HK.out.drewN _, Or.inl ⟨HNO.out, rfl⟩⟩
          · have HSO : Hid (numR (l.drop i) = some (.num (d :: r), l.drop k)) := by
              show _ = _
              rw [numR_some hTW.1 h48, hTW.2]
            have hne : ¬ l[i].toNat = 48 := by rw [hld]; intro e; exact h48 (UInt8.toNat_inj.1 e)
            have h48' : ((((⟨l.toArray⟩ : ByteArray)[i]'hszi).toNat : Int) == 48) = false := by rw [hxi]; simp; omega
            have h48i : ((l[i].toNat : Int) == 48) = false := by simp; omega
            clear hTW hxi hld hne
            go_wp2
            go_quiet ((go_at_call 84; refine Calls.quiet_of_same (hcall _)))
            go_wp2
            go_ret
            exact ⟨HK.out.drewN _, Or.inr ⟨_, k, HSO.out, hik, hkl, by rw [HV.out]; rfl, HR.out.drewN _, H2.out⟩⟩
      · rw [hxe, hd] at hcall
        have HS : Hid (NumAt l i (k + 1) (p ++ [l[k]])) := hn.out.step hil hd
        have hdb : 48 ≤ l[k].toNat ∧ l[k].toNat ≤ 57 := by simpa [isDig] using hd
        have hd1 : (48 : Int) ≤ (l[k].toNat : Int) := by omega
        have hd2 : (l[k].toNat : Int) ≤ 57 := by omega
        have HCD := HC.out l[k]
        rw [← hxe] at hcall
        by_cases hm : 10 * (n : Int) + ((l[k].toNat : Int) - 48) ≤ 21
        · go_wp2
          go_quiet ((go_at_call 84; refine Calls.quiet_of_same (hcall _)))
          go_wp2
          clear hcall
          go_quiet (fail)
          go_wp2
          go_roundg (l.length - (k + 1))
          case measure => omega
          case rel => exact ⟨k + 1, p ++ [l[k]], by rw [HCD]; go_num, HS, (HR.out.place (k + 1)).drewN _, (HK.out.setR 1 _).drewN _, Nat.le_refl _, (World.cell?_setCell_other wr ⟨R, 1, none⟩ ⟨R, 2, none⟩ _ (by simp)).trans H2.out⟩
        · go_wp2
          go_quiet ((go_at_call 84; refine Calls.quiet_of_same (hcall _)))
          go_wp2
          clear hcall
          go_quiet (fail)
          go_wp2
          go_roundg (l.length - (k + 1))
          case measure => omega
          case rel => exact ⟨k + 1, p ++ [l[k]], by rw [HCD]; go_num, HS, (HR.out.place (k + 1)).drewN _, (HK.out.setR 1 _).drewN _, Nat.le_refl _, (World.cell?_setCell_other wr ⟨R, 1, none⟩ ⟨R, 2, none⟩ _ (by simp)).trans H2.out⟩
    · have hke : k = l.length := by omega
      have HE : Hid (∀ x, (l.drop k).head? = some x → isDig x = false) := fun x hx => by rw [head_end (by omega)] at hx; cases hx
      have hli : decide ((k : Int) < (l.length : Int)) = false := decide_eq_false (by omega)
      have HKE : Hid (k = l.length) := hke
      clear hke
      rcases p with _ | ⟨d, r⟩
      · have hki : k = i := by have := hn.out.2.2.1; simpa using this
        subst hki
        have HNO : Hid (numR (l.drop k) = none) := numR_none (hn.out.ends HE.out).1
        have hkk : ((k : Int) == (k : Int)) = true := by simp
        go_wp2
        go_quiet (fail)
        go_wp2
        exact ⟨rfl, HK.out.drewN _, Or.inl ⟨HNO.out, rfl⟩⟩
      · have hik : i < k := by have := hn.out.2.2.1; simp at this; omega
        have hiL : i < l.length := by omega
        have hszi : i < (⟨l.toArray⟩ : ByteArray).size := by show i < l.toArray.size; simpa using hiL
        have hxi : (⟨l.toArray⟩ : ByteArray)[i]'hszi = l[i] := rfl
        have hld : l[i] = d := by
          have h1 := hn.out.1
          rw [List.drop_eq_getElem_cons hiL] at h1
          exact (List.cons.inj h1).1
        have hki : ((k : Int) == (i : Int)) = false := by simp; omega
        have hki' : ¬ (k : Int) = (i : Int) := by omega
        have hli2 : (i : Int) < (l.length : Int) := by omega
        have hTW := hn.out.ends HE.out
        by_cases h48 : d = 48
        · subst h48
          have HNO : Hid (numR (l.drop i) = none) := numR_zero hTW.1
          have h48' : ((((⟨l.toArray⟩ : ByteArray)[i]'hszi).toNat : Int) == 48) = true := by rw [hxi, hld]; rfl
          have h48i : ((l[i].toNat : Int) == 48) = true := by rw [hld]; rfl
          clear hTW hxi hld
          go_wp2
          go_quiet (fail)
          go_wp2
          exact ⟨rfl, HK.out.drewN _, Or.inl ⟨HNO.out, rfl⟩⟩
        · have HSO : Hid (numR (l.drop i) = some (.num (d :: r), l.drop k)) := by
            show _ = _
            rw [numR_some hTW.1 h48, hTW.2]
          have hne : ¬ l[i].toNat = 48 := by rw [hld]; intro e; exact h48 (UInt8.toNat_inj.1 e)
          have h48' : ((((⟨l.toArray⟩ : ByteArray)[i]'hszi).toNat : Int) == 48) = false := by rw [hxi]; simp; omega
          have h48i : ((l[i].toNat : Int) == 48) = false := by simp; omega
          clear hTW hxi hld hne
          go_wp2
          go_quiet (fail)
          go_wp2
          go_ret
          exact ⟨HK.out.drewN _, Or.inr ⟨_, k, HSO.out, hik, hkl, by rw [HV.out]; rfl, HR.out.drewN _, H2.out⟩⟩
end Go.Proofs.Ytkcpimbhfmhjgaa
