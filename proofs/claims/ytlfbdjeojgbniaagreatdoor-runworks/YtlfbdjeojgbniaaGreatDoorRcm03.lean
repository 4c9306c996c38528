/- The contracts of weave's isDigit, take, number. The contract of weave's task. -/
import Derived.Test.YtlfbdjeojgbniaaGreatDoorRcm02
import Derived.Test.YtlfbdjeojgbniaaGreatDoorRcm01
import Derived.RegionTactic
import Derived.OrdersHeld

namespace Go.Proofs.YtlfbdjeojgbniaaGreatDoor
open Go.RowKit Go.Deep

theorem isDigit_any (b : UInt8) (w : World) : Calls Tryz.prog 225 #[.int .u8 (b.toNat : Int)] w fun e w' => e = .returned (.bool (isDig b)) ∧ w' = w := by
  by_cases h1 : 48 ≤ b.toNat
  · by_cases h2 : b.toNat ≤ 57
    · have g1 : (48 : Int) ≤ (b.toNat : Int) := by omega
      have g2 : (b.toNat : Int) ≤ 57 := by omega
      go_enter Tryz.func225, Tryz.ntmps225
      go_wp2
      go_ret
      exact ⟨by simp [isDig, h1, h2], rfl⟩
    · have g1 : (48 : Int) ≤ (b.toNat : Int) := by omega
      have g2 : ¬ (b.toNat : Int) ≤ 57 := by omega
      go_enter Tryz.func225, Tryz.ntmps225
      go_wp2
      go_ret
      exact ⟨by simp [isDig, h1, h2], rfl⟩
  · have g1 : ¬ (48 : Int) ≤ (b.toNat : Int) := by omega
    go_enter Tryz.func225, Tryz.ntmps225
    go_wp2
    go_ret
    exact ⟨by simp [isDig, h1], rfl⟩

theorem head_drop {l : List UInt8} {i : Nat} (h : i < l.length) : (l.drop i).head? = some l[i] := by rw [List.drop_eq_getElem_cons h]; rfl
theorem head_end {l : List UInt8} {i : Nat} (h : l.length ≤ i) : (l.drop i).head? = none := by rw [List.drop_of_length_le h]; rfl

set_option maxRecDepth 100000 in
set_option maxHeartbeats 1000000 in
theorem take_any (R : Nat) (l : List UInt8) (i : Nat) (ts : List (Int × List Int)) (A : Nat → Prop) (c : UInt8) (w : World) (hl : l.length ≤ 200) (hi : i ≤ l.length) (hr : Rd R l i ts A w) :
    Calls Tryz.prog 177 #[.pointer (some ⟨R, 0, none⟩), .int .u8 (c.toNat : Int)] w fun e w' => Kp R w w' ∧
      (((l.drop i).head? ≠ some c ∧ e = .returned (.bool false) ∧ Rd R l i ts A w') ∨ (i < l.length ∧ l.drop i = c :: l.drop (i + 1) ∧ e = .returned (.bool true) ∧ Rd R l (i + 1) ts A w')) := by
  obtain ⟨h0, h1, _, hf⟩ := hr.cells
  have hf1 := hf 1
  have HR : Hid (Rd R l i ts A w) := hr
  clear hr hf
  by_cases hil : i < l.length
  · have hsz : i < (⟨l.toArray⟩ : ByteArray).size := by show i < l.toArray.size; simpa using hil
    have hxe : (⟨l.toArray⟩ : ByteArray)[i]'hsz = l[i] := rfl
    have hne : ((i : Int) == (l.length : Int)) = false := by simp; omega
    have hli : (i : Int) < (l.length : Int) := by omega
    by_cases hc : l[i] = c
    · have hb : (((((⟨l.toArray⟩ : ByteArray)[i]'hsz).toNat : Int)) != (c.toNat : Int)) = false := by rw [hxe, hc]; simp
      have HD : Hid (l.drop i = c :: l.drop (i + 1)) := by show _ = _; rw [List.drop_eq_getElem_cons hil, hc]
      clear hxe hc
      go_enter Tryz.func177, Tryz.ntmps177
      go_wp2
      go_quiet (fail)
      go_wp2
      go_ret
      refine ⟨?_, Or.inr ⟨hil, HD.out, rfl, ?_⟩⟩
      · exact ((Kp.refl R w).setR 1 _).drewN _
      · exact (HR.out.place (i + 1)).drewN _
    · have hb : (((((⟨l.toArray⟩ : ByteArray)[i]'hsz).toNat : Int)) != (c.toNat : Int)) = true := by
        rw [hxe, bne_iff_ne]
        intro e
        exact hc (UInt8.toNat_inj.1 (by omega))
      have HD : Hid ((l.drop i).head? ≠ some c) := by show _ ≠ _; rw [head_drop hil]; simpa using hc
      clear hxe hc
      go_enter Tryz.func177, Tryz.ntmps177
      go_wp2
      go_quiet (fail)
      go_wp2
      go_ret
      exact ⟨(Kp.refl R w).drewN _, Or.inl ⟨HD.out, rfl, HR.out.drewN _⟩⟩
  · have hie : i = l.length := by omega
    have HD : Hid ((l.drop i).head? ≠ some c) := by show _ ≠ _; rw [head_end (by omega)]; simp
    subst hie
    have hne : ((l.length : Int) == (l.length : Int)) = true := by simp
    clear hil
    go_enter Tryz.func177, Tryz.ntmps177
    go_wp2
    go_quiet (fail)
    go_wp2
    go_ret
    exact ⟨(Kp.refl R w).drewN _, Or.inl ⟨HD.out, rfl, HR.out.drewN _⟩⟩

/-- A number, as the program reckons it: what is above 20 stays 21. -/
def cap1 (n : Nat) (d : UInt8) : Nat := min (10 * n + (d.toNat - 48)) 21
def V1 (ds : List UInt8) : Int := (ds.foldl cap1 0 : Nat)
theorem cap1_le (ds : List UInt8) (n : Nat) (h : n ≤ 21) : ds.foldl cap1 n ≤ 21 := by
  induction ds generalizing n with
  | nil => exact h
  | cons d r ih => exact ih _ (by unfold cap1; omega)
theorem V1_le (ds : List UInt8) : 0 ≤ V1 ds ∧ V1 ds ≤ 21 := by
  have := cap1_le ds 0 (by omega)
  unfold V1; omega

theorem takeWhile_whole {p q : List UInt8} (h : ∀ x, x ∈ p → isDig x = true) (hq : ∀ x, q.head? = some x → isDig x = false) : (p ++ q).takeWhile isDig = p ∧ (p ++ q).dropWhile isDig = q := by
  induction p with
  | nil =>
    cases q with
    | nil => exact ⟨rfl, rfl⟩
    | cons b r => have := hq b rfl; simp [this]
  | cons a r ih =>
    have h1 := h a (by simp)
    have h2 := ih (fun x hx => h x (by simp [hx]))
    simp [h1, h2.1, h2.2]

/-- While a number is read from place i on: at k, p was read. -/
def NumAt (l : List UInt8) (i k : Nat) (p : List UInt8) : Prop := l.drop i = p ++ l.drop k ∧ (∀ x, x ∈ p → isDig x = true) ∧ k = i + p.length ∧ k ≤ l.length
theorem NumAt.start {l : List UInt8} {i : Nat} (h : i ≤ l.length) : NumAt l i i [] := ⟨rfl, fun x hx => by simp at hx, by simp, h⟩
theorem NumAt.step {l : List UInt8} {i k : Nat} {p : List UInt8} (h : NumAt l i k p) (hk : k < l.length) (hd : isDig l[k] = true) : NumAt l i (k + 1) (p ++ [l[k]]) := by
  obtain ⟨h1, h2, h3, h4⟩ := h
  refine ⟨by rw [h1, List.drop_eq_getElem_cons hk]; simp, fun x hx => ?_, by simp; omega, by omega⟩
  rcases List.mem_append.1 hx with hx | hx
  · exact h2 x hx
  · rw [List.mem_singleton.1 hx]; exact hd
theorem NumAt.ends {l : List UInt8} {i k : Nat} {p : List UInt8} (h : NumAt l i k p) (hk : ∀ x, (l.drop k).head? = some x → isDig x = false) : (l.drop i).takeWhile isDig = p ∧ (l.drop i).dropWhile isDig = l.drop k := by
  rw [h.1]
  exact takeWhile_whole h.2.1 hk
theorem numR_none {s : List UInt8} (h : s.takeWhile isDig = []) : numR s = none := by unfold numR; rw [h]
theorem numR_zero {s r : List UInt8} (h : s.takeWhile isDig = 48 :: r) : numR s = none := by unfold numR; rw [h]; simp
theorem numR_some {s r : List UInt8} {d : UInt8} (h : s.takeWhile isDig = d :: r) (hd : d ≠ 48) : numR s = some (.num (d :: r), s.dropWhile isDig) := by unfold numR; rw [h]; simp [hd]

/-- What a panic for a wrong form is. -/
def synErr : Value := .iface 97 (.int .i64 2)

/-- What number answers. -/
def NumOut (R : Nat) (l : List UInt8) (i : Nat) (ts : List (Int × List Int)) (A : Nat → Prop) (w : World) (e : Ending) (w' : World) : Prop :=
  Kp R w w' ∧ ((numR (l.drop i) = none ∧ e = .panicked [{ v := synErr, recovered := false }]) ∨
    ∃ p k, numR (l.drop i) = some (.num p, l.drop k) ∧ i < k ∧ k ≤ l.length ∧ e = .returned (.int .i64 (V1 p)) ∧ Rd R l k ts A w' ∧ w'.cell? ⟨R, 2, none⟩ = w.cell? ⟨R, 2, none⟩)

set_option maxRecDepth 100000 in
set_option maxHeartbeats 4000000 in
theorem number_any (R : Nat) (l : List UInt8) (i : Nat) (ts : List (Int × List Int)) (A : Nat → Prop) (w : World) (hl : l.length ≤ 200) (hi : i ≤ l.length) (hr : Rd R l i ts A w) :
    Calls Tryz.prog 224 #[.pointer (some ⟨R, 0, none⟩)] w (NumOut R l i ts A w) := by
  obtain ⟨h0, h1, _, hf⟩ := hr.cells
  have HR : Hid (Rd R l i ts A w) := hr
  clear hr hf
  go_enter Tryz.func224, Tryz.ntmps224
  go_wp2
  clear h0 h1
  go_loopg [4] l.length (fun gg s4 wr => ∃ k p, s4 = .int .i64 (p.foldl cap1 0 : Nat) ∧ Hid (NumAt l i k p) ∧ Hid (Rd R l k ts A wr) ∧ Hid (Kp R w wr) ∧ l.length - k ≤ gg ∧ Hid (wr.cell? ⟨R, 2, none⟩ = w.cell? ⟨R, 2, none⟩))
  case atStart => exact ⟨i, [], rfl, NumAt.start hi, HR, Kp.refl _ _, by omega, rfl⟩
  case round =>
    clear HR
    obtain ⟨k, p, rfl, hn, HR, HK, hg, H2⟩ := hrel
    obtain ⟨h0, h1, _, hf⟩ := HR.out.cells
    have hf1 := hf 1
    clear hf
    have hcap := cap1_le p 0 (by omega)
    have HC : Hid (∀ d, (p ++ [d]).foldl cap1 0 = min (10 * p.foldl cap1 0 + (d.toNat - 48)) 21) := fun d => by show _ = _; rw [List.foldl_append]; rfl
    have HV : Hid (V1 p = (p.foldl cap1 0 : Nat)) := rfl
    generalize p.foldl cap1 0 = n at *
    have hkl := hn.out.2.2.2
    by_cases hil : k < l.length
    · have hsz : k < (⟨l.toArray⟩ : ByteArray).size := by show k < l.toArray.size; simpa using hil
      have hxe : (⟨l.toArray⟩ : ByteArray)[k]'hsz = l[k] := rfl
      have hli : (k : Int) < (l.length : Int) := by omega
      have hcall := fun m => isDigit_any ((⟨l.toArray⟩ : ByteArray)[k]'hsz) (wr.drewN m)
      cases hd : isDig l[k]
      · rw [hxe, hd] at hcall
        have HE : Hid (∀ x, (l.drop k).head? = some x → isDig x = false) := fun x hx => by
          rw [head_drop hil] at hx
          rw [← Option.some.inj hx]; exact hd
        rw [← hxe] at hcall
        clear hxe hd
        rcases p with _ | ⟨d, r⟩
        · have hki : k = i := by have := hn.out.2.2.1; simpa using this
          subst hki
          have HNO : Hid (numR (l.drop k) = none) := numR_none (hn.out.ends HE.out).1
          have hkk : ((k : Int) == (k : Int)) = true := by simp
          go_wp2
          go_quiet ((go_at_call 225; refine Calls.quiet_of_same (hcall _)))
          go_wp2
          exact ⟨rfl, HK.out.drewN _, Or.inl ⟨HNO.out, rfl⟩⟩
        · have hik : i < k := by have := hn.out.2.2.1; simp at this; omega
          have hiL : i < l.length := by omega
          have hszi : i < (⟨l.toArray⟩ : ByteArray).size := by show i < l.toArray.size; simpa using hiL
          have hxi : (⟨l.toArray⟩ : ByteArray)[i]'hszi = l[i] := rfl
          have hld : l[i] = d := by
            have h1 := hn.out.1
            rw [List.drop_eq_getElem_cons hiL] at h1
            exact (List.cons.inj h1).1
          have hki : ((k : Int) == (i : Int)) = false := by simp; omega
          have hki' : ¬ (k : Int) = (i : Int) := by omega
          have hli2 : (i : Int) < (l.length : Int) := by omega
          have hTW := hn.out.ends HE.out
          by_cases h48 : d = 48
          · subst h48
            have HNO : Hid (numR (l.drop i) = none) := numR_zero hTW.1
            have h48' : ((((⟨l.toArray⟩ : ByteArray)[i]'hszi).toNat : Int) == 48) = true := by rw [hxi, hld]; rfl
            have h48i : ((l[i].toNat : Int) == 48) = true := by rw [hld]; rfl
            clear hTW hxi hld
            go_wp2
            go_quiet ((go_at_call 225; refine Calls.quiet_of_same (hcall _)))
            go_wp2
            exact ⟨rfl, HK.out.drewN _, Or.inl ⟨HNO.out, rfl⟩⟩
          · have HSO : Hid (numR (l.drop i) = some (.num (d :: r), l.drop k)) := by
              show _ = _
              rw [numR_some hTW.1 h48, hTW.2]
            have hne : ¬ l[i].toNat = 48 := by rw [hld]; intro e; exact h48 (UInt8.toNat_inj.1 e)
            have h48' : ((((⟨l.toArray⟩ : ByteArray)[i]'hszi).toNat : Int) == 48) = false := by rw [hxi]; simp; omega
            have h48i : ((l[i].toNat : Int) == 48) = false := by simp; omega
            clear hTW hxi hld hne
            go_wp2
            go_quiet ((go_at_call 225; refine Calls.quiet_of_same (hcall _)))
            go_wp2
            go_ret
            exact ⟨HK.out.drewN _, Or.inr ⟨_, k, HSO.out, hik, hkl, by rw [HV.out]; rfl, HR.out.drewN _, H2.out⟩⟩
      · rw [hxe, hd] at hcall
        have HS : Hid (NumAt l i (k + 1) (p ++ [l[k]])) := hn.out.step hil hd
        have hdb : 48 ≤ l[k].toNat ∧ l[k].toNat ≤ 57 := by simpa [isDig] using hd
        have hd1 : (48 : Int) ≤ (l[k].toNat : Int) := by omega
        have hd2 : (l[k].toNat : Int) ≤ 57 := by omega
        have HCD := HC.out l[k]
        rw [← hxe] at hcall
        by_cases hm : 10 * (n : Int) + ((l[k].toNat : Int) - 48) ≤ 21
        · go_wp2
          go_quiet ((go_at_call 225; refine Calls.quiet_of_same (hcall _)))
          go_wp2
          clear hcall
          go_quiet (fail)
          go_wp2
          go_roundg (l.length - (k + 1))
          case measure => omega
          case rel => exact ⟨k + 1, p ++ [l[k]], by rw [HCD]; go_num, HS, (HR.out.place (k + 1)).drewN _, (HK.out.setR 1 _).drewN _, Nat.le_refl _, (World.cell?_setCell_other wr ⟨R, 1, none⟩ ⟨R, 2, none⟩ _ (by simp)).trans H2.out⟩
        · go_wp2
          go_quiet ((go_at_call 225; refine Calls.quiet_of_same (hcall _)))
          go_wp2
          clear hcall
          go_quiet (fail)
          go_wp2
          go_roundg (l.length - (k + 1))
          case measure => omega
          case rel => exact ⟨k + 1, p ++ [l[k]], by rw [HCD]; go_num, HS, (HR.out.place (k + 1)).drewN _, (HK.out.setR 1 _).drewN _, Nat.le_refl _, (World.cell?_setCell_other wr ⟨R, 1, none⟩ ⟨R, 2, none⟩ _ (by simp)).trans H2.out⟩
    · have hke : k = l.length := by omega
      have HE : Hid (∀ x, (l.drop k).head? = some x → isDig x = false) := fun x hx => by rw [head_end (by omega)] at hx; cases hx
      have hli : decide ((k : Int) < (l.length : Int)) = false := decide_eq_false (by omega)
      have HKE : Hid (k = l.length) := hke
      clear hke
      rcases p with _ | ⟨d, r⟩
      · have hki : k = i := by have := hn.out.2.2.1; simpa using this
        subst hki
        have HNO : Hid (numR (l.drop k) = none) := numR_none (hn.out.ends HE.out).1
        have hkk : ((k : Int) == (k : Int)) = true := by simp
        go_wp2
        go_quiet (fail)
        go_wp2
        exact ⟨rfl, HK.out.drewN _, Or.inl ⟨HNO.out, rfl⟩⟩
      · have hik : i < k := by have := hn.out.2.2.1; simp at this; omega
        have hiL : i < l.length := by omega
        have hszi : i < (⟨l.toArray⟩ : ByteArray).size := by show i < l.toArray.size; simpa using hiL
        have hxi : (⟨l.toArray⟩ : ByteArray)[i]'hszi = l[i] := rfl
        have hld : l[i] = d := by
          have h1 := hn.out.1
          rw [List.drop_eq_getElem_cons hiL] at h1
          exact (List.cons.inj h1).1
        have hki : ((k : Int) == (i : Int)) = false := by simp; omega
        have hki' : ¬ (k : Int) = (i : Int) := by omega
        have hli2 : (i : Int) < (l.length : Int) := by omega
        have hTW := hn.out.ends HE.out
        by_cases h48 : d = 48
        · subst h48
          have HNO : Hid (numR (l.drop i) = none) := numR_zero hTW.1
          have h48' : ((((⟨l.toArray⟩ : ByteArray)[i]'hszi).toNat : Int) == 48) = true := by rw [hxi, hld]; rfl
          have h48i : ((l[i].toNat : Int) == 48) = true := by rw [hld]; rfl
          clear hTW hxi hld
          go_wp2
          go_quiet (fail)
          go_wp2
          exact ⟨rfl, HK.out.drewN _, Or.inl ⟨HNO.out, rfl⟩⟩
        · have HSO : Hid (numR (l.drop i) = some (.num (d :: r), l.drop k)) := by
            show _ = _
            rw [numR_some hTW.1 h48, hTW.2]
          have hne : ¬ l[i].toNat = 48 := by rw [hld]; intro e; exact h48 (UInt8.toNat_inj.1 e)
          have h48' : ((((⟨l.toArray⟩ : ByteArray)[i]'hszi).toNat : Int) == 48) = false := by rw [hxi]; simp; omega
          have h48i : ((l[i].toNat : Int) == 48) = false := by simp; omega
          clear hTW hxi hld hne
          go_wp2
          go_quiet (fail)
          go_wp2
          go_ret
          exact ⟨HK.out.drewN _, Or.inr ⟨_, k, HSO.out, hik, hkl, by rw [HV.out]; rfl, HR.out.drewN _, H2.out⟩⟩
end Go.Proofs.YtlfbdjeojgbniaaGreatDoor

namespace Go.Proofs.YtlfbdjeojgbniaaGreatDoor
open Go.RowKit Go.Deep

/-- Where what tasks need may lie, behind a call that told these two rows. -/
def Old (A : Nat → Prop) (n : Nat) : Nat → Prop := fun k => A k ∧ k < n
def Allow (A : Nat → Prop) (n : Nat) (fv lv : Value) : Nat → Prop := fun k => Old A n k ∨ (n ≤ k ∧ fv.ownBlock ≠ some k ∧ lv.ownBlock ≠ some k)
theorem Rd.old {R i : Nat} {l : List UInt8} {ts : List (Int × List Int)} {A : Nat → Prop} {w : World} (h : Rd R l i ts A w) : Rd R l i ts (Old A w.heap.size) w := h.allow (fun _ h hlt => ⟨h, hlt⟩)
/-- The tasks that come first and last in a weave, in rows of their own. -/
def PartRows (b : Nat) (w : World) (n : Nat) (t : Tree) (fv lv : Value) : Prop := RowW b w fv (ofNats (t.first n)) ∧ RowW b w lv (ofNats (t.last n)) ∧ fv.ownBlock ≠ lv.ownBlock
def partV (t : Tree) (fv lv : Value) : Value := .agg #[.int .i64 (t.work V1), .int .i64 (t.span V1), fv, lv]

/-- What task answers. -/
def TaskOut (R : Nat) (l : List UInt8) (i : Nat) (ts : List (Int × List Int)) (A : Nat → Prop) (w : World) (e : Ending) (w' : World) : Prop :=
  Kp R w w' ∧ ((numR (l.drop i) = none ∧ e = .panicked [{ v := synErr, recovered := false }]) ∨
    ∃ p k fv lv, numR (l.drop i) = some (.num p, l.drop k) ∧ i < k ∧ k ≤ l.length ∧ e = .returned (partV (.num p) fv lv) ∧ Rd R l k ((Tree.num p).lay V1 ts) A w' ∧ PartRows w.heap.size w' ts.length (.num p) fv lv)

theorem wpOp_call {P : Program} {ops : Array Oper} {Q : Exit → Act → World → Prop} {i : Nat} {o : Oper} {K : Act → World → Prop} {a : Act} {w : World} {f : FuncId} {args : Array Value} (hi : ops[i]? = some o) (hw : Region.wanted o (yielded ops a.tmps) = true)
    (hr : (execOp a.eval o).run P w = .ok (.enter f args) w) (h : Calls P f args w fun
      | .returned v, w'' => K (a.put o.dst v) w''
      | .panicked chain, w'' => Q (.panic chain) a w''
      | .outgrown, _ => LetsOut Q) : wpOp P ops Q i K a w := by
  unfold wpOp
  rw [hi]
  dsimp only
  rw [hw, if_pos rfl]
  refine Or.inl ?_
  unfold Oper.wp
  rw [hr]
  exact h

theorem owns_shape {w : World} {base e size : Nat} {v : Value} {n : Nat} {xs : List Value} (h : w.ownsRow base e size v n xs) (hn : 0 < n) : ∃ g cap, v = .slice (some ⟨g, 0, none⟩) n cap := by
  rcases h.2 with ⟨_, h0⟩ | ⟨g, cap, _, hv, _⟩
  · omega
  · exact ⟨g, cap, hv⟩
/-- A row grows: blocks of another kind are as they were. -/
theorem grown_other {w w' : World} {b n re rs : Nat} {v : Value} {xs : List Value} (ho : w.ownsRow b re rs v n xs) (hg : w.grownBy w' v.ownBlock) {k : Nat} {cs : Array Value} {t : TypeId} {fr : Nat × Nat} (hk : w.heap[k]? = some (.cells cs t fr)) (ht : t ≠ re) : w'.heap[k]? = some (.cells cs t fr) := by
  refine (hg.block k (lt_of_block hk) (fun hc => ?_)).trans hk
  rcases ho.2 with ⟨hv, _⟩ | ⟨g, cap, cur, hv, _, hh, _⟩
  · subst hv; simp [Value.ownBlock] at hc
  · subst hv
    simp only [Value.ownBlock, Option.some.injEq] at hc
    subst hc
    rw [hk] at hh
    simp only [Option.some.injEq, Obj.cells.injEq] at hh
    exact ht hh.2.1
theorem Rd.laid {R i : Nat} {l : List UInt8} {ts' : List (Int × List Int)} {A' : Nat → Prop} {w : World} {tv tv' : Value} (h1 : w.heap[R]? = some (.cells #[.string ⟨l.toArray⟩, .int .i64 i, tv] 234 (0, 0))) (ht : RowT (R + 1) A' w tv' ts') : Rd R l i ts' A' (w.setCell ⟨R, 2, none⟩ tv') := by
  refine ⟨tv', ?_, ht.of_blocks (fun k hk _ _ => Below.heap_setCell _ _ _ _ (by show k ≠ R; omega))⟩
  have := heap_setCell_same w R 2 _ 234 tv' h1
  simpa using this
theorem RowW.of_kinds {b : Nat} {w w' : World} {v : Value} {zs : List Int} (h : RowW b w v zs) (hk : ∀ (k : Nat) (cs : Array Value) (fr : Nat × Nat), w.heap[k]? = some (.cells cs 3 fr) → w'.heap[k]? = w.heap[k]?) : RowW b w' v zs :=
  h.of_blocks fun k e => by
    obtain ⟨cs, hc⟩ := h.block e
    exact hk k cs _ hc
theorem RowT.of_kinds {b : Nat} {A : Nat → Prop} {w w' : World} {v : Value} {ts : List (Int × List Int)} (h : RowT b A w v ts) (h3 : ∀ (k : Nat) (cs : Array Value) (fr : Nat × Nat), w.heap[k]? = some (.cells cs 3 fr) → w'.heap[k]? = w.heap[k]?) (h37 : ∀ (k : Nat) (cs : Array Value) (fr : Nat × Nat), w.heap[k]? = some (.cells cs 94 fr) → w'.heap[k]? = w.heap[k]?) : RowT b A w' v ts := by
  obtain ⟨xs, ho, hx⟩ := h
  refine ⟨xs, ?_, fun j hj => ?_⟩
  · rcases ho.2 with ⟨rfl, hn⟩ | ⟨g, cap, cur, rfl, hb, hh, hr⟩
    · exact ⟨ho.1, Or.inl ⟨rfl, hn⟩⟩
    · exact ⟨ho.1, Or.inr ⟨g, cap, cur, rfl, hb, (h37 g _ _ hh).trans hh, hr⟩⟩
  · obtain ⟨g1, nv, g2, g3, g4⟩ := hx j hj
    exact ⟨g1, nv, g2, g3.of_kinds h3, g4⟩
/-- A cell of a part is written: the reader is as it was. -/
theorem set_kind {w : World} {b : Nat} {c0 : Array Value} {f0 : Nat × Nat} (hb : w.heap[b]? = some (.cells c0 199 f0)) (j : Nat) (u : Value) {k : Nat} {cs : Array Value} {t : TypeId} {fr : Nat × Nat} (ht : t ≠ 199) (hk : w.heap[k]? = some (.cells cs t fr)) : (w.setCell ⟨b, j, none⟩ u).heap[k]? = w.heap[k]? :=
  Below.heap_setCell _ _ _ _ (fun e => by
    have e' : k = b := e
    rw [e', hb] at hk
    simp only [Option.some.injEq, Obj.cells.injEq] at hk
    exact ht hk.2.1.symm)
theorem Rd.setPart {R i : Nat} {l : List UInt8} {ts : List (Int × List Int)} {A : Nat → Prop} {w : World} {b : Nat} {c0 : Array Value} {f0 : Nat × Nat} (h : Rd R l i ts A w) (hb : w.heap[b]? = some (.cells c0 199 f0)) (j : Nat) (u : Value) : Rd R l i ts A (w.setCell ⟨b, j, none⟩ u) := by
  obtain ⟨tv, h1, h2⟩ := h
  exact ⟨tv, (set_kind hb j u (by decide) h1).trans h1, h2.of_kinds (fun k cs fr hk => set_kind hb j u (by decide) hk) (fun k cs fr hk => set_kind hb j u (by decide) hk)⟩
theorem RowW.setPart {b : Nat} {w : World} {v : Value} {zs : List Int} {g : Nat} {c0 : Array Value} {f0 : Nat × Nat} (h : RowW b w v zs) (hb : w.heap[g]? = some (.cells c0 199 f0)) (j : Nat) (u : Value) : RowW b (w.setCell ⟨g, j, none⟩ u) v zs := h.of_kinds (fun k cs fr hk => set_kind hb j u (by decide) hk)
theorem RowW.alloc {b : Nat} {w : World} {v : Value} {zs : List Int} (h : RowW b w v zs) (o : Obj) : RowW b (w.alloc o) v zs := h.of_blocks (fun _ e => Below.heap_alloc _ _ _ (h.low e).2)
theorem RowW.drewN {b : Nat} {w : World} {v : Value} {zs : List Int} (h : RowW b w v zs) (n : Nat) : RowW b (w.drewN n) v zs := h.of_blocks (fun _ _ => rfl)
/-- A part is laid whole. -/
def setP (w : World) (b : Nat) (a1 a2 a3 a4 : Value) : World := (((w.setCell ⟨b, 0, none⟩ a1).setCell ⟨b, 1, none⟩ a2).setCell ⟨b, 2, none⟩ a3).setCell ⟨b, 3, none⟩ a4
theorem setP_block {w : World} {b : Nat} {o1 o2 o3 o4 : Value} (h : w.heap[b]? = some (.cells #[o1, o2, o3, o4] 199 (0, 0))) (a1 a2 a3 a4 : Value) : (setP w b a1 a2 a3 a4).heap[b]? = some (.cells #[a1, a2, a3, a4] 199 (0, 0)) := by
  have h1 := heap_setCell_same w b 0 _ 199 a1 h
  have h2 := heap_setCell_same _ b 1 _ 199 a2 h1
  have h3 := heap_setCell_same _ b 2 _ 199 a3 h2
  have h4 := heap_setCell_same _ b 3 _ 199 a4 h3
  simpa [setP] using h4
theorem Rd.setP {R i : Nat} {l : List UInt8} {ts : List (Int × List Int)} {A : Nat → Prop} {w : World} {b : Nat} {o1 o2 o3 o4 : Value} (hr : Rd R l i ts A w) (h : w.heap[b]? = some (.cells #[o1, o2, o3, o4] 199 (0, 0))) (a1 a2 a3 a4 : Value) : Rd R l i ts A (setP w b a1 a2 a3 a4) := by
  have h1 := heap_setCell_same w b 0 _ 199 a1 h
  have h2 := heap_setCell_same _ b 1 _ 199 a2 h1
  have h3 := heap_setCell_same _ b 2 _ 199 a3 h2
  exact (((hr.setPart h 0 a1).setPart h1 1 a2).setPart h2 2 a3).setPart h3 3 a4
theorem RowW.setP {c : Nat} {w : World} {v : Value} {zs : List Int} {b : Nat} {o1 o2 o3 o4 : Value} (hr : RowW c w v zs) (h : w.heap[b]? = some (.cells #[o1, o2, o3, o4] 199 (0, 0))) (a1 a2 a3 a4 : Value) : RowW c (setP w b a1 a2 a3 a4) v zs := by
  have h1 := heap_setCell_same w b 0 _ 199 a1 h
  have h2 := heap_setCell_same _ b 1 _ 199 a2 h1
  have h3 := heap_setCell_same _ b 2 _ 199 a3 h2
  exact (((hr.setPart h 0 a1).setPart h1 1 a2).setPart h2 2 a3).setPart h3 3 a4
theorem Kp.setP {R : Nat} {w0 w : World} (h : Kp R w0 w) {b : Nat} (hb : w0.heap.size ≤ b) (a1 a2 a3 a4 : Value) : Kp R w0 (setP w b a1 a2 a3 a4) := (((h.setNew hb 0 a1).setNew hb 1 a2).setNew hb 2 a3).setNew hb 3 a4
theorem setP_size (w : World) (b : Nat) (a1 a2 a3 a4 : Value) : (setP w b a1 a2 a3 a4).heap.size = w.heap.size := by simp [setP]
/-- The block of a part, read cell by cell. -/
theorem part_cells {w : World} {b : Nat} {a1 a2 a3 a4 : Value} (h : w.heap[b]? = some (.cells #[a1, a2, a3, a4] 199 (0, 0))) :
    w.cell? ⟨b, 0, none⟩ = some a1 ∧ w.cell? ⟨b, 1, none⟩ = some a2 ∧ w.cell? ⟨b, 2, none⟩ = some a3 ∧ w.cell? ⟨b, 3, none⟩ = some a4 ∧ ∀ j, w.frozen? ⟨b, j, none⟩ = false :=
  ⟨by simp [World.cell?, h], by simp [World.cell?, h], by simp [World.cell?, h], by simp [World.cell?, h], fun j => by simp [World.frozen?, h]⟩

/-- A function that returns a part, which lies in a block of its own. -/
theorem part_ret {fn : Func} {Q : Ending → World → Prop} {a : Act} {w : World} {b : Nat} {a1 a2 a3 a4 : Value} (hr : fn.results = #[ResultVar.cell 2 199]) (h : w.heap[b]? = some (.cells #[a1, a2, a3, a4] 199 (0, 0))) (ht : a.tmps[2]? = some (.pointer (some ⟨b, 0, none⟩))) (hd : a.defers = []) (hq : Q (.returned (.agg #[a1, a2, a3, a4])) w) :
    bodyPost Tryz.prog fn Q Exit.ret a w := by
  obtain ⟨q0, q1, q2, q3, _⟩ := part_cells h
  refine bodyPost_ret (v := .agg #[a1, a2, a3, a4]) ?_ hd hq
  simp [results, hr, go_sem, ht, q0, q1, q2, q3]

set_option maxRecDepth 100000 in
set_option maxHeartbeats 4000000 in
theorem task_any (R : Nat) (l : List UInt8) (i : Nat) (ts : List (Int × List Int)) (A : Nat → Prop) (w : World) (hl : l.length ≤ 200) (hi : i ≤ l.length) (hts : ts.length ≤ i) (hr : Rd R l i ts A w) :
    Calls Tryz.prog 218 #[.pointer (some ⟨R, 0, none⟩)] w (TaskOut R l i ts A w) := by
  have HR : Hid (Rd R l i ts A w) := hr
  have hRl := hr.lt
  obtain ⟨i37, hi37, hz0, hz1, hz2⟩ := info_parts Tryz.info94
  obtain ⟨tv, htv, htr⟩ := (hr.alloc (.cells #[.int .i64 0, .int .i64 0, .slice none 0 0, .slice none 0 0] 199)).cells.2.2.1
  obtain ⟨ta, tc, rfl⟩ := htr.shape
  clear htr hr
  go_enter Tryz.func218, Tryz.ntmps218
  go_wp2
  have HS : (w.alloc (.cells #[.int .i64 0, .int .i64 0, .slice none 0 0, .slice none 0 0] 199)).drew.cell? ⟨R, 2, none⟩ = some (.slice ta ts.length tc) := htv
  refine wp_region_held (S := fun W' => W'.cell? ⟨R, 2, none⟩ = some (.slice ta ts.length tc)) (by kernel_rfl) ?_
  refine wpAnyH_take (i := 0) (v := ?v0) rfl (by kernel_rfl) (by kernel_rfl) (by kernel_rfl) (fun _ _ _ h => h) (Or.inl ⟨by rfl, ?hy0⟩) HS ?_
  case hy0 =>
    intro wz hSz
    go_simp
    try rfl
  refine wpAnyH_take (i := 2) (v := ?v2) rfl (by kernel_rfl) (by kernel_rfl) (by kernel_rfl) (fun _ _ _ h => h) (Or.inl ⟨by rfl, ?hy2⟩) HS ?_
  case hy2 =>
    intro wz hSz
    go_simp
    try rfl
  refine wpAnyH_take (i := 3) (v := ?v3) rfl (by kernel_rfl) (by kernel_rfl) (by kernel_rfl) (fun _ _ _ h => h) (Or.inl ⟨by rfl, ?hy3⟩) HS ?_
  case hy3 =>
    intro wz hSz
    go_simp
    try rfl
  refine wpAnyH_take (i := 4) (v := ?v4) rfl (by kernel_rfl) (by kernel_rfl) (by kernel_rfl) (fun _ _ _ h => h) (Or.inl ⟨by rfl, ?hy4⟩) HS ?_
  case hy4 =>
    intro wz hSz
    go_simp
    try rfl
  refine wpAnyH_take (i := 5) (v := ?v5) rfl (by kernel_rfl) (by kernel_rfl) (by kernel_rfl) (fun _ _ _ h => h) (Or.inl ⟨by rfl, ?hy5⟩) HS ?_
  case hy5 =>
    intro wz hSz
    go_simp
    try rfl
  refine wpAnyH_take (i := 6) (v := ?v6) rfl (by kernel_rfl) (by kernel_rfl) (by kernel_rfl) (fun _ _ _ h => h) (Or.inl ⟨by rfl, ?hy6⟩) HS ?_
  case hy6 =>
    intro wz hSz
    go_simp
    try rfl
  refine wpAnyH_all (rs := [1]) (by kernel_rfl) (by simp) (fun j hj => ?_)
  obtain rfl := List.mem_singleton.1 hj
  refine wpOp_call (f := 224) (args := #[.pointer (some ⟨R, 0, none⟩)]) rfl (by rfl) ?hcall ?_
  case hcall => go_simp
  have hRdZ := (HR.out.alloc (.cells #[.int .i64 0, .int .i64 0, .slice none 0 0, .slice none 0 0] 199)).drewN 1
  refine (number_any R l i ts A _ hl hi hRdZ).mono ?_
  rintro e w1 ⟨hk, h⟩
  have hkZ : Kp R w w1 := (((Kp.refl R w).alloc _).drewN 1).trans hk
  rcases h with ⟨hno, rfl⟩ | ⟨p, k, hso, hik, hkl, rfl, hrd, h2⟩
  · exact ⟨rfl, hkZ, Or.inl ⟨hno, rfl⟩⟩
  have HS1 : w1.cell? ⟨R, 2, none⟩ = some (.slice ta ts.length tc) := h2.trans htv
  refine ⟨HS1, ?_⟩
  refine wpAnyH_take (i := 7) (v := ?v7) rfl (by kernel_rfl) (by kernel_rfl) (by kernel_rfl) (fun _ _ _ h => h) (Or.inl ⟨by rfl, ?hy7⟩) HS1 ?_
  case hy7 =>
    intro wz hSz
    go_simp
    try rfl
  refine wpAnyH_take (i := 8) (v := ?v8) rfl (by kernel_rfl) (by kernel_rfl) (by kernel_rfl) (fun _ _ _ h => h) (Or.inl ⟨by rfl, ?hy8⟩) HS1 ?_
  case hy8 =>
    intro wz hSz
    go_simp
    try rfl
  refine wpAnyH_done (by kernel_rfl) ?_ _
  have hN0 : w1.heap[w.heap.size]? = some (.cells #[.int .i64 0, .int .i64 0, .slice none 0 0, .slice none 0 0] 199 (0, 0)) := hk.other (k := w.heap.size) (by show (w.alloc _).heap[w.heap.size]? = _; exact blk_alloc_new _ _) (by omega) (by decide)
  have HRD : Hid (Rd R l k ts A w1) := hrd
  obtain ⟨_, _, ⟨tv', htv', htr'⟩, hfr⟩ := hrd.cells
  obtain rfl : Value.slice ta ts.length tc = tv' := Option.some.inj (HS1.symm.trans htv')
  have hbA : Below w1.heap.size w1 (w1.alloc (.cells #[.int .i64 (V1 p), .slice none 0 0] 94)) := (Below.refl _ _).alloc (Nat.le_refl _) _
  have HRA : Hid (Rd R l k ts A (w1.alloc (.cells #[.int .i64 (V1 p), .slice none 0 0] 94))) := hrd.later hbA
  obtain ⟨xs, ho, hx⟩ := htr'.of_blocks (w' := w1.alloc (.cells #[.int .i64 (V1 p), .slice none 0 0] 94)) (fun k _ hk _ => hbA.block k hk)
  have HX : Hid (∀ j, j < ts.length → xs[j * 2]? = some (.int .i64 (ts.getD j (0, [])).1) ∧ ∃ nv, xs[j * 2 + 1]? = some nv ∧ RowW (R + 1) (w1.alloc (.cells #[.int .i64 (V1 p), .slice none 0 0] 94)) nv (needsOf ts j) ∧ ∀ k, nv.ownBlock = some k → A k) := hx
  have HSO : Hid (numR (l.drop i) = some (.num p, l.drop k)) := hso
  have HK1 : Hid (Kp R w w1) := hkZ
  have hf2 := hfr 2
  have hsz1 : w.heap.size < w1.heap.size := lt_of_block hN0
  clear hx htr' htv' htv HS hrd hso hk hkZ hRdZ h2 hfr hj
  generalize hvp : V1 p = vp at *
  have HVP : Hid (V1 p = vp) := hvp
  clear hvp
  go_wp2_with (at_builtin; refine wpList_append_own _ rfl (.tmp 16) (.tmp 19) 27 rfl (R + 1) 94 i37 (.agg #[.int .i64 0, .slice none 0 0]) 2 32 Tryz.underlying27 hi37 hz0 hz1 hz2 rfl (by decide) _ ts.length xs rfl ho ⟨w1.heap.size, 0, none⟩ 1 1 [.int .i64 vp, .slice none 0 0] rfl rfl ?c1 ?c2 ?c3 ?c4 ?c5 ?_)
  case c1 => exact cell_two_new w1 (.int .i64 vp) (.slice none 0 0) 94
  case c2 => intro u hu; simp at hu; rcases hu with rfl | rfl <;> rfl
  case c3 => unfold maxLen; omega
  case c4 => omega
  case c5 => simp; omega
  intro v' w2 hown' hgrow _
  obtain ⟨tvo, hRb, _⟩ := HRA.out
  have hRb2 := grown_other ho hgrow hRb (by decide)
  have hN2 := grown_other ho hgrow ((hbA.block _ hsz1).trans hN0) (by decide)
  have hrt : RowT (R + 1) A w2 v' (ts ++ [(vp, [])]) := RowT.append ho HX.out hown' hgrow
  have HRD2 : Hid (Rd R l k (ts ++ [(vp, [])]) A (w2.setCell ⟨R, 2, none⟩ v')) := Rd.laid hRb2 hrt
  have HK2 : Hid (Kp R w w2) := (HK1.out.alloc _).grown hgrow (fun k e => by
    have h1 := ho.lt k e
    refine Or.inr (Or.inr ⟨by omega, ?_⟩)
    rcases ho.2 with ⟨hv, _⟩ | ⟨g, cap, cur, hv, _, hh, _⟩
    · rw [hv] at e; simp [Value.ownBlock] at e
    · rw [hv] at e; simp only [Value.ownBlock, Option.some.injEq] at e
      subst e; exact ⟨_, _, hh⟩)
  have hsz2 : w.heap.size < w2.heap.size := lt_of_block hN2
  have hRne : ¬ R = w.heap.size := by omega
  have hc2 : w2.cell? ⟨R, 2, none⟩ = some tvo := by simp [World.cell?, hRb2]
  have hf2' : w2.frozen? ⟨R, 2, none⟩ = false := by simp [World.frozen?, hRb2]
  obtain ⟨q0, q1, q2, q3, qf⟩ := part_cells hN2
  have qf0 := qf 0
  have qf1 := qf 1
  have qf2 := qf 2
  have qf3 := qf 3
  obtain ⟨vg, vc, rfl⟩ := owns_shape hown' (by omega)
  clear hown' hgrow ho hrt hRb hbA HX HRA hN0 qf HS1 hf2
  go_wp2
  have hN3 : (w2.setCell ⟨R, 2, none⟩ (.slice (some ⟨vg, 0, none⟩) (ts.length + 1) vc)).heap[w.heap.size]? = some (.cells #[.int .i64 0, .int .i64 0, .slice none 0 0, .slice none 0 0] 199 (0, 0)) := (Below.heap_setCell _ _ _ _ (by show w.heap.size ≠ R; omega)).trans hN2
  show bodyPost Tryz.prog Tryz.f218 (TaskOut R l i ts A w) Exit.ret _ (((setP (w2.setCell ⟨R, 2, none⟩ (.slice (some ⟨vg, 0, none⟩) (ts.length + 1) vc)) w.heap.size (.int .i64 vp) (.int .i64 vp) (.slice (some ⟨w2.heap.size, 0, none⟩) 1 1) (.slice (some ⟨w2.heap.size + 1, 0, none⟩) 1 1)).alloc (.cells #[.int .i64 (ts.length : Nat)] 3)).alloc (.cells #[.int .i64 (ts.length : Nat)] 3))
  have hNW := setP_block hN3 (.int .i64 vp) (.int .i64 vp) (.slice (some ⟨w2.heap.size, 0, none⟩) 1 1) (.slice (some ⟨w2.heap.size + 1, 0, none⟩) 1 1)
  generalize hW : setP (w2.setCell ⟨R, 2, none⟩ (.slice (some ⟨vg, 0, none⟩) (ts.length + 1) vc)) w.heap.size (.int .i64 vp) (.int .i64 vp) (.slice (some ⟨w2.heap.size, 0, none⟩) 1 1) (.slice (some ⟨w2.heap.size + 1, 0, none⟩) 1 1) = W at hNW ⊢
  have hWs : W.heap.size = w2.heap.size := by rw [← hW, setP_size]; simp
  have hNF : ((W.alloc (.cells #[.int .i64 (ts.length : Nat)] 3)).alloc (.cells #[.int .i64 (ts.length : Nat)] 3)).heap[w.heap.size]? = some (.cells #[.int .i64 vp, .int .i64 vp, .slice (some ⟨w2.heap.size, 0, none⟩) 1 1, .slice (some ⟨w2.heap.size + 1, 0, none⟩) 1 1] 199 (0, 0)) := by
    rw [blk_alloc_lt _ _ _ (by simp; omega), blk_alloc_lt _ _ _ (by omega)]; exact hNW
  refine part_ret Tryz.results218 hNF rfl rfl ?_
  refine ⟨?_, Or.inr ⟨p, k, .slice (some ⟨w2.heap.size, 0, none⟩) 1 1, .slice (some ⟨w2.heap.size + 1, 0, none⟩) 1 1, HSO.out, hik, hkl, ?_, ?_, ?_, ?_, ?_⟩⟩
  · rw [← hW]
    exact (((HK2.out.setR 2 _).setP (Nat.le_refl _) _ _ _ _).alloc _).alloc _
  · unfold partV
    simp only [Tree.work, Tree.span]
    rw [HVP.out]
  · simp only [Tree.lay]
    rw [HVP.out]
    rw [← hW]
    exact ((HRD2.out.setP hN3 _ _ _ _).alloc _).alloc _
  · have := (RowW.lit W w.heap.size (by omega) (ts.length : Nat)).alloc (.cells #[.int .i64 (ts.length : Nat)] 3)
    rw [hWs] at this
    exact this
  · have := RowW.lit (W.alloc (.cells #[.int .i64 (ts.length : Nat)] 3)) w.heap.size (by simp; omega) (ts.length : Nat)
    rw [nblk_alloc, hWs] at this
    exact this
  · simp [Value.ownBlock]
end Go.Proofs.YtlfbdjeojgbniaaGreatDoor
