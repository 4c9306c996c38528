/- The contracts of list.first and its closure: the first of an order that is ready by then. -/
import Derived.Test.YtkcpimbhfmhjgaaNa
import Derived.Test.YtkcpimbhfmhjgaaLd
import Derived.Test.YtkcpimbhfmhjgaaDepa
namespace Go.Proofs.Ytkcpimbhfmhjgaa
open Go.RowKit Go.Deep

theorem below_drewN {B : Nat} {a w : World} (h : Below B a w) (n : Nat) : Below B a (w.drewN n) := ⟨h.os, h.tape, h.output, h.size, h.block⟩
theorem getD_mem {l : List Nat} {k : Nat} (hk : k < l.length) : l.getD k 0 ∈ l := by
  rw [List.getD_eq_getElem?_getD, List.getElem?_eq_getElem hk]; exact List.getElem_mem hk

theorem enters23 : ∀ args w, (callFunc 43 args).run Try.prog w = .ok (.enter 43 args) w := enters_of Try.func43 (by kernel_rfl) rfl
set_option maxRecDepth 100000 in
set_option maxHeartbeats 2000000 in
theorem undD_any (E : Nat → Int) (n N t : Nat) (ae an : Addr) (y : Int) (w : World) (hce : w.cell? ae = some (.slice (some ⟨N, 0, none⟩) n n)) (hcn : w.cell? an = some (.int .i64 t)) (hrow : w.rowIs N 3 n (intRow E)) (_h30 : n ≤ 30) (h0 : 0 ≤ y) (h1 : y < n) :
    Calls Try.prog 43 (#[.int .i64 y] ++ #[.pointer (some ae), .pointer (some an)]) w fun e w' => e = .returned (.bool (undD E t y)) ∧ Below w.heap.size w w' := by
  obtain ⟨k, rfl⟩ := Int.eq_ofNat_of_zero_le h0
  show Calls Try.prog 43 #[.int .i64 k, .pointer (some ae), .pointer (some an)] w _
  have hk : k < n := by omega
  have hcell := hrow.cell hk
  have hlt := hrow.lt
  unfold intRow at hcell
  have hU : Hid (undD E t (k : Int) = (decide (E k = 0) || decide ((t : Int) < E k))) := by show _ = _; unfold undD; rw [Int.toNat_natCast]
  clear hrow
  generalize E k = x at *
  by_cases hx : x = 0
  · have hb : (x == (0 : Int)) = true := by simp [hx]
    go_enter Try.func43, Try.ntmps43
    go_wp2
    go_quiet (fail)
    go_wp2
    go_ret
    exact ⟨ret_bool (by rw [hU.out]; simp [hx]), below_drewN (Below.refl _ _) _⟩
  · have hb : (x == (0 : Int)) = false := by simp [hx]
    by_cases ht : (t : Int) < x
    all_goals
      go_enter Try.func43, Try.ntmps43
      go_wp2
      go_quiet (fail)
      go_wp2
      go_ret
      exact ⟨ret_bool (by rw [hU.out]; simp [hx, ht]), below_drewN (Below.refl _ _) _⟩

/-- ContainsFunc with a function that only reads, and may draw. -/
theorem containsFunc_reads (v : Value) (zs : List Int) (g : Nat) (lb : Array Value) (p : Int → Bool) (w : World) (hz : IntsAt w v zs) (eg : ∀ args w, (callFunc g args).run Try.prog w = .ok (.enter g args) w)
    (hp : ∀ x, x ∈ zs → ∀ w', Below w.heap.size w w' → Calls Try.prog g (#[.int .i64 x] ++ lb) w' fun e w2 => e = .returned (.bool (p x)) ∧ Below w'.heap.size w' w2) :
    Calls Try.prog 37 #[v, .func (.func g) #[] lb] w fun e w' => e = .returned (.bool (zs.any p)) ∧ Below w.heap.size w w' := by
  refine (containsFunc_state v zs g lb (fun j w' => (∀ x, x ∈ zs.take j → p x = false) ∧ Below w.heap.size w w') (fun w' => zs.any p = true ∧ Below w.heap.size w w') w hz eg ⟨fun x hx => by simp at hx, Below.refl _ _⟩ (fun k w' h => hz.later h.2) (fun k w' hk h => ?_)).mono ?_
  · have hm : zs.getD k 0 ∈ zs := by rw [List.getD_eq_getElem?_getD, List.getElem?_eq_getElem hk]; exact List.getElem_mem hk
    refine (hp _ hm w' h.2).mono ?_
    rintro e w2 ⟨rfl, hb⟩
    have hb2 := h.2.trans (hb.mono h.2.size)
    cases hq : p (zs.getD k 0)
    · exact Or.inr ⟨rfl, take_succ_all p zs k hk h.1 hq, hb2⟩
    · exact Or.inl ⟨rfl, List.any_eq_true.2 ⟨_, hm, hq⟩, hb2⟩
  · rintro e w' (⟨rfl, h1, h2⟩ | ⟨rfl, h1, h2⟩)
    · exact ⟨by rw [h1], h2⟩
    · refine ⟨ret_bool (Eq.symm ?_), h2⟩
      rw [List.any_eq_false]
      intro x hx
      have := h1 x (by rw [List.take_of_length_le (Nat.le_refl _)]; exact hx)
      simp [this]

theorem find_none_take {p : Nat → Bool} {l : List Nat} {k : Nat} (hk : k < l.length) (hno : ∀ x, x ∈ l.take k → p x = false) (hp : p (l.getD k 0) = true) : l.find? p = some (l.getD k 0) := by
  have e : l = l.take k ++ l.getD k 0 :: l.drop (k + 1) := by
    have h1 : l.getD k 0 = l[k] := by rw [List.getD_eq_getElem?_getD, List.getElem?_eq_getElem hk]; rfl
    rw [h1, List.getElem_cons_drop, List.take_append_drop]
  rw [List.find?_eq_some_iff_append]
  refine ⟨hp, l.take k, l.drop (k + 1), e, fun x hx => ?_⟩
  simp [hno x hx]
theorem take_no {p : Nat → Bool} {l : List Nat} {k : Nat} (hk : k < l.length) (hno : ∀ x, x ∈ l.take k → p x = false) (hp : p (l.getD k 0) = false) : ∀ x, x ∈ l.take (k + 1) → p x = false := by
  intro x hx
  rw [List.take_succ_eq_append_getElem hk] at hx
  rcases List.mem_append.1 hx with hx | hx
  · exact hno x hx
  · have h1 : l.getD k 0 = l[k] := by rw [List.getD_eq_getElem?_getD, List.getElem?_eq_getElem hk]; rfl
    rw [List.mem_singleton.1 hx, ← h1]; exact hp

set_option maxRecDepth 100000 in
set_option maxHeartbeats 4000000 in
theorem first_any (v ov : Value) (ts : List (Int × List Int)) (ord : List Nat) (E : Nat → Int) (N t : Nat) (w : World) (hp : PlanAt w v ts) (ho : IntsAt w ov (intsOf ord)) (hrow : w.rowIs N 3 ts.length (intRow E)) (hr : InRange ts) (h30 : ts.length ≤ 30) (hol : ∀ x, x ∈ ord → x < ts.length) :
    Calls Try.prog 23 #[v, ov, .slice (some ⟨N, 0, none⟩) ts.length ts.length, .int .i64 t] w fun e w' => e = .returned (.int .i64 (firstD ts E t ord)) ∧ Below w.heap.size w w' := by
  have HP : Hid (PlanAt w v ts) := hp
  have HO : Hid (IntsAt w ov (intsOf ord)) := ho
  obtain ⟨hl, a, c, rfl, hpc⟩ := hp
  obtain ⟨hol2, oa, oc, rfl, hoc⟩ := ho
  have hil : (intsOf ord).length = ord.length := intsOf_length ord
  rw [hil] at hol2 ⊢
  have HIL : Hid ((intsOf ord).length = ord.length) := hil
  have hb1 : Below w.heap.size w (w.alloc (.cells #[.slice (some ⟨N, 0, none⟩) ts.length ts.length] 32)) := (Below.refl _ _).alloc (Nat.le_refl _) _
  have hb2 : Below w.heap.size w ((w.alloc (.cells #[.slice (some ⟨N, 0, none⟩) ts.length ts.length] 32)).alloc (.cells #[.int .i64 (t : Int)] 3)) := hb1.alloc (by simp) _
  have hc1 := cell_box w (.slice (some ⟨N, 0, none⟩) ts.length ts.length) 32
  have hc1' : ((w.alloc (.cells #[.slice (some ⟨N, 0, none⟩) ts.length ts.length] 32)).alloc (.cells #[.int .i64 (t : Int)] 3)).cell? ⟨w.heap.size, 0, none⟩ = some (.slice (some ⟨N, 0, none⟩) ts.length ts.length) := by
    rw [World.cell?_alloc_lt _ _ ⟨w.heap.size, 0, none⟩ (by simp)]; exact hc1
  have hc2 := cell_box (w.alloc (.cells #[.slice (some ⟨N, 0, none⟩) ts.length ts.length] 32)) (.int .i64 (t : Int)) 3
  have hsz1 : (w.alloc (.cells #[.slice (some ⟨N, 0, none⟩) ts.length ts.length] 32)).heap.size = w.heap.size + 1 := by simp
  rw [hsz1] at hc2
  have hrw := (hrow.alloc (.cells #[.slice (some ⟨N, 0, none⟩) ts.length ts.length] 32)).alloc (.cells #[.int .i64 (t : Int)] 3)
  have hN := hrow.lt
  have hmf : ∀ (fn : Fn) (first cap : Array Value) (w : World), (Instr.makeFunc fn first cap).run Try.prog w = .ok (.func fn first cap) w := fun _ _ _ _ => rfl
  clear hpc hoc hrow hc1 hb1 hil
  go_enter Try.func23, Try.ntmps23
  go_wp2
  obtain ⟨W, hW⟩ : ∃ W, W = (w.alloc (.cells #[.slice (some ⟨N, 0, none⟩) ts.length ts.length] 32)).alloc (.cells #[.int .i64 (t : Int)] 3) := ⟨_, rfl⟩
  obtain ⟨B, hB⟩ : ∃ B, B = w.heap.size := ⟨_, rfl⟩
  have hsW : W.heap.size = w.heap.size + 2 := by rw [hW]; simp
  rw [← hW] at hb2 hc1' hc2 hrw ⊢
  have HB : Hid (B = w.heap.size) := hB
  rw [← hB] at hc1' hc2 ⊢
  have hBW : B + 1 < W.heap.size := by omega
  have HRW : Hid (W.rowIs N 3 ts.length (intRow E)) := hrw
  have HC1 : Hid (W.cell? ⟨B, 0, none⟩ = some (.slice (some ⟨N, 0, none⟩) ts.length ts.length)) := hc1'
  have HC2 : Hid (W.cell? ⟨B + 1, 0, none⟩ = some (.int .i64 t)) := hc2
  have HBW : Hid (Below w.heap.size w W) := hb2
  have HS : Hid (W.heap.size = w.heap.size + 2) := hsW
  clear hW hB hb2 hc1' hc2 hrw hsW hsz1
  go_loopw [15] (fun s15 wr => ∃ k : Nat, k ≤ ord.length ∧ s15 = .int .i64 k ∧ Hid (∀ x, x ∈ ord.take k → rdyD ts E t x = false) ∧ Below W.heap.size W wr) (fun s15 _ => ord.length - (intOf s15).toNat)
  case atStart => exact ⟨0, Nat.zero_le _, rfl, fun x hx => by simp at hx, Below.refl _ _⟩
  case round =>
    obtain ⟨k, hk, rfl, hno, hb⟩ := hrel
    by_cases hkl : k < ord.length
    · have hxm : ord.getD k 0 ∈ ord := getD_mem hkl
      have hx := hol _ hxm
      have hob := (HO.out.later HBW.out).later hb
      obtain ⟨_, oa', oc', hva, hoc⟩ := hob
      rw [HIL.out] at hva
      obtain ⟨rfl, -, rfl⟩ : oa = oa' ∧ True ∧ oc = oc' := by simp at hva; exact ⟨hva.1, trivial, hva.2⟩
      clear hva
      rcases hoc with h | ⟨ob, oo, rfl, hobl, hoc⟩
      · have := congrArg List.length h; rw [HIL.out] at this; simp at this; subst this; simp at hkl
      have hco := hoc k (by rw [HIL.out]; exact hkl)
      rw [intsOf_getD] at hco
      have hrow : wr.rowIs N 3 ts.length (intRow E) := HRW.out.of_block (hb.block _ (by have := HS.out; omega))
      have hbx1 : wr.cell? ⟨B, 0, none⟩ = some (.slice (some ⟨N, 0, none⟩) ts.length ts.length) := (hb.cell (p := ⟨B, 0, none⟩) (by show B < _; omega)).trans HC1.out
      have hbx2 : wr.cell? ⟨B + 1, 0, none⟩ = some (.int .i64 t) := (hb.cell (p := ⟨B + 1, 0, none⟩) hBW).trans HC2.out
      have hpw := (HP.out.later HBW.out).later hb
      obtain ⟨_, a', c', hva, hpc⟩ := hpw
      obtain ⟨rfl, -, rfl⟩ : a = a' ∧ True ∧ c = c' := by simp at hva; exact ⟨hva.1, trivial, hva.2⟩
      clear hva
      have HYES : Hid (rdyD ts E t (ord.getD k 0) = true → firstD ts E t ord = (ord.getD k 0 : Nat)) := fun e => by unfold firstD; rw [find_none_take hkl hno.out e]
      have HNO : Hid (rdyD ts E t (ord.getD k 0) = false → ∀ x, x ∈ ord.take (k + 1) → rdyD ts E t x = false) := fun e => take_no hkl hno.out e
      generalize ord.getD k 0 = x at *
      rcases hpc with h | ⟨b, o, rfl, hbl, hc⟩
      · subst h; simp at hx
      obtain ⟨_, nv, hc2, hin⟩ := hc x hx
      obtain ⟨a2, c2, rfl⟩ : ∃ a2 c2, nv = .slice a2 (needsOf ts x).length c2 := by
        obtain ⟨_, a2, c2, h, _⟩ := hin
        exact ⟨a2, c2, h⟩
      clear hc hoc hno
      have hcx := hrow.cell hx
      unfold intRow at hcx
      have hcf := containsFunc_reads _ (needsOf ts x) 43 #[.pointer (some ⟨B, 0, none⟩), .pointer (some ⟨B + 1, 0, none⟩)] (undD E t) wr hin enters23 (fun y hy w' hb' =>
        undD_any E ts.length N t _ _ y w' ((hb'.cell (p := ⟨B, 0, none⟩) (by show B < _; have := hb.size; omega)).trans hbx1) ((hb'.cell (p := ⟨B + 1, 0, none⟩) (by show B + 1 < _; have := hb.size; omega)).trans hbx2) (hrow.of_block (hb'.block _ (by have := hb.size; have := HS.out; omega))) h30 (hr x hx y hy).1 (hr x hx y hy).2)
      have hrb : rdyD ts E t x = (decide (E x = 0) && !(needsOf ts x).any (undD E t)) := rfl
      rw [hrb] at HYES HNO
      have hnlt : N < wr.heap.size := by have := hb.size; have := HS.out; omega
      have hblt : B < wr.heap.size := by have := hb.size; omega
      clear hrow hrb hin hxm
      generalize (needsOf ts x).any (undD E t) = ab at *
      generalize (needsOf ts x).length = nl at *
      generalize E x = ex at *
      by_cases hz : ex = 0
      · have hzz : (ex == (0 : Int)) = true := by simp [hz]
        rw [show decide (ex = 0) = true by simp [hz]] at HYES HNO
        cases ab
        · have HE := HYES.out (by rfl)
          have HE2 : Hid (firstD ts E t ord = (x : Nat)) := HE
          clear HE HYES HNO
          go_wp2_with (first | (go_at_call 37; refine hcf.mono ?_; clear hcf; rintro e w' ⟨rfl, hb3⟩))
          go_ret
          exact ⟨ret_int HE2.out.symm, HBW.out.trans ((hb.trans (hb3.mono hb.size)).mono (by have := HS.out; omega))⟩
        · have HE := HNO.out (by rfl)
          have HE2 : Hid (∀ x, x ∈ ord.take (k + 1) → rdyD ts E t x = false) := HE
          clear HE HYES HNO
          go_wp2_with (first | (go_at_call 37; refine hcf.mono ?_; clear hcf; rintro e w' ⟨rfl, hb3⟩))
          go_roundw
          case rel => exact ⟨k + 1, by omega, by go_num, HE2, hb.trans (hb3.mono hb.size)⟩
          case measure => simp [intOf]; omega
      · have hzz : (ex == (0 : Int)) = false := by simp [hz]
        rw [show decide (ex = 0) = false by simp [hz]] at HYES HNO
        have HE := HNO.out (by rfl)
        have HE2 : Hid (∀ x, x ∈ ord.take (k + 1) → rdyD ts E t x = false) := HE
        clear HE HYES HNO hcf
        go_wp2
        go_roundw
        case rel => exact ⟨k + 1, by omega, by go_num, HE2, hb⟩
        case measure => simp [intOf]; omega
    · have HE : Hid (firstD ts E t ord = -1) := by
        show _ = _
        unfold firstD
        have : ord.find? (rdyD ts E t) = none := by
          rw [List.find?_eq_none]
          intro x hx
          have := hno.out x (by rw [List.take_of_length_le (by omega)]; exact hx)
          simp [this]
        rw [this]
      have hbe : Below w.heap.size w wr := HBW.out.trans (hb.mono (by have := HS.out; omega))
      clear hno
      go_wp2
      go_ret
      exact ⟨ret_int HE.out.symm, hbe⟩
end Go.Proofs.Ytkcpimbhfmhjgaa
