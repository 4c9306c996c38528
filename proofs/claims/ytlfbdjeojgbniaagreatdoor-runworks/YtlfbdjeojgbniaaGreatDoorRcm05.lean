/- The contracts of next and its closure. The contract of Order. Plain: an order of a plan without a ring has all its tasks; a chain has no ring, a closed one has. -/
import Derived.Test.YtlfbdjeojgbniaaGreatDoorRcm04
import Derived.Test.YtlfbdjeojgbniaaGreatDoorRcm01

namespace Go.Proofs.YtlfbdjeojgbniaaGreatDoor
open Go.RowKit

/-- A slice value of n bools, the k-th T k. -/
def BoolsAt (w : World) (v : Value) (n : Nat) (T : Nat → Bool) : Prop :=
  ∃ b o c, v = .slice (some ⟨b, o, none⟩) n c ∧ b < w.heap.size ∧ ∀ k, k < n → w.cell? ⟨b, o + k, none⟩ = some (.bool (T k))

theorem BoolsAt.later {w w' : World} {v : Value} {n : Nat} {T : Nat → Bool} (h : BoolsAt w v n T) (hb : Below w.heap.size w w') : BoolsAt w' v n T := by
  obtain ⟨b, o, c, hv, hlt, hc⟩ := h
  exact ⟨b, o, c, hv, Nat.lt_of_lt_of_le hlt hb.size, fun k hk => (hb.cell (p := ⟨b, o + k, none⟩) hlt).trans (hc k hk)⟩

/-- The k-th task can be next: it is not placed, and all that it needs are. -/
def freeB (ts : List (Int × List Int)) (T : Nat → Bool) (k : Nat) : Bool := !T k && !(needsOf ts k).any (fun y => !T y.toNat)

/-- The least task that can be next; -1, if none can. -/
def NextIs (ts : List (Int × List Int)) (T : Nat → Bool) (r : Int) : Prop :=
  (∃ k : Nat, k < ts.length ∧ (∀ j, j < k → freeB ts T j = false) ∧ freeB ts T k = true ∧ r = k) ∨ ((∀ j, j < ts.length → freeB ts T j = false) ∧ r = -1)
theorem NextIs.some {ts : List (Int × List Int)} {T : Nat → Bool} (k : Nat) (h1 : k < ts.length) (h2 : ∀ j, j < k → freeB ts T j = false) (h3 : freeB ts T k = true) : NextIs ts T k := Or.inl ⟨k, h1, h2, h3, rfl⟩
theorem NextIs.none {ts : List (Int × List Int)} {T : Nat → Bool} (h : ∀ j, j < ts.length → freeB ts T j = false) : NextIs ts T (-1) := Or.inr ⟨h, rfl⟩
theorem NextIs.elim {ts : List (Int × List Int)} {T : Nat → Bool} {motive : ∀ r, NextIs ts T r → Prop} (some : ∀ (k : Nat) (h1 : k < ts.length) (h2 : ∀ j, j < k → freeB ts T j = false) (h3 : freeB ts T k = true), motive k (NextIs.some k h1 h2 h3))
    (none : ∀ h : ∀ j, j < ts.length → freeB ts T j = false, motive (-1) (NextIs.none h)) {r : Int} (h : NextIs ts T r) : motive r h := by
  rcases h with ⟨k, h1, h2, h3, rfl⟩ | ⟨h, rfl⟩
  · exact some k h1 h2 h3
  · exact none h

theorem closure_next (x : Int) (n : Nat) (T : Nat → Bool) (a : Addr) (pv : Value) (w : World) (hc : w.cell? a = some pv) (hp : BoolsAt w pv n T) (h0 : 0 ≤ x) (hx : x < n) :
    Calls Tryz.prog 219 (#[.int .i64 x] ++ #[.pointer (some a)]) w fun e w' => e = .returned (.bool (!T x.toNat)) ∧ w' = w := by
  show Calls Tryz.prog 219 #[.int .i64 x, .pointer (some a)] w _
  obtain ⟨b, o, c, rfl, hlt, hb⟩ := hp
  obtain ⟨y, rfl⟩ := Int.eq_ofNat_of_zero_le h0
  have hcell := hb y (by omega)
  rw [Int.toNat_natCast]
  clear hb h0
  cases hT : T y
  all_goals
    rw [hT] at hcell
    clear hT
    go_enter Tryz.func219, Tryz.ntmps219
    go_wp2
    go_ret
    exact ⟨rfl, rfl⟩

theorem enters32 : ∀ args w, (callFunc 219 args).run Tryz.prog w = .ok (.enter 219 args) w := enters_of Tryz.func219 (by kernel_rfl) rfl

set_option maxRecDepth 100000 in
set_option maxHeartbeats 4000000 in
theorem next_any (v pv : Value) (ts : List (Int × List Int)) (T : Nat → Bool) (w : World) (hp : PlanAt w v ts) (hr : InRange ts) (hb : BoolsAt w pv ts.length T) :
    Calls Tryz.prog 202 #[v, pv] w fun e w' => (∃ r, e = .returned (.int .i64 r) ∧ NextIs ts T r) ∧ Below w.heap.size w w' := by
  obtain ⟨hl, a, c, rfl, hp⟩ := hp
  have HB : Hid (BoolsAt w pv ts.length T) := hb
  obtain ⟨pb, po, pc, rfl, hpb, hpc⟩ := hb
  have HPC : Hid (∀ k, k < ts.length → w.cell? ⟨pb, po + k, none⟩ = some (.bool (T k))) := hpc
  have HR : Hid (InRange ts) := hr
  clear hpc hr
  go_enter Tryz.func202, Tryz.ntmps202
  go_wp2
  go_loopw [11] (fun s11 wr => ∃ k : Nat, k ≤ ts.length ∧ s11 = .int .i64 k ∧ Below (w.heap.size + 1) (w.alloc (.cells #[.slice (some ⟨pb, po, none⟩) ts.length pc] 84)) wr ∧ Hid (∀ j, j < k → freeB ts T j = false)) (fun s11 _ => ts.length - (intOf s11).toNat)
  case atStart => exact ⟨0, Nat.zero_le _, rfl, Below.refl _ _, fun j hj => by omega⟩
  case round =>
    obtain ⟨k, hk, rfl, hB, hno⟩ := hrel
    have hBw : Below w.heap.size w wr := ((Below.refl _ _).alloc (Nat.le_refl _) _).trans (hB.mono (by omega))
    have hbox : wr.cell? ⟨w.heap.size, 0, none⟩ = some (.slice (some ⟨pb, po, none⟩) ts.length pc) := (hB.cell (p := ⟨w.heap.size, 0, none⟩) (by show w.heap.size < w.heap.size + 1; omega)).trans (by simp)
    by_cases hkl : k < ts.length
    · rcases hp with rfl | ⟨b, o, rfl, hbl, hc⟩
      · simp at hkl
      obtain ⟨hc1, nv, hc2, hin⟩ := hc k hkl
      obtain ⟨a2, c2, rfl⟩ : ∃ a2 c2, nv = .slice a2 (needsOf ts k).length c2 := by
        obtain ⟨_, a2, c2, h, _⟩ := hin
        exact ⟨a2, c2, h⟩
      have hc1' := (hBw.cell (p := ⟨b, o + k * 2, none⟩) hbl).trans hc1
      have hc2' := (hBw.cell (p := ⟨b, o + k * 2 + 1, none⟩) hbl).trans hc2
      have hpk := (hBw.cell (p := ⟨pb, po + k, none⟩) hpb).trans (HPC.out k hkl)
      have hsz : w.heap.size < wr.heap.size := by have := hB.size; simp at this; omega
      have hpbr : pb < wr.heap.size := by omega
      have hBx : Below w.heap.size w (wr.alloc (.cells #[.int .i64 (ts.getD k (0, [])).1, .slice a2 (needsOf ts k).length c2] 94)) := hBw.alloc hBw.size _
      have hbx : (wr.alloc (.cells #[.int .i64 (ts.getD k (0, [])).1, .slice a2 (needsOf ts k).length c2] 94)).cell? ⟨w.heap.size, 0, none⟩ = some (.slice (some ⟨pb, po, none⟩) ts.length pc) := by
        rw [World.cell?_alloc_lt _ _ ⟨w.heap.size, 0, none⟩ hsz]; exact hbox
      have hpred : PredIn 219 #[.pointer (some ⟨w.heap.size, 0, none⟩)] (fun y => !T y.toNat) (needsOf ts k) (wr.alloc (.cells #[.int .i64 (ts.getD k (0, [])).1, .slice a2 (needsOf ts k).length c2] 94)) :=
        ⟨enters32, fun x hx => closure_next x ts.length T _ _ _ hbx (HB.out.later hBx) (HR.out k hkl x hx).1 (HR.out k hkl x hx).2⟩
      have hcf := containsFunc_any _ _ 219 _ _ _ (hin.later hBx) hpred
      clear hc hc1 hc2 hin hpred hbx
      generalize (ts.getD k (0, [])).1 = wk at *
      cases hT : T k
      · rw [hT] at hpk
        cases ha : (needsOf ts k).any (fun y => !T y.toNat)
        · have HF : Hid (freeB ts T k = true) := by simp only [freeB, hT, ha, Hid]; rfl
          rw [ha] at hcf
          clear hT ha
          go_wp2_with (go_at_call 111; refine hcf.mono ?_; rintro e w' ⟨rfl, rfl⟩)
          go_ret
          exact ⟨⟨k, rfl, NextIs.some k hkl hno.out HF.out⟩, hBx⟩
        · have HF : Hid (freeB ts T k = false) := by simp only [freeB, hT, ha, Hid]; rfl
          rw [ha] at hcf
          clear hT ha
          go_wp2_with (go_at_call 111; refine hcf.mono ?_; rintro e w' ⟨rfl, rfl⟩)
          go_roundw
          case rel =>
            refine ⟨k + 1, by omega, by go_num, hB.alloc (by omega) _, fun j hj => ?_⟩
            by_cases e : j = k
            · subst e; exact HF.out
            · exact hno.out j (by omega)
          case measure => simp [intOf]; omega
      · rw [hT] at hpk
        have HF : Hid (freeB ts T k = false) := by simp only [freeB, hT, Hid]; rfl
        clear hT hcf
        go_wp2
        go_roundw
        case rel =>
          refine ⟨k + 1, by omega, by go_num, hB.alloc (by omega) _, fun j hj => ?_⟩
          by_cases e : j = k
          · subst e; exact HF.out
          · exact hno.out j (by omega)
        case measure => simp [intOf]; omega
    · clear hp
      go_wp2
      go_ret
      exact ⟨⟨-1, rfl, NextIs.none (fun j hj => hno.out j (by omega))⟩, hBw⟩
end Go.Proofs.YtlfbdjeojgbniaaGreatDoor

namespace Go.Proofs.YtlfbdjeojgbniaaGreatDoor
open Go.RowKit

def has (l : List Nat) (x : Nat) : Bool := l.contains x

theorem mark_has (l : List Nat) (y : Nat) : mark (has l) y = has (l ++ [y]) := by
  funext x
  unfold mark has
  by_cases e : x = y
  · subst e; simp
  · simp [e]

/-- An order so far: each could be next, of several the least. -/
def Ords (ts : List (Int × List Int)) (ord : List Nat) : Prop := ∀ m, m < ord.length → NextIs ts (has (ord.take m)) (ord.getD m 0 : Nat)

/-- A whole order: nothing could be next. -/
def OrdIs (ts : List (Int × List Int)) (ord : List Nat) : Prop := Ords ts ord ∧ NextIs ts (has ord) (-1)

theorem Ords.nil (ts : List (Int × List Int)) : Ords ts [] := fun m hm => by simp at hm
theorem Ords.snoc {ts : List (Int × List Int)} {ord : List Nat} {y : Nat} (h : Ords ts ord) (hn : NextIs ts (has ord) (y : Nat)) : Ords ts (ord ++ [y]) := by
  intro m hm
  simp at hm
  by_cases e : m = ord.length
  · subst e; simpa using hn
  · have hlt : m < ord.length := by omega
    have := h m hlt
    rw [List.take_append_of_le_length (by omega), show (ord ++ [y]).getD m 0 = ord.getD m 0 by simp [List.getElem?_append_left hlt]]
    exact this

theorem NextIs.pos {ts : List (Int × List Int)} {T : Nat → Bool} {r : Int} (h : NextIs ts T r) (hr : 0 ≤ r) : ∃ k : Nat, r = k ∧ k < ts.length ∧ T k = false := by
  cases h using NextIs.elim with
  | some k hk _ hf => exact ⟨k, rfl, hk, by unfold freeB at hf; simp at hf; exact hf.1⟩
  | none => omega
theorem NextIs.neg {ts : List (Int × List Int)} {T : Nat → Bool} {r : Int} (h : NextIs ts T r) (hr : ¬ 0 ≤ r) : r = -1 := by
  cases h using NextIs.elim with
  | some k => omega
  | none => rfl

def intsOf (l : List Nat) : List Int := l.map (fun (k : Nat) => (k : Int))
theorem intsOf_length (l : List Nat) : (intsOf l).length = l.length := by simp [intsOf]
theorem intsOf_getD (l : List Nat) (k : Nat) : (intsOf l).getD k 0 = ((l.getD k 0 : Nat) : Int) := by
  unfold intsOf
  by_cases h : k < l.length
  · simp [h]
  · simp [List.getElem?_eq_none (Nat.le_of_not_lt h)]

theorem CheckIs.ok {ts : List (Int × List Int)} {p q : Int} (h : CheckIs ts p q) (hq : q = 0) : p = 0 ∧ ts.length ≤ 30 ∧ (∀ j, j < ts.length → errOf ts j = 0) ∧ ∀ j, j < ts.length → ¬ Reach ts j j := by
  cases h using CheckIs.elim with
  | full => omega
  | task k _ _ _ h => exact absurd hq h
  | ring => omega
  | none h1 h2 h3 => exact ⟨rfl, h1, h2, h3⟩

theorem ints_of_owns {w : World} {base : Nat} {v : Value} {ord : List Nat} (h : w.ownsRow base 3 1 v ord.length (ord.map natV)) (hl : ord.length * 8 ≤ 140737488351232) : IntsAt w v (intsOf ord) := by
  refine ⟨by rw [intsOf_length]; exact hl, ?_⟩
  rw [intsOf_length]
  rcases h.2 with ⟨hv, h0⟩ | ⟨g, cap, cur, hv, hg, hh, hn, hcap, hsz, htake⟩
  · exact ⟨none, 0, by rw [hv, h0], Or.inl (by rw [List.eq_nil_of_length_eq_zero h0]; rfl)⟩
  · refine ⟨some ⟨g, 0, none⟩, cap, hv, ?_⟩
    right
    refine ⟨g, 0, rfl, lt_of_block hh, fun k hk => ?_⟩
    subst hv
    have := World.ownsRow.cellAt h k (by omega)
    rw [Nat.zero_add, this, intsOf_getD]
    simp [natV, hk]

theorem DfsMem.later {N n : Nat} {w wr w' : World} {s6 : Value} {S : Nat → Bool} {st : List Nat} (h : DfsMem N n w wr s6 S st) (hb : Below wr.heap.size wr w') : DfsMem N n w w' s6 S st := {
  own := h.own.kept (row := none) ⟨hb.os, hb.tape, hb.output, hb.size, fun k hk _ => hb.block k hk⟩ (by cases s6.ownBlock <;> simp)
  shape := h.shape
  row := h.row.of_block (hb.block N h.row.lt)
  below := h.below.trans (hb.mono (Nat.le_of_lt h.row.lt))
  }

theorem DfsMem.bools {N n : Nat} {w wr : World} {s6 : Value} {S : Nat → Bool} {st : List Nat} (h : DfsMem N n w wr s6 S st) : BoolsAt wr (.slice (some ⟨N, 0, none⟩) n n) n S :=
  ⟨N, 0, n, rfl, h.row.lt, fun k hk => by rw [Nat.zero_add]; exact h.row.cell hk⟩

theorem DfsMem.startOrder (w : World) (n : Nat) (hn : n ≤ 1000000000) : DfsMem w.heap.size n w ((w.alloc (.cells (madeCells #[.bool false] n) 4)).alloc (.cells (madeCells #[.int .i64 0] n) 3)) (.slice (some ⟨w.heap.size + 1, 0, none⟩) 0 n) (has []) [] := {
  own := by
    have h := World.ownsRow_made (base := w.heap.size + 1) (e := 3) (size := 1) (w.alloc (.cells (madeCells #[.bool false] n) 4)) (madeCells #[.int .i64 0] n) n (by simp) (by unfold maxLen; omega) (by rw [size_madeCells]; omega)
    simpa using h
  shape := ⟨_, _, rfl⟩
  row := ((World.rowIs_made w (.bool false) n 4).congr (fun k _ => by simp [has])).alloc _
  below := ((Below.refl _ _).alloc (Nat.le_refl _) _).alloc (by simp) _
  }

set_option maxRecDepth 100000 in
set_option maxHeartbeats 4000000 in
theorem order_any (v : Value) (ts : List (Int × List Int)) (w : World) (hp : PlanAt w v ts) :
    Calls Tryz.prog 180 #[v] w fun e w' => (∃ p q, CheckIs ts p q ∧ ((q ≠ 0 ∧ e = .returned (.tuple #[.slice none 0 0, errV q])) ∨ (q = 0 ∧ ∃ ord ov, e = .returned (.tuple #[ov, .nilIface]) ∧ OrdIs ts ord ∧ IntsAt w' ov (intsOf ord)))) ∧ Below w.heap.size w w' := by
  have HP : Hid (PlanAt w v ts) := hp
  have hck := check_any v ts w hp
  obtain ⟨hl, a, c, rfl, hp⟩ := hp
  clear hp
  have hmk := fun wx => run_make_row' (P := Tryz.prog) 84 4 (.bool false) 1 Tryz.underlying84 Tryz.info4 rfl .i64 .i64 ts.length (by omega) (by omega) wx
  obtain ⟨i3, hi3, hz0, hz1, hz2⟩ := info_parts Tryz.info3
  have hmo : ∀ wx : World, (Instr.makeSlice 73 (.int .i64 0) (.int .i64 (ts.length : Int))).run Tryz.prog wx = .ok (.slice (some ⟨wx.heap.size, 0, none⟩) 0 ts.length) (wx.alloc (.cells (madeCells #[.int .i64 0] ts.length) 3)) := by
    intro wx
    have hr := run_make (P := Tryz.prog) wx 73 3 i3 (.int .i64 0) Tryz.underlying73 hi3 hz0 .i64 .i64 0 ts.length (by omega) (by omega) (by rw [hz2]; omega) (by omega)
    simp only [hz1, Int.toNat_zero, Int.toNat_natCast, Nat.mul_one] at hr
    exact hr
  go_enter Tryz.func180, Tryz.ntmps180
  go_wp2_with fail
  refine hck.mono ?_
  rintro e w1 ⟨⟨p, q, rfl, hc⟩, hb1⟩
  clear hck
  by_cases hq : q = 0
  · subst hq
    rw [errV_zero]
    have hrng : Hid (InRange ts) := inRange_of (hc.ok rfl).2.2.1
    have HC : Hid (CheckIs ts p 0) := hc
    have hc' := hc
    clear hc
    have h30 : ts.length ≤ 30 := (hc'.ok rfl).2.1
    clear hc'
    have hm0 := DfsMem.startOrder w1 ts.length (by omega)
    have hb2 : Below w.heap.size w ((w1.alloc (.cells (madeCells #[.bool false] ts.length) 4)).alloc (.cells (madeCells #[.int .i64 0] ts.length) 3)) := hb1.trans (hm0.below.mono hb1.size)
    have hnx := next_any _ _ ts (has []) _ (HP.out.later hb2) hrng.out hm0.bools
    go_wp2_with (go_at_call 202; refine hnx.mono ?_; rintro e w3 ⟨⟨r, rfl, hr⟩, hb3⟩)
    have HM : Hid (DfsMem w1.heap.size ts.length w1 w3 (.slice (some ⟨w1.heap.size + 1, 0, none⟩) 0 ts.length) (has []) []) := hm0.later hb3
    clear hm0 hnx hb2 hb3
    have HX : Hid (NextIs ts (has []) r) := hr
    clear hr
    go_loopg [7, 8] (ts.length) (fun gg s7 s8 wr => ∃ ord r, Hid (DfsMem w1.heap.size ts.length w1 wr s7 (has ord) ord) ∧ s8 = .int .i64 r ∧ Hid (Ords ts ord) ∧ Hid (NextIs ts (has ord) r) ∧ unseen (has ord) ts.length ≤ gg ∧ ord.length + unseen (has ord) ts.length ≤ ts.length)
    case atStart => exact ⟨[], r, HM, rfl, Ords.nil ts, HX, unseen_le _ _, by have := unseen_le (has []) ts.length; simpa using this⟩
    case round =>
      clear HM HX
      obtain ⟨ord, r, hm, rfl, ho, hn, hg, hlen⟩ := hrel
      obtain ⟨g, cap, rfl⟩ := hm.out.shape
      by_cases hr : 0 ≤ r
      · obtain ⟨k, rfl, hk, hTk⟩ := hn.out.pos hr
        have hck := hm.out.row.cell hk
        have hfk := hm.out.row.frozen k
        have hmem := (hm.out.seenSet k).alloc (.cells #[.int .i64 k] 3)
        have hu := unseen_mark (has ord) ts.length k hk hTk
        go_wp2_with (first | (go_at_call 202; fail) | (at_builtin; refine wpList_append_own _ rfl (.tmp 34) (.tmp 36) 73 rfl (w1.heap.size + 1) 3 i3 (.int .i64 0) 1 8 Tryz.underlying73 hi3 hz0 hz1 hz2 rfl (by decide) _ ord.length (ord.map natV) rfl hmem.own ⟨wr.heap.size, 0, none⟩ 1 1 [.int .i64 k] rfl rfl ?c1 ?c2 ?c3 ?c4 ?c5 ?_))
        case c1 =>
          have hone := cell_one_new (wr.setCell ⟨w1.heap.size, k, none⟩ (.bool true)) (.int .i64 k) 3
          simpa using hone
        case c2 => intro u hu; simp at hu; subst hu; rfl
        case c3 => unfold maxLen; omega
        case c4 => omega
        case c5 => have := hm.out.row.lt; simp; omega
        intro v' w4 hown' hgrow _
        have hmem' := hmem.pushed hown' hgrow
        rw [mark_has] at hmem' hu
        have hb4 : Below w.heap.size w w4 := hb1.trans (hmem'.below.mono hb1.size)
        have hnx := next_any _ _ ts (has (ord ++ [k])) w4 (HP.out.later hb4) hrng.out hmem'.bools
        have HM4 : Hid (DfsMem w1.heap.size ts.length w1 w4 v' (has (ord ++ [k])) (ord ++ [k])) := hmem'
        clear hown' hgrow hmem hck hfk hmem' hb4 hm
        go_wp2_with (go_at_call 202; refine hnx.mono ?_; rintro e w5 ⟨⟨r, rfl, hr5⟩, hb5⟩)
        go_roundg (unseen (has (ord ++ [k])) ts.length)
        case measure => omega
        case rel => exact ⟨ord ++ [k], r, HM4.out.later hb5, rfl, ho.out.snoc hn.out, hr5, Nat.le_refl _, by simp; omega⟩
      · have hrn := hn.out.neg hr
        subst hrn
        go_wp2
        go_ret2
        exact ⟨⟨p, 0, HC.out, Or.inr ⟨rfl, ord, _, rfl, ⟨ho.out, hn.out⟩, ints_of_owns hm.out.own (by omega)⟩⟩, hb1.trans (hm.out.below.mono hb1.size)⟩
  · have hev := errV_some hq
    rw [hev]
    have HV : Hid (errV q = .iface 97 (.int .i64 q)) := hev
    clear hev
    go_wp2
    go_ret2
    exact ⟨⟨p, q, hc, Or.inl ⟨hq, by rw [HV.out]; rfl⟩⟩, hb1⟩
end Go.Proofs.YtlfbdjeojgbniaaGreatDoor

namespace Go.Proofs.YtlfbdjeojgbniaaGreatDoor

theorem Reach.trans {ts : List (Int × List Int)} {x y z : Nat} (h : Reach ts x y) (k : Reach ts y z) : Reach ts x z := by
  induction k using Reach.ind with
  | one hn => exact Reach.more h hn
  | more _ hn ih => exact Reach.more ih hn

theorem unseen_sub (S T : Nat → Bool) (n : Nat) (h : ∀ x, T x = true → S x = true) : unseen S n ≤ unseen T n := by
  induction n with
  | zero => exact Nat.le_refl _
  | succ n ih =>
    unfold unseen
    cases hT : T n with
    | true => simp [h n hT]; exact ih
    | false => cases S n <;> simp <;> omega

theorem unseen_lt (S T : Nat → Bool) (n y : Nat) (h : ∀ x, T x = true → S x = true) (hy : y < n) (hS : S y = true) (hT : T y = false) : unseen S n < unseen T n := by
  induction n with
  | zero => omega
  | succ n ih =>
    unfold unseen
    by_cases e : n = y
    · subst e
      have := unseen_sub S T n h
      rw [hS, hT]; simp; omega
    · have := ih (by omega)
      cases hT : T n with
      | true => simp [h n hT]; exact this
      | false => cases S n <;> simp <;> omega

/-- Where none reaches itself, nothing is left behind: whatever set of tasks in which each needs one of the set is empty. -/
theorem no_ring_empty (ts : List (Int × List Int)) (hno : ∀ j, j < ts.length → ¬ Reach ts j j) (U : Nat → Prop) (hU : ∀ x, U x → x < ts.length ∧ ∃ y, Need ts x y ∧ U y) : ∀ x, ¬ U x := by
  classical
  have key : ∀ c x, U x → ts.length - unseen (fun y => decide (Reach ts x y)) ts.length = c → False := by
    intro c
    induction c using Nat.strongRecOn with
    | _ c ih =>
      intro x hx hc
      obtain ⟨hxl, y, hn, hy⟩ := hU x hx
      have hyl := (hU y hy).1
      have hlt : unseen (fun z => decide (Reach ts x z)) ts.length < unseen (fun z => decide (Reach ts y z)) ts.length := by
        refine unseen_lt _ _ ts.length y (fun z hz => ?_) hyl (by simpa using Reach.one hn) (by simpa using hno y hyl)
        simp at hz ⊢
        exact (Reach.one hn).trans hz
      have h1 := unseen_le (fun z => decide (Reach ts x z)) ts.length
      have h2 := unseen_le (fun z => decide (Reach ts y z)) ts.length
      exact ih (ts.length - unseen (fun z => decide (Reach ts y z)) ts.length) (by omega) y hy rfl
  exact fun x hx => key _ x hx rfl

theorem Ords.init {ts : List (Int × List Int)} {ord : List Nat} {y : Nat} (h : Ords ts (ord ++ [y])) : Ords ts ord ∧ NextIs ts (has ord) (y : Nat) := by
  constructor
  · intro m hm
    have := h m (by simp; omega)
    rw [List.take_append_of_le_length (by omega), getD_snoc _ _ _ _ hm] at this
    exact this
  · have := h ord.length (by simp)
    simpa using this

theorem Ords.count {ts : List (Int × List Int)} : ∀ {ord : List Nat}, Ords ts ord → ord.length + unseen (has ord) ts.length = ts.length := by
  have key : ∀ n (ord : List Nat), ord.length = n → Ords ts ord → ord.length + unseen (has ord) ts.length = ts.length := by
    intro n
    induction n with
    | zero =>
      intro ord hl _
      have := List.eq_nil_of_length_eq_zero hl
      subst this
      have : ∀ m, unseen (has []) m = m := fun m => by
        induction m with
        | zero => rfl
        | succ m ih => unfold unseen; rw [ih]; simp [has]
      simp [this]
    | succ n ih =>
      intro ord hl ho
      rcases List.eq_nil_or_concat ord with rfl | ⟨o, y, rfl⟩
      · simp at hl
      rw [List.concat_eq_append] at *
      obtain ⟨h1, h2⟩ := ho.init
      obtain ⟨k, hk, hkl, hT⟩ := h2.pos (by omega)
      have hky : y = k := by omega
      subst hky
      have hu := unseen_mark (has o) ts.length y hkl hT
      rw [mark_has] at hu
      have := ih o (by simpa using hl) h1
      simp
      omega
  exact fun {ord} h => key _ ord rfl h

theorem unseen_zero (S : Nat → Bool) (n : Nat) (h : ∀ k, k < n → S k = true) : unseen S n = 0 := by
  induction n with
  | zero => rfl
  | succ n ih => unfold unseen; rw [ih (fun k hk => h k (by omega)), h n (by omega)]; rfl

/-- In the order of a plan that Check passes stands each task. -/
theorem OrdIs.all {ts : List (Int × List Int)} {ord : List Nat} (h : OrdIs ts ord) (hr : InRange ts) (hno : ∀ j, j < ts.length → ¬ Reach ts j j) : ∀ k, k < ts.length → has ord k = true := by
  intro k hk
  have hnone : ∀ j, j < ts.length → freeB ts (has ord) j = false := by
    generalize hm : (-1 : Int) = m at *
    have h2 := h.2
    rw [hm] at h2
    cases h2 using NextIs.elim with
    | some k => omega
    | none hn => exact hn
  have := no_ring_empty ts hno (fun x => x < ts.length ∧ has ord x = false) (fun x ⟨hx, hh⟩ => by
    refine ⟨hx, ?_⟩
    have hf := hnone x hx
    unfold freeB at hf
    rw [hh] at hf
    simp only [Bool.not_false, Bool.true_and, Bool.not_eq_false'] at hf
    obtain ⟨y, hy, hT⟩ := List.any_eq_true.1 hf
    have hb := hr x hx y hy
    refine ⟨y.toNat, by unfold Need; rw [Int.toNat_of_nonneg hb.1]; exact hy, by omega, by simpa using hT⟩) k
  cases hh : has ord k with
  | true => rfl
  | false => exact absurd ⟨hk, hh⟩ this

theorem OrdIs.length {ts : List (Int × List Int)} {ord : List Nat} (h : OrdIs ts ord) (hr : InRange ts) (hno : ∀ j, j < ts.length → ¬ Reach ts j j) : ord.length = ts.length := by
  have := h.1.count
  rw [unseen_zero _ _ (h.all hr hno)] at this
  omega

theorem chainTs_getD (work : Int) (n j : Nat) (hj : j < n) : (chainTs work n).getD j (0, []) = (work, if j = 0 then [] else [(j : Int) - 1]) := by
  induction n with
  | zero => omega
  | succ n ih =>
    unfold chainTs
    by_cases e : j = n
    · subst e
      have := getD_snoc_at (chainTs work j) (work, if j = 0 then [] else [(j : Int) - 1]) (0, [])
      rwa [chainTs_length] at this
    · rw [getD_snoc _ _ _ _ (by rw [chainTs_length]; omega)]
      exact ih (by omega)

theorem chain_need {n x y : Nat} (h : Need (chainTs 1 n) x y) : y < x := by
  unfold Need needsOf at h
  by_cases hx : x < n
  · rw [chainTs_getD _ _ _ hx] at h
    by_cases e : x = 0
    · simp [e] at h
    · simp [e] at h; omega
  · rw [List.getD_eq_getElem?_getD, List.getElem?_eq_none (by rw [chainTs_length]; omega)] at h
    simp at h

theorem chain_reach {n x y : Nat} (h : Reach (chainTs 1 n) x y) : y < x := by
  induction h using Reach.ind with
  | one hn => exact chain_need hn
  | more _ hn ih => have := chain_need hn; omega

theorem chain_err (n j : Nat) (hj : j < n) : errOf (chainTs 1 n) j = 0 := by
  unfold errOf needsOf
  rw [chainTs_getD _ _ _ hj, chainTs_length]
  by_cases e : j = 0
  · simp [e, taskErr, rising]
  · have : inRange ((j : Int) - 1) n = true := by simp [inRange]; omega
    simp [e, taskErr, rising, this]

theorem chain_check {n : Nat} (hn : n ≤ 30) {p q : Int} (h : CheckIs (chainTs 1 n) p q) : p = 0 ∧ q = 0 := by
  cases h using CheckIs.elim with
  | full hf => rw [chainTs_length] at hf; omega
  | task k _ hk _ he => rw [chainTs_length] at hk; exact absurd (chain_err n k hk) he
  | ring k _ _ _ _ hr => have := chain_reach hr; omega
  | none => exact ⟨rfl, rfl⟩

/-- A chain, closed: the first needs the last. -/
def ringTs (n : Nat) : List (Int × List Int) := (chainTs 1 n).set 0 (1, [(n : Int) - 1])
theorem ringTs_length (n : Nat) : (ringTs n).length = n := by simp [ringTs, chainTs_length]
theorem ringTs_getD (n j : Nat) (hj : j < n) : (ringTs n).getD j (0, []) = (1, [if j = 0 then (n : Int) - 1 else (j : Int) - 1]) := by
  unfold ringTs
  by_cases e : j = 0
  · subst e; simp [chainTs_length, hj]
  · have := chainTs_getD 1 n j hj
    rw [if_neg e] at this
    rw [if_neg e, List.getD_eq_getElem?_getD, List.getElem?_set_ne (by omega), ← List.getD_eq_getElem?_getD, this]

theorem ring_err (n j : Nat) (hj : j < n) : errOf (ringTs n) j = 0 := by
  unfold errOf needsOf
  rw [ringTs_getD _ _ hj, ringTs_length]
  have : inRange (if j = 0 then (n : Int) - 1 else (j : Int) - 1) n = true := by
    by_cases e : j = 0
    · simp [e, inRange]; omega
    · simp [e, inRange]; omega
  simp [taskErr, rising, this]

theorem ring_down (n : Nat) (hn : 1 ≤ n) : ∀ d, d < n → Reach (ringTs n) 0 (n - 1 - d) := by
  intro d
  induction d with
  | zero =>
    intro _
    refine Reach.one ?_
    unfold Need needsOf
    rw [ringTs_getD _ _ (by omega)]
    simp; omega
  | succ d ih =>
    intro hd
    refine Reach.more (ih (by omega)) ?_
    unfold Need needsOf
    rw [ringTs_getD _ _ (by omega)]
    have : n - 1 - d ≠ 0 := by omega
    simp [this]; omega

theorem ring_check {n : Nat} (h1 : 1 ≤ n) (hn : n ≤ 30) {p q : Int} (h : CheckIs (ringTs n) p q) : p = 0 ∧ q = 8 := by
  have h0 : Reach (ringTs n) 0 0 := by
    have := ring_down n h1 (n - 1) (by omega)
    rwa [show n - 1 - (n - 1) = 0 by omega] at this
  cases h using CheckIs.elim with
  | full hf => rw [ringTs_length] at hf; omega
  | task k _ hk _ he => rw [ringTs_length] at hk; exact absurd (ring_err n k hk) he
  | ring k _ _ hk hf hr =>
    by_cases e : k = 0
    · subst e; exact ⟨rfl, rfl⟩
    · exact absurd h0 (hf 0 (by omega))
  | none _ _ hno => exact absurd h0 (hno 0 (by rw [ringTs_length]; omega))
end Go.Proofs.YtlfbdjeojgbniaaGreatDoor
