/- The contract of Order. -/
import Derived.Test.YtjojfnppegfmnaaE
namespace Go.Proofs.Ytjojfnppegfmnaa
open Go.RowKit

def has (l : List Nat) (x : Nat) : Bool := l.contains x

theorem mark_has (l : List Nat) (y : Nat) : mark (has l) y = has (l ++ [y]) := by
  funext x
  unfold mark has
  by_cases e : x = y
  · subst e; simp
  · simp [e]

/-- An order so far: each could be next, of several the least. -/
def Ords (ts : List (Int × List Int)) (ord : List Nat) : Prop := ∀ m, m < ord.length → NextIs ts (has (ord.take m)) (ord.getD m 0 : Nat)

/-- A whole order: nothing could be next. -/
def OrdIs (ts : List (Int × List Int)) (ord : List Nat) : Prop := Ords ts ord ∧ NextIs ts (has ord) (-1)

theorem Ords.nil (ts : List (Int × List Int)) : Ords ts [] := fun m hm => by simp at hm
theorem Ords.snoc {ts : List (Int × List Int)} {ord : List Nat} {y : Nat} (h : Ords ts ord) (hn : NextIs ts (has ord) (y : Nat)) : Ords ts (ord ++ [y]) := by
  intro m hm
  simp at hm
  by_cases e : m = ord.length
  · subst e; simpa using hn
  · have hlt : m < ord.length := by omega
    have := h m hlt
    rw [List.take_append_of_le_length (by omega), show (ord ++ [y]).getD m 0 = ord.getD m 0 by simp [List.getElem?_append_left hlt]]
    exact this

theorem NextIs.pos {ts : List (Int × List Int)} {T : Nat → Bool} {r : Int} (h : NextIs ts T r) (hr : 0 ≤ r) : ∃ k : Nat, r = k ∧ k < ts.length ∧ T k = false := by
  cases h using NextIs.elim with
  | some k hk _ hf => exact ⟨k, rfl, hk, by unfold freeB at hf; simp at hf; exact hf.1⟩
  | none => omega
theorem NextIs.neg {ts : List (Int × List Int)} {T : Nat → Bool} {r : Int} (h : NextIs ts T r) (hr : ¬ 0 ≤ r) : r = -1 := by
  cases h using NextIs.elim with
  | some k => omega
  | none => rfl

def intsOf (l : List Nat) : List Int := l.map Int.ofNat
theorem intsOf_length (l : List Nat) : (intsOf l).length = l.length := by simp [intsOf]
theorem intsOf_getD (l : List Nat) (k : Nat) : (intsOf l).getD k 0 = ((l.getD k 0 : Nat) : Int) := by
  unfold intsOf
  by_cases h : k < l.length
  · simp [h]
  · simp [List.getElem?_eq_none (Nat.le_of_not_lt h)]

theorem CheckIs.ok {ts : List (Int × List Int)} {p q : Int} (h : CheckIs ts p q) (hq : q = 0) : p = 0 ∧ ts.length ≤ 30 ∧ (∀ j, j < ts.length → errOf ts j = 0) ∧ ∀ j, j < ts.length → ¬ Reach ts j j := by
  cases h using CheckIs.elim with
  | full => omega
  | task k _ _ _ h => exact absurd hq h
  | ring => omega
  | none h1 h2 h3 => exact ⟨rfl, h1, h2, h3⟩

theorem ints_of_owns {w : World} {base : Nat} {v : Value} {ord : List Nat} (h : w.ownsRow base 3 1 v ord.length (ord.map natV)) (hl : ord.length * 8 ≤ 140737488351232) : IntsAt w v (intsOf ord) := by
  refine ⟨by rw [intsOf_length]; exact hl, ?_⟩
  rw [intsOf_length]
  rcases h.2 with ⟨hv, h0⟩ | ⟨g, cap, cur, hv, hg, hh, hn, hcap, hsz, htake⟩
  · exact ⟨none, 0, by rw [hv, h0], Or.inl (by rw [List.eq_nil_of_length_eq_zero h0]; rfl)⟩
  · refine ⟨some ⟨g, 0, none⟩, cap, hv, ?_⟩
    right
    refine ⟨g, 0, rfl, lt_of_block hh, fun k hk => ?_⟩
    subst hv
    have := World.ownsRow.cellAt h k (by omega)
    rw [Nat.zero_add, this, intsOf_getD]
    simp [natV, hk]

theorem DfsMem.later {N n : Nat} {w wr w' : World} {s6 : Value} {S : Nat → Bool} {st : List Nat} (h : DfsMem N n w wr s6 S st) (hb : Below wr.heap.size wr w') : DfsMem N n w w' s6 S st := {
  own := h.own.kept (row := none) ⟨hb.os, hb.tape, hb.output, hb.size, fun k hk _ => hb.block k hk⟩ (by cases s6.ownBlock <;> simp)
  shape := h.shape
  row := h.row.of_block (hb.block N h.row.lt)
  below := h.below.trans (hb.mono (Nat.le_of_lt h.row.lt))
  }

theorem DfsMem.bools {N n : Nat} {w wr : World} {s6 : Value} {S : Nat → Bool} {st : List Nat} (h : DfsMem N n w wr s6 S st) : BoolsAt wr (.slice (some ⟨N, 0, none⟩) n n) n S :=
  ⟨N, 0, n, rfl, h.row.lt, fun k hk => by rw [Nat.zero_add]; exact h.row.cell hk⟩

theorem DfsMem.startOrder (w : World) (n : Nat) (hn : n ≤ 1000000000) : DfsMem w.heap.size n w ((w.alloc (.cells (madeCells #[.bool false] n) 4)).alloc (.cells (madeCells #[.int .i64 0] n) 3)) (.slice (some ⟨w.heap.size + 1, 0, none⟩) 0 n) (has []) [] := {
  own := by
    have h := World.ownsRow_made (base := w.heap.size + 1) (e := 3) (size := 1) (w.alloc (.cells (madeCells #[.bool false] n) 4)) (madeCells #[.int .i64 0] n) n (by simp) (by unfold maxLen; omega) (by rw [size_madeCells]; omega)
    simpa using h
  shape := ⟨_, _, rfl⟩
  row := ((World.rowIs_made w (.bool false) n 4).congr (fun k _ => by simp [has])).alloc _
  below := ((Below.refl _ _).alloc (Nat.le_refl _) _).alloc (by simp) _
  }

set_option maxRecDepth 100000 in
set_option maxHeartbeats 4000000 in
theorem order_any (v : Value) (ts : List (Int × List Int)) (w : World) (hp : PlanAt w v ts) :
    Calls Try.prog 17 #[v] w fun e w' => (∃ p q, CheckIs ts p q ∧ ((q ≠ 0 ∧ e = .returned (.tuple #[.slice none 0 0, errV q])) ∨ (q = 0 ∧ ∃ ord ov, e = .returned (.tuple #[ov, .nilIface]) ∧ OrdIs ts ord ∧ IntsAt w' ov (intsOf ord)))) ∧ Below w.heap.size w w' := by
  have HP : Hid (PlanAt w v ts) := hp
  have hck := check_any v ts w hp
  obtain ⟨hl, a, c, rfl, hp⟩ := hp
  clear hp
  have hmk := fun wx => run_make_row' (P := Try.prog) 75 4 (.bool false) 1 Try.underlying75 Try.info4 rfl .i64 .i64 ts.length (by omega) (by omega) wx
  obtain ⟨i3, hi3, hz0, hz1, hz2⟩ := info_parts Try.info3
  have hmo : ∀ wx : World, (Instr.makeSlice 34 (.int .i64 0) (.int .i64 (ts.length : Int))).run Try.prog wx = .ok (.slice (some ⟨wx.heap.size, 0, none⟩) 0 ts.length) (wx.alloc (.cells (madeCells #[.int .i64 0] ts.length) 3)) := by
    intro wx
    have hr := run_make (P := Try.prog) wx 34 3 i3 (.int .i64 0) Try.underlying34 hi3 hz0 .i64 .i64 0 ts.length (by omega) (by omega) (by rw [hz2]; omega) (by omega)
    simp only [hz1, Int.toNat_zero, Int.toNat_natCast, Nat.mul_one] at hr
    exact hr
  go_enter Try.func17, Try.ntmps17
  go_wp2_with fail
  refine hck.mono ?_
  rintro e w1 ⟨⟨p, q, rfl, hc⟩, hb1⟩
  clear hck
  by_cases hq : q = 0
  · subst hq
    rw [errV_zero]
    have hrng : Hid (InRange ts) := inRange_of (hc.ok rfl).2.2.1
    have HC : Hid (CheckIs ts p 0) := hc
    have hc' := hc
    clear hc
    have h30 : ts.length ≤ 30 := (hc'.ok rfl).2.1
    clear hc'
    have hm0 := DfsMem.startOrder w1 ts.length (by omega)
    have hb2 : Below w.heap.size w ((w1.alloc (.cells (madeCells #[.bool false] ts.length) 4)).alloc (.cells (madeCells #[.int .i64 0] ts.length) 3)) := hb1.trans (hm0.below.mono hb1.size)
    have hnx := next_any _ _ ts (has []) _ (HP.out.later hb2) hrng.out hm0.bools
    go_wp2_with (go_at_call 31; refine hnx.mono ?_; rintro e w3 ⟨⟨r, rfl, hr⟩, hb3⟩)
    have HM : Hid (DfsMem w1.heap.size ts.length w1 w3 (.slice (some ⟨w1.heap.size + 1, 0, none⟩) 0 ts.length) (has []) []) := hm0.later hb3
    clear hm0 hnx hb2 hb3
    have HX : Hid (NextIs ts (has []) r) := hr
    clear hr
    go_loopg [7, 8] (ts.length) (fun gg s7 s8 wr => ∃ ord r, Hid (DfsMem w1.heap.size ts.length w1 wr s7 (has ord) ord) ∧ s8 = .int .i64 r ∧ Hid (Ords ts ord) ∧ Hid (NextIs ts (has ord) r) ∧ unseen (has ord) ts.length ≤ gg ∧ ord.length + unseen (has ord) ts.length ≤ ts.length)
    case atStart => exact ⟨[], r, HM, rfl, Ords.nil ts, HX, unseen_le _ _, by have := unseen_le (has []) ts.length; simpa using this⟩
    case round =>
      clear HM HX
      obtain ⟨ord, r, hm, rfl, ho, hn, hg, hlen⟩ := hrel
      obtain ⟨g, cap, rfl⟩ := hm.out.shape
      by_cases hr : 0 ≤ r
      · obtain ⟨k, rfl, hk, hTk⟩ := hn.out.pos hr
        have hck := hm.out.row.cell hk
        have hfk := hm.out.row.frozen k
        have hmem := (hm.out.seenSet k).alloc (.cells #[.int .i64 k] 3)
        have hu := unseen_mark (has ord) ts.length k hk hTk
        go_wp2_with (first | (go_at_call 31; fail) | (at_builtin; refine wpList_append_own _ rfl (.tmp 34) (.tmp 36) 34 rfl (w1.heap.size + 1) 3 i3 (.int .i64 0) 1 8 Try.underlying34 hi3 hz0 hz1 hz2 rfl (by decide) _ ord.length (ord.map natV) rfl hmem.own ⟨wr.heap.size, 0, none⟩ 1 1 [.int .i64 k] rfl rfl ?c1 ?c2 ?c3 ?c4 ?c5 ?_))
        case c1 =>
          have hone := cell_one_new (wr.setCell ⟨w1.heap.size, k, none⟩ (.bool true)) (.int .i64 k) 3
          simpa using hone
        case c2 => intro u hu; simp at hu; subst hu; rfl
        case c3 => unfold maxLen; omega
        case c4 => omega
        case c5 => have := hm.out.row.lt; simp; omega
        intro v' w4 hown' hgrow _
        have hmem' := hmem.pushed hown' hgrow
        rw [mark_has] at hmem' hu
        have hb4 : Below w.heap.size w w4 := hb1.trans (hmem'.below.mono hb1.size)
        have hnx := next_any _ _ ts (has (ord ++ [k])) w4 (HP.out.later hb4) hrng.out hmem'.bools
        have HM4 : Hid (DfsMem w1.heap.size ts.length w1 w4 v' (has (ord ++ [k])) (ord ++ [k])) := hmem'
        clear hown' hgrow hmem hck hfk hmem' hb4 hm
        go_wp2_with (go_at_call 31; refine hnx.mono ?_; rintro e w5 ⟨⟨r, rfl, hr5⟩, hb5⟩)
        go_roundg (unseen (has (ord ++ [k])) ts.length)
        case measure => omega
        case rel => exact ⟨ord ++ [k], r, HM4.out.later hb5, rfl, ho.out.snoc hn.out, hr5, Nat.le_refl _, by simp; omega⟩
      · have hrn := hn.out.neg hr
        subst hrn
        go_wp2
        go_ret2
        exact ⟨⟨p, 0, HC.out, Or.inr ⟨rfl, ord, _, rfl, ⟨ho.out, hn.out⟩, ints_of_owns hm.out.own (by omega)⟩⟩, hb1.trans (hm.out.below.mono hb1.size)⟩
  · have hev := errV_some hq
    rw [hev]
    have HV : Hid (errV q = .iface 57 (.int .i64 q)) := hev
    clear hev
    go_wp2
    go_ret2
    exact ⟨⟨p, q, hc, Or.inl ⟨hq, by rw [HV.out]; rfl⟩⟩, hb1⟩
end Go.Proofs.Ytjojfnppegfmnaa
