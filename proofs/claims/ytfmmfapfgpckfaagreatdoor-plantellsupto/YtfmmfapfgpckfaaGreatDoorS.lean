/- The contracts of readNumbers and readTask. -/
import Derived.Test.YtfmmfapfgpckfaaGreatDoorR
namespace Go.Proofs.YtfmmfapfgpckfaaGreatDoor
open Go.RowKit Go.Deep

def strV (l : List UInt8) : Value := .string ⟨l.toArray⟩
/-- The variable internal/bytealg.MaxLen holds an int. -/
def Lens (w : World) : Prop := (∃ m, w.cell? ⟨1, 0, none⟩ = some (.int .i64 m)) ∧ 1 < w.heap.size
theorem Lens.later {w w' : World} (h : Lens w) (hb : Below w.heap.size w w') : Lens w' := by
  obtain ⟨⟨m, hc⟩, hl⟩ := h
  exact ⟨⟨m, (hb.cell (p := ⟨1, 0, none⟩) hl).trans hc⟩, Nat.lt_of_lt_of_le hl hb.size⟩

theorem below_draws {B : Nat} {a w : World} (h : Below B a w) (n : Nat) : Below B a (w.drewN n) := ⟨h.os, h.tape, h.output, h.size, h.block⟩

theorem cut_any (l : List UInt8) (c : UInt8) (w : World) (hl : l.length ≤ 1048576) (hm : Lens w) :
    Calls Tryz.prog 33 #[.string ⟨l.toArray⟩, .string ⟨#[c]⟩] w fun e w' => e = .returned (.tuple #[.string ⟨(cutB c l).1.toArray⟩, .string ⟨(cutB c l).2.1.toArray⟩, .bool (cutB c l).2.2]) ∧ Below w.heap.size w w' := by
  obtain ⟨⟨m, hm⟩, _⟩ := hm
  have h := Tryz.strings_Cut ⟨l.toArray⟩ ⟨#[c]⟩ m w (by show l.toArray.size < _; simp; omega) hm
  have e : Lib.cut (⟨l.toArray⟩ : ByteArray).data.toList (⟨#[c]⟩ : ByteArray).data.toList = cutB c l := by
    rw [← cut_eq]
  rw [e] at h
  exact h.mono fun _ _ ⟨he, n, hw⟩ => ⟨he, by rw [hw]; exact below_draws (Below.refl _ _) n⟩

theorem readNumber_list (l : List UInt8) (w : World) (hl : l.length ≤ 1048576) (he : Synt w) :
    Calls Tryz.prog 45 #[.string ⟨l.toArray⟩] w fun e w' => e = .returned (.tuple #[.int .i64 (((numOf l).getD 0 : Nat) : Int), .bool (numOf l).isSome]) ∧ Below w.heap.size w w' :=
  readNumber_any ⟨l.toArray⟩ w (by show l.toArray.size ≤ _; simp; omega) he

theorem run_make_ints (C : Nat) (hC : C ≤ 2000000) (i3 : TypeInfo) (hi3 : Tryz.prog.info? 3 = some i3) (hz0 : i3.zero = some (.int .i64 0)) (hz1 : i3.size = 1) (hz2 : i3.bytes = 8) (wx : World) :
    (Instr.makeSlice 31 (.int .i64 0) (.int .i64 (C : Int))).run Tryz.prog wx = .ok (.slice (some ⟨wx.heap.size, 0, none⟩) 0 C) (wx.alloc (.cells (madeCells #[.int .i64 0] C) 3)) := by
  have hr := run_make (P := Tryz.prog) wx 31 3 i3 (.int .i64 0) Tryz.underlying31 hi3 hz0 .i64 .i64 0 C (by omega) (by omega) (by rw [hz2]; omega) (by omega)
  simp only [hz1, Int.toNat_zero, Int.toNat_natCast, Nat.mul_one] at hr
  exact hr

def NumsIn (B : Nat) (w : World) (v : Value) (ns : List Nat) : Prop := w.ownsRow B 3 1 v ns.length (ns.map natV)

theorem NumsIn.later' {B : Nat} {w w' : World} {v : Value} {ns : List Nat} (h : NumsIn B w v ns) (hb : Below w.heap.size w w') : NumsIn B w' v ns :=
  World.ownsRow.kept (row := none) h ⟨hb.os, hb.tape, hb.output, hb.size, fun k hk _ => hb.block k hk⟩ (by cases v.ownBlock <;> simp)

/-- Where the reading of a text stands: what was cut off, what is left, whether there is more. -/
def Stands (c : UInt8) (l : List UInt8) (done : List (List UInt8)) (rest : List UInt8) (more : Bool) : Prop :=
  splitC c l = done ++ (if more then splitC c rest else [])
theorem Stands.step {c : UInt8} {l : List UInt8} {done : List (List UInt8)} {rest : List UInt8} (h : Stands c l done rest true) : Stands c l (done ++ [(cutB c rest).1]) (cutB c rest).2.1 (cutB c rest).2.2 := by
  unfold Stands at h ⊢
  rw [h, List.append_assoc]
  simp only [↓reduceIte]
  conv => lhs; rw [splitC_cut c rest]
  rfl
theorem Stands.bad {α : Type} {f : List UInt8 → Option α} {c : UInt8} {l : List UInt8} {done : List (List UInt8)} {rest : List UInt8} (h : Stands c l done rest true) (hx : f (cutB c rest).1 = none) : allOf f (splitC c l) = none := by
  unfold Stands at h
  rw [h]
  simp only [↓reduceIte]
  rw [splitC_cut c rest]
  exact allOf_bad f _ _ _ hx
def restOf (rest : List UInt8) (more : Bool) : Nat := if more then rest.length + 1 else 0
theorem restOf_step (c : UInt8) (rest : List UInt8) : restOf (cutB c rest).2.1 (cutB c rest).2.2 < restOf rest true := by
  unfold restOf
  cases h : (cutB c rest).2.2 with
  | true => have := cutB_shorter c rest h; simp; omega
  | false => simp
theorem cutB_le1 (c : UInt8) (l : List UInt8) : (cutB c l).1.length ≤ l.length := by
  induction l with
  | nil => simp [cutB]
  | cons b r ih => rw [cutB_cons]; split <;> simp; omega
theorem cutB_le2 (c : UInt8) (l : List UInt8) : (cutB c l).2.1.length ≤ l.length := by
  induction l with
  | nil => simp [cutB]
  | cons b r ih => rw [cutB_cons]; split <;> simp; omega

set_option maxRecDepth 100000 in
set_option maxHeartbeats 4000000 in
theorem readNumbers_any (l : List UInt8) (w : World) (hl : l.length ≤ 1048576) (he : Synt w) (hm : Lens w) :
    Calls Tryz.prog 46 #[.string ⟨l.toArray⟩] w fun e w' => ((∃ ns v, allOf numOf (splitC 44 l) = some ns ∧ e = .returned (.tuple #[v, .bool true]) ∧ NumsIn w.heap.size w' v ns) ∨ (allOf numOf (splitC 44 l) = none ∧ e = .returned (.tuple #[.slice none 0 0, .bool false]))) ∧ Below w.heap.size w w' := by
  obtain ⟨i3, hi3, hz0, hz1, hz2⟩ := info_parts Tryz.info3
  have hcount := Tryz.strings_Count_one ⟨l.toArray⟩ 44 w
  have hcl : Lib.countByte (⟨l.toArray⟩ : ByteArray).data.toList 44 ≤ 1048576 := by
    show l.toArray.toList.count 44 ≤ _
    have := List.count_le_length (a := (44 : UInt8)) (l := l)
    simp; omega
  generalize Lib.countByte (⟨l.toArray⟩ : ByteArray).data.toList 44 = C at hcount hcl
  have hmk : ∀ wx : World, (Instr.makeSlice 31 (.int .i64 0) (.int .i64 ((C : Int) + 1))).run Tryz.prog wx = .ok (.slice (some ⟨wx.heap.size, 0, none⟩) 0 (C + 1)) (wx.alloc (.cells (madeCells #[.int .i64 0] (C + 1)) 3)) := fun wx => by
    have := run_make_ints (C + 1) (by omega) i3 hi3 hz0 hz1 hz2 wx
    rwa [show (((C + 1 : Nat)) : Int) = (C : Int) + 1 by omega] at this
  have hown0 : NumsIn w.heap.size (w.alloc (.cells (madeCells #[.int .i64 0] (C + 1)) 3)) (.slice (some ⟨w.heap.size, 0, none⟩) 0 (C + 1)) [] := by
    have h := World.ownsRow_made (base := w.heap.size) (e := 3) (size := 1) w (madeCells #[.int .i64 0] (C + 1)) (C + 1) (Nat.le_refl _) (by unfold maxLen; omega) (by rw [size_madeCells]; omega)
    simpa [NumsIn] using h
  have HE : Hid (Synt w) := he
  have HM : Hid (Lens w) := hm
  clear he hm
  go_enter Tryz.func46, Tryz.ntmps46
  go_wp2_with (go_at_call 58; refine hcount.mono ?_; rintro e w1 ⟨rfl, rfl⟩)
  have hbl0 : Below w1.heap.size w1 (w1.alloc (.cells (madeCells #[.int .i64 0] (C + 1)) 3)) := (Below.refl _ _).alloc (Nat.le_refl _) _
  clear hcount hmk
  go_loopg [0, 4, 6] (l.length + 1) (fun gg s0 s4 s6 wr => ∃ done rest more ns, s0 = .string ⟨(rest : List UInt8).toArray⟩ ∧ s6 = .bool more ∧ Hid (NumsIn w1.heap.size wr s4 ns) ∧ Hid (Stands 44 l done rest more) ∧ Hid (allOf numOf done = some ns) ∧ Below w1.heap.size w1 wr ∧ rest.length ≤ l.length ∧ ns.length + restOf rest more ≤ l.length + 1 ∧ restOf rest more ≤ gg)
  case atStart => exact ⟨[], l, true, [], rfl, rfl, hown0, rfl, rfl, hbl0, Nat.le_refl _, by simp [restOf], by simp [restOf]⟩
  case round =>
    clear hown0 hbl0
    obtain ⟨done, rest, more, ns, rfl, rfl, hown, hst, hall, hb, hrl, hnl, hg⟩ := hrel
    cases more
    · go_wp2
      go_ret2
      refine ⟨Or.inl ⟨ns, _, ?_, rfl, hown.out⟩, hb⟩
      have := hst.out
      unfold Stands at this
      simp only [Bool.false_eq_true, ↓reduceIte, List.append_nil] at this
      rw [this]; exact hall.out
    · have hcut := cut_any rest 44 wr (by omega) (HM.out.later hb)
      have hstep := hst.out.step
      have hr := restOf_step 44 rest
      have hl1 := cutB_le1 44 rest
      have hl2 := cutB_le2 44 rest
      have HBad : Hid (numOf (cutB 44 rest).1 = none → allOf numOf (splitC 44 l) = none) := fun h => hst.out.bad h
      have HStep : Hid (Stands 44 l (done ++ [(cutB 44 rest).1]) (cutB 44 rest).2.1 (cutB 44 rest).2.2) := hstep
      clear hstep
      generalize hc1 : (cutB 44 rest).1 = word at *
      generalize hc2 : (cutB 44 rest).2.1 = rest2 at *
      generalize hc3 : (cutB 44 rest).2.2 = more2 at *
      clear hc1 hc2 hc3 hst
      go_wp2_with fail
      refine hcut.mono ?_
      rintro e w2 ⟨rfl, hb2⟩
      have hB2 : Below w1.heap.size w1 w2 := hb.trans (hb2.mono hb.size)
      have hrn := readNumber_list word w2 (by omega) (HE.out.later hB2)
      clear hcut
      cases hn : numOf word with
      | none =>
        rw [hn] at hrn
        simp only [Option.getD_none, Option.isSome_none] at hrn
        have HF : Hid (allOf numOf (splitC 44 l) = none) := HBad.out hn
        clear hn
        go_wp2_with (go_at_call 45; refine hrn.mono ?_; rintro e w3 ⟨rfl, hb3⟩)
        go_ret2
        exact ⟨Or.inr ⟨HF.out, rfl⟩, hB2.trans (hb3.mono hB2.size)⟩
      | some n =>
        rw [hn] at hrn
        simp only [Option.getD_some, Option.isSome_some] at hrn
        have HA : Hid (allOf numOf (done ++ [word]) = some (ns ++ [n])) := allOf_snoc _ _ _ _ _ hall.out hn
        clear hn
        go_wp2_with fail
        refine hrn.mono ?_
        rintro e w3 ⟨rfl, hb3⟩
        clear hrn
        have hB3 : Below w1.heap.size w1 w3 := hB2.trans (hb3.mono hB2.size)
        have hown3 := (hown.out.later' hb2).later' hb3
        go_wp2_with (at_builtin; refine wpList_append_own _ rfl (.tmp 27) (.tmp 29) 31 rfl w1.heap.size 3 i3 (.int .i64 0) 1 8 Tryz.underlying31 hi3 hz0 hz1 hz2 rfl (by decide) _ ns.length (ns.map natV) rfl (World.ownsRow.alloc hown3 _) ⟨w3.heap.size, 0, none⟩ 1 1 [.int .i64 (n : Nat)] rfl rfl ?c1 ?c2 ?c3 ?c4 ?c5 ?_)
        case c1 => exact cell_one_new w3 (.int .i64 (n : Nat)) 3
        case c2 => intro u hu; simp at hu; subst hu; rfl
        case c3 => unfold maxLen; omega
        case c4 => omega
        case c5 => have := hB3.size; simp; omega
        intro v' w4 hown' hgrow _
        have HO : Hid (NumsIn w1.heap.size w4 v' (ns ++ [n])) := by simpa [NumsIn, natV, Hid] using hown'
        have hB4 : Below w1.heap.size w1 w4 := (hB3.alloc hB3.size _).grown hgrow (by have := hB3.size; simp; omega) (fun j e => (World.ownsRow.lt hown3 j e).1)
        clear hown' hgrow hown3 hown hb2 hb3
        go_wp2
        go_roundg (restOf rest2 more2)
        case measure => omega
        case rel => exact ⟨done ++ [word], rest2, more2, ns ++ [n], rfl, rfl, HO, HStep, HA, hB4, by omega, by simp; omega, Nat.le_refl _⟩
end Go.Proofs.YtfmmfapfgpckfaaGreatDoor
