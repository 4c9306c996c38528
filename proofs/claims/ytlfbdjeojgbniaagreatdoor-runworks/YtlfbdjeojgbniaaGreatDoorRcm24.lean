/- The variables as they are laid; readNumber, strings.Split at a blank, readNumbers: the contracts. An error in a line's error: errors.As, Error, (lineError).answer, answer's end. errors.As at a line that has not its words; (lineError).answer. -/
import Derived.Test.YtlfbdjeojgbniaaGreatDoorRcm17
import Derived.Test.YtlfbdjeojgbniaaGreatDoorRcm21
import Derived.Test.YtlfbdjeojgbniaaGreatDoorRcm23
import Derived.Lib.SmallJoins
import Derived.Lib.AppendIntMem
import Derived.Lib.LaidTab
import Derived.LaidEql
import Derived.Stop.Asserts
import Derived.RowKitTokens

namespace Go.Proofs.YtlfbdjeojgbniaaGreatDoor
open Go.RowKit Go.Deep

/-- The error that a line has not its words. -/
def badV (q : Addr) : Value := .iface 313 (.pointer (some q))
/-- The variables as they are laid. -/
structure Vars (q : Addr) (w : World) : Prop where
  syn : Synt w
  len : Lens w
  typ : Typed w
  frm : FormsAt w
  tab : Lib.TabIs Tryz.prog w "internal/strconv.uint64pow10" .u64 Lib.pow10Tab
  tlt : 8 < w.heap.size
  bad : w.cell? ⟨0, 0, none⟩ = some (badV q)
  blt : 0 < w.heap.size
  txt : w.cell? q = some (.string ⟨badT.toArray⟩)
  qlt : q.block < w.heap.size
theorem Tryz.tabGlobal : Tryz.prog.globalNamed "internal/strconv.uint64pow10" = some 8 := by kernel_rfl
theorem Vars.later {q : Addr} {w w' : World} (h : Vars q w) (hb : Below w.heap.size w w') : Vars q w' :=
  ⟨h.syn.later hb, h.len.later hb, h.typ.later hb, h.frm.later hb, Go.Joins.tab_stays Tryz.tabGlobal h.tab hb (Nat.le_refl _), Nat.lt_of_lt_of_le h.tlt hb.size, (hb.cell (p := ⟨0, 0, none⟩) h.blt).trans h.bad, Nat.lt_of_lt_of_le h.blt hb.size, (hb.cell (p := q) h.qlt).trans h.txt, Nat.lt_of_lt_of_le h.qlt hb.size⟩
theorem itoaR_any {q : Addr} (n : Nat) (hn : n ≤ 1000000) (w : World) (hv : Vars q w) : Calls Tryz.prog 95 #[.int .i64 (n : Int)] w fun e w' => e = .returned (.string ⟨(digs (n : Int)).toArray⟩) ∧ Below w.heap.size w w' := by
  refine (Tryz.strconv_Itoa (n : Int) (by omega) (by omega) w hv.tab).mono ?_
  rintro e w' ⟨rfl, k, os, rfl⟩
  refine ⟨?_, Lib.below_grow _ _ (Nat.le_refl _) _ _⟩
  rw [Lib.itoa_nonneg]
  unfold digs
  rw [Int.toNat_natCast]

set_option maxRecDepth 100000 in
set_option maxHeartbeats 2000000 in
theorem readNumR_any (l : List UInt8) (hl : l.length ≤ 1048576) (q : Addr) (w : World) (hv : Vars q w) :
    Calls Tryz.prog 120 #[.string ⟨l.toArray⟩] w fun e w' => (∃ n : Int, e = .returned (.tuple #[.int .i64 n, .bool (numOf l).isSome]) ∧ ∀ m : Nat, numOf l = some m → n = m) ∧ Below w.heap.size w w' := by
  have hsz : (⟨l.toArray⟩ : ByteArray).size = l.length := by show l.toArray.size = _; simp
  have hdl : (⟨l.toArray⟩ : ByteArray).data.toList = l := by simp
  by_cases h2 : 4 < l.length
  · have h2i : (4 : Int) < (l.length : Int) := by omega
    have HN : Hid (numOf l = none) := num4_long h2
    clear hv
    go_enter Tryz.func120, Tryz.ntmps120
    go_wp2
    go_ret2
    exact ⟨⟨0, by rw [HN.out]; rfl, fun m hm => by rw [HN.out] at hm; cases hm⟩, Below.refl _ _⟩
  have h2i : ¬ (4 : Int) < (l.length : Int) := by omega
  rcases atoi_four l (by omega) with hat | ⟨v, hat, hv4⟩
  · have HN : Hid (numOf l = none) := num4_syntax hat
    obtain ⟨te, pe, hc, hlt⟩ := hv.syn
    have hsy := Tryz.strconv_Atoi_syntax ⟨l.toArray⟩ (by rw [hsz]; omega) (by rw [hdl]; exact hat) (.iface te pe) w hc (Or.inr ⟨te, pe, rfl⟩)
    clear hat hc hlt hdl hv
    go_enter Tryz.func120, Tryz.ntmps120
    go_wp2_with (first | (go_at_call 109; refine hsy.mono ?_; clear hsy; rintro e w2 ⟨N, rfl, _, _, hb2⟩))
    go_ret2
    exact ⟨⟨0, by rw [HN.out]; rfl, fun m hm => by rw [HN.out] at hm; cases hm⟩, hb2⟩
  · have hok := Tryz.strconv_Atoi_ok ⟨l.toArray⟩ (by rw [hsz]; omega) v (by rw [hdl]; exact hat) w
    have hok2 := hok.mono (R' := fun e w' => e = .returned (.tuple #[.int .i64 v, .nilIface]) ∧ Below w.heap.size w w') (fun e w' ⟨h1, h2⟩ => ⟨h1, by
      rcases h2 with rfl | ⟨t, rfl⟩
      · exact Below.refl _ _
      · exact Lib.bytesWorld_below _ _ _⟩)
    clear hok hdl
    by_cases h0 : 0 ≤ v
    · have hit : ∀ wx, Below w.heap.size w wx → Calls Tryz.prog 95 #[.int .i64 v] wx fun e w' => e = .returned (.string ⟨(Lib.decDigits v.toNat).toArray⟩) ∧ Below wx.heap.size wx w' := fun wx hbx => by
        have := itoaR_any v.toNat (by omega) wx (hv.later hbx)
        unfold digs at this
        rw [Int.toNat_of_nonneg h0] at this
        exact this
      have HIT : Hid (∀ wx, Below w.heap.size w wx → Calls Tryz.prog 95 #[.int .i64 v] wx fun e w' => e = .returned (.string ⟨(Lib.decDigits v.toNat).toArray⟩) ∧ Below wx.heap.size wx w') := hit
      by_cases hd : digs v = l
      · have HN : Hid (numOf l = some v.toNat) := (show numOf l = some v.toNat by rw [← hd]; exact num4_yes h0 hv4)
        have hd2 : Lib.decDigits v.toNat = l := hd
        rw [hd2] at HIT
        have HV : Hid (v = ((v.toNat : Nat) : Int)) := (Int.toNat_of_nonneg h0).symm
        clear hd hd2 hat hit hv
        go_enter Tryz.func120, Tryz.ntmps120
        go_wp2_with (first | (go_at_call 109; refine hok2.mono ?_; clear hok2; rintro e w2 ⟨rfl, hb2⟩; have HB2 : Hid (Below w.heap.size w w2) := hb2; clear hb2) | (go_at_call 95; refine (HIT.out _ HB2.out).mono ?_; rintro e w3 ⟨rfl, hb3⟩))
        go_ret2
        exact ⟨⟨v, by rw [HN.out]; simp, fun m hm => by rw [HN.out] at hm; rw [← Option.some.inj hm]; exact HV.out⟩, HB2.out.trans (hb3.mono HB2.out.size)⟩
      · have HN : Hid (numOf l = none) := num4_no hat (fun h => hd h.2)
        have hd2 : ¬ Lib.decDigits v.toNat = l := hd
        have hne : ¬ (⟨(Lib.decDigits v.toNat).toArray⟩ : ByteArray) = ⟨l.toArray⟩ := fun e => hd2 (by have := congrArg (fun b : ByteArray => b.data.toList) e; simpa using this)
        clear hd hat hit hv
        go_enter Tryz.func120, Tryz.ntmps120
        go_wp2_with (first | (go_at_call 109; refine hok2.mono ?_; clear hok2; rintro e w2 ⟨rfl, hb2⟩; have HB2 : Hid (Below w.heap.size w w2) := hb2; clear hb2) | (go_at_call 95; refine (HIT.out _ HB2.out).mono ?_; rintro e w3 ⟨rfl, hb3⟩))
        go_ret2
        exact ⟨⟨v, by rw [HN.out]; simp [hd2], fun m hm => by rw [HN.out] at hm; cases hm⟩, HB2.out.trans (hb3.mono HB2.out.size)⟩
    · have HN : Hid (numOf l = none) := num4_no hat (fun h => h0 h.1)
      clear hat hv
      go_enter Tryz.func120, Tryz.ntmps120
      go_wp2_with (first | (go_at_call 109; refine hok2.mono ?_; clear hok2; rintro e w2 ⟨rfl, hb2⟩))
      go_ret2
      exact ⟨⟨v, by rw [HN.out]; rfl, fun m hm => by rw [HN.out] at hm; cases hm⟩, hb2⟩

/-- Texts in a block. -/
def TextsAt (w : World) (g : Nat) (ws : List (List UInt8)) : Prop := g < w.heap.size ∧ ∀ k, k < ws.length → w.cell? ⟨g, k, none⟩ = some (.string ⟨(ws.getD k []).toArray⟩)
theorem TextsAt.later {w w' : World} {g : Nat} {ws : List (List UInt8)} (h : TextsAt w g ws) (hb : Below w.heap.size w w') : TextsAt w' g ws :=
  ⟨Nat.lt_of_lt_of_le h.1 hb.size, fun k hk => (hb.cell (p := ⟨g, k, none⟩) h.1).trans (h.2 k hk)⟩
theorem Tryz.infoStr : (Tryz.prog.info? 9).map (fun i => (i.zero, i.size, i.bytes)) = some (some (.string ByteArray.empty), 1, 16) := by kernel_rfl
theorem splitBl_any (l : List UInt8) (hl : l.length ≤ 1048576) (w : World) (hm : Lens w) :
    Calls Tryz.prog 119 #[.string ⟨l.toArray⟩, .string ⟨#[32]⟩] w fun e w' => e = .returned (.slice (some ⟨w.heap.size, 0, none⟩) (splitC 32 l).length (splitC 32 l).length) ∧ TextsAt w' w.heap.size (splitC 32 l) ∧ Below w.heap.size w w' := by
  obtain ⟨⟨m, hm⟩, _⟩ := hm
  have h := Tryz.strings_Split ⟨l.toArray⟩ ⟨#[32]⟩ m w (by show l.toArray.size < _; simp; omega) hm (by show 1 ≤ (#[(32 : UInt8)]).size; decide)
  have hp : (Lib.splitB ⟨#[32]⟩ 0 (Lib.countB ⟨l.toArray⟩ ⟨#[32]⟩) ⟨l.toArray⟩).map (·.data.toList) = splitC 32 l := by
    rw [Lib.splitB_data]
    exact splitK_one 32 _ l rfl
  have hn : Lib.countB ⟨l.toArray⟩ ⟨#[32]⟩ + 1 = (splitC 32 l).length := by
    rw [← hp, List.length_map, Lib.splitB_all _ (by show 1 ≤ (#[(32 : UInt8)]).size; decide) 0 _ _ rfl]
  refine h.mono ?_
  rintro e w' ⟨rfl, rfl⟩
  rw [hn]
  refine ⟨rfl, ⟨by simp, fun k hk => ?_⟩, (Below.refl _ _).alloc (Nat.le_refl _) _⟩
  have hlt : k < (Lib.splitB ⟨#[32]⟩ 0 (Lib.countB ⟨l.toArray⟩ ⟨#[32]⟩) ⟨l.toArray⟩).length := by rw [← hp, List.length_map] at hk; exact hk
  have hg : (splitC 32 l).getD k [] = ((Lib.splitB ⟨#[32]⟩ 0 (Lib.countB ⟨l.toArray⟩ ⟨#[32]⟩) ⟨l.toArray⟩)[k]'hlt).data.toList := by
    rw [List.getD_eq_getElem?_getD, ← hp, List.getElem?_map, List.getElem?_eq_getElem hlt]
    rfl
  rw [hg]
  unfold World.cell?
  rw [blk_alloc_new]
  simp [List.getElem?_map, List.getElem?_eq_getElem hlt]

theorem NumsIn.mono {B B' : Nat} {w : World} {v : Value} {ns : List Nat} (h : NumsIn B w v ns) (hb : B' ≤ B) : NumsIn B' w v ns := by
  rcases h.2 with hn | ⟨g, cap, cur, hv, hg, r⟩
  · exact ⟨h.1, Or.inl hn⟩
  · exact ⟨h.1, Or.inr ⟨g, cap, cur, hv, Nat.le_trans hb hg, r⟩⟩
/-- A line's numbers. -/
def argsOf (rest : List UInt8) (more : Bool) : Option (List Nat) := if more then allOf numOf (splitC 32 rest) else some []
theorem allOf_bad_take {α : Type} {f : List UInt8 → Option α} {ws : List (List UInt8)} {k : Nat} (hk : k < ws.length) (h : f (ws.getD k []) = none) : allOf f ws = none := by
  have e : ws = ws.take k ++ ws.getD k [] :: ws.drop (k + 1) := by
    conv => lhs; rw [← List.take_append_drop k ws, List.drop_eq_getElem_cons hk]
    rw [List.getD_eq_getElem?_getD, List.getElem?_eq_getElem hk]; rfl
  rw [e]
  exact allOf_bad f _ _ _ h
set_option maxRecDepth 100000 in
set_option maxHeartbeats 4000000 in
theorem readNumsR_any (rest : List UInt8) (more : Bool) (hl : rest.length ≤ 1048576) (q : Addr) (w : World) (hv : Vars q w) :
    Calls Tryz.prog 89 #[.string ⟨rest.toArray⟩, .bool more] w fun e w' => ((∃ ns v, argsOf rest more = some ns ∧ e = .returned (.tuple #[v, .bool true]) ∧ NumsIn w.heap.size w' v ns) ∨ (argsOf rest more = none ∧ e = .returned (.tuple #[.slice none 0 0, .bool false]))) ∧ Below w.heap.size w w' := by
  cases more with
  | false =>
    clear hv
    go_enter Tryz.func89, Tryz.ntmps89
    go_wp2
    go_ret2
    exact ⟨Or.inl ⟨[], _, rfl, rfl, World.ownsRow_nil _ _ _ _⟩, Below.refl _ _⟩
  | true =>
    obtain ⟨i3, hi3, hz0, hz1, hz2⟩ := info_parts Tryz.info3
    have hsp := splitBl_any rest hl w hv.len
    have HV : Hid (Vars q w) := hv
    have hwl : (splitC 32 rest).length ≤ 1048577 := Nat.le_trans (splitC_len 32 rest) (by omega)
    have hxl : ∀ k, k < (splitC 32 rest).length → ((splitC 32 rest).getD k []).length ≤ 1048576 := fun k hk => by
      have := splitC_short 32 rest _ (List.getElem_mem hk)
      rw [List.getD_eq_getElem?_getD, List.getElem?_eq_getElem hk]
      exact Nat.le_trans this hl
    have HA : Hid (argsOf rest true = allOf numOf (splitC 32 rest)) := rfl
    clear hv hl
    generalize splitC 32 rest = ws at *
    go_enter Tryz.func89, Tryz.ntmps89
    go_wp2_with (first | (go_at_call 119; refine hsp.mono ?_; clear hsp; rintro e w1 ⟨rfl, ht1, hb1⟩; have HT1 : Hid (TextsAt w1 w.heap.size ws) := ht1; have HB1 : Hid (Below w.heap.size w w1) := hb1; clear ht1 hb1))
    go_loopw [6, 16] (fun s6 s16 wr => ∃ (k : Nat) (ns : List Nat), k ≤ ws.length ∧ ns.length = k ∧ s16 = .int .i64 k ∧ Hid (allOf numOf (ws.take k) = some ns) ∧ Hid (NumsIn w1.heap.size wr s6 ns) ∧ Hid (Below w1.heap.size w1 wr)) (fun _ s16 _ => ws.length - (intOf s16).toNat)
    case atStart => exact ⟨0, [], Nat.zero_le _, rfl, rfl, rfl, World.ownsRow_nil _ _ _ _, Below.refl _ _⟩
    case round =>
      obtain ⟨k, ns, hk, hnk, rfl, hall, hown, hb⟩ := hrel
      by_cases hkl : k < ws.length
      · have hcl := ((HT1.out.later hb.out).2 k hkl)
        have hlt := (HT1.out.later hb.out).1
        have hrn := readNumR_any (ws.getD k []) (hxl k hkl) q wr (HV.out.later (HB1.out.trans (hb.out.mono HB1.out.size)))
        cases hn : numOf (ws.getD k []) with
        | none =>
          have HF : Hid (allOf numOf ws = none) := allOf_bad_take hkl hn
          rw [hn] at hrn
          clear hn hxl
          generalize ws.getD k [] = word at *
          go_wp2_with (first | (go_at_call 120; refine hrn.mono ?_; clear hrn; rintro e w3 ⟨⟨n, rfl, -⟩, hb3⟩; have HB3 : Hid (Below wr.heap.size wr w3) := hb3; clear hb3))
          go_ret2
          exact ⟨Or.inr ⟨HA.out.trans HF.out, rfl⟩, HB1.out.trans ((hb.out.trans (HB3.out.mono hb.out.size)).mono HB1.out.size)⟩
        | some m =>
          have HS : Hid (allOf numOf (ws.take (k + 1)) = some (ns ++ [m])) := (by
            show _ = _
            have e : ws.take (k + 1) = ws.take k ++ [ws.getD k []] := by
              rw [List.take_succ_eq_append_getElem hkl, List.getD_eq_getElem?_getD, List.getElem?_eq_getElem hkl]; rfl
            rw [e]
            exact allOf_snoc numOf _ _ _ _ hall.out hn)
          have hrn2 := hrn.mono (R' := fun e w' => e = .returned (.tuple #[.int .i64 (m : Int), .bool true]) ∧ Below wr.heap.size wr w') (fun e w' ⟨⟨n, h1, h2⟩, h3⟩ => ⟨by rw [h1, h2 m hn, hn]; rfl, h3⟩)
          clear hn hrn hxl
          generalize ws.getD k [] = word at *
          go_wp2_with (first | (go_at_call 120; refine hrn2.mono ?_; clear hrn2; rintro e w3 ⟨rfl, hb3⟩; have HB3 : Hid (Below wr.heap.size wr w3) := hb3; have HO : Hid (NumsIn w1.heap.size w3 u6 ns) := hown.out.later' hb3; have hown2 := HO.out.alloc (.cells #[.int .i64 (m : Int)] 3); clear hb3) | (at_builtin; refine wpList_append_own _ rfl (.tmp 27) (.tmp 29) 73 rfl w1.heap.size 3 i3 (.int .i64 0) 1 8 Tryz.underlying73 hi3 hz0 hz1 hz2 rfl (by decide) _ ns.length (ns.map natV) rfl hown2 ⟨w3.heap.size, 0, none⟩ 1 1 [.int .i64 (m : Int)] rfl rfl ?c1 ?c2 ?c3 ?c4 ?c5 ?_))
          case c1 => exact cell_one_new w3 _ 3
          case c2 => intro u hu; simp at hu; subst hu; rfl
          case c3 => unfold maxLen; omega
          case c4 => omega
          case c5 => have := hb.out.size; have := HB3.out.size; simp; omega
          intro v' w4 hown' hgrow _
          have HB4 : Hid (Below w1.heap.size w1 w4) := ((hb.out.trans (HB3.out.mono hb.out.size)).alloc (by have := hb.out.size; have := HB3.out.size; omega) _).grown hgrow (by have := hb.out.size; have := HB3.out.size; simp; omega) (fun j e => (hown2.lt j e).1)
          have HO4 : Hid (NumsIn w1.heap.size w4 v' (ns ++ [m])) := (by
            show NumsIn _ _ _ _
            unfold NumsIn
            rw [List.length_append, List.map_append, hnk]
            exact hown')
          clear hown' hgrow hown2 hown
          go_wp2
          go_roundw
          case rel => exact ⟨k + 1, ns ++ [m], by omega, by simp; omega, by go_num, HS, HO4, HB4⟩
          case measure => simp [intOf]; omega
      · have hke : ws.take k = ws := List.take_of_length_le (by omega)
        rw [hke] at hall
        clear hke hxl
        go_wp2
        go_ret2
        exact ⟨Or.inl ⟨ns, _, HA.out.trans hall.out, rfl, NumsIn.mono hown.out HB1.out.size⟩, HB1.out.trans (hb.out.mono HB1.out.size)⟩
end Go.Proofs.YtlfbdjeojgbniaaGreatDoor

namespace Go.Proofs.YtlfbdjeojgbniaaGreatDoor
open Go.RowKit Go.Extern.Stop Go.Stop Go.Extern

theorem Tryz.typeOfL (v : Value) (w : World) : (ReflectliteType.typeOf #[.iface 132 v]).run Tryz.prog w = .ok (.iface 257 (.agg #[.pointer (some ⟨16, 132, none⟩)])) w := by kernel_rfl
theorem Tryz.typeOfS (v : Value) (w : World) : (ReflectliteType.typeOf #[.iface 313 v]).run Tryz.prog w = .ok (.iface 257 (.agg #[.pointer (some ⟨16, 313, none⟩)])) w := by kernel_rfl
theorem Tryz.assignableL (w : World) : (ReflectliteType.relation "AssignableTo" ReflectliteType.assignableTo #[.agg #[.pointer (some ⟨16, 132, none⟩)], .iface 257 (.agg #[.pointer (some ⟨16, 97, none⟩)])]).run Tryz.prog w = .ok (.bool false) w := by kernel_rfl
theorem Tryz.assignableS (w : World) : (ReflectliteType.relation "AssignableTo" ReflectliteType.assignableTo #[.agg #[.pointer (some ⟨16, 313, none⟩)], .iface 257 (.agg #[.pointer (some ⟨16, 97, none⟩)])]).run Tryz.prog w = .ok (.bool false) w := by kernel_rfl
theorem Tryz.asL (v : Value) (xT : TypeId) (w : World) : (Instr.typeAssert (.iface 132 v) xT 262 true).run Tryz.prog w = .ok (.tuple #[.nilIface, .bool false]) w := run_typeAssert_lacksB Tryz.underlying262 (by kernel_rfl) (by kernel_rfl) v xT w
theorem Tryz.asS (v : Value) (xT : TypeId) (w : World) : (Instr.typeAssert (.iface 313 v) xT 262 true).run Tryz.prog w = .ok (.tuple #[.nilIface, .bool false]) w := run_typeAssert_lacksB Tryz.underlying262 (by kernel_rfl) (by kernel_rfl) v xT w
theorem Tryz.unL (v : Value) (xT : TypeId) (w : World) : (Instr.typeAssert (.iface 132 v) xT 265 true).run Tryz.prog w = .ok (.tuple #[.iface 132 v, .bool true]) w := run_typeAssert_hasB Tryz.underlying265 (by kernel_rfl) v xT w
theorem Tryz.unS (v : Value) (xT : TypeId) (w : World) : (Instr.typeAssert (.iface 313 v) xT 265 true).run Tryz.prog w = .ok (.tuple #[.nilIface, .bool false]) w := run_typeAssert_lacksB Tryz.underlying265 (by kernel_rfl) (by kernel_rfl) v xT w
theorem Tryz.unsS (v : Value) (xT : TypeId) (w : World) : (Instr.typeAssert (.iface 313 v) xT 267 true).run Tryz.prog w = .ok (.tuple #[.nilIface, .bool false]) w := run_typeAssert_lacksB Tryz.underlying267 (by kernel_rfl) (by kernel_rfl) v xT w
theorem Tryz.methodUnwrap (v : Value) (w : World) : (Go.method 454 132 (.agg #[v]) "Unwrap").run Tryz.prog w = .ok (246, .agg #[v]) w := by kernel_rfl
theorem Tryz.methodErrorS (v : Value) (w : World) : (Go.method 454 313 v "Error").run Tryz.prog w = .ok (278, v) w := by kernel_rfl

/-- What Unwrap gives. -/
theorem unwrap_any (ev : Value) (hev : (∃ t v, ev = .iface t v)) (w : World) : Calls Tryz.prog 246 #[.agg #[ev]] w fun e w' => e = .returned ev ∧ w' = w.alloc (.cells #[ev] 132) := by
  obtain ⟨t, v, rfl⟩ := hev
  go_enter Tryz.func246, Tryz.ntmps246
  go_wp2
  go_ret
  exact ⟨rfl, rfl⟩
/-- An errno's name. -/
theorem errName_any (n : Int) (h1 : 1 ≤ n) (h8 : n ≤ 8) (w : World) : Calls Tryz.prog 99 #[.int .i64 n] w fun e w' => e = .returned (.string ⟨(nameT n).toArray⟩) ∧ Below w.heap.size w w' := by
  have hq : n = 1 ∨ n = 2 ∨ n = 3 ∨ n = 4 ∨ n = 5 ∨ n = 6 ∨ n = 7 ∨ n = 8 := by omega
  rcases hq with rfl | rfl | rfl | rfl | rfl | rfl | rfl | rfl
  all_goals
    go_enter Tryz.func99, Tryz.ntmps99
    go_wp2
    go_ret
    exact ⟨rfl, Below.refl _ _⟩

theorem cell_below {w w' : World} {a : Addr} {v : Value} (hb : Below w.heap.size w w') (h : w.cell? a = some v) (hl : a.block < w.heap.size) : w'.cell? a = some v := (hb.cell (p := a) hl).trans h
set_option maxRecDepth 100000 in
set_option maxHeartbeats 4000000 in
/-- errors.As finds the errno in a line's error. -/
theorem as_wrap (n : Int) (t : Addr) (old : Value) (w : World) (hg : w.cell? ⟨1, 0, none⟩ = some (.iface 257 (.agg #[.pointer (some ⟨16, 35, none⟩)]))) (ht0 : w.cell? t = some old) (hf0 : w.frozen? t = false) :
    Calls Tryz.prog 98 #[.iface 132 (.agg #[.iface 97 (.int .i64 n)]), .iface 178 (.pointer (some t))] w fun ev w' => ev = .returned (.bool true) ∧ w' = (((((w.alloc (.cells #[.pointer (some t)] 178)).alloc (.cells #[.pointer (some ⟨16, 178, none⟩), .pointer (some ⟨w.heap.size, 0, none⟩), .int .u64 150] 213)).alloc (.cells #[.pointer (some ⟨16, 178, none⟩), .pointer (some ⟨w.heap.size, 0, none⟩), .int .u64 150] 213)).alloc (.cells #[.iface 97 (.int .i64 n)] 132)).alloc (.cells #[.int .i64 n] 97)).setCell t (.int .i64 n) := by
  have h6 := @run_callFunc_extern Tryz.prog 132 _ (fun args => ReflectliteValue.unpack (args.getD 0 (.tuple #[]))) Tryz.func132 (by kernel_rfl) (by kernel_rfl) (by kernel_rfl) (by kernel_rfl)
  have h7 := @run_callFunc_extern Tryz.prog 133 _ (ReflectliteValue.methodAny (ReflectliteValue.valueError "reflectlite.Value.Type" 0) (fun t _ _ _ => ReflectliteType.toType t)) Tryz.func133 (by kernel_rfl) (by kernel_rfl) (by kernel_rfl) (by kernel_rfl)
  have h8 := @run_callFunc_extern Tryz.prog 134 _ (ReflectliteValue.method (ReflectliteValue.valueError "reflectlite.Value.IsNil" 0) ReflectliteValue.isNil) Tryz.func134 (by kernel_rfl) (by kernel_rfl) (by kernel_rfl) (by kernel_rfl)
  have h27 := @run_callFunc_extern Tryz.prog 240 _ (ReflectliteType.abiMethod fun t => do pure (.int .u8 (← Rtype.kind t))) Tryz.func240 (by kernel_rfl) (by kernel_rfl) (by kernel_rfl) (by kernel_rfl)
  have h37 := @run_callFunc_extern Tryz.prog 256 _ (ReflectliteType.method ReflectliteType.elem) Tryz.func256 (by kernel_rfl) (by kernel_rfl) (by kernel_rfl) (by kernel_rfl)
  have h38 := @run_callFunc_extern Tryz.prog 257 _ (ReflectliteType.relation "Implements" ReflectliteType.implements_) Tryz.func257 (by kernel_rfl) (by kernel_rfl) (by kernel_rfl) (by kernel_rfl)
  have h10 := @run_callFunc_extern Tryz.prog 166 _ ReflectliteType.typeOf Tryz.func166 (by kernel_rfl) (by kernel_rfl) (by kernel_rfl) (by kernel_rfl)
  have h35 := @run_callFunc_extern Tryz.prog 254 _ (ReflectliteType.relation "AssignableTo" ReflectliteType.assignableTo) Tryz.func254 (by kernel_rfl) (by kernel_rfl) (by kernel_rfl) (by kernel_rfl)
  have h11 := @run_callFunc_extern Tryz.prog 167 _ (ReflectliteValue.method (ReflectliteValue.valueError "reflectlite.Value.Elem" 0) ReflectliteValue.elem) Tryz.func167 (by kernel_rfl) (by kernel_rfl) (by kernel_rfl) (by kernel_rfl)
  have h12 := @run_callFunc_extern Tryz.prog 168 _ ReflectliteValue.set Tryz.func168 (by kernel_rfl) (by kernel_rfl) (by kernel_rfl) (by kernel_rfl)
  have tO := Tryz.typeOf38
  have a25 := Tryz.assignable38
  have v25 := Tryz.valueOf38
  have mA := Tryz.methodAssignableTo
  have f6 := Tryz.valueOf45
  have f7 := Tryz.type45
  have mK := Tryz.methodKind
  have mE := Tryz.methodElem
  have mI := Tryz.methodImplements
  have mU := Tryz.methodUnwrap
  have k27 := Tryz.kind45
  have k25 := Tryz.kind38
  have e27 := Tryz.elem45
  have i25 := Tryz.implements38
  have tL := Tryz.typeOfL
  have aL := Tryz.assignableL
  have sL := Tryz.asL
  have uL := Tryz.unL
  have n8 := Tryz.isNil45 ⟨w.heap.size, 0, none⟩ t ((w.alloc (.cells #[.pointer (some t)] 178)).alloc (.cells #[.pointer (some ⟨16, 178, none⟩), .pointer (some ⟨w.heap.size, 0, none⟩), .int .u64 150] 213)) (by simp)
  have hlt : 1 < w.heap.size := by
    rcases Nat.lt_or_ge 1 w.heap.size with h | h
    · exact h
    · simp [World.cell?, Array.getElem?_eq_none h] at hg
  have hg2 : ((w.alloc (.cells #[.pointer (some t)] 178)).alloc (.cells #[.pointer (some ⟨16, 178, none⟩), .pointer (some ⟨w.heap.size, 0, none⟩), .int .u64 150] 213)).cell? ⟨1, 0, none⟩ = some (.iface 257 (.agg #[.pointer (some ⟨16, 35, none⟩)])) := by
    rw [World.cell?_alloc_lt _ _ ⟨1, 0, none⟩ (by simp <;> omega), World.cell?_alloc_lt _ _ ⟨1, 0, none⟩ hlt]; exact hg
  have htl : t.block < w.heap.size := by
    rcases Nat.lt_or_ge t.block w.heap.size with h | h
    · exact h
    · simp [World.cell?, Array.getElem?_eq_none h] at ht0
  have hun := unwrap_any (.iface 97 (.int .i64 n)) ⟨_, _, rfl⟩ (((w.alloc (.cells #[.pointer (some t)] 178)).alloc (.cells #[.pointer (some ⟨16, 178, none⟩), .pointer (some ⟨w.heap.size, 0, none⟩), .int .u64 150] 213)).alloc (.cells #[.pointer (some ⟨16, 178, none⟩), .pointer (some ⟨w.heap.size, 0, none⟩), .int .u64 150] 213))
  have b4 : Below w.heap.size w ((((w.alloc (.cells #[.pointer (some t)] 178)).alloc (.cells #[.pointer (some ⟨16, 178, none⟩), .pointer (some ⟨w.heap.size, 0, none⟩), .int .u64 150] 213)).alloc (.cells #[.pointer (some ⟨16, 178, none⟩), .pointer (some ⟨w.heap.size, 0, none⟩), .int .u64 150] 213)).alloc (.cells #[.iface 97 (.int .i64 n)] 132)) := ((((Below.refl _ _).alloc (Nat.le_refl _) _).alloc (by simp) _).alloc (by simp <;> omega) _).alloc (by simp <;> omega) _
  have b5 : Below w.heap.size w (((((w.alloc (.cells #[.pointer (some t)] 178)).alloc (.cells #[.pointer (some ⟨16, 178, none⟩), .pointer (some ⟨w.heap.size, 0, none⟩), .int .u64 150] 213)).alloc (.cells #[.pointer (some ⟨16, 178, none⟩), .pointer (some ⟨w.heap.size, 0, none⟩), .int .u64 150] 213)).alloc (.cells #[.iface 97 (.int .i64 n)] 132)).alloc (.cells #[.int .i64 n] 97)) := b4.alloc b4.size _
  have el := Tryz.elemV45 ⟨w.heap.size, 0, none⟩ t ((((w.alloc (.cells #[.pointer (some t)] 178)).alloc (.cells #[.pointer (some ⟨16, 178, none⟩), .pointer (some ⟨w.heap.size, 0, none⟩), .int .u64 150] 213)).alloc (.cells #[.pointer (some ⟨16, 178, none⟩), .pointer (some ⟨w.heap.size, 0, none⟩), .int .u64 150] 213)).alloc (.cells #[.iface 97 (.int .i64 n)] 132)) (by
    rw [World.cell?_alloc_lt _ _ ⟨w.heap.size, 0, none⟩ (by simp <;> omega), World.cell?_alloc_lt _ _ ⟨w.heap.size, 0, none⟩ (by simp <;> omega), World.cell?_alloc_lt _ _ ⟨w.heap.size, 0, none⟩ (by simp <;> omega)]
    rw [World.cell?_alloc_at _ _ _ _ (by simp)]; rfl)
  have st := Tryz.set38 t ⟨w.heap.size + 1 + 1 + 1 + 1, 0, none⟩ n old (((((w.alloc (.cells #[.pointer (some t)] 178)).alloc (.cells #[.pointer (some ⟨16, 178, none⟩), .pointer (some ⟨w.heap.size, 0, none⟩), .int .u64 150] 213)).alloc (.cells #[.pointer (some ⟨16, 178, none⟩), .pointer (some ⟨w.heap.size, 0, none⟩), .int .u64 150] 213)).alloc (.cells #[.iface 97 (.int .i64 n)] 132)).alloc (.cells #[.int .i64 n] 97))
    (by rw [World.cell?_alloc_at _ _ _ _ (by simp)]; rfl)
    (cell_below b5 ht0 htl)
    (by rw [World.frozen?_alloc_old _ _ t (by simp <;> omega), World.frozen?_alloc_old _ _ t (by simp <;> omega), World.frozen?_alloc_old _ _ t (by simp <;> omega), World.frozen?_alloc_old _ _ t (by simp <;> omega), World.frozen?_alloc_old _ _ t (Nat.ne_of_lt htl)]; exact hf0)
  clear b4 b5
  go_enter Tryz.func98, Tryz.ntmps98
  go_wp2
  refine wp_loop_rounds 2 ?_
  rw [rounds_succ]
  go_wp2_with (first | (go_at_call 246; refine hun.mono ?_; clear hun; rintro e w4 ⟨rfl, rfl⟩) | go_in)
  rw [rounds_succ]
  go_wp2
  go_ret
  exact ⟨rfl, rfl⟩
end Go.Proofs.YtlfbdjeojgbniaaGreatDoor

namespace Go.Proofs.YtlfbdjeojgbniaaGreatDoor
open Go.RowKit Go.Deep Go.Extern.Stop Go.Stop Go.Extern

set_option maxRecDepth 100000 in
set_option maxHeartbeats 4000000 in
/-- errors.As finds none where the line has not its words. -/
theorem as_bad (q : Addr) (t : Addr) (old : Value) (w : World) (hg : w.cell? ⟨1, 0, none⟩ = some (.iface 257 (.agg #[.pointer (some ⟨16, 35, none⟩)]))) (ht0 : w.cell? t = some old) (_hf0 : w.frozen? t = false) :
    Calls Tryz.prog 98 #[.iface 132 (.agg #[badV q]), .iface 178 (.pointer (some t))] w fun ev w' => ev = .returned (.bool false) ∧ w' = ((((w.alloc (.cells #[.pointer (some t)] 178)).alloc (.cells #[.pointer (some ⟨16, 178, none⟩), .pointer (some ⟨w.heap.size, 0, none⟩), .int .u64 150] 213)).alloc (.cells #[.pointer (some ⟨16, 178, none⟩), .pointer (some ⟨w.heap.size, 0, none⟩), .int .u64 150] 213)).alloc (.cells #[badV q] 132)) := by
  have h6 := @run_callFunc_extern Tryz.prog 132 _ (fun args => ReflectliteValue.unpack (args.getD 0 (.tuple #[]))) Tryz.func132 (by kernel_rfl) (by kernel_rfl) (by kernel_rfl) (by kernel_rfl)
  have h7 := @run_callFunc_extern Tryz.prog 133 _ (ReflectliteValue.methodAny (ReflectliteValue.valueError "reflectlite.Value.Type" 0) (fun t _ _ _ => ReflectliteType.toType t)) Tryz.func133 (by kernel_rfl) (by kernel_rfl) (by kernel_rfl) (by kernel_rfl)
  have h8 := @run_callFunc_extern Tryz.prog 134 _ (ReflectliteValue.method (ReflectliteValue.valueError "reflectlite.Value.IsNil" 0) ReflectliteValue.isNil) Tryz.func134 (by kernel_rfl) (by kernel_rfl) (by kernel_rfl) (by kernel_rfl)
  have h27 := @run_callFunc_extern Tryz.prog 240 _ (ReflectliteType.abiMethod fun t => do pure (.int .u8 (← Rtype.kind t))) Tryz.func240 (by kernel_rfl) (by kernel_rfl) (by kernel_rfl) (by kernel_rfl)
  have h37 := @run_callFunc_extern Tryz.prog 256 _ (ReflectliteType.method ReflectliteType.elem) Tryz.func256 (by kernel_rfl) (by kernel_rfl) (by kernel_rfl) (by kernel_rfl)
  have h38 := @run_callFunc_extern Tryz.prog 257 _ (ReflectliteType.relation "Implements" ReflectliteType.implements_) Tryz.func257 (by kernel_rfl) (by kernel_rfl) (by kernel_rfl) (by kernel_rfl)
  have h10 := @run_callFunc_extern Tryz.prog 166 _ ReflectliteType.typeOf Tryz.func166 (by kernel_rfl) (by kernel_rfl) (by kernel_rfl) (by kernel_rfl)
  have h35 := @run_callFunc_extern Tryz.prog 254 _ (ReflectliteType.relation "AssignableTo" ReflectliteType.assignableTo) Tryz.func254 (by kernel_rfl) (by kernel_rfl) (by kernel_rfl) (by kernel_rfl)
  have h11 := @run_callFunc_extern Tryz.prog 167 _ (ReflectliteValue.method (ReflectliteValue.valueError "reflectlite.Value.Elem" 0) ReflectliteValue.elem) Tryz.func167 (by kernel_rfl) (by kernel_rfl) (by kernel_rfl) (by kernel_rfl)
  have h12 := @run_callFunc_extern Tryz.prog 168 _ ReflectliteValue.set Tryz.func168 (by kernel_rfl) (by kernel_rfl) (by kernel_rfl) (by kernel_rfl)
  have tS := Tryz.typeOfS
  have aS := Tryz.assignableS
  have sS := Tryz.asS
  have uS := Tryz.unS
  have uuS := Tryz.unsS
  have mA := Tryz.methodAssignableTo
  have f6 := Tryz.valueOf45
  have f7 := Tryz.type45
  have mK := Tryz.methodKind
  have mE := Tryz.methodElem
  have mI := Tryz.methodImplements
  have mU := Tryz.methodUnwrap
  have k27 := Tryz.kind45
  have k25 := Tryz.kind38
  have e27 := Tryz.elem45
  have i25 := Tryz.implements38
  have tL := Tryz.typeOfL
  have aL := Tryz.assignableL
  have sL := Tryz.asL
  have uL := Tryz.unL
  have n8 := Tryz.isNil45 ⟨w.heap.size, 0, none⟩ t ((w.alloc (.cells #[.pointer (some t)] 178)).alloc (.cells #[.pointer (some ⟨16, 178, none⟩), .pointer (some ⟨w.heap.size, 0, none⟩), .int .u64 150] 213)) (by simp)
  have hlt : 1 < w.heap.size := by
    rcases Nat.lt_or_ge 1 w.heap.size with h | h
    · exact h
    · simp [World.cell?, Array.getElem?_eq_none h] at hg
  have hg2 : ((w.alloc (.cells #[.pointer (some t)] 178)).alloc (.cells #[.pointer (some ⟨16, 178, none⟩), .pointer (some ⟨w.heap.size, 0, none⟩), .int .u64 150] 213)).cell? ⟨1, 0, none⟩ = some (.iface 257 (.agg #[.pointer (some ⟨16, 35, none⟩)])) := by
    rw [World.cell?_alloc_lt _ _ ⟨1, 0, none⟩ (by simp <;> omega), World.cell?_alloc_lt _ _ ⟨1, 0, none⟩ hlt]; exact hg
  have htl : t.block < w.heap.size := by
    rcases Nat.lt_or_ge t.block w.heap.size with h | h
    · exact h
    · simp [World.cell?, Array.getElem?_eq_none h] at ht0
  have hun := unwrap_any (badV q) ⟨_, _, rfl⟩ (((w.alloc (.cells #[.pointer (some t)] 178)).alloc (.cells #[.pointer (some ⟨16, 178, none⟩), .pointer (some ⟨w.heap.size, 0, none⟩), .int .u64 150] 213)).alloc (.cells #[.pointer (some ⟨16, 178, none⟩), .pointer (some ⟨w.heap.size, 0, none⟩), .int .u64 150] 213))
  unfold badV at hun ⊢
  go_enter Tryz.func98, Tryz.ntmps98
  go_wp2
  refine wp_loop_rounds 2 ?_
  rw [rounds_succ]
  go_wp2_with (first | (go_at_call 246; refine hun.mono ?_; clear hun; rintro e w4 ⟨rfl, rfl⟩) | go_in)
  rw [rounds_succ]
  go_wp2
  go_ret
  exact ⟨rfl, rfl⟩
end Go.Proofs.YtlfbdjeojgbniaaGreatDoor
