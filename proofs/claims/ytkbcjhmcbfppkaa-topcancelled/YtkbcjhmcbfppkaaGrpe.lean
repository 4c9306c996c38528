/- Groups in a row of their own; the contracts of slices.Clone at groups, and of groups.Cancel. -/
import Derived.Test.YtkbcjhmcbfppkaaGrpd
import Derived.Lib.SliceRun
import Derived.Maps.AppendAt
namespace Go.Proofs.Ytkbcjhmcbfppkaa
open Go.RowKit Go.Deep

theorem Try.info27 : (Try.prog.info? 27).map (fun i => (i.zero, i.size, i.bytes)) = some (some (.agg #[.int .i64 0, .bool false]), 2, 16) := by kernel_rfl

/-- Groups, cell by cell. -/
def flatG (gs : List Grp) : List Value := gs.flatMap (fun g => [.int .i64 g.1, .bool g.2])
theorem flatG_length (gs : List Grp) : (flatG gs).length = gs.length * 2 := by
  induction gs with
  | nil => rfl
  | cons a r ih =>
    show (([Value.int .i64 a.1, Value.bool a.2] : List Value) ++ flatG r).length = _
    rw [List.length_append, ih]
    simp
    omega
theorem flatG_append (a b : List Grp) : flatG (a ++ b) = flatG a ++ flatG b := by simp [flatG]
theorem flatG_at (gs : List Grp) : ∀ k, k < gs.length → (flatG gs)[k * 2]? = some (.int .i64 (parG gs k)) ∧ (flatG gs)[k * 2 + 1]? = some (.bool (canG gs k)) := by
  induction gs with
  | nil => intro k hk; simp at hk
  | cons a r ih =>
    intro k hk
    show (([Value.int .i64 a.1, Value.bool a.2] : List Value) ++ flatG r)[k * 2]? = _ ∧ (([Value.int .i64 a.1, Value.bool a.2] : List Value) ++ flatG r)[k * 2 + 1]? = _
    cases k with
    | zero => exact ⟨rfl, rfl⟩
    | succ k =>
      have h := ih k (by simpa using hk)
      rw [List.getElem?_append_right (by simp; omega), List.getElem?_append_right (by simp; omega)]
      have e1 : (k + 1) * 2 - ([Value.int .i64 a.1, Value.bool a.2] : List Value).length = k * 2 := by simp; omega
      have e2 : (k + 1) * 2 + 1 - ([Value.int .i64 a.1, Value.bool a.2] : List Value).length = k * 2 + 1 := by simp; omega
      rw [e1, e2]
      exact h
theorem flatG_one (gs : List Grp) : ∀ u ∈ flatG gs, u.oneCell' = true := by
  intro u hu
  obtain ⟨g, _, h⟩ := List.mem_flatMap.1 hu
  simp at h
  rcases h with rfl | rfl <;> rfl
/-- A list of groups by its cells. -/
theorem flatG_ext {gs hs : List Grp} (hl : gs.length = hs.length) (h : ∀ k, k < gs.length → parG gs k = parG hs k ∧ canG gs k = canG hs k) : gs = hs := by
  refine List.ext_getElem? fun k => ?_
  by_cases hk : k < gs.length
  · obtain ⟨h1, h2⟩ := h k hk
    unfold parG at h1
    unfold canG at h2
    rw [List.getD_eq_getElem?_getD, List.getD_eq_getElem?_getD, List.getElem?_eq_getElem hk, List.getElem?_eq_getElem (hl ▸ hk)] at h1 h2
    rw [List.getElem?_eq_getElem hk, List.getElem?_eq_getElem (hl ▸ hk)]
    exact congrArg some (Prod.ext h1 h2)
  · rw [List.getElem?_eq_none (by omega), List.getElem?_eq_none (by omega)]
theorem flatG_setC {gs : List Grp} {i : Nat} (hi : i < gs.length) : (flatG gs).set (i * 2 + 1) (.bool true) = flatG (setC gs i) := by
  refine List.ext_getElem? fun j => ?_
  by_cases hj : j < gs.length * 2
  · have h1 := flatG_at gs (j / 2) (by omega)
    have h2 := flatG_at (setC gs i) (j / 2) (by rw [setC_length]; omega)
    rw [parG_setC hi, canG_setC hi] at h2
    rw [List.getElem?_set]
    rcases Nat.mod_two_eq_zero_or_one j with e | e
    · have ej : j / 2 * 2 = j := by omega
      rw [ej] at h1 h2
      rw [if_neg (by omega), h1.1, h2.1]
    · have ej : j / 2 * 2 + 1 = j := by omega
      rw [ej] at h1 h2
      by_cases e2 : i * 2 + 1 = j
      · rw [if_pos e2, if_pos (by rw [flatG_length]; omega), h2.2]
        have : j / 2 = i := by omega
        simp [this]
      · rw [if_neg e2, h1.2, h2.2]
        have : ¬ j / 2 = i := by omega
        simp [this]
  · rw [List.getElem?_eq_none (by rw [List.length_set, flatG_length]; omega), List.getElem?_eq_none (by rw [flatG_length, setC_length]; omega)]

theorem ownsRow_low {w : World} {base base' : Nat} {e : TypeId} {size : Nat} {v : Value} {n : Nat} {xs : List Value} (h : w.ownsRow base e size v n xs) (hb : base' ≤ base) : w.ownsRow base' e size v n xs :=
  ⟨h.1, h.2.imp id (fun ⟨g, cap, cur, hv, hg, r⟩ => ⟨g, cap, cur, hv, Nat.le_trans hb hg, r⟩)⟩
/-- Groups in a row of the call's own, in a block from b on. -/
def RowG (b : Nat) (w : World) (v : Value) (gs : List Grp) : Prop := w.ownsRow b 27 2 v gs.length (flatG gs)
theorem RowG.grps {b : Nat} {w : World} {v : Value} {gs : List Grp} (h : RowG b w v gs) (hl : gs.length * 16 ≤ 140737488351232) : GrpsAt w v gs := by
  refine ⟨hl, ?_⟩
  rcases h.2 with ⟨hv, h0⟩ | ⟨g, cap, cur, hv, _, hh, _⟩
  · exact ⟨none, 0, by rw [hv, h0], Or.inl (List.eq_nil_of_length_eq_zero h0)⟩
  · subst hv
    refine ⟨_, _, rfl, Or.inr ⟨g, 0, rfl, lt_of_block hh, fun k hk => ?_⟩⟩
    have e1 := World.ownsRow.cellAt h (k * 2) (by omega)
    have e2 := World.ownsRow.cellAt h (k * 2 + 1) (by omega)
    obtain ⟨h1, h2⟩ := flatG_at gs k hk
    rw [Nat.zero_add]
    exact ⟨e1.trans h1, e2.trans h2⟩
theorem RowG.later {b : Nat} {w w' : World} {v : Value} {gs : List Grp} (h : RowG b w v gs) (hb : Below w.heap.size w w') : RowG b w' v gs :=
  h.kept (row := none) ⟨hb.os, hb.tape, hb.output, hb.size, fun k hk _ => hb.block k hk⟩ (by cases v.ownBlock <;> simp)
theorem RowG.shape {b : Nat} {w : World} {v : Value} {gs : List Grp} (h : RowG b w v gs) (hn : 0 < gs.length) : ∃ g cap, v = .slice (some ⟨g, 0, none⟩) gs.length cap ∧ b ≤ g ∧ g < w.heap.size := by
  rcases h.2 with ⟨_, h0⟩ | ⟨g, cap, cur, hv, hg, hh, _⟩
  · omega
  · exact ⟨g, cap, hv, hg, lt_of_block hh⟩
theorem add_lit (b off j : Nat) : (⟨b, off, none⟩ : Addr).add j = ⟨b, off + j, none⟩ := by
  unfold Addr.add
  split
  · rename_i h; subst h; rfl
  · rfl
/-- What an append of groups reads. -/
theorem grps_cells {w : World} {b o : Nat} {gs : List Grp} (hc : ∀ k, k < gs.length → w.cell? ⟨b, o + k * 2, none⟩ = some (.int .i64 (parG gs k)) ∧ w.cell? ⟨b, o + k * 2 + 1, none⟩ = some (.bool (canG gs k))) :
    ∀ j u, (flatG gs)[j]? = some u → w.cell? ((⟨b, o, none⟩ : Addr).add j) = some u := by
  intro j u hj
  have hjl : j < gs.length * 2 := by rw [← flatG_length]; exact (List.getElem?_eq_some_iff.1 hj).1
  rw [add_lit]
  have h1 := flatG_at gs (j / 2) (by omega)
  have h2 := hc (j / 2) (by omega)
  rcases Nat.mod_two_eq_zero_or_one j with e | e
  · have ej : j / 2 * 2 = j := by omega
    rw [ej] at h1 h2
    rw [h2.1, ← hj, h1.1]
  · have ej : j / 2 * 2 + 1 = j := by omega
    rw [Nat.add_assoc, ej] at h2
    rw [ej] at h1
    rw [h2.2, ← hj, h1.2]

set_option maxRecDepth 100000 in
set_option maxHeartbeats 1000000 in
theorem gclone_any (v : Value) (gs : List Grp) (w : World) (hg : GrpsAt w v gs) (h0 : 0 < gs.length) (h12 : gs.length ≤ 12) :
    Calls Try.prog 13 #[v] w fun e w' => ∃ g cap, e = .returned (.slice (some ⟨g, 0, none⟩) gs.length cap) ∧ RowG w.heap.size w' (.slice (some ⟨g, 0, none⟩) gs.length cap) gs ∧ Below w.heap.size w w' := by
  obtain ⟨i3, hi3, hz0, hz1, hz2⟩ := info_parts Try.info27
  have hA := hg.later (((Below.refl _ _).alloc (Nat.le_refl _) (.cells #[] 27)) : Below w.heap.size w (w.alloc (.cells #[] 27)))
  clear hg
  obtain ⟨hl, a, c, rfl, hA⟩ := hA
  rcases hA with rfl | ⟨b, o, rfl, hbl, hc⟩
  · simp at h0
  have hsrc := grps_cells hc
  clear hc
  have hemp : (w.alloc (.cells #[] 27)).ownsRow w.heap.size 27 2 (.slice (some ⟨w.heap.size, 0, none⟩) 0 0) 0 [] := World.ownsRow_lit (base := w.heap.size) (e := 27) (size := 2) w #[] 0 (Nat.le_refl _) (by unfold maxLen; omega) rfl
  have hnil := fun (wx : World) => Lib.run_eql_slice_nil (P := Try.prog) wx 22 27 (some ⟨b, o, none⟩) gs.length c 0 0 Try.underlying22
  go_enter Try.func13, Try.ntmps13
  go_wp2_with (at_builtin; refine wpList_append_own _ rfl (.tmp 5) (.tmp 6) 22 rfl w.heap.size 27 i3 (.agg #[.int .i64 0, .bool false]) 2 16 Try.underlying22 hi3 hz0 hz1 hz2 rfl (by decide) _ 0 [] rfl hemp ⟨b, o, none⟩ gs.length c (flatG gs) rfl (flatG_length gs) hsrc (flatG_one gs) ?c3 ?c4 ?c5 ?_)
  case c3 => unfold maxLen; omega
  case c4 => omega
  case c5 => simp
  intro v' w1 hown' hgrow _
  replace hown' : w1.ownsRow w.heap.size 27 2 v' gs.length (flatG gs) := by simpa using hown'
  obtain ⟨vg, vc, rfl, -, -⟩ := RowG.shape hown' h0
  have hB : Below w.heap.size w w1 := ((Below.refl _ _).alloc (Nat.le_refl _) _).grown hgrow (by simp) (fun k e => by simp [Value.ownBlock] at e; omega)
  go_wp2
  go_ret
  exact ⟨_, _, rfl, hown', hB⟩

/-- What Cancel hands back. -/
def CancelOut (gs : List Grp) (i : Int) (B : Nat) (e : Ending) (w' : World) : Prop :=
  (placeErr gs i ≠ 0 ∧ e = .returned (.tuple #[.slice none 0 0, errV (placeErr gs i)])) ∨
  (placeErr gs i = 0 ∧ ∃ g cap, e = .returned (.tuple #[.slice (some ⟨g, 0, none⟩) gs.length cap, .nilIface]) ∧ RowG B w' (.slice (some ⟨g, 0, none⟩) gs.length cap) (setC gs i.toNat))

set_option maxRecDepth 100000 in
set_option maxHeartbeats 1000000 in
theorem gCancel_any (v : Value) (gs : List Grp) (i : Int) (w : World) (hg : GrpsAt w v gs) :
    Calls Try.prog 5 #[v, .int .i64 i] w fun e w' => CancelOut gs i w.heap.size e w' ∧ Below w.heap.size w w' := by
  have hck := checkPlace_any v gs i w hg
  have HG : Hid (GrpsAt w v gs) := hg
  obtain ⟨hl, a, c, rfl, hg⟩ := hg
  clear hg
  by_cases hq : placeErr gs i = 0
  · obtain ⟨h12, hr, k, rfl, hk⟩ := placeErr_zero hq
    have HF : Hid (∀ g cap w', RowG w.heap.size w' (.slice (some ⟨g, 0, none⟩) gs.length cap) (setC gs k) → CancelOut gs k w.heap.size (.returned (.tuple #[.slice (some ⟨g, 0, none⟩) gs.length cap, .nilIface])) w') := fun g cap w' h => Or.inr ⟨hq, g, cap, rfl, by rw [Int.toNat_natCast]; exact h⟩
    rw [hq, errV_zero] at hck
    clear hq hr
    go_enter Try.func5, Try.ntmps5
    go_wp2_with fail
    refine hck.mono ?_
    rintro e w1 ⟨rfl, hb⟩
    have hcl := gclone_any _ gs w1 (HG.out.later hb) (by omega) h12
    clear hck HG
    go_wp2_with fail
    refine hcl.mono ?_
    rintro e w2 ⟨g, cap, rfl, hrow, hb2⟩
    clear hcl
    have hst := World.ownsRow.stored hrow (k * 2 + 1) (.bool true)
    have hfz := World.ownsRow.frozenAt hrow (k * 2 + 1)
    have hcell := (World.ownsRow.cellAt hrow (k * 2 + 1) (by omega)).trans (flatG_at gs k hk).2
    have hgb : w1.heap.size ≤ g := (hrow.lt g rfl).1
    rw [flatG_setC hk] at hst
    have hst2 : Hid (RowG w.heap.size (w2.setCell ⟨g, k * 2 + 1, none⟩ (.bool true)) (.slice (some ⟨g, 0, none⟩) gs.length cap) (setC gs k)) := by
      have := ownsRow_low hst.1 hb.size
      show RowG _ _ _ _
      unfold RowG
      rw [setC_length]
      exact this
    have hB : Hid (Below w.heap.size w (w2.setCell ⟨g, k * 2 + 1, none⟩ (.bool true))) := (hb.trans (hb2.mono hb.size)).setCell (Nat.le_trans hb.size hgb) _
    clear hst hrow
    generalize canG gs k = q at *
    go_wp2
    go_ret2
    exact ⟨HF.out _ _ _ hst2.out, hB.out⟩
  · have HF : Hid (∀ u w', u = errV (placeErr gs i) → CancelOut gs i w.heap.size (.returned (.tuple #[.slice none 0 0, u])) w') := fun u w' hu => Or.inl ⟨hq, by rw [hu]⟩
    rw [errV_some hq] at hck HF
    clear hq HG
    generalize placeErr gs i = q at *
    go_enter Try.func5, Try.ntmps5
    go_wp2_with (go_at_call 12; refine hck.mono ?_; rintro e w1 ⟨rfl, hb⟩)
    go_ret2
    exact ⟨HF.out _ _ rfl, hb⟩
end Go.Proofs.Ytkbcjhmcbfppkaa
