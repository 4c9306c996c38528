/- trace.Counts. -/
import Derived.Test.YtiekhigjllbalaaGreatDoorTka
import Derived.Test.YtiekhigjllbalaaGreatDoorTb
namespace Go.Proofs.YtiekhigjllbalaaGreatDoor
open Go.RowKit Go.Deep

/-- How many there are of each kind. -/
def cntRow (ds : List Deed) : Nat → Value := fun k => .int .i64 ((cntD ((k : Int) + 1) ds : Nat) : Int)
theorem cntD_take {ds : List Deed} {k : Nat} (hk : k < ds.length) (a : Int) : cntD a (ds.take (k + 1)) = cntD a (ds.take k) + if (ds.getD k (0, 0, 0, 0)).1 = a then 1 else 0 := by
  unfold cntD
  rw [List.take_succ_eq_append_getElem hk, List.filter_append, List.length_append, List.getD_eq_getElem?_getD, List.getElem?_eq_getElem hk]
  by_cases e : ds[k].1 = a
  · simp [e]
  · simp [e]
theorem cntD_le (a : Int) (ds : List Deed) : cntD a ds ≤ ds.length := by unfold cntD; exact List.length_filter_le _ _
theorem cntRow_next {ds : List Deed} {k j : Nat} (hk : k < ds.length) (hj : (ds.getD k (0, 0, 0, 0)).1 = (j : Int) + 1) (i : Nat) : (if i = j then Value.int .i64 ((cntD ((j : Int) + 1) (ds.take k) : Nat) + 1) else cntRow (ds.take k) i) = cntRow (ds.take (k + 1)) i := by
  unfold cntRow
  rw [cntD_take hk]
  by_cases e : i = j
  · subst e; rw [if_pos rfl, if_pos hj]; rfl
  · rw [if_neg e, if_neg (by rw [hj]; omega)]; rfl
theorem Tryz.infoIntC : (Tryz.prog.info? 3).map (fun i => (i.zero, i.size, i.bytes)) = some (some (.int .i64 0), 1, 8) := by kernel_rfl
set_option maxRecDepth 100000 in
set_option maxHeartbeats 4000000 in
/-- Its row is new. -/
theorem counts_any (v : Value) (ds : List Deed) (w : World) (hv : DeedsAt w v ds) :
    Calls Tryz.prog 11 #[v] w fun e w' => ((deedsErr ds ≠ 0 ∧ e = .returned (.tuple #[.slice none 0 0, errV (deedsErr ds)])) ∨ (deedsErr ds = 0 ∧ ∃ b, e = .returned (.tuple #[.slice (some ⟨b, 0, none⟩) 6 6, .nilIface]) ∧ w.heap.size ≤ b ∧ w'.rowIs b 3 6 (cntRow ds))) ∧ Below w.heap.size w w' := by
  have hcd := checkDeeds_any v ds w hv
  have HV : Hid (DeedsAt w v ds) := hv
  obtain ⟨_, a, c, rfl, _⟩ := hv
  by_cases he : deedsErr ds = 0
  case neg =>
    have HZ : Hid (deedsErr ds ≠ 0) := he
    have HE : Hid (errV (deedsErr ds) = .iface 51 (.int .i64 (deedsErr ds))) := errV_some he
    rw [errV_some he] at hcd
    clear he
    generalize deedsErr ds = de at *
    go_enter Tryz.func11, Tryz.ntmps11
    go_wp2_with (first | (go_at_call 20; refine hcd.mono ?_; clear hcd; rintro e w1 ⟨rfl, hb1⟩))
    go_ret2
    exact ⟨Or.inl ⟨HZ.out, by rw [HE.out]; rfl⟩, hb1⟩
  case pos =>
    rw [he, errV_zero] at hcd
    obtain ⟨hl, hok⟩ := deedsErr_zero he
    have HZ : Hid (deedsErr ds = 0) := he
    have HOK : Hid (∀ k, k < ds.length → deedE (ds.getD k (0, 0, 0, 0)) = 0) := fun k hk => hok _ (by rw [List.getD_eq_getElem?_getD, List.getElem?_eq_getElem hk]; exact List.getElem_mem hk)
    have hmk : ∀ wx : World, (Instr.makeSlice 32 (.int .i64 6) (.int .i64 6)).run Tryz.prog wx = .ok (.slice (some ⟨wx.heap.size, 0, none⟩) 6 6) (wx.alloc (.cells (madeCells #[.int .i64 0] 6) 3)) := fun wx => run_make_row' (P := Tryz.prog) 32 3 (.int .i64 0) 8 Tryz.underlying32 Tryz.infoIntC rfl .i64 .i64 6 (by omega) (by omega) wx
    clear he hok
    go_enter Tryz.func11, Tryz.ntmps11
    go_wp2_with (first | (go_at_call 20; refine hcd.mono ?_; clear hcd; rintro e w1 ⟨rfl, hb1⟩; have HB1 : Hid (Below w.heap.size w w1) := hb1; clear hb1))
    have HR0 : Hid ((w1.alloc (.cells (madeCells #[.int .i64 0] 6) 3)).rowIs w1.heap.size 3 6 (cntRow (ds.take 0))) := (World.rowIs_made w1 (.int .i64 0) 6 3).congr (fun j _ => rfl)
    have HB2 : Hid (Below w1.heap.size w1 (w1.alloc (.cells (madeCells #[.int .i64 0] 6) 3))) := (Below.refl _ _).alloc (Nat.le_refl _) _
    clear hmk
    go_loopw [16] (fun s16 wr => ∃ k : Nat, k ≤ ds.length ∧ s16 = .int .i64 k ∧ Hid (wr.rowIs w1.heap.size 3 6 (cntRow (ds.take k))) ∧ Hid (Below w1.heap.size w1 wr)) (fun s16 _ => ds.length - (intOf s16).toNat)
    case atStart => exact ⟨0, Nat.zero_le _, rfl, HR0, HB2⟩
    case round =>
      clear HR0 HB2
      obtain ⟨k, hk, rfl, hrow, hb⟩ := hrel
      by_cases hkl : k < ds.length
      · obtain ⟨b, o, rfl, hbl, c0, c1, c2, c3⟩ := (HV.out.later (HB1.out.trans (hb.out.mono HB1.out.size))).four hkl
        obtain ⟨⟨h1, h6⟩, -⟩ := deed_parts (HOK.out k hkl)
        obtain ⟨j, hj⟩ : ∃ j : Nat, (ds.getD k (0, 0, 0, 0)).1 = (j : Int) + 1 := ⟨((ds.getD k (0, 0, 0, 0)).1 - 1).toNat, by omega⟩
        have hj6 : j < 6 := by omega
        have hji : (j : Int) < 6 := by omega
        have hsub : IntKind.i64.wrap ((j : Int) + 1 - 1) = (j : Int) := by rw [IntKind.wrap_i64]; omega
        have hsub2 : (j : Int) + 1 - 1 = (j : Int) := by omega
        have HNX : Hid (∀ i, (if i = j then Value.int .i64 ((cntD ((j : Int) + 1) (ds.take k) : Nat) + 1) else cntRow (ds.take k) i) = cntRow (ds.take (k + 1)) i) := fun i => cntRow_next hkl hj i
        have hcl : cntD ((j : Int) + 1) (ds.take k) ≤ 1000 := by have := cntD_le ((j : Int) + 1) (ds.take k); simp at this; omega
        rw [hj] at c0
        obtain ⟨W3, hW3⟩ : ∃ W3, W3 = wr.alloc (.cells #[.int .i64 ((j : Int) + 1), .int .i64 (ds.getD k (0, 0, 0, 0)).2.1, .int .i64 (ds.getD k (0, 0, 0, 0)).2.2.1, .int .i64 (ds.getD k (0, 0, 0, 0)).2.2.2] 34) := ⟨_, rfl⟩
        have hrow3 : W3.rowIs w1.heap.size 3 6 (cntRow (ds.take k)) := by rw [hW3]; exact hrow.out.alloc _
        have hb3 : Below w1.heap.size w1 W3 := by rw [hW3]; exact hb.out.alloc hb.out.size _
        have kc := hrow3.cell hj6
        have kf := hrow3.frozen j
        unfold cntRow at kc
        have HR3 : Hid (W3.rowIs w1.heap.size 3 6 (cntRow (ds.take k)) ∧ Below w1.heap.size w1 W3) := ⟨hrow3, hb3⟩
        clear hrow hb h1 h6 hj hrow3 hb3
        generalize (ds.getD k (0, 0, 0, 0)).2.1 = x2 at *
        generalize (ds.getD k (0, 0, 0, 0)).2.2.1 = x3 at *
        generalize (ds.getD k (0, 0, 0, 0)).2.2.2 = x4 at *
        generalize cntD ((j : Int) + 1) (ds.take k) = cn at *
        have HRN : Hid ((W3.setCell ⟨w1.heap.size, j, none⟩ (.int .i64 ((cn : Int) + 1))).rowIs w1.heap.size 3 6 (cntRow (ds.take (k + 1))) ∧ Below w1.heap.size w1 (W3.setCell ⟨w1.heap.size, j, none⟩ (.int .i64 ((cn : Int) + 1)))) := ⟨(HR3.out.1.set j _).congr (fun i _ => HNX.out i), HR3.out.2.setCell (p := ⟨w1.heap.size, j, none⟩) (Nat.le_refl _) _⟩
        subst hW3
        clear HNX HR3
        go_wp2
        go_roundw
        case rel => exact ⟨k + 1, by omega, by go_num, HRN.out.1, HRN.out.2⟩
        case measure => simp [intOf]; omega
      · have hke : ds.take k = ds := List.take_of_length_le (by omega)
        rw [hke] at hrow
        have HSZ : Hid (w.heap.size ≤ w1.heap.size) := HB1.out.size
        clear hke
        go_wp2
        go_ret2
        exact ⟨Or.inr ⟨HZ.out, w1.heap.size, rfl, HSZ.out, hrow.out⟩, HB1.out.trans (hb.out.mono HSZ.out)⟩
end Go.Proofs.YtiekhigjllbalaaGreatDoor
