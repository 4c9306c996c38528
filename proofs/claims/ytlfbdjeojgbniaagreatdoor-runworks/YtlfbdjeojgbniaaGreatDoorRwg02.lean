/- The document's own Free and Order, as the statement's package has them. -/
import Derived.Test.YtlfbdjeojgbniaaGreatDoorRcm17
import Derived.Test.YtlfbdjeojgbniaaGreatDoorRcm06

namespace Go.Proofs.YtlfbdjeojgbniaaGreatDoor
open Go.RowKit Go.Deep

theorem owned_shape {w : World} {base : Nat} {v : Value} {n : Nat} {xs : List Value} (h : w.ownsRow base 3 1 v n xs) : ∃ a c, v = .slice a n c := by
  rcases h.2 with ⟨h1, h2⟩ | ⟨g, cap, cur, hv, _⟩
  · exact ⟨none, 0, by rw [h1, h2]⟩
  · exact ⟨_, _, hv⟩

def missing (ts : List (Int × List Int)) (T : Nat → Bool) (k : Nat) : Bool := (needsOf ts k).any (fun y => !T y.toNat)

set_option maxRecDepth 100000 in
set_option maxHeartbeats 4000000 in
theorem freeR_any (v pv : Value) (ts : List (Int × List Int)) (T : Nat → Bool) (i : Nat) (w : World) (hp : PlanAt w v ts) (hi : i < ts.length) (hr : InRange ts) (hb : BoolsAt w pv ts.length T) :
    Calls Tryz.prog 104 #[v, .int .i64 i, pv] w fun e w' => e = .returned (.bool (!missing ts T i)) ∧ Below w.heap.size w w' := by
  obtain ⟨hl, a, c, rfl, hp⟩ := hp
  obtain ⟨bb, bo, bc, rfl, hblt, hbc⟩ := hb
  rcases hp with rfl | ⟨b, o, rfl, hbl, hc⟩
  · simp at hi
  obtain ⟨_, nv, hc2, hin⟩ := hc i hi
  obtain ⟨hnl, na, nc, rfl, hns⟩ := hin
  have HBC : Hid (∀ k, k < ts.length → w.cell? ⟨bb, bo + k, none⟩ = some (.bool (T k))) := hbc
  have HR : Hid (InRange ts) := hr
  clear hc hbc hr
  go_enter Tryz.func104, Tryz.ntmps104
  go_wp2
  go_loopw [7] (fun s7 wr => ∃ k : Nat, k ≤ (needsOf ts i).length ∧ s7 = .int .i64 k ∧ Hid (∀ y, y ∈ (needsOf ts i).take k → (!T y.toNat) = false) ∧ Below w.heap.size w wr) (fun s7 _ => (needsOf ts i).length - (intOf s7).toNat)
  case atStart => exact ⟨0, Nat.zero_le _, rfl, fun y hy => by simp at hy, Below.refl _ _⟩
  case round =>
    obtain ⟨k, hk, rfl, hno, hb⟩ := hrel
    have hc2' := (hb.cell (p := ⟨b, o + i * 2 + 1, none⟩) hbl).trans hc2
    by_cases hkl : k < (needsOf ts i).length
    · rcases hns with hns | ⟨nb, no, rfl, hnb, hnc⟩
      · rw [hns] at hkl; simp at hkl
      have hyc := (hb.cell (p := ⟨nb, no + k, none⟩) hnb).trans (hnc k hkl)
      have hym : (needsOf ts i).getD k 0 ∈ needsOf ts i := by rw [List.getD_eq_getElem?_getD, List.getElem?_eq_getElem hkl]; exact List.getElem_mem hkl
      have hyr := HR.out i hi _ hym
      have HS : Hid ((!T ((needsOf ts i).getD k 0).toNat) = false → ∀ y, y ∈ (needsOf ts i).take (k + 1) → (!T y.toNat) = false) := fun h => take_succ_all (fun y => !T y.toNat) _ k hkl hno.out h
      have HX : Hid ((!T ((needsOf ts i).getD k 0).toNat) = true → missing ts T i = true) := fun h => List.any_eq_true.2 ⟨_, hym, h⟩
      clear hnc hym
      generalize (needsOf ts i).getD k 0 = yz at *
      obtain ⟨y, rfl⟩ := Int.eq_ofNat_of_zero_le hyr.1
      have hyl : y < ts.length := by omega
      have hdy := (hb.cell (p := ⟨bb, bo + y, none⟩) hblt).trans (HBC.out y hyl)
      rw [Int.toNat_natCast] at HS HX
      cases hT : T y
      · rw [hT] at hdy HX
        have HMI : Hid (missing ts T i = true) := HX.out rfl
        clear HS HX hT
        go_wp2
        go_ret
        exact ⟨ret_bool (by rw [HMI.out]; rfl), hb⟩
      · rw [hT] at hdy HS
        clear HX hT
        go_wp2
        go_roundw
        case rel => exact ⟨k + 1, by omega, by go_num, HS.out rfl, hb⟩
        case measure => simp [intOf]; omega
    · have HMI : Hid (missing ts T i = false) := by
        unfold missing
        refine List.any_eq_false.2 fun y hy => ?_
        have := hno.out y (by rw [List.take_of_length_le (by omega)]; exact hy)
        simp only [this]; simp
      clear hns
      go_wp2
      go_ret
      exact ⟨ret_bool (by rw [HMI.out]; rfl), hb⟩
theorem freeB_eq (ts : List (Int × List Int)) (T : Nat → Bool) (k : Nat) : freeB ts T k = (!T k && !missing ts T k) := rfl

theorem unseenR_all (S : Nat → Bool) (n : Nat) (h : unseen S n = 0) : ∀ k, k < n → S k = true := by
  induction n with
  | zero => intro k hk; omega
  | succ n ih =>
    intro k hk
    unfold unseen at h
    by_cases e : k = n
    · subst e
      cases hs : S k with
      | true => rfl
      | false => rw [hs] at h; simp at h
    · exact ih (by omega) k (by omega)

def OrdMem (N n : Nat) (w wr : World) (s : Value) (ord : List Nat) : Prop :=
  wr.ownsRow (N + 1) 3 1 s ord.length (ord.map natV) ∧ wr.rowIs N 4 n (fun k => .bool (has ord k)) ∧ Below N w wr
theorem OrdMem.later {N n : Nat} {w wr w' : World} {s : Value} {ord : List Nat} (h : OrdMem N n w wr s ord) (hb : Below wr.heap.size wr w') : OrdMem N n w w' s ord :=
  ⟨h.1.kept (row := none) ⟨hb.os, hb.tape, hb.output, hb.size, fun k hk _ => hb.block k hk⟩ (by cases s.ownBlock <;> simp), h.2.1.of_block (hb.block N h.2.1.lt), h.2.2.trans (hb.mono (Nat.le_of_lt h.2.1.lt))⟩
theorem OrdMem.bools {N n : Nat} {w wr : World} {s : Value} {ord : List Nat} (h : OrdMem N n w wr s ord) : BoolsAt wr (.slice (some ⟨N, 0, none⟩) n n) n (has ord) :=
  ⟨N, 0, n, rfl, h.2.1.lt, fun k hk => by rw [Nat.zero_add]; exact h.2.1.cell hk⟩

set_option maxRecDepth 100000 in
set_option maxHeartbeats 8000000 in
theorem orderR_any (v : Value) (ts : List (Int × List Int)) (w : World) (hp : PlanAt w v ts) (hck : CheckIs ts 0 0) :
    Calls Tryz.prog 105 #[v] w fun e w' => (∃ ov ord, e = .returned ov ∧ OrdIs ts ord ∧ IntsAt w' ov (intsOf ord) ∧ ∀ j, ov.ownBlock = some j → w.heap.size ≤ j) ∧ Below w.heap.size w w' := by
  have HP : Hid (PlanAt w v ts) := hp
  obtain ⟨hl, a, c, rfl, hp⟩ := hp
  clear hp
  obtain ⟨_, h30, herr, hno⟩ := hck.ok rfl
  have HR : Hid (InRange ts) := inRange_of herr
  have HNO : Hid (∀ j, j < ts.length → ¬ Reach ts j j) := hno
  clear herr hno hck
  have hmk := fun wx => run_make_row' (P := Tryz.prog) 84 4 (.bool false) 1 Tryz.underlying84 Tryz.info4 rfl .i64 .i64 ts.length (by omega) (by omega) wx
  obtain ⟨i3, hi3, hz0, hz1, hz2⟩ := info_parts Tryz.info3
  go_enter Tryz.func105, Tryz.ntmps105
  go_wp2
  have HM : Hid (OrdMem w.heap.size ts.length w (w.alloc (.cells (madeCells #[.bool false] ts.length) 4)) (.slice none 0 0) []) :=
    ⟨World.ownsRow_nil _ _ _ _, (World.rowIs_made w (.bool false) ts.length 4).congr (fun k _ => by simp [has]), (Below.refl _ _).alloc (Nat.le_refl _) _⟩
  clear hmk
  go_loopg [4] (ts.length) (fun gg s4 wr => ∃ ord, Hid (OrdMem w.heap.size ts.length w wr s4 ord) ∧ Hid (Ords ts ord) ∧ ord.length ≤ ts.length ∧ ts.length - ord.length ≤ gg)
  case atStart => exact ⟨[], HM, Ords.nil ts, Nat.zero_le _, by simp⟩
  case round =>
    clear HM
    obtain ⟨ord, hm, ho, hol, hgg⟩ := hrel
    obtain ⟨G, rfl⟩ : ∃ G, G = gk := ⟨_, rfl⟩
    obtain ⟨oa, oc, rfl⟩ := owned_shape hm.out.1
    by_cases hlt : ord.length < ts.length
    · go_wp2
      go_loopw [4, 5] (fun s4 s5 wr => ∃ k : Nat, k ≤ ts.length ∧ s4 = .slice oa ord.length oc ∧ s5 = .int .i64 k ∧ Hid (OrdMem w.heap.size ts.length w wr (.slice oa ord.length oc) ord) ∧ Hid (∀ j, j < k → freeB ts (has ord) j = false)) (fun _ s5 _ => ts.length - (intOf s5).toNat)
      case atStart => exact ⟨0, Nat.zero_le _, rfl, rfl, hm, fun j hj => by omega⟩
      case round =>
        clear hm
        obtain ⟨k, hk, rfl, rfl, hm, hnf⟩ := hrel
        by_cases hkl : k < ts.length
        · have hfr := freeR_any _ _ ts (has ord) k wr (HP.out.later hm.out.2.2) hkl HR.out hm.out.bools
          go_wp2_with fail
          refine hfr.mono ?_
          rintro e w3 ⟨rfl, hb3⟩
          clear hfr
          have hm3 : Hid (OrdMem w.heap.size ts.length w w3 (.slice oa ord.length oc) ord) := hm.out.later hb3
          clear hm hb3
          have hdk := hm3.out.2.1.cell hkl
          have HFB : Hid (freeB ts (has ord) k = (!has ord k && !missing ts (has ord) k)) := freeB_eq _ _ _
          cases hh : has ord k
          · rw [hh] at hdk HFB
            cases hmi : missing ts (has ord) k
            · rw [hmi] at HFB
              have HNX : Hid (NextIs ts (has ord) (k : Nat)) := NextIs.some k hkl hnf.out HFB.out
              clear hh hmi HFB hnf
              have hfk := hm3.out.2.1.frozen k
              have hown2 : ((w3.setCell ⟨w.heap.size, k, none⟩ (.bool true)).alloc (.cells #[.int .i64 k] 3)).ownsRow (w.heap.size + 1) 3 1 (.slice oa ord.length oc) ord.length (ord.map natV) := (ownsRow_setCell_below hm3.out.1 (by show w.heap.size < w.heap.size + 1; omega) _).alloc _
              go_wp2_with (at_builtin; go_loud (refine wpList_append_own _ rfl (.tmp 36) (.tmp 38) 73 rfl (w.heap.size + 1) 3 i3 (.int .i64 0) 1 8 Tryz.underlying73 hi3 hz0 hz1 hz2 rfl (by decide) _ ord.length (ord.map natV) rfl hown2 ⟨w3.heap.size, 0, none⟩ 1 1 [.int .i64 k] rfl rfl ?c1 ?c2 ?c3 ?c4 ?c5 ?_))
              case c1 =>
                have hone := cell_one_new (w3.setCell ⟨w.heap.size, k, none⟩ (.bool true)) (.int .i64 k) 3
                simpa using hone
              case c2 => intro u hu; simp at hu; subst hu; rfl
              case c3 => unfold maxLen; omega
              case c4 => omega
              case c5 => have := hm3.out.2.1.lt; simp; omega
              intro v' w4 hown' hgrow _
              have hm4 : Hid (OrdMem w.heap.size ts.length w w4 v' (ord ++ [k])) := by
                have hN := hm3.out.2.1.lt
                refine ⟨by simpa [natV] using hown', ?_, ?_⟩
                · rw [← mark_has]
                  refine (((hm3.out.2.1.set k (.bool true)).congr (fun j _ => by unfold mark; split <;> simp_all)).alloc _).of_block (hgrow.block _ (by simp; omega) (fun e => by have := (hown2.lt _ e.symm).1; omega))
                · exact (((hm3.out.2.2.setCell (Nat.le_refl _) _)).alloc (by simp; omega) _).grown hgrow (by simp; omega) (fun j e => by have := (hown2.lt j e).1; omega)
              clear hown' hgrow hown2 hfk hm3
              go_wp2
              go_roundg (ts.length - (ord.length + 1))
              case measure => omega
              case rel => exact ⟨ord ++ [k], hm4, ho.out.snoc HNX.out, by simp; omega, by simp⟩
            · rw [hmi] at HFB
              clear hh hmi
              go_wp2
              go_roundw
              case rel =>
                refine ⟨k + 1, by omega, rfl, by go_num, hm3, fun j hj => ?_⟩
                by_cases e : j = k
                · subst e; exact HFB.out
                · exact hnf.out j (by omega)
              case measure => simp [intOf]; omega
          · rw [hh] at hdk HFB
            clear hh
            go_wp2
            go_roundw
            case rel =>
              refine ⟨k + 1, by omega, rfl, by go_num, hm3, fun j hj => ?_⟩
              by_cases e : j = k
              · subst e; exact HFB.out
              · exact hnf.out j (by omega)
            case measure => simp [intOf]; omega
        · exfalso
          have hio : OrdIs ts ord := ⟨ho.out, NextIs.none (fun j hj => hnf.out j (by omega))⟩
          have := hio.length HR.out HNO.out
          omega
    · have hle : ord.length = ts.length := by omega
      have HLE : Hid (ord.length = ts.length) := hle
      have hnn : ¬ ((ord.length : Int) < (ts.length : Int)) := by omega
      go_wp2
      go_ret
      refine ⟨⟨_, rfl, ord, ⟨ho.out, NextIs.none fun j hj => ?_⟩, ints_of_owns (by rw [hle] at hm; have := hm.out.1; rw [hle] at this ⊢; exact this) (by omega), fun j hj => ?_⟩, hm.out.2.2⟩
      · have hcount := ho.out.count
        have hall := unseenR_all (has ord) ts.length (by omega) j hj
        rw [freeB_eq, hall]; rfl
      · have hj2 : (Value.slice oa ord.length oc).ownBlock = some j := by
          cases oa with
          | none => exact hj
          | some z => exact hj
        have := (hm.out.1.lt j hj2).1
        omega
end Go.Proofs.YtlfbdjeojgbniaaGreatDoor
