/- The document's list run. -/
import Derived.Test.YtlfebnaghoeddaaDoorVb
namespace Go.Proofs.YtlfebnaghoeddaaDoor
open Go.RowKit Go.Deep

theorem RowS.alloc {b : Nat} {w : World} {v : Value} {l : List Sty} (h : RowS b w v l) (o : Obj) : RowS b (w.alloc o) v l := h.of_blocks (fun _ e => Below.heap_alloc _ _ _ (h.low e).2)
theorem RowS.app {b : Nat} {w' : World} {v : Value} {l : List Sty} {k x t y : Nat} (ho : w'.ownsRow b 48 4 v (l.length + 1) (flat4 l ++ [.int .i64 (k : Int), .int .i64 (x : Int), .int .i64 (t : Int), .int .i64 ((t : Int) + (y : Int))])) : RowS b w' v (l ++ [(k, x, t, t + y)]) := by
  show w'.ownsRow b 48 4 v (l ++ [(k, x, t, t + y)]).length (flat4 (l ++ [(k, x, t, t + y)]))
  rw [flat4_append, flat4_one, List.length_append]
  exact ho

theorem RowS.slen_app {b : Nat} {w' : World} {v : Value} {n : Nat} {xs : List Value} (ho : w'.ownsRow b 48 4 v n xs) : slen v = n := by
  rcases ho.2 with ⟨rfl, hn⟩ | ⟨g, cap, cur, rfl, _⟩
  · rw [hn]; rfl
  · rfl

set_option maxRecDepth 100000 in
set_option maxHeartbeats 8000000 in
theorem listR_any (v ov : Value) (ts : List (Int × List Int)) (ord : List Nat) (hd : Nat) (w : World) (hp : PlanAt w v ts) (ho : IntsAt w ov (intsOf ord)) (hck : CheckIs ts 0 0) (hord : EachO ts.length ord) (h1 : 1 ≤ hd) (h6 : hd ≤ 6) :
    Calls Tryd.prog 6 #[v, .int .i64 hd, ov] w fun e w' => (∃ sv, e = .returned sv ∧ RowS w.heap.size w' sv (listOut ts hd ord)) ∧ Below w.heap.size w w' := by
  obtain ⟨i48, hi48, hz0, hz1, hz2⟩ := info_parts Tryd.info48
  have HP : Hid (PlanAt w v ts) := hp
  have HO : Hid (IntsAt w ov (intsOf ord)) := ho
  obtain ⟨hl, a, c, rfl, hp⟩ := hp
  obtain ⟨hol1, oa, oc, rfl, hol2⟩ := ho
  have HIL : Hid ((intsOf ord).length = ord.length) := intsOf_length ord
  have hol : ord.length = ts.length := hord.1
  rw [HIL.out, hol] at HO ⊢
  clear hp hol1 hol2
  obtain ⟨hw, hr, hno⟩ := hck.works
  have h30 := hw.1
  have HORD : Hid (EachO ts.length ord) := hord
  have HALL : Hid (∀ x, x < ts.length → x ∈ ord) := hord.all
  have HLT : Hid (∀ x, x ∈ ord → x < ts.length) := hord.2.2
  have HW : Hid (Works ts) := hw
  have HR : Hid (InRange ts) := hr
  have HNO : Hid (∀ j, j < ts.length → ¬ Reach ts j j) := hno
  have HOL : Hid (ord.length = ts.length) := hol
  clear hord hw hr hno hol hck
  have hmk1 := fun wx => run_make_row' (P := Tryd.prog) 46 4 (.bool false) 1 Tryd.underlying46 Tryd.info4 rfl .i64 .i64 hd (by omega) (by omega) wx
  have hmk2 := fun wx => run_make_row' (P := Tryd.prog) 46 4 (.bool false) 1 Tryd.underlying46 Tryd.info4 rfl .i64 .i64 ts.length (by omega) (by omega) wx
  go_enter Tryd.func6, Tryd.ntmps6
  go_wp2
  go_loopw [7, 8] (fun s7 s8 wr => ∃ t : Nat, t ≤ 601 ∧ s8 = .int .i64 t ∧ Hid (RowS w.heap.size wr s7 (outAt ts hd ord t)) ∧ Below w.heap.size w wr) (fun _ s8 _ => 601 - (intOf s8).toNat)
  case atStart => exact ⟨0, by omega, rfl, RowS.nil _ _, Below.refl _ _⟩
  case round =>
    obtain ⟨t, ht6, rfl, hS, hB⟩ := hrel
    obtain ⟨sa, sc, rfl⟩ := hS.out.shape
    have hL := (outAt_laid (h := hd) HLT.out HALL.out HR.out t).1.len
    by_cases htl : t ≤ 600 ∧ (outAt ts hd ord t).length < ts.length
    · obtain ⟨ht, hlt⟩ := htl
      have HF : Hid (Filling ts hd ord t 0 (outAt ts hd ord t)) := Filling.start HLT.out HALL.out HR.out t
      have HN : Hid (∀ out sv wx, outAt ts hd ord (t + 1) = out → RowS w.heap.size wx sv out → RowS w.heap.size wx sv (outAt ts hd ord (t + 1))) := fun out sv wx e m => by rw [e]; exact m
      generalize hout0 : outAt ts hd ord t = out0 at *
      clear hout0
      go_wp2
      go_loopw [7] (fun s7 wr => ∃ out : List Sty, Hid (Filling ts hd ord t 0 out) ∧ Hid (RowS w.heap.size wr s7 out) ∧ Below w.heap.size w wr) (fun s7 _ => ts.length - slen s7)
      case atStart => exact ⟨out0, HF, hS, hB⟩
      case round =>
        clear HF hS hB hlt hL
        obtain ⟨out, hF, hS, hB⟩ := hrel
        obtain ⟨sa, sc, rfl⟩ := hS.out.shape
        have hlen := hF.out.laid.len
        obtain ⟨w1, HW1⟩ : ∃ w1, w1 = wr := ⟨_, rfl⟩
        rw [← HW1] at hS hB ⊢
        clear HW1
        have HT : Hid (TMem w1.heap.size ts.length hd w1 (((w1.alloc (.cells (madeCells #[.bool false] hd) 4)).alloc (.cells (madeCells #[.bool false] ts.length) 4)).alloc (.cells (madeCells #[.bool false] ts.length) 4)) (busyB (out.take 0) t) (doneB (out.take 0) t) (tookB (out.take 0))) := TMem.start w1 ts.length hd t
        have HOK : Hid (∀ s, s ∈ out → s.1 < hd ∧ s.2.1 < ts.length) := fun s hs => ⟨(hF.out.laid.ok s hs).1, (hF.out.laid.ok s hs).2.1⟩
        generalize hM : w1.heap.size = M at *
        go_wp2
        go_loopw [12] (fun s12 wr => ∃ i : Nat, i ≤ out.length ∧ s12 = .int .i64 i ∧ Hid (TMem M ts.length hd w1 wr (busyB (out.take i) t) (doneB (out.take i) t) (tookB (out.take i)))) (fun s12 _ => out.length - (intOf s12).toNat)
        case atStart => exact ⟨0, Nat.zero_le _, rfl, HT⟩
        case round =>
          clear HT
          obtain ⟨i, hi, rfl, hT⟩ := hrel
          by_cases hil : i < out.length
          · have hS2 := hS.out.later (show Below w1.heap.size w1 wr by rw [hM]; exact hT.out.below)
            obtain ⟨g, sc', hv, _, hg, _, hcell⟩ := hS2.full (by omega)
            simp only [Value.slice.injEq] at hv
            obtain ⟨rfl, -, rfl⟩ : sa = some ⟨g, 0, none⟩ ∧ True ∧ sc = sc' := ⟨hv.1, trivial, hv.2.2⟩
            have hgM : g < M := by have := hS.out.low (k := g) rfl; omega
            have hc0 := hcell i hil 0 (by omega)
            have hc1 := hcell i hil 1 (by omega)
            have hc3 := hcell i hil 3 (by omega)
            obtain ⟨hok1, hok2⟩ := HOK.out _ (sty_mem hil)
            have HE : Hid (out.take (i + 1) = out.take i ++ [out.getD i (0, 0, 0, 0)]) := take_sty hil
            clear hcell hS2 hv
            generalize out.getD i (0, 0, 0, 0) = sx at *
            obtain ⟨x0, x1, x2, x3⟩ := sx
            replace hc0 : wr.cell? ⟨g, i * 4, none⟩ = some (.int .i64 x0) := hc0
            replace hc1 : wr.cell? ⟨g, i * 4 + 1, none⟩ = some (.int .i64 x1) := hc1
            replace hc3 : wr.cell? ⟨g, i * 4 + 3, none⟩ = some (.int .i64 x3) := hc3
            replace hok1 : x0 < hd := hok1
            replace hok2 : x1 < ts.length := hok2
            have hsz := hT.out.size
            have hcT := hT.out.tookIs hok2
            have hcB := hT.out.busyIs hok1
            have hcD := hT.out.doneIs hok2
            have hfT := hT.out.took.frozen x1
            have hT1 := hT.out.setT x1
            have hfB := hT1.busy.frozen x0
            have hfD := hT1.done.frozen x1
            have hn1 : ¬ g = M + 1 + 1 := by omega
            have hn2 : ¬ g = M + 1 := by omega
            have hn3 : ¬ g = M := by omega
            by_cases htx : t < x3
            · have hT2 := hT1.setB x0
              have HT2 : Hid (TMem M ts.length hd w1 ((wr.setCell ⟨M + 1 + 1, x1, none⟩ (.bool true)).setCell ⟨M, x0, none⟩ (.bool true)) (busyB (out.take (i + 1)) t) (doneB (out.take (i + 1)) t) (tookB (out.take (i + 1)))) := by
                show TMem _ _ _ _ _ _ _ _
                rw [HE.out, took_snoc, busy_snoc_yes _ _ htx, done_snoc_no _ _ htx]
                exact hT2
              clear hT1 hT2 hT HE
              go_wp2
              go_roundw
              case rel => exact ⟨i + 1, by omega, by go_num, HT2⟩
              case measure => simp [intOf]; omega
            · have hT2 := hT1.setD x1
              have HT2 : Hid (TMem M ts.length hd w1 ((wr.setCell ⟨M + 1 + 1, x1, none⟩ (.bool true)).setCell ⟨M + 1, x1, none⟩ (.bool true)) (busyB (out.take (i + 1)) t) (doneB (out.take (i + 1)) t) (tookB (out.take (i + 1)))) := by
                show TMem _ _ _ _ _ _ _ _
                rw [HE.out, took_snoc, busy_snoc_no _ _ htx, done_snoc_yes _ _ htx]
                exact hT2
              clear hT1 hT2 hT HE
              go_wp2
              go_roundw
              case rel => exact ⟨i + 1, by omega, by go_num, HT2⟩
              case measure => simp [intOf]; omega
          · have hT2 := hT.out
            rw [List.take_of_length_le (by omega)] at hT2
            have HT2 : Hid (TMem M ts.length hd w1 wr (busyB out t) (doneB out t) (tookB out)) := hT2
            clear hT hT2
            obtain ⟨w2, HW2⟩ : ∃ w2, w2 = wr := ⟨_, rfl⟩
            rw [← HW2] at HT2 ⊢
            clear HW2
            go_wp2
            go_loopw [13] (fun s13 wr => ∃ j : Nat, j ≤ hd ∧ s13 = .int .i64 j ∧ w2 = wr ∧ Hid (∀ i, i < j → busyB out t i = true)) (fun s13 _ => hd - (intOf s13).toNat)
            case atStart => exact ⟨0, Nat.zero_le _, rfl, rfl, fun i hi => by omega⟩
            case round =>
              obtain ⟨j, hj, rfl, rfl, hbz⟩ := hrel
              by_cases hjd : j < hd
              · have hcb := HT2.out.busyIs hjd
                have hsz2 := HT2.out.size
                cases hbj : busyB out t j
                · rw [hbj] at hcb
                  have HHAND : Hid (handAt out t hd = some j) := hand_at hjd hbz.out hbj
                  clear hbz hbj
                  go_wp2
                  go_loopw [14] (fun s14 wr => ∃ k : Nat, k ≤ ts.length ∧ s14 = .int .i64 k ∧ Hid (∀ x, x ∈ ord.take k → rdyS ts out t x = false) ∧ Below w2.heap.size w2 wr) (fun s14 _ => ts.length - (intOf s14).toNat)
                  case atStart => exact ⟨0, Nat.zero_le _, rfl, fun x hx => by simp at hx, Below.refl _ _⟩
                  case round =>
                    obtain ⟨k, hk, rfl, hno, hb⟩ := hrel
                    obtain ⟨w3, HW3⟩ : ∃ w3, w3 = wr := ⟨_, rfl⟩
                    rw [← HW3] at hb ⊢
                    clear HW3
                    have hT3 := HT2.out.later hb
                    have hBM : Below M w1 w3 := hT3.below
                    have hBW : Below w.heap.size w w3 := hB.trans (hBM.mono (by rw [← hM]; exact hB.size))
                    have HBM : Hid (Below M w1 w3) := hBM
                    have HBW : Hid (Below w.heap.size w w3) := hBW
                    by_cases hkl : k < ts.length
                    · have hko : k < ord.length := by rw [HOL.out]; exact hkl
                      have hx := HLT.out _ (getD_mem hko)
                      obtain ⟨_, oa', oc', hv, hoc⟩ := HO.out.later hBW
                      rw [HIL.out, HOL.out] at hv
                      simp only [Value.slice.injEq] at hv
                      obtain ⟨rfl, -, rfl⟩ : oa = oa' ∧ True ∧ oc = oc' := ⟨hv.1, trivial, hv.2.2⟩
                      rcases hoc with h | ⟨ob, oo, rfl, hobl, hoc⟩
                      · have := congrArg List.length h; rw [HIL.out] at this; simp at this; subst this; simp at hko
                      have hco := hoc k (by rw [HIL.out]; exact hko)
                      rw [intsOf_getD] at hco
                      have hct := hT3.tookIs hx
                      have hfree := freeS_any _ _ ts (doneB out t) (ord.getD k 0) w3 (HP.out.later hBW) hx HR.out hT3.bools
                      have HRD : Hid (rdyS ts out t (ord.getD k 0) = (!tookB out (ord.getD k 0) && !missing ts (doneB out t) (ord.getD k 0))) := rdy_missing t _ out
                      have HNX : Hid (rdyS ts out t (ord.getD k 0) = false → ∀ x, x ∈ ord.take (k + 1) → rdyS ts out t x = false) := fun e => take_no hko hno.out e
                      have HAT : Hid (rdyS ts out t (ord.getD k 0) = true → taskAt ts out t ord = some (ord.getD k 0)) := fun e => task_at hko hno.out e
                      have hsz3 := hT3.size
                      rw [HRD.out] at HNX HAT
                      clear hoc hv HRD hno
                      have HT3 : Hid (TMem M ts.length hd w1 w3 (busyB out t) (doneB out t) (tookB out)) := hT3
                      clear hT3
                      generalize missing ts (doneB out t) (ord.getD k 0) = ms at *
                      generalize ord.getD k 0 = x at *
                      cases htk : tookB out x
                      · rw [htk] at hct HNX HAT
                        cases ms
                        · have HA := HAT.out (by rfl)
                          have HA2 : Hid (taskAt ts out t ord = some x) := HA
                          clear HA HAT HNX htk
                          obtain ⟨hF2, hlt2⟩ := hF.out.takes HLT.out (take_of HHAND.out HA2.out)
                          have HF2 : Hid (Filling ts hd ord t 0 (out ++ [(j, x, t, t + wkN ts x)])) := hF2
                          obtain ⟨hwk, hwk1⟩ := wkN_eq HW.out hx
                          have hwk2 : wkN ts x ≤ 20 := by have := (HW.out.2 x hx).2; omega
                          have HWK : Hid ((ts.getD x (0, [])).1 = ((wkN ts x : Nat) : Int)) := hwk.symm
                          clear hF2 hwk
                          generalize wkN ts x = y at *
                          obtain ⟨b, o, rfl⟩ := plan_at (HP.out.later HBW.out) hx
                          have hjh : ((j : Int) == (hd : Int)) = false := by rw [beq_eq_false_iff_ne]; omega
                          have hkn : ((k : Int) == (ts.length : Int)) = false := by rw [beq_eq_false_iff_ne]; omega
                          have h1c : ∀ u ∈ [Value.int .i64 (j : Int), .int .i64 (x : Int), .int .i64 (t : Int), .int .i64 ((t : Int) + (y : Int))], u.oneCell' = true := by intro u hu; simp at hu; rcases hu with rfl | rfl | rfl | rfl <;> rfl
                          have HOB : Hid (∀ w4, Below w3.heap.size w3 w4 → w4.cell? ⟨ob, oo + k, none⟩ = some (.int .i64 (x : Int)) ∧ ob < w4.heap.size) := fun w4 h4 => ⟨(h4.cell (p := ⟨ob, oo + k, none⟩) hobl).trans hco, Nat.lt_of_lt_of_le hobl h4.size⟩
                          have HPL : Hid (∀ w4, Below w3.heap.size w3 w4 → w4.cell? ⟨b, o + x * 2, none⟩ = some (.int .i64 (y : Int)) ∧ b < w4.heap.size) := fun w4 h4 => ⟨plan_work ((HP.out.later HBW.out).later h4) hx HWK, plan_low ((HP.out.later HBW.out).later h4) hx⟩
                          have HSA : Hid (∀ w4, Below w3.heap.size w3 w4 → RowS w.heap.size (w4.alloc (.cells #[.int .i64 (j : Int), .int .i64 (x : Int), .int .i64 (t : Int), .int .i64 ((t : Int) + (y : Int))] 48)) (.slice sa out.length sc) out) := fun w4 h4 => (((hS.out.later (show Below w1.heap.size w1 w3 by rw [hM]; exact HBM.out)).later h4).alloc _)
                          have HBB : Hid (∀ w4, Below w3.heap.size w3 w4 → Below w.heap.size w w4) := fun w4 h4 => HBW.out.trans (h4.mono HBW.out.size)
                          have hol : out.length < 30 := by omega
                          go_wp2_with (first | (go_at_call 17; refine hfree.mono ?_; clear hfree; rintro e w4 ⟨rfl, hb4⟩; obtain ⟨hco4, hob4⟩ := HOB.out w4 hb4; obtain ⟨hpl4, hbl4⟩ := HPL.out w4 hb4; have hSA4 := HSA.out w4 hb4; have hBB4 := HBB.out w4 hb4; have hbs4 := hBB4.size) | (at_builtin; refine wpList_append_own _ rfl (.tmp 118) (.tmp 130) 27 rfl w.heap.size 48 i48 (.agg #[.int .i64 0, .int .i64 0, .int .i64 0, .int .i64 0]) 4 32 Tryd.underlying27 hi48 hz0 hz1 hz2 rfl (by decide) _ out.length (flat4 out) rfl hSA4 ⟨w4.heap.size, 0, none⟩ 1 1 [.int .i64 (j : Int), .int .i64 (x : Int), .int .i64 (t : Int), .int .i64 ((t : Int) + (y : Int))] rfl rfl (cell_four_new _ _ rfl _ _ _ _ _) h1c (by unfold maxLen; omega) (by omega) (by simp; omega) ?_; intro v2 w5 hown hgr _; have HS5 : Hid (RowS w.heap.size w5 v2 (out ++ [(j, x, t, t + y)])) := RowS.app hown; have hB5 : Below w.heap.size w w5 := (hBB4.alloc hbs4 _).grown hgr (Nat.le_trans hbs4 (Nat.le_of_lt (by simp))) (fun q e => (RowS.low hSA4 e).1); have HSL : Hid (slen v2 = out.length + 1) := RowS.slen_app hown; clear hown hgr))
                          go_roundw
                          case rel => exact ⟨_, HF2, HS5, hB5⟩
                          case measure => have := HSL.out; simp only [slen] at this ⊢; simp; omega
                        · have HE := HNX.out (by rfl)
                          have HE2 : Hid (∀ x, x ∈ ord.take (k + 1) → rdyS ts out t x = false) := HE
                          clear HE HAT HNX htk
                          go_wp2_with (go_at_call 17; refine hfree.mono ?_; clear hfree; rintro e w4 ⟨rfl, hb4⟩)
                          go_roundw
                          case rel => exact ⟨k + 1, by omega, by go_num, HE2, hb.trans (hb4.mono hb.size)⟩
                          case measure => simp [intOf]; omega
                      · rw [htk] at hct HNX HAT
                        have HE := HNX.out (by rfl)
                        have HE2 : Hid (∀ x, x ∈ ord.take (k + 1) → rdyS ts out t x = false) := HE
                        clear HE HAT HNX htk hfree
                        go_wp2
                        go_roundw
                        case rel => exact ⟨k + 1, by omega, by go_num, HE2, hb⟩
                        case measure => simp [intOf]; omega
                    · have HSTOP : Hid (outAt ts hd ord (t + 1) = out) := hF.out.none_at (take_noTask (task_none (fun x hx => hno.out x (by rw [List.take_of_length_le (by have := HOL.out; omega)]; exact hx))))
                      have hke : k = ts.length := by omega
                      clear hno
                      subst hke
                      have hkk : ((ts.length : Int) == (ts.length : Int)) = true := by simp
                      go_wp2
                      go_roundw
                      case rel => exact ⟨t + 1, by omega, by go_num, HN.out _ _ _ HSTOP.out (hS.out.later (show Below w1.heap.size w1 w3 by rw [hM]; exact HBM.out)), HBW.out⟩
                      case measure => simp [intOf]; omega
                · rw [hbj] at hcb
                  have HBZ : Hid (∀ i, i < j + 1 → busyB out t i = true) := fun i hi => by
                    by_cases e : i = j
                    · subst e; exact hbj
                    · exact hbz.out i (by omega)
                  clear hbz hbj
                  go_wp2
                  go_roundw
                  case rel => exact ⟨j + 1, by omega, by go_num, trivial, HBZ⟩
                  case measure => simp [intOf]; omega
              · have hje : j = hd := by omega
                subst hje
                have HHAND : Hid (handAt out t j = none) := hand_none hbz.out
                clear hbz
                go_wp2
                go_loopw [14] (fun s14 wr => ∃ k : Nat, k ≤ ts.length ∧ s14 = .int .i64 k ∧ Hid (∀ x, x ∈ ord.take k → rdyS ts out t x = false) ∧ Below w2.heap.size w2 wr) (fun s14 _ => ts.length - (intOf s14).toNat)
                case atStart => exact ⟨0, Nat.zero_le _, rfl, fun x hx => by simp at hx, Below.refl _ _⟩
                case round =>
                  obtain ⟨k, hk, rfl, hno, hb⟩ := hrel
                  obtain ⟨w3, HW3⟩ : ∃ w3, w3 = wr := ⟨_, rfl⟩
                  rw [← HW3] at hb ⊢
                  clear HW3
                  have hT3 := HT2.out.later hb
                  have hBM : Below M w1 w3 := hT3.below
                  have hBW : Below w.heap.size w w3 := hB.trans (hBM.mono (by rw [← hM]; exact hB.size))
                  have HBM : Hid (Below M w1 w3) := hBM
                  have HBW : Hid (Below w.heap.size w w3) := hBW
                  by_cases hkl : k < ts.length
                  · have hko : k < ord.length := by rw [HOL.out]; exact hkl
                    have hx := HLT.out _ (getD_mem hko)
                    obtain ⟨_, oa', oc', hv, hoc⟩ := HO.out.later hBW
                    rw [HIL.out, HOL.out] at hv
                    simp only [Value.slice.injEq] at hv
                    obtain ⟨rfl, -, rfl⟩ : oa = oa' ∧ True ∧ oc = oc' := ⟨hv.1, trivial, hv.2.2⟩
                    rcases hoc with h | ⟨ob, oo, rfl, hobl, hoc⟩
                    · have := congrArg List.length h; rw [HIL.out] at this; simp at this; subst this; simp at hko
                    have hco := hoc k (by rw [HIL.out]; exact hko)
                    rw [intsOf_getD] at hco
                    have hct := hT3.tookIs hx
                    have hfree := freeS_any _ _ ts (doneB out t) (ord.getD k 0) w3 (HP.out.later hBW) hx HR.out hT3.bools
                    have HRD : Hid (rdyS ts out t (ord.getD k 0) = (!tookB out (ord.getD k 0) && !missing ts (doneB out t) (ord.getD k 0))) := rdy_missing t _ out
                    have HNX : Hid (rdyS ts out t (ord.getD k 0) = false → ∀ x, x ∈ ord.take (k + 1) → rdyS ts out t x = false) := fun e => take_no hko hno.out e
                    have HAT : Hid (rdyS ts out t (ord.getD k 0) = true → taskAt ts out t ord = some (ord.getD k 0)) := fun e => task_at hko hno.out e
                    have hsz3 := hT3.size
                    rw [HRD.out] at HNX HAT
                    clear hoc hv HRD hno
                    have HT3 : Hid (TMem M ts.length j w1 w3 (busyB out t) (doneB out t) (tookB out)) := hT3
                    clear hT3
                    generalize missing ts (doneB out t) (ord.getD k 0) = ms at *
                    generalize ord.getD k 0 = x at *
                    cases htk : tookB out x
                    · rw [htk] at hct HNX HAT
                      cases ms
                      · have HA := HAT.out (by rfl)
                        have HA2 : Hid (taskAt ts out t ord = some x) := HA
                        clear HA HAT HNX htk
                        have HSTOP : Hid (outAt ts j ord (t + 1) = out) := hF.out.none_at (take_noHand HHAND.out)
                        have hjh : ((j : Int) == (j : Int)) = true := by simp
                        go_wp2_with (go_at_call 17; refine hfree.mono ?_; clear hfree; rintro e w4 ⟨rfl, hb4⟩)
                        go_roundw
                        case rel => exact ⟨t + 1, by omega, by go_num, HN.out _ _ _ HSTOP.out ((hS.out.later (show Below w1.heap.size w1 w3 by rw [hM]; exact HBM.out)).later hb4), HBW.out.trans (hb4.mono HBW.out.size)⟩
                        case measure => simp [intOf]; omega
                      · have HE := HNX.out (by rfl)
                        have HE2 : Hid (∀ x, x ∈ ord.take (k + 1) → rdyS ts out t x = false) := HE
                        clear HE HAT HNX htk
                        go_wp2_with (go_at_call 17; refine hfree.mono ?_; clear hfree; rintro e w4 ⟨rfl, hb4⟩)
                        go_roundw
                        case rel => exact ⟨k + 1, by omega, by go_num, HE2, hb.trans (hb4.mono hb.size)⟩
                        case measure => simp [intOf]; omega
                    · rw [htk] at hct HNX HAT
                      have HE := HNX.out (by rfl)
                      have HE2 : Hid (∀ x, x ∈ ord.take (k + 1) → rdyS ts out t x = false) := HE
                      clear HE HAT HNX htk hfree
                      go_wp2
                      go_roundw
                      case rel => exact ⟨k + 1, by omega, by go_num, HE2, hb⟩
                      case measure => simp [intOf]; omega
                  · have HSTOP : Hid (outAt ts j ord (t + 1) = out) := hF.out.none_at (take_noHand HHAND.out)
                    have hke : k = ts.length := by omega
                    clear hno
                    subst hke
                    have hkk : ((ts.length : Int) == (ts.length : Int)) = true := by simp
                    go_wp2
                    go_roundw
                    case rel => exact ⟨t + 1, by omega, by go_num, HN.out _ _ _ HSTOP.out (hS.out.later (show Below w1.heap.size w1 w3 by rw [hM]; exact HBM.out)), HBW.out⟩
                    case measure => simp [intOf]; omega
    · have HE : Hid (outAt ts hd ord t = listOut ts hd ord) := by
        by_cases e : (outAt ts hd ord t).length < ts.length
        · have : t = 601 := by omega
          show _ = _
          rw [this]; rfl
        · exact list_at HW.out HR.out HNO.out h1 HORD.out (by omega)
      have HS : Hid (RowS w.heap.size wr (.slice sa (outAt ts hd ord t).length sc) (listOut ts hd ord)) := by have := hS.out; show RowS _ _ _ _; rw [← HE.out]; exact this
      clear hS HE hL
      generalize hol : (outAt ts hd ord t).length = ol at *
      clear hol
      by_cases ht : t ≤ 600
      · have hne : ¬ ol < ts.length := fun e => htl ⟨ht, e⟩
        clear htl
        go_wp2
        go_ret
        exact ⟨⟨_, rfl, HS.out⟩, hB⟩
      · clear htl
        go_wp2
        go_ret
        exact ⟨⟨_, rfl, HS.out⟩, hB⟩
end Go.Proofs.YtlfebnaghoeddaaDoor
