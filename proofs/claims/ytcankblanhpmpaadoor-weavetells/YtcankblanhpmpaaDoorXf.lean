/- one, where a number stands. -/
import Derived.Test.YtcankblanhpmpaaDoorXe
import Derived.Deep.CutRange
import Derived.Deep.CutBlock
namespace Go.Proofs.YtcankblanhpmpaaDoor
open Go.RowKit Go.Deep

theorem Rw.laid {R i : Nat} {l : List UInt8} {e : Int} {ts' : List (Int × List Int)} {w : World} {tv tv' : Value} (h1 : w.heap[R]? = some (.cells #[.string ⟨l.toArray⟩, .int .i64 i, tv, .int .i64 e] 44 (0, 0))) (ht : RowT (R + 1) (fun _ => True) w tv' ts') : Rw R l i e ts' (w.setCell ⟨R, 2, none⟩ tv') := by
  refine ⟨tv', ?_, ht.of_blocks (fun k hk _ _ => Below.heap_setCell _ _ _ _ (by show k ≠ R; omega))⟩
  have := heap_setCell_same w R 2 _ 44 tv' h1
  simpa using this

set_option maxRecDepth 100000 in
set_option maxHeartbeats 8000000 in
theorem oneNum_any (R : Nat) (l : List UInt8) (i : Nat) (ts : List (Int × List Int)) (w : World) (t0 : Tree) (r0 : List UInt8) (hl : l.length ≤ 200) (hi : i ≤ l.length) (hts : ts.length ≤ i) (h40 : (l.drop i).head? ≠ some 40) (hsome : numR (l.drop i) = some (t0, r0)) (hr : Rw R l i 0 ts w) :
    Calls Tryd.prog 32 #[.pointer (some ⟨R, 0, none⟩)] w (TellsTo .link R l i ts w) := by
  have HR : Hid (Rw R l i 0 ts w) := hr
  have hRl := hr.lt
  have hr0 := hr.alloc (.cells #[.slice none 0 0, .slice none 0 0, .int .i64 0, .int .i64 0] 46)
  obtain ⟨h0, h1, h3, hf⟩ := hr0.cells
  have hnx := nextR_any R l i 0 ts 40 _ hl hi hr0
  have hnb : nextB 0 l i 40 = false := by unfold nextB; rw [decide_eq_false h40]; rfl
  rw [hnb] at hnx
  change Calls Tryd.prog 22 #[.pointer (some ⟨R, 0, none⟩), .int .u8 40] _ _ at hnx
  have HG : Hid (Gr .link (l.drop i) (some (t0, r0))) := by have := Gr.num h40; rw [hsome] at this; exact this
  have HNN : Hid (numR (l.drop i) = some (t0, r0)) := hsome
  have HR0 : Hid (Rw R l i 0 ts (w.alloc (.cells #[.slice none 0 0, .slice none 0 0, .int .i64 0, .int .i64 0] 46))) := hr0
  clear hr hr0 hf hnb h40 h0 h3 hsome
  go_enter Tryd.func32, Tryd.ntmps32
  obtain ⟨i37, hi37, hz0, hz1, hz2⟩ := info_parts Tryd.info37
  go_upto_block 0 with (first | (go_at_call 22; refine hnx.mono ?_; clear hnx; rintro e w' ⟨rfl, nn, rfl⟩))
  have HN0 : Hid (((w.alloc (.cells #[.slice none 0 0, .slice none 0 0, .int .i64 0, .int .i64 0] 46)).drewN nn).heap[w.heap.size]? = some (.cells #[.slice none 0 0, .slice none 0 0, .int .i64 0, .int .i64 0] 46 (0, 0))) := blk_alloc_new w _
  have HR1 : Hid (Rw R l i 0 ts ((w.alloc (.cells #[.slice none 0 0, .slice none 0 0, .int .i64 0, .int .i64 0] 46)).drewN nn)) := HR0.out.drewN nn
  have HK0 : Hid (Kp R w ((w.alloc (.cells #[.slice none 0 0, .slice none 0 0, .int .i64 0, .int .i64 0] 46)).drewN nn)) := ((Kp.refl R w).alloc _).drewN nn
  clear h1 HR0
  go_cut [6] from 41 to 104 (fun s6 wx => ∃ k p, s6 = .int .i64 (V2 p) ∧ ((l.drop i).takeWhile isDig = p ∧ (l.drop i).dropWhile isDig = l.drop k) ∧ Hid (k = i + p.length) ∧ k ≤ l.length ∧ Hid (Rw R l k 0 ts wx) ∧ Hid (Kp R w wx) ∧ Hid (wx.heap[w.heap.size]? = some (.cells #[.slice none 0 0, .slice none 0 0, .int .i64 0, .int .i64 0] 46 (0, 0))))
  case first => as_aux_lemma =>
    go_wp2_with fail
    go_loopg [6] l.length (fun gg s6 wr => ∃ k p, s6 = .int .i64 (p.foldl cap2 0 : Nat) ∧ Hid (NumAt l i k p) ∧ Hid (Rw R l k 0 ts wr) ∧ Hid (Kp R w wr) ∧ l.length - k ≤ gg ∧ Hid (wr.heap[w.heap.size]? = some (.cells #[.slice none 0 0, .slice none 0 0, .int .i64 0, .int .i64 0] 46 (0, 0))))
    case atStart => exact ⟨i, [], rfl, NumAt.start hi, HR1, HK0, by omega, HN0⟩
    case round =>
      clear HR1 HK0 HN0
      obtain ⟨k, p, rfl, hn, HRk, HK, hg, HN⟩ := hrel
      obtain ⟨h0, h1, h3, hf⟩ := HRk.out.cells
      have hf1 := hf 1
      have hf3 := hf 3
      clear hf
      have hcap := cap2_le p 0 (by omega)
      have HC : Hid (∀ d, (p ++ [d]).foldl cap2 0 = cap2 (p.foldl cap2 0) d) := fun d => by show _ = _; rw [List.foldl_append]; rfl
      have hkl := hn.out.2.2.2
      have HKI : Hid (k = i + p.length) := hn.out.2.2.1
      have HC0 : Hid (Value.int .i64 (p.foldl cap2 0 : Nat) = .int .i64 (V2 p)) := rfl
      have hRne : ¬ R = w.heap.size := by omega
      have HVN : Hid (V2 p = ((p.foldl cap2 0 : Nat) : Int)) := rfl
      clear HC0
      generalize p.foldl cap2 0 = n at *
      have HC0 : Hid (Value.int .i64 (n : Nat) = .int .i64 (V2 p)) := by show _ = _; rw [HVN.out]
      by_cases hil : k < l.length
      · have hsz : k < (⟨l.toArray⟩ : ByteArray).size := by show k < l.toArray.size; simpa using hil
        have hxe : (⟨l.toArray⟩ : ByteArray)[k]'hsz = l[k] := rfl
        have hli : (k : Int) < (l.length : Int) := by omega
        cases hd : isDig l[k]
        · have HE : Hid (∀ x, (l.drop k).head? = some x → isDig x = false) := fun x hx => by
            rw [head_drop hil] at hx
            rw [← Option.some.inj hx]; exact hd
          by_cases h48b : 48 ≤ l[k].toNat
          · have h57 : ¬ l[k].toNat ≤ 57 := fun h => by simp [isDig, h48b, h] at hd
            have hd1 : (48 : Int) ≤ (l[k].toNat : Int) := by omega
            have q3 : 48 ≤ ((⟨l.toArray⟩ : ByteArray)[k]'hsz).toNat := by rw [hxe]; exact h48b
            have hb1 : (48 : Int) ≤ (((⟨l.toArray⟩ : ByteArray)[k]'hsz).toNat : Int) := by omega
            have d2 : decide ((l[k].toNat : Int) ≤ 57) = false := decide_eq_false (by omega)
            have d4 : decide ((((⟨l.toArray⟩ : ByteArray)[k]'hsz).toNat : Int) ≤ 57) = false := decide_eq_false (by rw [hxe]; omega)
            have d5 : decide (l[k].toNat ≤ 57) = false := decide_eq_false h57
            have d6 : decide (((⟨l.toArray⟩ : ByteArray)[k]'hsz).toNat ≤ 57) = false := decide_eq_false (by rw [hxe]; exact h57)
            clear hxe hd
            go_wp2
            go_quiet (fail)
            go_wp2
            go_meet
            exact ⟨k, p, HC0.out, hn.out.ends HE.out, HKI, hkl, HRk.out.drewN _, HK.out.drewN _, HN.out⟩
          · have d2 : decide ((48 : Int) ≤ (l[k].toNat : Int)) = false := decide_eq_false (by omega)
            have d4 : decide ((48 : Int) ≤ (((⟨l.toArray⟩ : ByteArray)[k]'hsz).toNat : Int)) = false := decide_eq_false (by rw [hxe]; omega)
            have d5 : decide (48 ≤ l[k].toNat) = false := decide_eq_false h48b
            have d6 : decide (48 ≤ ((⟨l.toArray⟩ : ByteArray)[k]'hsz).toNat) = false := decide_eq_false (by rw [hxe]; exact h48b)
            clear hxe hd
            go_wp2
            go_quiet (fail)
            go_wp2
            go_meet
            exact ⟨k, p, HC0.out, hn.out.ends HE.out, HKI, hkl, HRk.out.drewN _, HK.out.drewN _, HN.out⟩
        · have HS : Hid (NumAt l i (k + 1) (p ++ [l[k]])) := hn.out.step hil hd
          have hdb : 48 ≤ l[k].toNat ∧ l[k].toNat ≤ 57 := by simpa [isDig] using hd
          have hd1 : (48 : Int) ≤ (l[k].toNat : Int) := by omega
          have hd2 : (l[k].toNat : Int) ≤ 57 := by omega
          have hb1 : (48 : Int) ≤ (((⟨l.toArray⟩ : ByteArray)[k]'hsz).toNat : Int) := by rw [hxe]; exact hd1
          have hb2 : (((⟨l.toArray⟩ : ByteArray)[k]'hsz).toNat : Int) ≤ 57 := by rw [hxe]; exact hd2
          have hee : ((0 : Int) == 0) = true := rfl
          have q1 : 48 ≤ l[k].toNat := hdb.1
          have q2 : l[k].toNat ≤ 57 := hdb.2
          have q3 : 48 ≤ ((⟨l.toArray⟩ : ByteArray)[k]'hsz).toNat := by rw [hxe]; exact q1
          have q4 : ((⟨l.toArray⟩ : ByteArray)[k]'hsz).toNat ≤ 57 := by rw [hxe]; exact q2
          have HXE : Hid ((⟨l.toArray⟩ : ByteArray)[k]'hsz = l[k]) := hxe
          clear hxe hd hdb
          have HCD : Hid ((p ++ [l[k]]).foldl cap2 0 = cap2 n l[k]) := HC.out l[k]
          by_cases hm : n < 1000
          · have hmi : (n : Int) < 1000 := by omega
            go_wp2
            go_quiet (fail)
            go_wp2
            go_quiet (fail)
            go_wp2
            go_roundg (l.length - (k + 1))
            case measure => omega
            case rel => exact ⟨k + 1, p ++ [l[k]], by rw [HCD.out]; unfold cap2; rw [if_pos hm, ← HXE.out]; go_num, HS, (HRk.out.drewN _).place (k + 1), (HK.out.drewN _).setR 1 _, Nat.le_refl _, (Below.heap_setCell _ _ _ _ (by show w.heap.size ≠ R; omega)).trans HN.out⟩
          · have hmi : ¬ (n : Int) < 1000 := by omega
            go_wp2
            go_quiet (fail)
            go_wp2
            go_roundg (l.length - (k + 1))
            case measure => omega
            case rel => exact ⟨k + 1, p ++ [l[k]], by rw [HCD.out]; unfold cap2; rw [if_neg hm], HS, (HRk.out.drewN _).place (k + 1), (HK.out.drewN _).setR 1 _, Nat.le_refl _, (Below.heap_setCell _ _ _ _ (by show w.heap.size ≠ R; omega)).trans HN.out⟩
      · have HE : Hid (∀ x, (l.drop k).head? = some x → isDig x = false) := fun x hx => by rw [head_end (by omega)] at hx; cases hx
        have hli : decide ((k : Int) < (l.length : Int)) = false := decide_eq_false (by omega)
        go_wp2
        go_quiet (fail)
        go_wp2
        go_meet
        exact ⟨k, p, HC0.out, hn.out.ends HE.out, HKI, hkl, HRk.out.drewN _, HK.out.drewN _, HN.out⟩
  case rest => as_aux_lemma =>
    obtain ⟨k, p, rfl, hends, HKI, hkl, HRk, HK, HN⟩ := hcut
    clear HR1 HK0 HN0
    rcases p with _ | ⟨d, r⟩
    · have := numR_none hends.1
      rw [HNN.out] at this
      cases this
    have hd48 : d ≠ 48 := fun h => by
      subst h
      have := numR_zero hends.1
      rw [HNN.out] at this
      cases this
    have HSO : Hid (Gr .link (l.drop i) (some (.num (d :: r), l.drop k))) := by
      have h1 := numR_some hends.1 hd48
      rw [hends.2, HNN.out] at h1
      have h2 := HG.out
      rw [h1] at h2
      exact h2
    have hik : i < k := by have := HKI.out; simp at this; omega
    have hiL : i < l.length := by omega
    have hszi : i < (⟨l.toArray⟩ : ByteArray).size := by show i < l.toArray.size; simpa using hiL
    have hxi : (⟨l.toArray⟩ : ByteArray)[i]'hszi = l[i] := rfl
    have hld : l[i] = d := by
      have h1 := hends.1
      rw [List.drop_eq_getElem_cons hiL, List.takeWhile_cons] at h1
      split at h1
      · exact (List.cons.inj h1).1
      · cases h1
    have hki : ((k : Int) == (i : Int)) = false := by simp; omega
    have hki' : ¬ (k : Int) = (i : Int) := by omega
    have hli2 : (i : Int) < (l.length : Int) := by omega
    have hdn : ¬ ((d.toNat : Int) = 48) := fun h => hd48 (UInt8.toNat_inj.1 (by have : d.toNat = 48 := by omega
                                                                                rw [this]; rfl))
    have h48' : ((((⟨l.toArray⟩ : ByteArray)[i]'hszi).toNat : Int) == 48) = false := by rw [hxi, hld]; simpa using hdn
    have h48i : ((l[i].toNat : Int) == 48) = false := by rw [hld]; simpa using hdn
    obtain ⟨h0, h1, h3, hf⟩ := HRk.out.cells
    have hf2 := hf 2
    have hKs := HK.out.size
    have hcp := V2_le (d :: r)
    have hcnt : ts.length + 1 ≤ k := by omega
    obtain ⟨tv, hRb, htr⟩ := HRk.out
    obtain ⟨ta, tc, rfl⟩ := htr.shape
    have h2c : wc.cell? ⟨R, 2, none⟩ = some (.slice ta ts.length tc) := by simp [World.cell?, hRb]
    generalize hvp : V2 (d :: r) = vp at *
    have HVP : Hid (V2 (d :: r) = vp) := hvp
    have hbA : Below wc.heap.size wc (wc.alloc (.cells #[.int .i64 vp, .slice none 0 0] 37)) := (Below.refl _ _).alloc (Nat.le_refl _) _
    have HRA : Hid (Rw R l k 0 ts (wc.alloc (.cells #[.int .i64 vp, .slice none 0 0] 37))) := HRk.out.alloc _
    obtain ⟨xs, ho, hx⟩ := htr.of_blocks (w' := wc.alloc (.cells #[.int .i64 vp, .slice none 0 0] 37)) (fun k _ hk _ => hbA.block k hk)
    have HX : Hid (∀ j, j < ts.length → xs[j * 2]? = some (.int .i64 (ts.getD j (0, [])).1) ∧ ∃ nv, xs[j * 2 + 1]? = some nv ∧ RowI (R + 1) (wc.alloc (.cells #[.int .i64 vp, .slice none 0 0] 37)) nv (needsOf ts j) ∧ ∀ k, nv.ownBlock = some k → True) := hx
    have hRb' : (wc.alloc (.cells #[.int .i64 vp, .slice none 0 0] 37)).heap[R]? = some (.cells #[.string ⟨l.toArray⟩, .int .i64 k, .slice ta ts.length tc, .int .i64 0] 44 (0, 0)) := (hbA.block _ (lt_of_block hRb)).trans hRb
    have hN1 := (hbA.block w.heap.size (lt_of_block HN.out)).trans HN.out
    have HRB : Hid ((wc.alloc (.cells #[.int .i64 vp, .slice none 0 0] 37)).heap[R]? = some (.cells #[.string ⟨l.toArray⟩, .int .i64 k, .slice ta ts.length tc, .int .i64 0] 44 (0, 0))) := hRb'
    have HN1 : Hid ((wc.alloc (.cells #[.int .i64 vp, .slice none 0 0] 37)).heap[w.heap.size]? = some (.cells #[.slice none 0 0, .slice none 0 0, .int .i64 0, .int .i64 0] 46 (0, 0))) := hN1
    have hRs : R < wc.heap.size := lt_of_block hRb
    clear hx htr hRb hvp hf hends hd48 hdn hxi hld HNN HG hRb' hN1 hbA
    go_wp2_with (at_builtin; refine wpList_append_own _ rfl (.tmp 128) (.tmp 131) 23 rfl (R + 1) 37 i37 (.agg #[.int .i64 0, .slice none 0 0]) 2 32 Tryd.underlying23 hi37 hz0 hz1 hz2 rfl (by decide) _ ts.length xs rfl ho ⟨wc.heap.size, 0, none⟩ 1 1 [.int .i64 vp, .slice none 0 0] rfl rfl ?c1 ?c2 ?c3 ?c4 ?c5 ?_)
    case c1 => exact cell_two_new wc (.int .i64 vp) (.slice none 0 0) 37
    case c2 => intro u hu; simp at hu; rcases hu with rfl | rfl <;> rfl
    case c3 => unfold maxLen; omega
    case c4 => omega
    case c5 => simp; omega
    intro v' w2 hown' hgrow _
    have hRb2 := grown_other ho hgrow HRB.out (by decide)
    have hN2 := grown_other ho hgrow HN1.out (by decide)
    have hrt : RowT (R + 1) (fun _ => True) w2 v' (ts ++ [(vp, [])]) := RowT.append ho HX.out hown' hgrow
    have HRD2 : Hid (Rw R l k 0 (ts ++ [(vp, [])]) (w2.setCell ⟨R, 2, none⟩ v')) := Rw.laid hRb2 hrt
    have HK2 : Hid (Kp R w w2) := (HK.out.alloc _).grown hgrow (fun k e => by
      have h1 := ho.lt k e
      refine Or.inr (Or.inr ⟨by omega, ?_⟩)
      rcases ho.2 with ⟨hv, _⟩ | ⟨g, cap, cur, hv, _, hh, _⟩
      · rw [hv] at e; simp [Value.ownBlock] at e
      · rw [hv] at e; simp only [Value.ownBlock, Option.some.injEq] at e
        subst e; exact ⟨_, _, hh⟩)
    have hsz2 : w.heap.size < w2.heap.size := lt_of_block hN2
    have hRne : ¬ R = w.heap.size := by omega
    have hc2 : w2.cell? ⟨R, 2, none⟩ = some (.slice ta ts.length tc) := by simp [World.cell?, hRb2]
    have hf2' : w2.frozen? ⟨R, 2, none⟩ = false := by simp [World.frozen?, hRb2]
    have q0 : w2.cell? ⟨w.heap.size, 0, none⟩ = some (.slice none 0 0) := by simp only [World.cell?, hN2]; rfl
    have q1 : w2.cell? ⟨w.heap.size, 1, none⟩ = some (.slice none 0 0) := by simp only [World.cell?, hN2]; rfl
    have q2 : w2.cell? ⟨w.heap.size, 2, none⟩ = some (.int .i64 0) := by simp only [World.cell?, hN2]; rfl
    have q3 : w2.cell? ⟨w.heap.size, 3, none⟩ = some (.int .i64 0) := by simp only [World.cell?, hN2]; rfl
    have qf : ∀ j, w2.frozen? ⟨w.heap.size, j, none⟩ = false := fun j => by simp [World.frozen?, hN2]
    have qf0 := qf 0
    have qf1 := qf 1
    have qf2 := qf 2
    have qf3 := qf 3
    obtain ⟨vg, vc, rfl⟩ := owns_shape hown' (by omega)
    clear hown' hgrow ho hrt HX HRA qf hf2 h0 h1 h3 h2c HRB HN1
    go_wp2
    have hN3 : (w2.setCell ⟨R, 2, none⟩ (.slice (some ⟨vg, 0, none⟩) (ts.length + 1) vc)).heap[w.heap.size]? = some (.cells #[.slice none 0 0, .slice none 0 0, .int .i64 0, .int .i64 0] 46 (0, 0)) := (Below.heap_setCell _ _ _ _ (by show w.heap.size ≠ R; omega)).trans hN2
    show bodyPost Tryd.prog Tryd.f32 (TellsTo .link R l i ts w) Exit.ret _ ((setP (w2.setCell ⟨R, 2, none⟩ (.slice (some ⟨vg, 0, none⟩) (ts.length + 1) vc)) w.heap.size (.slice (some ⟨w2.heap.size, 0, none⟩) 1 1) (.slice (some ⟨w2.heap.size, 0, none⟩) 1 1) (.int .i64 vp) (.int .i64 vp)).alloc (.cells #[.int .i64 (ts.length : Nat)] 3))
    have hNW := setP_block46 hN3 (.slice (some ⟨w2.heap.size, 0, none⟩) 1 1) (.slice (some ⟨w2.heap.size, 0, none⟩) 1 1) (.int .i64 vp) (.int .i64 vp)
    have hRW := HRD2.out.setC hN3 (.slice (some ⟨w2.heap.size, 0, none⟩) 1 1) (.slice (some ⟨w2.heap.size, 0, none⟩) 1 1) (.int .i64 vp) (.int .i64 vp)
    have hKW := (HK2.out.setR 2 (.slice (some ⟨vg, 0, none⟩) (ts.length + 1) vc)).setP (Nat.le_refl w.heap.size) (.slice (some ⟨w2.heap.size, 0, none⟩) 1 1) (.slice (some ⟨w2.heap.size, 0, none⟩) 1 1) (.int .i64 vp) (.int .i64 vp)
    have hWs : (setP (w2.setCell ⟨R, 2, none⟩ (.slice (some ⟨vg, 0, none⟩) (ts.length + 1) vc)) w.heap.size (.slice (some ⟨w2.heap.size, 0, none⟩) 1 1) (.slice (some ⟨w2.heap.size, 0, none⟩) 1 1) (.int .i64 vp) (.int .i64 vp)).heap.size = w2.heap.size := by rw [setP_size]; simp
    generalize setP (w2.setCell ⟨R, 2, none⟩ (.slice (some ⟨vg, 0, none⟩) (ts.length + 1) vc)) w.heap.size (.slice (some ⟨w2.heap.size, 0, none⟩) 1 1) (.slice (some ⟨w2.heap.size, 0, none⟩) 1 1) (.int .i64 vp) (.int .i64 vp) = W at hNW hRW hKW hWs ⊢
    have hrow : RowI w.heap.size (W.alloc (.cells #[.int .i64 (ts.length : Nat)] 3)) (.slice (some ⟨w2.heap.size, 0, none⟩) 1 1) [((ts.length : Nat) : Int)] := by
      have := RowI.lit W w.heap.size (by omega) (ts.length : Nat)
      rw [hWs] at this
      exact this
    have hq : TellsTo .link R l i ts w (.returned (clothV (.slice (some ⟨w2.heap.size, 0, none⟩) 1 1) (.slice (some ⟨w2.heap.size, 0, none⟩) 1 1) vp vp)) (W.alloc (.cells #[.int .i64 (ts.length : Nat)] 3)) := by
      refine ⟨hKW.alloc _, k, _, _, [((ts.length : Nat) : Int)], [((ts.length : Nat) : Int)], vp, vp, rfl, by omega, hkl, ⟨hrow, hrow, by simp; omega, by simp; omega, hcp.1, by omega, hcp.1, by omega⟩, Or.inr ⟨.num (d :: r), HSO.out, by simp only [Tree.count]; omega, rfl, rfl, HVP.out.symm, HVP.out.symm, ?_⟩⟩
      simp only [Tree.lay]
      rw [HVP.out]
      exact hRW.alloc _
    exact cloth_ret (b := w.heap.size) rfl ((blk_alloc_lt _ _ _ (by omega)).trans hNW) rfl rfl hq
end Go.Proofs.YtcankblanhpmpaaDoor
