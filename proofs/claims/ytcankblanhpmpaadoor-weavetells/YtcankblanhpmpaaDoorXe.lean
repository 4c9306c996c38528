/- one, at a text that begins with no sign that opens: a number. -/
import Derived.Test.YtcankblanhpmpaaDoorXd
namespace Go.Proofs.YtcankblanhpmpaaDoor
open Go.RowKit Go.Deep

set_option maxRecDepth 100000 in
set_option maxHeartbeats 8000000 in
theorem oneBad_any (R : Nat) (l : List UInt8) (i : Nat) (ts : List (Int × List Int)) (w : World) (hl : l.length ≤ 200) (hi : i ≤ l.length) (hts : ts.length ≤ i) (h40 : (l.drop i).head? ≠ some 40) (hnone : numR (l.drop i) = none) (hr : Rw R l i 0 ts w) :
    Calls Tryd.prog 32 #[.pointer (some ⟨R, 0, none⟩)] w (TellsTo .link R l i ts w) := by
  have HR : Hid (Rw R l i 0 ts w) := hr
  have hRl := hr.lt
  have hr0 := hr.alloc (.cells #[.slice none 0 0, .slice none 0 0, .int .i64 0, .int .i64 0] 46)
  obtain ⟨h0, h1, h3, hf⟩ := hr0.cells
  have hnx := nextR_any R l i 0 ts 40 _ hl hi hr0
  have hnb : nextB 0 l i 40 = false := by unfold nextB; rw [decide_eq_false h40]; rfl
  rw [hnb] at hnx
  change Calls Tryd.prog 22 #[.pointer (some ⟨R, 0, none⟩), .int .u8 40] _ _ at hnx
  have HG : Hid (Gr .link (l.drop i) none) := by have := Gr.num h40; rw [hnone] at this; exact this
  have HNN : Hid (numR (l.drop i) = none) := hnone
  have HR0 : Hid (Rw R l i 0 ts (w.alloc (.cells #[.slice none 0 0, .slice none 0 0, .int .i64 0, .int .i64 0] 46))) := hr0
  clear hr hr0 hf hnb h40 h0 h3 hnone
  go_enter Tryd.func32, Tryd.ntmps32
  go_wp2_with (first | (go_at_call 22; refine hnx.mono ?_; clear hnx; rintro e w' ⟨rfl, nn, rfl⟩))
  have HN0 : Hid (((w.alloc (.cells #[.slice none 0 0, .slice none 0 0, .int .i64 0, .int .i64 0] 46)).drewN nn).heap[w.heap.size]? = some (.cells #[.slice none 0 0, .slice none 0 0, .int .i64 0, .int .i64 0] 46 (0, 0))) := blk_alloc_new w _
  have HR1 : Hid (Rw R l i 0 ts ((w.alloc (.cells #[.slice none 0 0, .slice none 0 0, .int .i64 0, .int .i64 0] 46)).drewN nn)) := HR0.out.drewN nn
  have HK0 : Hid (Kp R w ((w.alloc (.cells #[.slice none 0 0, .slice none 0 0, .int .i64 0, .int .i64 0] 46)).drewN nn)) := ((Kp.refl R w).alloc _).drewN nn
  clear h1 HR0
  go_loopg [6] l.length (fun gg s6 wr => ∃ k p, s6 = .int .i64 (p.foldl cap2 0 : Nat) ∧ Hid (NumAt l i k p) ∧ Hid (Rw R l k 0 ts wr) ∧ Hid (Kp R w wr) ∧ l.length - k ≤ gg ∧ Hid (wr.heap[w.heap.size]? = some (.cells #[.slice none 0 0, .slice none 0 0, .int .i64 0, .int .i64 0] 46 (0, 0))))
  case atStart => exact ⟨i, [], rfl, NumAt.start hi, HR1, HK0, by omega, HN0⟩
  case round =>
    clear HR1 HK0 HN0
    obtain ⟨k, p, rfl, hn, HRk, HK, hg, HN⟩ := hrel
    obtain ⟨h0, h1, h3, hf⟩ := HRk.out.cells
    have hf1 := hf 1
    have hf3 := hf 3
    clear hf
    have hcap := cap2_le p 0 (by omega)
    have HC : Hid (∀ d, (p ++ [d]).foldl cap2 0 = cap2 (p.foldl cap2 0) d) := fun d => by show _ = _; rw [List.foldl_append]; rfl
    have hkl := hn.out.2.2.2
    have HKI : Hid (k = i + p.length) := hn.out.2.2.1
    have n0 : wr.cell? ⟨w.heap.size, 0, none⟩ = some (.slice none 0 0) := by simp only [World.cell?, HN.out]; rfl
    have n1 : wr.cell? ⟨w.heap.size, 1, none⟩ = some (.slice none 0 0) := by simp only [World.cell?, HN.out]; rfl
    have n2 : wr.cell? ⟨w.heap.size, 2, none⟩ = some (.int .i64 0) := by simp only [World.cell?, HN.out]; rfl
    have n3 : wr.cell? ⟨w.heap.size, 3, none⟩ = some (.int .i64 0) := by simp only [World.cell?, HN.out]; rfl
    have nf : ∀ j, wr.frozen? ⟨w.heap.size, j, none⟩ = false := fun j => by simp [World.frozen?, HN.out]
    have nf0 := nf 0
    have nf1 := nf 1
    have nf2 := nf 2
    have nf3 := nf 3
    have hRne : ¬ R = w.heap.size := by omega
    clear nf
    generalize p.foldl cap2 0 = n at *
    by_cases hil : k < l.length
    · have hsz : k < (⟨l.toArray⟩ : ByteArray).size := by show k < l.toArray.size; simpa using hil
      have hxe : (⟨l.toArray⟩ : ByteArray)[k]'hsz = l[k] := rfl
      have hli : (k : Int) < (l.length : Int) := by omega
      cases hd : isDig l[k]
      · have HE : Hid (∀ x, (l.drop k).head? = some x → isDig x = false) := fun x hx => by
          rw [head_drop hil] at hx
          rw [← Option.some.inj hx]; exact hd
        by_cases h48b : 48 ≤ l[k].toNat
        · have h57 : ¬ l[k].toNat ≤ 57 := fun h => by simp [isDig, h48b, h] at hd
          have hd1 : (48 : Int) ≤ (l[k].toNat : Int) := by omega
          have q3 : 48 ≤ ((⟨l.toArray⟩ : ByteArray)[k]'hsz).toNat := by rw [hxe]; exact h48b
          have hb1 : (48 : Int) ≤ (((⟨l.toArray⟩ : ByteArray)[k]'hsz).toNat : Int) := by omega
          have d2 : decide ((l[k].toNat : Int) ≤ 57) = false := decide_eq_false (by omega)
          have d4 : decide ((((⟨l.toArray⟩ : ByteArray)[k]'hsz).toNat : Int) ≤ 57) = false := decide_eq_false (by rw [hxe]; omega)
          have d5 : decide (l[k].toNat ≤ 57) = false := decide_eq_false h57
          have d6 : decide (((⟨l.toArray⟩ : ByteArray)[k]'hsz).toNat ≤ 57) = false := decide_eq_false (by rw [hxe]; exact h57)
          clear hxe hd
          rcases p with _ | ⟨d, r⟩
          · have hke : k = i := by have := HKI.out; simpa using this
            subst hke
            have hkk : ((k : Int) == (k : Int)) = true := by simp
            go_wp2
            go_quiet (fail)
            go_wp2
            have hN4 : ((wr.drewN nq).setCell ⟨R, 3, none⟩ (.int .i64 2)).heap[w.heap.size]? = some (.cells #[.slice none 0 0, .slice none 0 0, .int .i64 0, .int .i64 0] 46 (0, 0)) := (Below.heap_setCell _ _ _ _ (by show w.heap.size ≠ R; omega)).trans HN.out
            have hq : TellsTo .link R l k ts w (.returned (clothV (.slice none 0 0) (.slice none 0 0) 0 0)) (setP ((wr.drewN nq).setCell ⟨R, 3, none⟩ (.int .i64 2)) w.heap.size (.slice none 0 0) (.slice none 0 0) (.int .i64 0) (.int .i64 0)) :=
              tells_fault (k := k) (((HK.out.drewN nq).setR 3 _).setP (Nat.le_refl _) _ _ _ _) (by have := HKI.out; omega) hkl HG.out (by have := HKI.out; omega) (((HRk.out.drewN nq).fault 2).setC hN4 _ _ _ _)
            exact cloth_ret (b := w.heap.size) rfl (setP_block46 hN4 _ _ _ _) rfl rfl hq
          · have hik : i < k := by have := HKI.out; simp at this; omega
            have hiL : i < l.length := by omega
            have hszi : i < (⟨l.toArray⟩ : ByteArray).size := by show i < l.toArray.size; simpa using hiL
            have hxi : (⟨l.toArray⟩ : ByteArray)[i]'hszi = l[i] := rfl
            have hld : l[i] = d := by
              have h1 := hn.out.1
              rw [List.drop_eq_getElem_cons hiL] at h1
              exact (List.cons.inj h1).1
            have hki : ((k : Int) == (i : Int)) = false := by simp; omega
            have hki' : ¬ (k : Int) = (i : Int) := by omega
            have hli2 : (i : Int) < (l.length : Int) := by omega
            have h48 : d = 48 := by
              rcases Decidable.em (d = 48) with h | h
              · exact h
              · have := numR_some (hn.out.ends HE.out).1 h
                rw [HNN.out] at this
                cases this
            subst h48
            have h48' : ((((⟨l.toArray⟩ : ByteArray)[i]'hszi).toNat : Int) == 48) = true := by rw [hxi, hld]; rfl
            have h48i : ((l[i].toNat : Int) == 48) = true := by rw [hld]; rfl
            clear hxi hld
            go_wp2
            go_quiet (fail)
            go_wp2
            have hN4 : ((wr.drewN nq).setCell ⟨R, 3, none⟩ (.int .i64 2)).heap[w.heap.size]? = some (.cells #[.slice none 0 0, .slice none 0 0, .int .i64 0, .int .i64 0] 46 (0, 0)) := (Below.heap_setCell _ _ _ _ (by show w.heap.size ≠ R; omega)).trans HN.out
            have hq : TellsTo .link R l i ts w (.returned (clothV (.slice none 0 0) (.slice none 0 0) 0 0)) (setP ((wr.drewN nq).setCell ⟨R, 3, none⟩ (.int .i64 2)) w.heap.size (.slice none 0 0) (.slice none 0 0) (.int .i64 0) (.int .i64 0)) :=
              tells_fault (k := k) (((HK.out.drewN nq).setR 3 _).setP (Nat.le_refl _) _ _ _ _) (by have := HKI.out; omega) hkl HG.out (by have := HKI.out; omega) (((HRk.out.drewN nq).fault 2).setC hN4 _ _ _ _)
            exact cloth_ret (b := w.heap.size) rfl (setP_block46 hN4 _ _ _ _) rfl rfl hq
        · have d2 : decide ((48 : Int) ≤ (l[k].toNat : Int)) = false := decide_eq_false (by omega)
          have d4 : decide ((48 : Int) ≤ (((⟨l.toArray⟩ : ByteArray)[k]'hsz).toNat : Int)) = false := decide_eq_false (by rw [hxe]; omega)
          have d5 : decide (48 ≤ l[k].toNat) = false := decide_eq_false h48b
          have d6 : decide (48 ≤ ((⟨l.toArray⟩ : ByteArray)[k]'hsz).toNat) = false := decide_eq_false (by rw [hxe]; exact h48b)
          clear hxe hd
          rcases p with _ | ⟨d, r⟩
          · have hke : k = i := by have := HKI.out; simpa using this
            subst hke
            have hkk : ((k : Int) == (k : Int)) = true := by simp
            go_wp2
            go_quiet (fail)
            go_wp2
            have hN4 : ((wr.drewN nq).setCell ⟨R, 3, none⟩ (.int .i64 2)).heap[w.heap.size]? = some (.cells #[.slice none 0 0, .slice none 0 0, .int .i64 0, .int .i64 0] 46 (0, 0)) := (Below.heap_setCell _ _ _ _ (by show w.heap.size ≠ R; omega)).trans HN.out
            have hq : TellsTo .link R l k ts w (.returned (clothV (.slice none 0 0) (.slice none 0 0) 0 0)) (setP ((wr.drewN nq).setCell ⟨R, 3, none⟩ (.int .i64 2)) w.heap.size (.slice none 0 0) (.slice none 0 0) (.int .i64 0) (.int .i64 0)) :=
              tells_fault (k := k) (((HK.out.drewN nq).setR 3 _).setP (Nat.le_refl _) _ _ _ _) (by have := HKI.out; omega) hkl HG.out (by have := HKI.out; omega) (((HRk.out.drewN nq).fault 2).setC hN4 _ _ _ _)
            exact cloth_ret (b := w.heap.size) rfl (setP_block46 hN4 _ _ _ _) rfl rfl hq
          · have hik : i < k := by have := HKI.out; simp at this; omega
            have hiL : i < l.length := by omega
            have hszi : i < (⟨l.toArray⟩ : ByteArray).size := by show i < l.toArray.size; simpa using hiL
            have hxi : (⟨l.toArray⟩ : ByteArray)[i]'hszi = l[i] := rfl
            have hld : l[i] = d := by
              have h1 := hn.out.1
              rw [List.drop_eq_getElem_cons hiL] at h1
              exact (List.cons.inj h1).1
            have hki : ((k : Int) == (i : Int)) = false := by simp; omega
            have hki' : ¬ (k : Int) = (i : Int) := by omega
            have hli2 : (i : Int) < (l.length : Int) := by omega
            have h48 : d = 48 := by
              rcases Decidable.em (d = 48) with h | h
              · exact h
              · have := numR_some (hn.out.ends HE.out).1 h
                rw [HNN.out] at this
                cases this
            subst h48
            have h48' : ((((⟨l.toArray⟩ : ByteArray)[i]'hszi).toNat : Int) == 48) = true := by rw [hxi, hld]; rfl
            have h48i : ((l[i].toNat : Int) == 48) = true := by rw [hld]; rfl
            clear hxi hld
            go_wp2
            go_quiet (fail)
            go_wp2
            have hN4 : ((wr.drewN nq).setCell ⟨R, 3, none⟩ (.int .i64 2)).heap[w.heap.size]? = some (.cells #[.slice none 0 0, .slice none 0 0, .int .i64 0, .int .i64 0] 46 (0, 0)) := (Below.heap_setCell _ _ _ _ (by show w.heap.size ≠ R; omega)).trans HN.out
            have hq : TellsTo .link R l i ts w (.returned (clothV (.slice none 0 0) (.slice none 0 0) 0 0)) (setP ((wr.drewN nq).setCell ⟨R, 3, none⟩ (.int .i64 2)) w.heap.size (.slice none 0 0) (.slice none 0 0) (.int .i64 0) (.int .i64 0)) :=
              tells_fault (k := k) (((HK.out.drewN nq).setR 3 _).setP (Nat.le_refl _) _ _ _ _) (by have := HKI.out; omega) hkl HG.out (by have := HKI.out; omega) (((HRk.out.drewN nq).fault 2).setC hN4 _ _ _ _)
            exact cloth_ret (b := w.heap.size) rfl (setP_block46 hN4 _ _ _ _) rfl rfl hq
      · have HS : Hid (NumAt l i (k + 1) (p ++ [l[k]])) := hn.out.step hil hd
        have hdb : 48 ≤ l[k].toNat ∧ l[k].toNat ≤ 57 := by simpa [isDig] using hd
        have hd1 : (48 : Int) ≤ (l[k].toNat : Int) := by omega
        have hd2 : (l[k].toNat : Int) ≤ 57 := by omega
        have hb1 : (48 : Int) ≤ (((⟨l.toArray⟩ : ByteArray)[k]'hsz).toNat : Int) := by rw [hxe]; exact hd1
        have hb2 : (((⟨l.toArray⟩ : ByteArray)[k]'hsz).toNat : Int) ≤ 57 := by rw [hxe]; exact hd2
        have hee : ((0 : Int) == 0) = true := rfl
        have q1 : 48 ≤ l[k].toNat := hdb.1
        have q2 : l[k].toNat ≤ 57 := hdb.2
        have q3 : 48 ≤ ((⟨l.toArray⟩ : ByteArray)[k]'hsz).toNat := by rw [hxe]; exact q1
        have q4 : ((⟨l.toArray⟩ : ByteArray)[k]'hsz).toNat ≤ 57 := by rw [hxe]; exact q2
        have HXE : Hid ((⟨l.toArray⟩ : ByteArray)[k]'hsz = l[k]) := hxe
        clear hxe hd hdb
        have HCD : Hid ((p ++ [l[k]]).foldl cap2 0 = cap2 n l[k]) := HC.out l[k]
        by_cases hm : n < 1000
        · have hmi : (n : Int) < 1000 := by omega
          go_wp2
          go_quiet (fail)
          go_wp2
          go_quiet (fail)
          go_wp2
          go_roundg (l.length - (k + 1))
          case measure => omega
          case rel => exact ⟨k + 1, p ++ [l[k]], by rw [HCD.out]; unfold cap2; rw [if_pos hm, ← HXE.out]; go_num, HS, (HRk.out.drewN _).place (k + 1), (HK.out.drewN _).setR 1 _, Nat.le_refl _, (Below.heap_setCell _ _ _ _ (by show w.heap.size ≠ R; omega)).trans HN.out⟩
        · have hmi : ¬ (n : Int) < 1000 := by omega
          go_wp2
          go_quiet (fail)
          go_wp2
          go_roundg (l.length - (k + 1))
          case measure => omega
          case rel => exact ⟨k + 1, p ++ [l[k]], by rw [HCD.out]; unfold cap2; rw [if_neg hm], HS, (HRk.out.drewN _).place (k + 1), (HK.out.drewN _).setR 1 _, Nat.le_refl _, (Below.heap_setCell _ _ _ _ (by show w.heap.size ≠ R; omega)).trans HN.out⟩
    · have HE : Hid (∀ x, (l.drop k).head? = some x → isDig x = false) := fun x hx => by rw [head_end (by omega)] at hx; cases hx
      have hli : decide ((k : Int) < (l.length : Int)) = false := decide_eq_false (by omega)
      rcases p with _ | ⟨d, r⟩
      · have hke : k = i := by have := HKI.out; simpa using this
        subst hke
        have hkk : ((k : Int) == (k : Int)) = true := by simp
        go_wp2
        go_quiet (fail)
        go_wp2
        have hN4 : ((wr.drewN nq).setCell ⟨R, 3, none⟩ (.int .i64 2)).heap[w.heap.size]? = some (.cells #[.slice none 0 0, .slice none 0 0, .int .i64 0, .int .i64 0] 46 (0, 0)) := (Below.heap_setCell _ _ _ _ (by show w.heap.size ≠ R; omega)).trans HN.out
        have hq : TellsTo .link R l k ts w (.returned (clothV (.slice none 0 0) (.slice none 0 0) 0 0)) (setP ((wr.drewN nq).setCell ⟨R, 3, none⟩ (.int .i64 2)) w.heap.size (.slice none 0 0) (.slice none 0 0) (.int .i64 0) (.int .i64 0)) :=
          tells_fault (k := k) (((HK.out.drewN nq).setR 3 _).setP (Nat.le_refl _) _ _ _ _) (by have := HKI.out; omega) hkl HG.out (by have := HKI.out; omega) (((HRk.out.drewN nq).fault 2).setC hN4 _ _ _ _)
        exact cloth_ret (b := w.heap.size) rfl (setP_block46 hN4 _ _ _ _) rfl rfl hq
      · have hik : i < k := by have := HKI.out; simp at this; omega
        have hiL : i < l.length := by omega
        have hszi : i < (⟨l.toArray⟩ : ByteArray).size := by show i < l.toArray.size; simpa using hiL
        have hxi : (⟨l.toArray⟩ : ByteArray)[i]'hszi = l[i] := rfl
        have hld : l[i] = d := by
          have h1 := hn.out.1
          rw [List.drop_eq_getElem_cons hiL] at h1
          exact (List.cons.inj h1).1
        have hki : ((k : Int) == (i : Int)) = false := by simp; omega
        have hki' : ¬ (k : Int) = (i : Int) := by omega
        have hli2 : (i : Int) < (l.length : Int) := by omega
        have h48 : d = 48 := by
          rcases Decidable.em (d = 48) with h | h
          · exact h
          · have := numR_some (hn.out.ends HE.out).1 h
            rw [HNN.out] at this
            cases this
        subst h48
        have h48' : ((((⟨l.toArray⟩ : ByteArray)[i]'hszi).toNat : Int) == 48) = true := by rw [hxi, hld]; rfl
        have h48i : ((l[i].toNat : Int) == 48) = true := by rw [hld]; rfl
        clear hxi hld
        go_wp2
        go_quiet (fail)
        go_wp2
        have hN4 : ((wr.drewN nq).setCell ⟨R, 3, none⟩ (.int .i64 2)).heap[w.heap.size]? = some (.cells #[.slice none 0 0, .slice none 0 0, .int .i64 0, .int .i64 0] 46 (0, 0)) := (Below.heap_setCell _ _ _ _ (by show w.heap.size ≠ R; omega)).trans HN.out
        have hq : TellsTo .link R l i ts w (.returned (clothV (.slice none 0 0) (.slice none 0 0) 0 0)) (setP ((wr.drewN nq).setCell ⟨R, 3, none⟩ (.int .i64 2)) w.heap.size (.slice none 0 0) (.slice none 0 0) (.int .i64 0) (.int .i64 0)) :=
          tells_fault (k := k) (((HK.out.drewN nq).setR 3 _).setP (Nat.le_refl _) _ _ _ _) (by have := HKI.out; omega) hkl HG.out (by have := HKI.out; omega) (((HRk.out.drewN nq).fault 2).setC hN4 _ _ _ _)
        exact cloth_ret (b := w.heap.size) rfl (setP_block46 hN4 _ _ _ _) rfl rfl hq
end Go.Proofs.YtcankblanhpmpaaDoor
