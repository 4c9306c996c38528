/- The contract of Ready. -/
import Derived.Test.YtbknbakbfblbiaaDoorL
namespace Go.Proofs.YtbknbakbfblbiaaDoor
open Go.RowKit Go.Deep Go.Maps

theorem RowI.whole (w : World) (N n : Nat) (ys : List Int) (hn : ys.length = n) (h60 : n ≤ 60) (h : w.heap[N]? = some (.cells (ys.map (Value.int .i64)).toArray 3 (0, 0))) : RowI N w (.slice (some ⟨N, 0, none⟩) n n) ys := by
  subst hn
  exact ⟨by simp, Or.inr ⟨N, _, _, rfl, Nat.le_refl _, h, Nat.le_refl _, by unfold maxLen; omega, by simp, by simp [List.take_of_length_le]⟩⟩
theorem one_rds (w : World) (x : Int) : Rds (fun _ => True) (w.alloc (.cells #[.int .i64 x] 3)) (.slice (some ⟨w.heap.size, 0, none⟩) 1 1) [x] :=
  ((RowI.whole _ _ 1 _ rfl (by omega) (heap_alloc_new w _)).rds).mono (fun _ _ => trivial)
theorem RowI.later {b : Nat} {w w' : World} {v : Value} {zs : List Int} (h : RowI b w v zs) (hb : Below w.heap.size w w') : RowI b w' v zs := h.of_blocks (fun _ e => hb.block _ (h.low e).2)

theorem stN_ready {ts : List (Int × List Int)} {S : Nat → Bool} {k : Nat} (h : readyB ts S k = true) : stN ts S k = 1 := by
  obtain ⟨h1, h2⟩ := ready_parts h
  unfold stN
  rw [h1, h2]; rfl
theorem stN_not {ts : List (Int × List Int)} {S : Nat → Bool} {k : Nat} (h : readyB ts S k = false) : stN ts S k ≠ 1 := by
  unfold stN
  unfold readyB at h
  cases hs : S k with
  | true => simp
  | false =>
    rw [hs] at h
    simp at h
    simp [h]

set_option maxRecDepth 100000 in
set_option maxHeartbeats 2000000 in
theorem ready_any (J M A D C : Nat) (ts : List (Int × List Int)) (S : Nat → Bool) (w : World) (h : JnT J M A D C ts S w) :
    Calls Tryd.prog 33 #[.pointer (some ⟨J, 0, none⟩)] w fun e w' => (∃ v, e = .returned v ∧ RowI w.heap.size w' v (intsOf (readyTo ts S ts.length))) ∧ Below w.heap.size w w' := by
  have hc0 := Jn.c0 h
  have h30 := Jn.le h
  have HJ : Hid (JnT J M A D C ts S w) := h
  clear h
  go_enter Tryd.func33, Tryd.ntmps33
  go_wp2
  go_loopw [3, 10] (fun s3 s10 wr => ∃ k : Nat, k ≤ ts.length ∧ s10 = .int .i64 k ∧ Hid (RowI w.heap.size wr s3 (intsOf (readyTo ts S k))) ∧ Below w.heap.size w wr) (fun _ s10 _ => ts.length - (intOf s10).toNat)
  case atStart => exact ⟨0, Nat.zero_le _, rfl, RowI.nil _ _, Below.refl _ _⟩
  case round =>
    obtain ⟨k, hk, rfl, hR, hb⟩ := hrel
    obtain ⟨la, lc, rfl⟩ := hR.out.shape
    by_cases hkl : k < ts.length
    · have hst := stateOf_any J M A D C ts S k wr (Jn.later HJ.out hb) hkl
      have HT : Hid (readyTo ts S (k + 1) = readyTo ts S k ++ if readyB ts S k then [k] else []) := readyTo_succ ts S k
      cases hr : readyB ts S k
      · have hne : (((stN ts S k : Nat) : Int) == 1) = false := by have := stN_not hr; simp; omega
        rw [hr] at HT
        have HR2 : Hid (∀ wx, Below wr.heap.size wr wx → RowI w.heap.size wx (.slice la (intsOf (readyTo ts S k)).length lc) (intsOf (readyTo ts S (k + 1)))) := fun wx hx => by rw [HT.out]; simpa using hR.out.later hx
        generalize stN ts S k = st at *
        clear hr hR HT hc0
        go_wp2_with (go_at_call 44; refine hst.mono ?_; clear hst; rintro e w' ⟨rfl, hb1⟩)
        go_roundw
        case rel => exact ⟨k + 1, by omega, by go_num, HR2.out _ hb1, hb.trans (hb1.mono hb.size)⟩
        case measure => simp [intOf]; omega
      · rw [stN_ready hr] at hst
        rw [hr] at HT
        have hlen : (intsOf (readyTo ts S k)).length ≤ 30 := by rw [intsOf_length]; have := readyTo_len ts S k; omega
        have HT2 : Hid (intsOf (readyTo ts S (k + 1)) = intsOf (readyTo ts S k) ++ [(k : Int)]) := by show _ = _; rw [HT.out]; simp [intsOf]
        have HR : Hid (∀ wx, Below wr.heap.size wr wx → RowI w.heap.size wx (.slice la (intsOf (readyTo ts S k)).length lc) (intsOf (readyTo ts S k))) := fun wx hx => hR.out.later hx
        clear hr hR HT hc0
        generalize intsOf (readyTo ts S k) = l at *
        go_wp2_with fail
        refine hst.mono ?_
        clear hst
        rintro e w1 ⟨rfl, hb1⟩
        have HO : Hid (Rds (fun _ => True) (w1.alloc (.cells #[.int .i64 k] 3)) (.slice (some ⟨w1.heap.size, 0, none⟩) 1 1) [(k : Int)]) := one_rds w1 k
        have hoa := (HR.out w1 hb1).alloc (.cells #[.int .i64 k] 3)
        have hs1 := hb.size
        have hs2 := hb1.size
        go_wp2_with (first | (at_builtin; refine wpList_append_rows rfl (.tmp 17) (.tmp 19) rfl w.heap.size (fun _ => True) (.slice la l.length lc) (.slice (some ⟨w1.heap.size, 0, none⟩) 1 1) l [(k : Int)] rfl rfl hoa HO.out (by simp; omega) (by simp; omega) ?_; intro v2 w2 hown2 hgr2 hat2))
        have hb2 : Below w.heap.size w w2 := ((hb.trans (hb1.mono hs1)).alloc (by omega) _).grown hgr2 (by simp; omega) (fun j e => ((HR.out w1 hb1).low e).1)
        have HN : Hid (RowI w.heap.size w2 v2 (intsOf (readyTo ts S (k + 1)))) := by rw [HT2.out]; exact hown2
        clear hown2 hgr2 hat2 hoa HO HR
        go_wp2
        go_roundw
        case rel => exact ⟨k + 1, by omega, by go_num, HN, hb2⟩
        case measure => simp [intOf]; omega
    · have hke : k = ts.length := by omega
      have hkl' : ¬ (k : Int) < (ts.length : Int) := by omega
      have HE : Hid (RowI w.heap.size wr (.slice la (intsOf (readyTo ts S k)).length lc) (intsOf (readyTo ts S ts.length))) := by have := hR.out; rw [hke] at this ⊢; exact this
      clear hR hke
      go_wp2
      go_ret
      exact ⟨⟨_, rfl, HE.out⟩, hb⟩
end Go.Proofs.YtbknbakbfblbiaaDoor
