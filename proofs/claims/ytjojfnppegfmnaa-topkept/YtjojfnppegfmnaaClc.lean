/- The contracts of fold, split, IndexFunc at cells, first. -/
import Derived.Test.YtjojfnppegfmnaaClb
namespace Go.Proofs.Ytjojfnppegfmnaa
open Go.RowKit Go.Deep

/-- What is told behind the last step of a fold. -/
def foldV : Option Int → Cl
  | none => (0, true)
  | some m => (m, false)
theorem getD_memC {α : Type} {l : List α} {k : Nat} (d : α) (hk : k < l.length) : l.getD k d ∈ l := by
  rw [List.getD_eq_getElem?_getD, List.getElem?_eq_getElem hk]
  exact List.getElem_mem hk
theorem drop_at {α : Type} {l : List α} {k : Nat} (d : α) (hk : k < l.length) : l.drop k = l.getD k d :: l.drop (k + 1) := by
  rw [List.drop_eq_getElem_cons hk, List.getD_eq_getElem?_getD, List.getElem?_eq_getElem hk]
  rfl
theorem new_pair (w : World) (a b : Value) (t : TypeId) : (w.alloc (.cells #[a, b] t)).heap[w.heap.size]? = some (.cells #[a, b] t (0, 0)) := blk_alloc_new w _

theorem setP_alloc {w : World} {b : Nat} {t : TypeId} {o1 o2 : Value} (h : w.heap[b]? = some (.cells #[o1, o2] t (0, 0))) (a1 a2 : Value) (x : Obj) : ((setP w b a1 a2).alloc x).heap[b]? = some (.cells #[a1, a2] t (0, 0)) :=
  (Below.heap_alloc _ _ _ (lt_of_block (setP_block h a1 a2))).trans (setP_block h a1 a2)

set_option maxRecDepth 100000 in
set_option maxHeartbeats 1000000 in
theorem fold_any (n : Int) (v : Value) (cs : List Cl) (g : Nat) (lb : Array Value) (t : Int) (w : World) (hc : CellsAt w v cs) (hj : JoinIn g lb t) (hn : fitsC n = true) (hr : ∀ c, c ∈ cs → cellErr c = 0) :
    Calls Try.prog 50 #[.int .i64 n, v, .func (.func g) #[] lb] w fun e w' => e = .returned (clV (foldV (foldC t n cs))) ∧ Below w.heap.size w w' := by
  obtain ⟨hl, a, c, rfl, hc⟩ := hc
  obtain ⟨eg, hj⟩ := hj
  have HJ : Hid (∀ a b w, fitsC a = true → fitsC b = true → Calls Try.prog g (#[.int .i64 a, .int .i64 b] ++ lb) w fun e w' => e = .returned (.int .i64 (stepC t a b)) ∧ w' = w) := hj
  have HN : Hid (fitsC n = true) := hn
  have HR : Hid (∀ c, c ∈ cs → cellErr c = 0) := hr
  clear hj hn hr
  go_enter Try.func50, Try.ntmps50
  go_wp2
  go_loopw [0, 11] (fun s0 s11 wr => ∃ (m : Int) (k : Nat), k ≤ cs.length ∧ s0 = .int .i64 m ∧ s11 = .int .i64 k ∧ Hid (fitsC m = true) ∧ Hid (foldC t n cs = foldC t m (cs.drop k)) ∧ Below (w.heap.size + 1) (w.alloc (.cells #[.int .i64 0, .bool false] 64)) wr) (fun _ s11 _ => cs.length - (intOf s11).toNat)
  case atStart => exact ⟨n, 0, Nat.zero_le _, rfl, rfl, HN, by show _ = _; rw [List.drop_zero], Below.refl _ _⟩
  case round =>
    obtain ⟨m, k, hk, rfl, rfl, hm, hE, hb⟩ := hrel
    have hsz : w.heap.size < wr.heap.size := by have := hb.size; simp at this; omega
    have hB0 : wr.heap[w.heap.size]? = some (.cells #[.int .i64 0, .bool false] 64 (0, 0)) := (hb.block _ (by omega)).trans (new_pair w _ _ _)
    have hbw : Below w.heap.size w wr := ((Below.refl w.heap.size w).alloc (Nat.le_refl _) _).trans (hb.mono (by omega))
    by_cases hkl : k < cs.length
    · rcases hc with rfl | ⟨b, o, rfl, hbl, hc⟩
      · simp at hkl
      obtain ⟨hc1, hc2⟩ := hc k hkl
      have hc1' := (hbw.cell (p := ⟨b, o + k * 2, none⟩) hbl).trans hc1
      have hc2' := (hbw.cell (p := ⟨b, o + k * 2 + 1, none⟩) hbl).trans hc2
      clear hc hc1 hc2
      have hx := cellErr_zero.1 (HR.out _ (getD_memC (0, false) hkl))
      have HD : Hid (foldC t n cs = if fltC cs k = true then none else if fitsC (stepC t m (numC cs k)) = true then foldC t (stepC t m (numC cs k)) (cs.drop (k + 1)) else none) := by
        show _ = _
        rw [hE.out, drop_at (0, false) hkl]
        rfl
      have hxf : fitsC (numC cs k) = true := hx.1
      clear hx hE
      generalize numC cs k = x at *
      generalize fltC cs k = f at *
      have hB1 : (wr.alloc (.cells #[.int .i64 x, .bool f] 64)).heap[w.heap.size]? = some (.cells #[.int .i64 0, .bool false] 64 (0, 0)) := (Below.heap_alloc _ _ _ hsz).trans hB0
      obtain ⟨q0, q1, qf⟩ := pair_cells hB1
      have qf0 := qf 0
      have qf1 := qf 1
      obtain ⟨p0, p1, pf⟩ := pair_cells hB0
      have pf0 := pf 0
      have pf1 := pf 1
      clear pf
      have hbA : Below w.heap.size w (wr.alloc (.cells #[.int .i64 x, .bool f] 64)) := hbw.alloc hbw.size _
      have hbA2 : Below (w.heap.size + 1) (w.alloc (.cells #[.int .i64 0, .bool false] 64)) (wr.alloc (.cells #[.int .i64 x, .bool f] 64)) := hb.alloc (by omega) _
      have hcall := HJ.out m x (wr.alloc (.cells #[.int .i64 x, .bool f] 64)) hm.out hxf
      have HB1 : Hid (wr.heap[w.heap.size]? = some (.cells #[.int .i64 0, .bool false] 64 (0, 0))) := hB0
      clear hB1 hB0 hxf qf
      generalize stepC t m x = m2 at *
      have hv := fun wx => isValue_any m2 wx
      cases f
      · cases hf : fitsC m2
        · have HE : Hid (foldC t n cs = none) := by
            show _ = _
            rw [HD.out, hf]
            rfl
          rw [hf] at hv
          clear hf HD
          go_wp2_with (first | (go_at_fn g; refine hcall.mono ?_; rintro e w' ⟨rfl, rfl⟩) | (go_at_call 47; refine (hv _).mono ?_; rintro e w2 ⟨rfl, rfl⟩))
          obtain ⟨r0, r1, _⟩ := pair_cells (setP_alloc HB1.out (.int .i64 0) (.bool true) (.cells #[.int .i64 x, .bool false] 64))
          refine cell_ret rfl r0 r1 rfl rfl ⟨?_, ((hbw.setCell (p := ⟨w.heap.size, 0, none⟩) (Nat.le_refl _) _).setCell (p := ⟨w.heap.size, 1, none⟩) (Nat.le_refl _) _).alloc (by simp; omega) _⟩
          rw [HE.out]; rfl
        · have HE : Hid (foldC t n cs = foldC t m2 (cs.drop (k + 1))) := by
            show _ = _
            rw [HD.out, hf]
            rfl
          have HM : Hid (fitsC m2 = true) := hf
          rw [hf] at hv
          clear hf HD
          go_wp2_with (first | (go_at_fn g; refine hcall.mono ?_; rintro e w' ⟨rfl, rfl⟩) | (go_at_call 47; refine (hv _).mono ?_; rintro e w2 ⟨rfl, rfl⟩))
          go_roundw
          case rel => exact ⟨m2, k + 1, by omega, rfl, by go_num, HM, HE, hbA2⟩
          case measure => simp [intOf]; omega
      · have HE : Hid (foldC t n cs = none) := by
          show _ = _
          rw [HD.out]
          rfl
        clear HD
        go_wp2_with (first | (go_at_fn g; refine hcall.mono ?_; rintro e w' ⟨rfl, rfl⟩) | (go_at_call 47; refine (hv _).mono ?_; rintro e w2 ⟨rfl, rfl⟩))
        obtain ⟨r0, r1, _⟩ := pair_cells (setP_alloc HB1.out (.int .i64 0) (.bool true) (.cells #[.int .i64 x, .bool true] 64))
        refine cell_ret rfl r0 r1 rfl rfl ⟨?_, ((hbw.setCell (p := ⟨w.heap.size, 0, none⟩) (Nat.le_refl _) _).setCell (p := ⟨w.heap.size, 1, none⟩) (Nat.le_refl _) _).alloc (by simp; omega) _⟩
        rw [HE.out]; rfl
    · clear hc
      have HE : Hid (foldC t n cs = some m) := by
        show _ = _
        rw [hE.out, List.drop_of_length_le (by omega)]
        rfl
      obtain ⟨q0, q1, qf⟩ := pair_cells hB0
      have qf0 := qf 0
      have qf1 := qf 1
      have HB1 : Hid (wr.heap[w.heap.size]? = some (.cells #[.int .i64 0, .bool false] 64 (0, 0))) := hB0
      clear hB0 qf hE
      go_wp2
      obtain ⟨r0, r1, _⟩ := pair_cells (setP_block HB1.out (.int .i64 m) (.bool false))
      refine cell_ret rfl r0 r1 rfl rfl ⟨?_, (hbw.setCell (p := ⟨w.heap.size, 0, none⟩) (Nat.le_refl _) _).setCell (p := ⟨w.heap.size, 1, none⟩) (Nat.le_refl _) _⟩
      rw [HE.out]; rfl

set_option maxRecDepth 100000 in
set_option maxHeartbeats 1000000 in
theorem split_any (n : Int) (o : Option Int) (w : World) (hn : fitsC n = true) :
    Calls Try.prog 49 #[.int .i64 n, clV (foldV o)] w fun e w' => e = .returned (clV (endC 4 n o)) ∧ Below w.heap.size w w' := by
  have two : ∀ (c0 c1 u0 u1 : Value), Below w.heap.size w ((w.alloc (.cells #[c0, c1] 64)).alloc (.cells #[u0, u1] 64)) := fun c0 c1 u0 u1 => ((Below.refl _ _).alloc (Nat.le_refl _) _).alloc (by simp) _
  have blk : ∀ (c0 c1 u0 u1 : Value), ((w.alloc (.cells #[c0, c1] 64)).alloc (.cells #[u0, u1] 64)).heap[w.heap.size + 1]? = some (.cells #[u0, u1] 64 (0, 0)) := fun c0 c1 u0 u1 => by
    have := blk_alloc_new (w.alloc (.cells #[c0, c1] 64)) (.cells #[u0, u1] 64)
    simpa using this
  have TW : Hid (∀ (c0 c1 u0 u1 : Value), Below w.heap.size w ((w.alloc (.cells #[c0, c1] 64)).alloc (.cells #[u0, u1] 64))) := two
  have BK : Hid (∀ (c0 c1 u0 u1 : Value), ((w.alloc (.cells #[c0, c1] 64)).alloc (.cells #[u0, u1] 64)).heap[w.heap.size + 1]? = some (.cells #[u0, u1] 64 (0, 0))) := blk
  clear two blk
  cases o with
  | none =>
    show Calls Try.prog 49 #[.int .i64 n, .agg #[.int .i64 0, .bool true]] w _
    go_enter Try.func49, Try.ntmps49
    go_wp2
    obtain ⟨r0, r1, _⟩ := pair_cells (BK.out (.int .i64 0) (.bool true) (.int .i64 0) (.bool true))
    exact cell_ret rfl r0 r1 rfl rfl ⟨rfl, TW.out _ _ _ _⟩
  | some m =>
    show Calls Try.prog 49 #[.int .i64 n, .agg #[.int .i64 m, .bool false]] w _
    by_cases h0 : m = 0
    · subst h0
      go_enter Try.func49, Try.ntmps49
      go_wp2
      obtain ⟨r0, r1, _⟩ := pair_cells (BK.out (.int .i64 0) (.bool false) (.int .i64 0) (.bool true))
      exact cell_ret rfl r0 r1 rfl rfl ⟨rfl, TW.out _ _ _ _⟩
    · have HE : Hid (endC 4 n (some m) = (n.tdiv m, false)) := by
        show _ = _
        unfold endC
        dsimp only
        rw [if_pos rfl, if_neg h0]
      obtain ⟨d1, d2⟩ := fitsC_iff.1 (tdiv_fits (m := m) hn)
      have hw : IntKind.i64.wrap (n.tdiv m) = n.tdiv m := by rw [IntKind.wrap_i64] <;> omega
      have hz : (m == (0 : Int)) = false := by simp [h0]
      go_enter Try.func49, Try.ntmps49
      go_wp2
      obtain ⟨r0, r1, _⟩ := pair_cells (BK.out (.int .i64 m) (.bool false) (.int .i64 (n.tdiv m)) (.bool false))
      exact cell_ret rfl r0 r1 rfl rfl ⟨by rw [HE.out]; rfl, TW.out _ _ _ _⟩
end Go.Proofs.Ytjojfnppegfmnaa
