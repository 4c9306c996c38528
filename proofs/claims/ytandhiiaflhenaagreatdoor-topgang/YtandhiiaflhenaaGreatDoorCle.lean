/- The contract of do. -/
import Derived.Test.YtandhiiaflhenaaGreatDoorClx
import Derived.OrdersHeld
import Derived.Deep.RegionWith
namespace Go.Proofs.YtandhiiaflhenaaGreatDoor
open Go.RowKit Go.Deep

/-- The world in which do begins. -/
def doW (w : World) (t n : Int) : World := (w.alloc (.cells #[.int .i64 t, .int .i64 n] 121)).alloc (.cells #[.int .i64 0, .bool false] 86)
theorem doW_below (w : World) (t n : Int) : Below w.heap.size w (doW w t n) := ((Below.refl _ _).alloc (Nat.le_refl _) _).alloc (by simp) _
theorem doW_size (w : World) (t n : Int) : (doW w t n).heap.size = w.heap.size + 2 := by simp [doW]
theorem doW_op (w : World) (t n : Int) : (doW w t n).heap[w.heap.size]? = some (.cells #[.int .i64 t, .int .i64 n] 121 (0, 0)) :=
  (Below.heap_alloc _ _ _ (by simp)).trans (new_pair w _ _ _)
theorem doW_cell (w : World) (t n : Int) : (doW w t n).heap[w.heap.size + 1]? = some (.cells #[.int .i64 0, .bool false] 86 (0, 0)) := by
  have := new_pair (w.alloc (.cells #[.int .i64 t, .int .i64 n] 121)) (.int .i64 0) (.bool false) 86
  simpa [doW] using this
/-- What is known of both blocks. -/
structure DoK (w : World) (t n : Int) (w' : World) : Prop where
  a0 : w'.cell? ⟨w.heap.size, 0, none⟩ = some (.int .i64 t)
  a1 : w'.cell? ⟨w.heap.size, 1, none⟩ = some (.int .i64 n)
  c0 : w'.cell? ⟨w.heap.size + 1, 0, none⟩ = some (.int .i64 0)
  c1 : w'.cell? ⟨w.heap.size + 1, 1, none⟩ = some (.bool false)
  f0 : w'.frozen? ⟨w.heap.size + 1, 0, none⟩ = false
  f1 : w'.frozen? ⟨w.heap.size + 1, 1, none⟩ = false
  below : Below w.heap.size w w'
  blk : Hid (w'.heap[w.heap.size + 1]? = some (.cells #[.int .i64 0, .bool false] 86 (0, 0)))
theorem DoK.of {w w' : World} {t n : Int} (h : Below (w.heap.size + 2) (doW w t n) w') : DoK w t n w' := by
  have h1 := (h.block w.heap.size (by omega)).trans (doW_op w t n)
  have h2 := (h.block (w.heap.size + 1) (by omega)).trans (doW_cell w t n)
  obtain ⟨q0, q1, _⟩ := pair_cells h1
  obtain ⟨r0, r1, rf⟩ := pair_cells h2
  exact ⟨q0, q1, r0, r1, rf 0, rf 1, (doW_below w t n).trans (h.mono (by omega)), h2⟩
theorem drawn_below (B : Nat) (w : World) (q : Nat) : Below B w (w.drewN q) := ⟨rfl, rfl, rfl, Nat.le_refl _, fun _ _ => rfl⟩

/-- The end of do. -/
theorem do_end {Q : Ending → World → Prop} {a : Act} {w w1 : World} {t n x : Int} {f : Bool} (hK : DoK w t n w1) (ht : a.tmps[4]? = some (.pointer (some ⟨w.heap.size + 1, 0, none⟩))) (hd : a.defers = [])
    (hq : ∀ w', Below w.heap.size w w' → Q (.returned (.agg #[.int .i64 x, .bool f])) w') : bodyPost Tryz.prog Tryz.f45 Q Exit.ret a ((w1.setCell ⟨w.heap.size + 1, 0, none⟩ (.int .i64 x)).setCell ⟨w.heap.size + 1, 1, none⟩ (.bool f)) := by
  obtain ⟨r0, r1, _⟩ := pair_cells (setP_blockC hK.blk.out (.int .i64 x) (.bool f))
  exact cell_ret rfl r0 r1 ht hd (hq _ ((hK.below.setCell (p := ⟨w.heap.size + 1, 0, none⟩) (by show _ ≤ w.heap.size + 1; omega) _).setCell (p := ⟨w.heap.size + 1, 1, none⟩) (by show _ ≤ w.heap.size + 1; omega) _))

set_option maxRecDepth 100000 in
set_option maxHeartbeats 2000000 in
theorem do_first (n : Int) (v : Value) (cs : List Cl) (w : World) (hc : CellsAt w v cs) :
    Calls Tryz.prog 45 #[.agg #[.int .i64 5, .int .i64 n], v] w fun e w' => e = .returned (clV (firstC n cs)) ∧ Below w.heap.size w w' := by
  have hcall := first_any n v cs (doW w 5 n) (hc.later (doW_below w 5 n))
  obtain ⟨⟨x, f⟩, hxf⟩ : ∃ c, firstC n cs = c := ⟨_, rfl⟩
  rw [hxf] at hcall ⊢
  clear hxf hc
  rw [doW_size] at hcall
  unfold clV at hcall
  dsimp only at hcall
  have HW : Hid (doW w 5 n = (w.alloc (.cells #[.int .i64 5, .int .i64 n] 121)).alloc (.cells #[.int .i64 0, .bool false] 86)) := rfl
  go_enter Tryz.func45, Tryz.ntmps45
  go_wp2_with fail
  rw [← HW.out]
  refine hcall.mono ?_
  rintro e w1 ⟨rfl, hb⟩
  have hK := DoK.of hb
  have h1 := hK.c0
  have h2 := hK.c1
  have h3 := hK.f0
  have h4 := hK.f1
  clear hcall HW hb
  go_wp2
  exact do_end hK rfl rfl (fun w' hb => ⟨rfl, hb⟩)

set_option maxRecDepth 100000 in
set_option maxHeartbeats 4000000 in
theorem do_fold (t n : Int) (v : Value) (cs : List Cl) (w : World) (hc : CellsAt w v cs) (h4 : t ≠ 4) (h5 : t ≠ 5) (hn : fitsC n = true) (hr : ∀ c, c ∈ cs → cellErr c = 0) :
    Calls Tryz.prog 45 #[.agg #[.int .i64 t, .int .i64 n], v] w fun e w' => e = .returned (clV (foldV (foldC t n cs))) ∧ Below w.heap.size w w' := by
  have hfo := fun (q g : Nat) (hj : JoinIn g #[] t) => fold_any n v cs g #[] t ((doW w t n).drewN q) ((hc.later (doW_below w t n)).later (drawn_below _ _ q)) hj hn hr
  have hjo := fun (q : Nat) => joining_any t ((doW w t n).drewN q)
  obtain ⟨⟨x, f⟩, hxf⟩ : ∃ c, foldV (foldC t n cs) = c := ⟨_, rfl⟩
  rw [hxf] at hfo ⊢
  have hsz := fun q => show ((doW w t n).drewN q).heap.size = w.heap.size + 2 from doW_size w t n
  simp only [hsz] at hfo
  unfold clV at hfo
  dsimp only at hfo
  have hK0 := DoK.of (Below.refl (w.heap.size + 2) (doW w t n))
  have HW : Hid (doW w t n = (w.alloc (.cells #[.int .i64 t, .int .i64 n] 121)).alloc (.cells #[.int .i64 0, .bool false] 86)) := rfl
  have e4 : (t == (4 : Int)) = false := by simp [h4]
  have e5 : (t == (5 : Int)) = false := by simp [h5]
  obtain ⟨_, a, c, rfl, _⟩ := hc
  clear hxf hn hr h4 h5 hsz
  go_enter Tryz.func45, Tryz.ntmps45
  go_wp2
  rw [← HW.out]
  have k0 := hK0.a0
  have k1 := hK0.a1
  have HDB : Hid (∀ q w2, Below (w.heap.size + 2) ((doW w t n).drewN q) w2 → DoK w t n w2) := fun q w2 h => DoK.of ((drawn_below _ _ q).trans h)
  clear HW hK0
  generalize doW w t n = W at *
  go_region_with (first | (go_at_call 82; refine (hjo _).mono ?_; rintro e w1 ⟨⟨g, rfl, hj⟩, rfl⟩; have hfg := fun q => hfo q g hj) | (go_at_call 81; refine (hfg _).mono ?_; rintro e w2 ⟨rfl, hb2⟩; have hK := HDB.out _ _ hb2; have k2 := hK.a0; have k3 := hK.a1; have c0 := hK.c0; have c1 := hK.c1; have f0 := hK.f0; have f1 := hK.f1))
  all_goals go_wp2
  all_goals exact do_end hK rfl rfl (fun w' hb => ⟨rfl, hb⟩)

set_option maxRecDepth 100000 in
set_option maxHeartbeats 4000000 in
theorem do_split (n : Int) (v : Value) (cs : List Cl) (w : World) (hc : CellsAt w v cs) (hn : fitsC n = true) (hr : ∀ c, c ∈ cs → cellErr c = 0) :
    Calls Tryz.prog 45 #[.agg #[.int .i64 4, .int .i64 n], v] w fun e w' => e = .returned (clV (endC 4 n (foldC 4 0 cs))) ∧ Below w.heap.size w w' := by
  have hfo := fun (q g : Nat) (hj : JoinIn g #[] 4) => fold_any 0 v cs g #[] 4 ((doW w 4 n).drewN q) ((hc.later (doW_below w 4 n)).later (drawn_below _ _ q)) hj rfl hr
  have hjo := fun (q : Nat) => joining_any 4 ((doW w 4 n).drewN q)
  have hsp := fun (wx : World) => split_any n (foldC 4 0 cs) wx hn
  obtain ⟨⟨x, f⟩, hxf⟩ : ∃ c, endC 4 n (foldC 4 0 cs) = c := ⟨_, rfl⟩
  rw [hxf] at hsp ⊢
  obtain ⟨cv, hcv⟩ : ∃ cv, clV (foldV (foldC 4 0 cs)) = cv := ⟨_, rfl⟩
  rw [hcv] at hfo hsp
  have hsz := fun q => show ((doW w 4 n).drewN q).heap.size = w.heap.size + 2 from doW_size w 4 n
  simp only [hsz] at hfo
  unfold clV at hsp
  dsimp only at hsp
  have hK0 := DoK.of (Below.refl (w.heap.size + 2) (doW w 4 n))
  have HW : Hid (doW w 4 n = (w.alloc (.cells #[.int .i64 4, .int .i64 n] 121)).alloc (.cells #[.int .i64 0, .bool false] 86)) := rfl
  obtain ⟨_, a, c, rfl, _⟩ := hc
  clear hxf hn hr hsz hcv
  go_enter Tryz.func45, Tryz.ntmps45
  go_wp2
  rw [← HW.out]
  have k0 := hK0.a0
  have k1 := hK0.a1
  have HDB : Hid (∀ q w2 w3, Below (w.heap.size + 2) ((doW w 4 n).drewN q) w2 → Below w2.heap.size w2 w3 → DoK w 4 n w3) := fun q w2 w3 h h3 => DoK.of (((drawn_below _ _ q).trans h).trans (h3.mono (by have := h.size; rw [show ((doW w 4 n).drewN q).heap.size = _ from doW_size w 4 n] at this; exact this)))
  clear HW hK0
  generalize doW w 4 n = W at *
  go_region_with (first | (go_at_call 82; refine (hjo _).mono ?_; rintro e w1 ⟨⟨g, rfl, hj⟩, rfl⟩; have hfg := fun q => hfo q g hj) | (go_at_call 81; refine (hfg _).mono ?_; rintro e w2 ⟨rfl, hb2⟩; have hK2 := HDB.out _ _ _ hb2 (Below.refl _ _); have k2 := hK2.a0; have k3 := hK2.a1; have hs2 := hsp w2) | (go_at_call 80; refine hs2.mono ?_; rintro e w3 ⟨rfl, hb3⟩; have hK := HDB.out _ _ _ hb2 hb3; have c0 := hK.c0; have c1 := hK.c1; have f0 := hK.f0; have f1 := hK.f1))
  all_goals go_wp2
  all_goals exact do_end hK rfl rfl (fun w' hb => ⟨rfl, hb⟩)

/-- What an op comes to. -/
theorem do_any (o : Opn) (v : Value) (cs : List Cl) (w : World) (hc : CellsAt w v cs) (ho : opErr o = 0) (hr : ∀ c, c ∈ cs → cellErr c = 0) :
    Calls Tryz.prog 45 #[opV o, v] w fun e w' => e = .returned (clV (doC o cs)) ∧ Below w.heap.size w w' := by
  obtain ⟨t, n⟩ := o
  obtain ⟨_, _, hn⟩ := opErr_zero.1 ho
  show Calls Tryz.prog 45 #[.agg #[.int .i64 t, .int .i64 n], v] w _
  unfold doC
  dsimp only at hn ⊢
  by_cases h5 : t = 5
  · subst h5
    exact do_first n v cs w hc
  · rw [if_neg h5]
    by_cases h4 : t = 4
    · subst h4
      exact do_split n v cs w hc hn hr
    · rw [if_neg h4]
      have e : endC t n (foldC t n cs) = foldV (foldC t n cs) := by
        unfold endC foldV
        cases foldC t n cs with
        | none => rfl
        | some m => dsimp only; rw [if_neg h4]
      rw [e]
      exact do_fold t n v cs w hc h4 h5 hn hr
end Go.Proofs.YtandhiiaflhenaaGreatDoor
