/- The contract of Wake. -/
import Derived.Test.YthbcgehmnhlahaaPrkB
import Derived.Test.YthbcgehmnhlahaaPrkC
import Derived.Lib.MinMax
namespace Go.Proofs.Ythbcgehmnhlahaa.Prk
open Go.RowKit Go.Deep

theorem Wake_bad (S : Nat) (n : Int) (w : World) (h : n < 0) : Calls Try.prog 33 #[.pointer (some ⟨S, 0, none⟩), .int .i64 n] w fun e w' => e = .returned (.tuple #[.slice none 0 0, errV 1]) ∧ w' = w := by
  go_enter Try.func33, Try.ntmps33
  go_wp2
  go_ret2
  exact ⟨rfl, rfl⟩

theorem made_size (n : Nat) : (madeCells #[.int .i64 0] n).size = n := by simp [madeCells]

set_option maxHeartbeats 1000000 in
theorem Wake_good (S hands most : Nat) (xs : List Int) (v : Value) (w : World) (h : Pk S hands xs v w) :
    Calls Try.prog 33 #[.pointer (some ⟨S, 0, none⟩), .int .i64 most] w fun e w' => ∃ lv v', e = .returned (.tuple #[lv, .nilIface]) ∧ RowI w.heap.size w' lv (xs.take most) ∧ Pk S hands (xs.drop most) v' w' ∧ Ks S v.ownBlock w w' ∧ Near w.heap.size v v' ∧ v'.ownBlock ≠ lv.ownBlock := by
  have HS : Hid (Pk S hands xs v w) := h
  have hc := h.c1
  have hle : xs.length ≤ 6 := Nat.le_trans h.le h.six
  have hlt := h.lt
  obtain ⟨a, c, rfl⟩ := h.row.shape
  obtain ⟨n, hn⟩ : ∃ n, n = min most xs.length := ⟨_, rfl⟩
  have et : xs.take most = xs.take n := by rw [hn, List.take_eq_take_min]
  have ed : xs.drop most = xs.drop n := by
    rcases Nat.le_total most xs.length with h | h
    · rw [hn, Nat.min_eq_left h]
    · rw [hn, Nat.min_eq_right h, List.drop_eq_nil_of_le h, List.drop_length]
  rw [et, ed]
  have hmin : min (most : Int) (xs.length : Int) = (n : Int) := by omega
  have hn60 : n ≤ 60 := by omega
  have hnx : n ≤ xs.length := by omega
  have g1 : ¬ (most : Int) < 0 := by omega
  have hmk := fun wx => run_make_row' (P := Try.prog) 22 3 (.int .i64 0) 8 Try.underlying22 Try.info3 rfl .i64 .i64 n (by omega) (by omega) wx
  obtain ⟨cs, hcs⟩ : ∃ cs, cs = (xs.take n).map (Value.int .i64) := ⟨_, rfl⟩
  have HC : Hid (cs = (xs.take n).map (Value.int .i64)) := hcs
  have hcl : cs.length = n := by rw [hcs]; simp; omega
  obtain ⟨z, hz⟩ : ∃ z, z = (madeCells #[.int .i64 0] n).toList := ⟨_, rfl⟩
  have HZ : Hid (z.length = n) := by show z.length = n; rw [hz, Array.length_toList, made_size]
  have hg : (w.alloc (.cells (madeCells #[.int .i64 0] n) 3)).heap[w.heap.size]? = some (.cells z.toArray 3 (0, 0)) := by rw [hz, Array.toArray_toList]; exact heap_alloc_new w _
  have HG : Hid ((w.alloc (.cells (madeCells #[.int .i64 0] n) 3)).heap[w.heap.size]? = some (.cells z.toArray 3 (0, 0))) := hg
  have hsr : 0 < cs.length → ∃ ad, a = some ad ∧ ∀ j u, cs[j]? = some u → (w.alloc (.cells (madeCells #[.int .i64 0] n) 3)).cell? (ad.add j) = some u := by
    intro hp
    obtain ⟨g, c', hv, hgb, hgs, _⟩ := h.row.full (by omega)
    simp only [Value.slice.injEq] at hv
    obtain ⟨rfl, _, rfl⟩ := hv
    refine ⟨_, rfl, fun j u hu => ?_⟩
    have hj : j < n := by have := (List.getElem?_eq_some_iff.1 hu).1; omega
    rw [Addr.add_lit, Nat.zero_add, World.cell?_of_block (Below.heap_alloc _ _ _ hgs), h.row.cell (by omega)]
    rw [hcs] at hu
    simp [hj, List.getElem?_eq_getElem (show j < xs.length by omega)] at hu
    simp [List.getD_eq_getElem?_getD, List.getElem?_eq_getElem (show j < xs.length by omega), hu]
  have HSR : Hid (0 < cs.length → ∃ ad, a = some ad ∧ ∀ j u, cs[j]? = some u → (w.alloc (.cells (madeCells #[.int .i64 0] n) 3)).cell? (ad.add j) = some u) := hsr
  have H1 : Hid (∀ u ∈ cs, u.oneCell' = true) := by
    intro u hu
    rw [hcs] at hu
    obtain ⟨x, _, rfl⟩ := List.mem_map.1 hu
    rfl
  have HL : Hid (cs.length = n) := hcl
  clear h hn et ed hcs hcl hz hg hsr
  go_enter Try.func33, Try.ntmps33
  go_wp2_with (first | (refine wpList_copy_splice rfl (.tmp 18) (.tmp 22) 22 22 rfl 3 Try.underlying22 Try.size3 (some ⟨w.heap.size, 0, none⟩) a n n xs.length c rfl rfl w.heap.size 0 z 3 HG.out cs (HL.out.trans (Nat.min_eq_right hnx).symm) (fun hp => ⟨rfl, HSR.out hp⟩) (by have := HL.out; have := HZ.out; omega) H1.out w.heap.size w ((Below.refl _ _).alloc (Nat.le_refl _) _) (Nat.le_refl _) ?_; intro w2 HG2 hB2; have hS2 := HS.out.later hB2; have hc2 := hS2.c1; have HS2 : Hid (Pk S hands xs (.slice a xs.length c) w2) := hS2; have HB2 : Hid (Below w.heap.size w w2) := hB2; have hdel := delete_first (S + 1) _ xs n w2 hS2.row hnx; clear hc hS2 hB2 hmk) | (go_at_call 35; refine hdel.mono ?_; clear hdel; rintro e w3 ⟨v3, rfl, hr3, hg3, ho3⟩; obtain ⟨a3, c3, rfl⟩ := hr3.shape; have hbk := hg3.block S HS2.out.lt (fun e => by have := (HS2.out.row.low e.symm).1; omega); have hz3 := (World.frozen?_of_block (a := ⟨S, 1, none⟩) hbk).trans (HS2.out.fz 1); have hc3 := (World.cell?_of_block (a := ⟨S, 1, none⟩) hbk).trans HS2.out.c1; have HR3 : Hid (RowI (S + 1) w3 (.slice a3 (xs.drop n).length c3) (xs.drop n)) := hr3; clear hr3 hc2))
  go_ret2
  have hr3 := HR3.out
  rw [List.length_drop] at hr3 ho3
  have hkw : Ks S (Value.slice a xs.length c).ownBlock w w2 := ⟨HB2.out.os, HB2.out.tape, HB2.out.output, HB2.out.size, fun k hk _ _ => HB2.out.block k hk⟩
  have hsp : splice z 0 cs = (xs.take n).map (Value.int .i64) := by
    unfold splice
    rw [List.take_zero, List.nil_append, Nat.zero_add, List.drop_eq_nil_of_le (by have := HL.out; have := HZ.out; omega), List.append_nil]
    exact HC.out
  have hN : ∀ k, (Value.slice a xs.length c).ownBlock = some k → k < w.heap.size := fun k e => (HS.out.row.low e).2
  have hNw : w.heap.size < w2.heap.size := by
    have := HG2.out
    exact (Array.getElem?_eq_some_iff.1 this).1
  refine ⟨_, _, rfl, (RowI.whole w2 w.heap.size n (xs.take n) (by simp; omega) hn60 (by rw [← hsp]; exact HG2.out)).of_blocks (fun k e => ?_), HS2.out.set hbk hr3 (HS2.out.nd.sublist (List.drop_sublist _ _)) (fun x hx => HS2.out.rng x (List.mem_of_mem_drop hx)), (hkw.grown hg3 (fun j e => Or.inl e)).setS _ _, fun k e => Or.inl (ho3.symm.trans e), fun e => ?_⟩
  · simp only [Value.ownBlock, Option.some.injEq] at e
    subst e
    refine (Below.heap_setCell _ _ _ _ (by show w.heap.size ≠ S; omega)).trans (hg3.block _ hNw (fun e => ?_))
    have := hN _ e.symm
    omega
  · have := hN w.heap.size (by rw [← ho3]; exact e)
    omega
end Go.Proofs.Ythbcgehmnhlahaa.Prk
