/- The contracts of release and Done. The contract of New. -/
import Derived.Test.YtlfbdjeojgbniaaGreatDoorRcm25
import Derived.BigRegion
import Derived.Deep.CutRange
import Derived.Deep.CutBlock
import Derived.Deep.DeepCutAuto

namespace Go.Proofs.YtlfbdjeojgbniaaGreatDoor
open Go.RowKit Go.Deep Go.Maps

/-- What is missing while those that need the i-th are gone over: m of them are. -/
def missTo (ts : List (Int × List Int)) (S : Nat → Bool) (i m k : Nat) : Nat := if k ∈ (aftTo ts ts.length i).take m then missN ts (mark S i) k else missN ts S k
theorem missTo_zero (ts : List (Int × List Int)) (S : Nat → Bool) (i k : Nat) : missTo ts S i 0 k = missN ts S k := by simp [missTo]
theorem missTo_all {ts : List (Int × List Int)} (hg : Good ts) {S : Nat → Bool} {i k : Nat} (hS : S i = false) (hk : k < ts.length) : missTo ts S i (aftTo ts ts.length i).length k = missN ts (mark S i) k := by
  unfold missTo
  rw [List.take_length]
  split
  · rfl
  · rename_i h
    rw [mem_aftTo] at h
    have := missN_mark hg (i := i) hS hk
    rw [if_neg (fun e => h ⟨hk, e⟩)] at this
    omega
theorem nat_take_last {l : List Nat} {m : Nat} (h : m < l.length) : l.take (m + 1) = l.take m ++ [l.getD m 0] := by
  rw [List.take_succ_eq_append_getElem h, List.getD_eq_getElem?_getD, List.getElem?_eq_getElem h]; rfl
theorem getD_memT {l : List Nat} {m : Nat} (h : m < l.length) : l.getD m 0 ∈ l := by
  rw [List.getD_eq_getElem?_getD, List.getElem?_eq_getElem h]; exact List.getElem_mem h
theorem nodup_not_take {l : List Nat} (hd : l.Nodup) {m : Nat} (h : m < l.length) : ¬ l.getD m 0 ∈ l.take m := by
  rw [← List.take_append_drop (m + 1) l, nat_take_last h] at hd
  intro hm
  exact (List.nodup_append.1 (List.nodup_append.1 hd).1).2.2 _ hm _ (by simp) rfl
theorem missTo_at {ts : List (Int × List Int)} (hg : Good ts) {S : Nat → Bool} {i m : Nat} (hS : S i = false) (hm : m < (aftTo ts ts.length i).length) :
    missTo ts S i m ((aftTo ts ts.length i).getD m 0) = missN ts (mark S i) ((aftTo ts ts.length i).getD m 0) + 1 := by
  have hmem := mem_aftTo.1 (getD_memT hm)
  unfold missTo
  rw [if_neg (nodup_not_take (aftTo_nodup ts _ i) hm), missN_mark hg hS hmem.1, if_pos hmem.2]
theorem missTo_succ {ts : List (Int × List Int)} {S : Nat → Bool} {i m j : Nat} (hm : m < (aftTo ts ts.length i).length) :
    missTo ts S i (m + 1) j = if j = (aftTo ts ts.length i).getD m 0 then missN ts (mark S i) j else missTo ts S i m j := by
  unfold missTo
  rw [nat_take_last hm]
  by_cases e : j = (aftTo ts ts.length i).getD m 0
  · rw [if_pos e, if_pos (by rw [e]; simp)]
  · rw [if_neg e]
    by_cases h : j ∈ (aftTo ts ts.length i).take m
    · rw [if_pos h, if_pos (by simp [h])]
    · rw [if_neg h, if_neg (by simp only [List.mem_append, List.mem_singleton, not_or]; exact ⟨h, e⟩)]
theorem pairwise_len : ∀ (l : List Int) (a b : Int), a ≤ b → l.Pairwise (· < ·) → (∀ x, x ∈ l → a ≤ x ∧ x < b) → (l.length : Int) ≤ b - a := by
  intro l
  induction l with
  | nil => intro a b h _ _; simp; omega
  | cons x r ih =>
    intro a b _ hp hx
    have h1 := hx x (List.mem_cons_self ..)
    have hp := List.pairwise_cons.1 hp
    have := ih (x + 1) b (by omega) hp.2 (fun y hy => ⟨by have := hp.1 y hy; omega, (hx y (List.mem_cons_of_mem _ hy)).2⟩)
    simp only [List.length_cons]
    omega
theorem Good.len {ts : List (Int × List Int)} (hg : Good ts) {k : Nat} (hk : k < ts.length) : (needsOf ts k).length ≤ ts.length := by
  have := pairwise_len (needsOf ts k) 0 ts.length (by omega) (hg.up k hk) (fun x hx => hg.rng k hk x hx)
  omega

/-- While what is missing is counted down. -/
structure RelM (M m i : Nat) (ts : List (Int × List Int)) (S : Nat → Bool) (w wr : World) : Prop where
  row : wr.rowIs M 3 ts.length (fun k => natV (missTo ts S i m k))
  kx : Kx (fun k => k = M) w wr

/-- Each cell of a row is as it was, or has no list. -/
def SubA (A : Nat) (w w' : World) : Prop := ∀ k v, w'.cell? ⟨A, k, none⟩ = some v → v = .slice none 0 0 ∨ w.cell? ⟨A, k, none⟩ = some v
theorem SubA.set {A i : Nat} {w wr : World} {x : Value} (h : wr.heap[A]? = w.heap[A]?) (hx : wr.cell? ⟨A, i, none⟩ = some x) : SubA A w (wr.setCell ⟨A, i, none⟩ (.slice none 0 0)) := by
  intro k v hv
  by_cases e : k = i
  · subst e
    left
    rw [World.cell?_setCell_same _ _ _ hx] at hv
    exact (Option.some.inj hv).symm
  · right
    rw [World.cell?_setCell_other _ _ _ _ (by intro h; simp only [Addr.mk.injEq] at h; omega)] at hv
    exact (World.cell?_of_block (a := ⟨A, k, none⟩) h).symm.trans hv

theorem RelM.jnT {J M A D C i : Nat} {ts : List (Int × List Int)} {S : Nat → Bool} {w wr : World} (hg : Good ts) (hi : i < ts.length) (hS : S i = false)
    (h : Jn J M A D C ts.length (missN ts S) (fun k => if S k then [] else aftTo ts ts.length k) (mark S i) w) (hM : RelM M (aftTo ts ts.length i).length i ts S w wr) :
    JnT J M A D C ts (mark S i) (wr.setCell ⟨A, i, none⟩ (.slice none 0 0)) := by
  obtain ⟨av, ha⟩ := h.aft
  obtain ⟨n1, n2, n3, n4, n5, n6⟩ := h.ne
  obtain ⟨l1, l2, l3, l4⟩ := h.lt
  have keep : ∀ k, k < w.heap.size → k ≠ M → k ≠ A → (wr.setCell ⟨A, i, none⟩ (.slice none 0 0)).heap[k]? = w.heap[k]? := fun k hk h1 h2 =>
    (Below.heap_setCell _ _ _ _ (by show k ≠ A; exact h2)).trans (hM.kx.block k hk h1)
  have harow : wr.rowIs A 73 ts.length av := ha.row.of_block (hM.kx.block A h.ltA (by omega))
  refine ⟨h.row.of_block (keep J h.row.lt n1 n2), ?_, ⟨fun k => if k = i then .slice none 0 0 else av k, ?_, fun k hk => ?_⟩, h.done.of_block (keep D h.done.lt (by omega) (by omega)), h.lt, h.ne, h.le⟩
  · exact (hM.row.setOther (a := ⟨A, i, none⟩) (by show M ≠ A; exact n4) _).congr (fun k hk => by rw [missTo_all hg hS hk])
  · exact harow.set i _
  · by_cases e : k = i
    · subst e
      simp only [mark_self, if_true]
      exact RowI.nil _ _
    · simp only [mark_ne e, if_neg e]
      exact (ha.own k hk).of_blocks (fun b hb => by
        have := (ha.own k hk).low hb
        exact keep b this.2 (by omega) (by omega))

set_option maxRecDepth 100000 in
set_option maxHeartbeats 4000000 in
theorem release_any (J M A D C : Nat) (ts : List (Int × List Int)) (hg : Good ts) (S : Nat → Bool) (i : Nat) (w : World) (hi : i < ts.length) (hS : S i = false)
    (h : Jn J M A D C ts.length (missN ts S) (fun k => if S k then [] else aftTo ts ts.length k) (mark S i) w) :
    Calls Tryz.prog 205 #[.pointer (some ⟨J, 0, none⟩), .int .i64 i] w fun e w' => (∃ v, e = .returned v ∧ RowI w.heap.size w' v (intsOf (newL ts S i))) ∧ JnT J M A D C ts (mark S i) w' ∧ Kx (fun k => k = M ∨ k = A) w w' ∧ SubA A w w' := by
  have HJ : Hid (Jn J M A D C ts.length (missN ts S) (fun k => if S k then [] else aftTo ts ts.length k) (mark S i) w) := h
  have HG : Hid (Good ts) := hg
  have h30 := hg.le
  obtain ⟨av, ha⟩ := h.aft
  have hc1 := h.c1
  have hcA : w.cell? ⟨A, i, none⟩ = some (av i) := ha.row.cell hi
  have hrow := ha.own i hi
  simp only [hS, Bool.false_eq_true, if_false] at hrow
  obtain ⟨la, lc, hav⟩ := hrow.shape
  rw [intsOf_length] at hav
  rw [hav] at hcA hrow
  have HL : Hid (RowI C w (.slice la (aftTo ts ts.length i).length lc) (intsOf (aftTo ts ts.length i))) := hrow
  have hLl := aftTo_len ts ts.length i
  obtain ⟨n1, n2, n3, n4, n5, n6⟩ := h.ne
  obtain ⟨l1, l2, l3, l4⟩ := h.lt
  have HM0 : Hid (RelM M 0 i ts S w w) := ⟨h.miss.congr (fun k _ => by rw [missTo_zero]), Kx.refl _ _⟩
  have HSI : Hid (S i = false) := hS
  clear h ha hrow hav hg hS n3 n5 n6 l4
  go_enter Tryz.func205, Tryz.ntmps205
  go_wp2
  go_loopw [5, 16] (fun s5 s16 wr => ∃ m : Nat, m ≤ (aftTo ts ts.length i).length ∧ s16 = .int .i64 m ∧ Hid (RowI w.heap.size wr s5 (intsOf (((aftTo ts ts.length i).take m).filter (fun k => decide (missN ts (mark S i) k = 0))))) ∧ Hid (RelM M m i ts S w wr)) (fun _ s16 _ => (aftTo ts ts.length i).length - (intOf s16).toNat)
  case atStart => exact ⟨0, Nat.zero_le _, rfl, RowI.nil _ _, HM0⟩
  case round =>
    clear HM0
    obtain ⟨m, hm, rfl, hR, hM⟩ := hrel
    obtain ⟨ra, rc, rfl⟩ := hR.out.shape
    have hc0 : wr.cell? ⟨J, 0, none⟩ = some (.slice (some ⟨M, 0, none⟩) ts.length ts.length) := (World.cell?_of_block (a := ⟨J, 0, none⟩) (hM.out.kx.block J HJ.out.row.lt n1)).trans HJ.out.c0
    have hc1' : wr.cell? ⟨J, 1, none⟩ = some (.slice (some ⟨A, 0, none⟩) ts.length ts.length) := (World.cell?_of_block (a := ⟨J, 1, none⟩) (hM.out.kx.block J HJ.out.row.lt n1)).trans hc1
    by_cases hml : m < (aftTo ts ts.length i).length
    · obtain ⟨g, c', hv, hCg, hgl, _⟩ := HL.out.full (by rw [intsOf_length]; omega)
      simp only [Value.slice.injEq] at hv
      obtain ⟨rfl, hdum, rfl⟩ := hv
      clear hdum
      have hgM : ¬ g = M := by omega
      have hcell := (World.cell?_of_block (a := ⟨g, m, none⟩) (hM.out.kx.block g hgl hgM)).trans (HL.out.cell (k := m) (by rw [intsOf_length]; exact hml))
      rw [intsOf_getD] at hcell
      have hmem := mem_aftTo.1 (getD_memT hml)
      have hat := missTo_at HG.out HSI.out hml
      have hsucc : Hid (∀ j, missTo ts S i (m + 1) j = if j = (aftTo ts ts.length i).getD m 0 then missN ts (mark S i) j else missTo ts S i m j) := fun j => missTo_succ hml
      have htake : Hid ((aftTo ts ts.length i).take (m + 1) = (aftTo ts ts.length i).take m ++ [(aftTo ts ts.length i).getD m 0]) := nat_take_last hml
      have hlen : (intsOf (((aftTo ts ts.length i).take m).filter (fun k => decide (missN ts (mark S i) k = 0)))).length ≤ 30 := by
        rw [intsOf_length]
        have := List.length_filter_le (fun k => decide (missN ts (mark S i) k = 0)) ((aftTo ts ts.length i).take m)
        simp only [List.length_take] at this
        omega
      generalize (aftTo ts ts.length i).getD m 0 = y at *
      have hyl := hmem.1
      have hmy := hM.out.row.cell hyl
      have hfy := hM.out.row.frozen y
      simp only [hat, natV] at hmy
      have hb30 : missN ts (mark S i) y ≤ 30 := by have := missN_le ts (mark S i) y; have := HG.out.len hyl; omega
      have hsub : ((missN ts (mark S i) y + 1 : Nat) : Int) - 1 = (missN ts (mark S i) y : Int) := by omega
      have hM2 : Hid (RelM M (m + 1) i ts S w (wr.setCell ⟨M, y, none⟩ (.int .i64 (missN ts (mark S i) y)))) :=
        ⟨(hM.out.row.set y _).congr (fun k _ => by rw [hsucc.out k]; by_cases e : k = y; { subst e; simp [natV] }; { simp [e] }), hM.out.kx.set (Or.inl rfl) _ _⟩
      have hR1 : Hid (RowI w.heap.size (wr.setCell ⟨M, y, none⟩ (.int .i64 (missN ts (mark S i) y))) (.slice ra (intsOf (((aftTo ts ts.length i).take m).filter (fun k => decide (missN ts (mark S i) k = 0)))).length rc) (intsOf (((aftTo ts ts.length i).take m).filter (fun k => decide (missN ts (mark S i) k = 0))))) :=
        hR.out.of_blocks (fun b hb => Below.heap_setCell _ _ _ _ (by show b ≠ M; have := (hR.out.low hb).1; have := HJ.out.miss.lt; omega))
      clear hR hM hmem hat hsucc hc1
      by_cases hz : missN ts (mark S i) y = 0
      · have HT : Hid (intsOf (((aftTo ts ts.length i).take (m + 1)).filter (fun k => decide (missN ts (mark S i) k = 0))) = intsOf (((aftTo ts ts.length i).take m).filter (fun k => decide (missN ts (mark S i) k = 0))) ++ [(y : Int)]) := by
          show _ = _
          rw [htake.out, List.filter_append]; simp [hz, intsOf]
        have HZ : Hid (missN ts (mark S i) y = 0) := hz
        rw [hz] at hmy hM2 hR1 hsub
        clear htake hz hb30 hsub
        generalize intsOf (((aftTo ts ts.length i).take m).filter (fun k => decide (missN ts (mark S i) k = 0))) = l at *
        have HO : Hid (Rds (fun _ => True) ((wr.setCell ⟨M, y, none⟩ (.int .i64 0)).alloc (.cells #[.int .i64 y] 3)) (.slice (some ⟨wr.heap.size, 0, none⟩) 1 1) [(y : Int)]) := by
          show Rds _ _ _ _
          have := one_rds (wr.setCell ⟨M, y, none⟩ (.int .i64 0)) y
          simpa using this
        have hoa := hR1.out.alloc (.cells #[.int .i64 y] 3)
        have hsz := hM2.out.kx.size
        simp only [Int.natCast_zero] at hM2 hR1 hoa
        go_wp2_with (first | (at_builtin; refine wpList_append_rows rfl (.tmp 37) (.tmp 39) rfl w.heap.size (fun _ => True) (.slice ra l.length rc) (.slice (some ⟨wr.heap.size, 0, none⟩) 1 1) l [(y : Int)] rfl rfl hoa HO.out (by simp; omega) (by simp at hsz ⊢; omega) ?_; intro v2 w2 hown2 hgr2 hat2))
        have hlow : ∀ b, (Value.slice ra l.length rc).ownBlock = some b → w.heap.size ≤ b := fun b hb => (hR1.out.low hb).1
        have hM3 : Hid (RelM M (m + 1) i ts S w w2) := by
          have hMl := HJ.out.miss.lt
          refine ⟨(hM2.out.row.alloc _).of_block (hgr2.block M (by simp at hsz ⊢; omega) (fun e => by have := hlow M e.symm; omega)), ?_⟩
          exact (hM2.out.kx.later ((Below.refl _ _).alloc (Nat.le_refl _) _)).trans (Y := fun k => (Value.slice ra l.length rc).ownBlock = some k) ⟨hgr2.os, hgr2.tape, hgr2.output, hgr2.size, fun k hk hne => hgr2.block k hk (fun e => hne e.symm)⟩ (fun b hb => Or.inr (hlow b hb))
        have HN : Hid (RowI w.heap.size w2 v2 (intsOf (((aftTo ts ts.length i).take (m + 1)).filter (fun k => decide (missN ts (mark S i) k = 0))))) := by rw [HT.out]; exact hown2
        clear hown2 hgr2 hat2 hoa HO hM2 hR1
        go_wp2
        go_roundw
        case rel => exact ⟨m + 1, by omega, by go_num, HN, hM3⟩
        case measure => simp [intOf]; omega
      · have HT : Hid (intsOf (((aftTo ts ts.length i).take (m + 1)).filter (fun k => decide (missN ts (mark S i) k = 0))) = intsOf (((aftTo ts ts.length i).take m).filter (fun k => decide (missN ts (mark S i) k = 0)))) := by
          show _ = _
          rw [htake.out, List.filter_append]; simp [hz]
        have hz2 : (((missN ts (mark S i) y : Nat) : Int) == 0) = false := by simp; omega
        clear htake hz
        generalize missN ts (mark S i) y = my at *
        generalize intsOf (((aftTo ts ts.length i).take m).filter (fun k => decide (missN ts (mark S i) k = 0))) = l at *
        go_wp2
        go_roundw
        case rel => exact ⟨m + 1, by omega, by go_num, by rw [HT.out]; exact hR1, hM2⟩
        case measure => simp [intOf]; omega
    · have hke : m = (aftTo ts ts.length i).length := by omega
      have hml' : ¬ (m : Int) < ((aftTo ts ts.length i).length : Int) := by omega
      have HE : Hid (RowI w.heap.size wr (.slice ra (intsOf (((aftTo ts ts.length i).take m).filter (fun k => decide (missN ts (mark S i) k = 0)))).length rc) (intsOf (newL ts S i))) := by
        have := hR.out
        rw [hke, List.take_length] at this ⊢
        exact this
      have HJ2 : Hid (JnT J M A D C ts (mark S i) (wr.setCell ⟨A, i, none⟩ (.slice none 0 0))) := RelM.jnT HG.out hi HSI.out HJ.out (by rw [← hke]; exact hM.out)
      have hfA : wr.frozen? ⟨A, i, none⟩ = false := (World.frozen?_of_block (a := ⟨A, i, none⟩) (hM.out.kx.block A HJ.out.ltA (by show A ≠ M; omega))).trans (by obtain ⟨av2, ha2⟩ := HJ.out.aft; exact ha2.row.frozen i)
      have hcA2 : wr.cell? ⟨A, i, none⟩ = some (.slice la (aftTo ts ts.length i).length lc) := (World.cell?_of_block (a := ⟨A, i, none⟩) (hM.out.kx.block A HJ.out.ltA (by show A ≠ M; omega))).trans hcA
      have HK : Hid (Kx (fun k => k = M ∨ k = A) w (wr.setCell ⟨A, i, none⟩ (.slice none 0 0))) := by
        show Kx (fun k => k = M ∨ k = A) w _
        exact Kx.set (X := fun k => k = M ∨ k = A) (M := A) ⟨hM.out.kx.os, hM.out.kx.tape, hM.out.kx.output, hM.out.kx.size, fun k hk hX => hM.out.kx.block k hk (fun e => hX (Or.inl e))⟩ (Or.inl (Or.inr rfl)) _ _
      have HE2 : Hid (RowI w.heap.size (wr.setCell ⟨A, i, none⟩ (.slice none 0 0)) (.slice ra (intsOf (((aftTo ts ts.length i).take m).filter (fun k => decide (missN ts (mark S i) k = 0)))).length rc) (intsOf (newL ts S i))) :=
        HE.out.of_blocks (fun b hb => Below.heap_setCell _ _ _ _ (by show b ≠ A; have := (HE.out.low hb).1; have := HJ.out.ltA; omega))
      have HSA : Hid (SubA A w (wr.setCell ⟨A, i, none⟩ (.slice none 0 0))) := SubA.set (hM.out.kx.block A HJ.out.ltA (by show A ≠ M; omega)) hcA2
      clear hR hke hM HE hc0 hcA hc1 HL
      generalize intsOf (((aftTo ts ts.length i).take m).filter (fun k => decide (missN ts (mark S i) k = 0))) = l at *
      go_wp2
      go_ret
      exact ⟨⟨_, rfl, HE2.out⟩, HJ2.out, HK.out, HSA.out⟩

theorem done_range (J M A D C : Nat) (ts : List (Int × List Int)) (S : Nat → Bool) (i : Int) (w : World) (h : JnT J M A D C ts S w) (hi : i < 0 ∨ (ts.length : Int) ≤ i) :
    Calls Tryz.prog 183 #[.pointer (some ⟨J, 0, none⟩), .int .i64 i] w fun e w' => e = .returned (.tuple #[.slice none 0 0, errV 1]) ∧ w' = w := by
  have hs := state_bad J M A D C ts S i w h hi
  unfold errV at hs
  clear h hi
  go_enter Tryz.func183, Tryz.ntmps183
  go_wp2_with (go_at_call 204; refine hs.mono ?_; clear hs; rintro e w' ⟨rfl, rfl⟩)
  go_ret2
  exact ⟨rfl, rfl⟩
theorem done_state (J M A D C : Nat) (ts : List (Int × List Int)) (S : Nat → Bool) (i : Nat) (w : World) (h : JnT J M A D C ts S w) (hi : i < ts.length) (hr : readyB ts S i = false) :
    Calls Tryz.prog 183 #[.pointer (some ⟨J, 0, none⟩), .int .i64 i] w fun e w' => e = .returned (.tuple #[.slice none 0 0, errV 6]) ∧ Below w.heap.size w w' := by
  have hs := state_good J M A D C ts S i w h hi
  have hne : (((stN ts S i : Nat) : Int) != 1) = true := by have := stN_not hr; simp; omega
  generalize stN ts S i = st at *
  clear h hr
  go_enter Tryz.func183, Tryz.ntmps183
  go_wp2_with (go_at_call 204; refine hs.mono ?_; clear hs; rintro e w' ⟨rfl, hb⟩)
  go_ret2
  exact ⟨rfl, hb⟩

/-- One more is done. -/
theorem Jn.put {J M A D C : Nat} {ts : List (Int × List Int)} {S : Nat → Bool} {i m : Nat} {w w1 : World} {D' : DataW Unit} (h : JnT J M A D C ts S w) (hi : i < ts.length) (hS : S i = false)
    (hown : w.ownsMap Tryz.prog 3 (unitElem (H := Unit)) D m D') (hs : Maps.size D' = m) (hm : m + unseen S ts.length = ts.length) (hD : ∀ x : Nat, x < ts.length → Maps.has D' (.int .i64 x) = S x)
    (hown1 : w1.ownsMap Tryz.prog 3 (unitElem (H := Unit)) D (m + 1) (D'.put (.int .i64 i) (.agg []))) (hg : w.grownBy w1 (some D)) :
    Jn J M A D C ts.length (missN ts S) (fun k => if S k then [] else aftTo ts ts.length k) (mark S i) w1 := by
  obtain ⟨av, ha⟩ := Jn.aft h
  obtain ⟨n1, n2, n3, n4, n5, n6⟩ := Jn.ne h
  obtain ⟨l1, l2, l3, l4⟩ := Jn.lt h
  have keep : ∀ k, k < w.heap.size → k ≠ D → w1.heap[k]? = w.heap[k]? := fun k hk hne => hg.block k hk (fun e => hne (Option.some.inj e))
  have hu := unseen_mark S ts.length i hi hS
  refine ⟨(Jn.row h).of_block (keep J (Jn.row h).lt n3), (Jn.miss h).of_block (keep M (Jn.miss h).lt n5), ⟨av, ha.of_blocks (keep A ha.row.lt n6) (fun k hk hl => keep k hl (by omega))⟩, ⟨m + 1, _, hown1, ?_, by omega, fun x hx => ?_⟩, Jn.lt h, Jn.ne h, Jn.le h⟩
  · rw [Maps.size_put (hown.tidy keyed3), hD i hi, hS, hs]; rfl
  · by_cases e : x = i
    · subst e
      rw [Maps.has_put_same hown.isMap (by trivial)]; simp [mark]
    · rw [Maps.has_put_other (by intro h; injection h with _ h; omega), hD x hx]; simp [mark, e]

set_option maxRecDepth 100000 in
set_option maxHeartbeats 2000000 in
theorem done_good (J M A D C : Nat) (ts : List (Int × List Int)) (hg : Good ts) (S : Nat → Bool) (i : Nat) (w : World) (h : JnT J M A D C ts S w) (hi : i < ts.length) (hr : readyB ts S i = true) :
    Calls Tryz.prog 183 #[.pointer (some ⟨J, 0, none⟩), .int .i64 i] w fun e w' => (∃ v, e = .returned (.tuple #[v, .nilIface]) ∧ RowI w.heap.size w' v (intsOf (newL ts S i))) ∧ JnT J M A D C ts (mark S i) w' ∧ Kx (fun k => k = M ∨ k = A ∨ k = D) w w' ∧ SubA A w w' := by
  have hs := state_good J M A D C ts S i w h hi
  rw [stN_ready hr] at hs
  have HJ : Hid (JnT J M A D C ts S w) := h
  have HS : Hid (S i = false) := (ready_parts hr).1
  have h30 := hg.le
  have hkey := key_nat (y := i) (by omega)
  clear h hr
  go_enter Tryz.func183, Tryz.ntmps183
  go_wp2_with fail
  refine hs.mono ?_
  clear hs
  rintro e w1 ⟨rfl, hb1⟩
  have hJ1 := Jn.later HJ.out hb1
  have HJ1 : Hid (JnT J M A D C ts S w1) := hJ1
  have hc2 := hJ1.c2
  obtain ⟨m, D', hown, hsz, hm, hD⟩ := hJ1.done
  have HD : Hid (Maps.size D' = m ∧ m + unseen S ts.length = ts.length ∧ ∀ x : Nat, x < ts.length → Maps.has D' (.int .i64 x) = S x) := ⟨hsz, hm, hD⟩
  have hml : m < maxLen := by unfold maxLen; omega
  clear hJ1 hsz hm hD
  go_wp2_with (at_mapUpdate; refine wpList_mapUpdate_own _ rfl _ _ _ 104 rfl 3 196 keyed3 Tryz.underlying104 (unitElem (H := Unit)) D m D' rfl hown hml _ _ _ rfl rfl hkey (.agg []) [] unitElem_mk ?_; intro w2 hown2 hgrow2)
  have hJ2 := Jn.put HJ1.out hi HS.out hown HD.out.1 HD.out.2.1 HD.out.2.2 hown2 hgrow2
  have hrel := release_any J M A D C ts hg S i w2 hi HS.out hJ2
  have hs2 := hgrow2.size
  have hs1 := hb1.size
  have hk2 : Kx (fun k => k = M ∨ k = A ∨ k = D) w w2 := (Below.kx hb1).trans (Y := fun k => k = D) ⟨hgrow2.os, hgrow2.tape, hgrow2.output, hgrow2.size, fun k hk hX => hgrow2.block k hk (fun e => hX (Option.some.inj e))⟩ (fun j e => Or.inl (Or.inr (Or.inr e)))
  have HK2 : Hid (Kx (fun k => k = M ∨ k = A ∨ k = D) w w2) := hk2
  have HA2 : Hid (w2.heap[A]? = w.heap[A]?) := (hgrow2.block A HJ1.out.ltA (fun e => HJ1.out.ne.2.2.2.2.2 (Option.some.inj e))).trans (hb1.block A (Jn.ltA HJ.out))
  clear hJ2 hown hown2 hgrow2 hc2 hk2 hkey hb1
  go_wp2_with fail
  refine hrel.mono ?_
  clear hrel
  rintro e w3 ⟨⟨v, rfl, hv⟩, hJ3, hk3, hsa⟩
  have HSA : Hid (SubA A w w3) := fun k v hv => (hsa k v hv).imp id (fun h => (World.cell?_of_block (a := ⟨A, k, none⟩) HA2.out).symm.trans h)
  clear hsa
  obtain ⟨va, vc, rfl⟩ := hv.shape
  have HV : Hid (RowI w.heap.size w3 (.slice va (intsOf (newL ts S i)).length vc) (intsOf (newL ts S i))) := hv.mono (by omega)
  have HK3 : Hid (Kx (fun k => k = M ∨ k = A ∨ k = D) w w3) := HK2.out.trans hk3 (fun j e => Or.inl (by rcases e with e | e; { exact Or.inl e }; { exact Or.inr (Or.inl e) }))
  clear hv hk3
  generalize (intsOf (newL ts S i)).length = n at *
  go_wp2
  go_ret2
  exact ⟨⟨.slice va n vc, rfl, HV.out⟩, hJ3, HK3.out, HSA.out⟩
end Go.Proofs.YtlfbdjeojgbniaaGreatDoor

namespace Go.Proofs.YtlfbdjeojgbniaaGreatDoor
open Go.RowKit Go.Deep Go.Maps

theorem Tryz.info73 : (Tryz.prog.info? 73).map (fun i => (i.zero, i.size, i.bytes)) = some (some (.slice none 0 0), 1, 24) := by kernel_rfl

/-- While a join is made: of the first a tasks what they need is counted, of the first i tasks, and m needs of the i-th, it is written whom they need. -/
structure NewM (J M A D C a i m : Nat) (ts : List (Int × List Int)) (w wr : World) : Prop where
  row : wr.rowIs J 106 3 (joinRow M A D ts.length)
  miss : wr.rowIs M 3 ts.length (fun k => natV (if k < a then (needsOf ts k).length else 0))
  aft : ∃ av, AftAt C A ts.length (aftIn ts i m) av wr ∧ ∀ k k', k < ts.length → k' < ts.length → k ≠ k' → ∀ b, (av k).ownBlock = some b → (av k').ownBlock ≠ some b
  done : DoneAt wr D ts.length (fun _ => false)
  lt : J < C ∧ M < C ∧ A < C ∧ D < C
  ne : J ≠ M ∧ J ≠ A ∧ J ≠ D ∧ M ≠ A ∧ M ≠ D ∧ A ≠ D
  low : w.heap.size ≤ J ∧ w.heap.size ≤ M ∧ w.heap.size ≤ A ∧ w.heap.size ≤ D
  size : C ≤ wr.heap.size
  below : Below w.heap.size w wr

theorem DoneAt.empty {w : World} {D n : Nat} (h : w.heap[D]? = some (.map #[] 0)) : DoneAt w D n (fun _ => false) := by
  obtain ⟨es, clock, hb, F, hs, hD⟩ := World.ownsMap_made w Tryz.prog 3 (unitElem (H := Unit))
  rw [heap_alloc_new] at hb
  simp only [Option.some.injEq, Obj.map.injEq] at hb
  obtain ⟨rfl, rfl⟩ := hb
  exact ⟨0, .map [], ⟨#[], 0, h, F, hs, rfl⟩, rfl, by rw [unseen_none]; omega, fun x _ => rfl⟩

theorem NewM.start {J M A D : Nat} {ts : List (Int × List Int)} {w wx : World} (hJ : wx.heap[J]? = some (.cells #[.slice (some ⟨M, 0, none⟩) ts.length ts.length, .slice (some ⟨A, 0, none⟩) ts.length ts.length, .map (some D)] 106 (0, 0)))
    (hM : wx.heap[M]? = some (.cells (madeCells #[.int .i64 0] ts.length) 3 (0, 0))) (hA : wx.heap[A]? = some (.cells (madeCells #[.slice none 0 0] ts.length) 73 (0, 0))) (hD : wx.heap[D]? = some (.map #[] 0))
    (low : w.heap.size ≤ J ∧ w.heap.size ≤ M ∧ w.heap.size ≤ A ∧ w.heap.size ≤ D) (hb : Below w.heap.size w wx) : NewM J M A D wx.heap.size 0 0 0 ts w wx := by
  have lt : ∀ {k o}, wx.heap[k]? = some o → k < wx.heap.size := fun h => (Array.getElem?_eq_some_iff.1 h).1
  refine ⟨⟨_, hJ, rfl, fun i hi => ?_⟩, ⟨_, hM, size_madeCells _ _, fun i hi => by simp [madeCells, hi, Nat.mod_one, natV]⟩, ⟨fun _ => .slice none 0 0, ⟨⟨_, hA, size_madeCells _ _, fun i hi => by simp [madeCells, hi, Nat.mod_one]⟩, fun k _ => ?_⟩, fun k k' _ _ _ b hb => by simp [Value.ownBlock] at hb⟩,
    DoneAt.empty hD, ⟨lt hJ, lt hM, lt hA, lt hD⟩, ⟨?_, ?_, ?_, ?_, ?_, ?_⟩, low, Nat.le_refl _, hb⟩
  · rcases (by omega : i = 0 ∨ i = 1 ∨ i = 2) with rfl | rfl | rfl <;> rfl
  · have : aftIn ts 0 0 k = [] := by simp [aftIn_zero, aftTo]
    rw [this]
    exact RowI.nil _ _
  · intro e; subst e; rw [hJ] at hM; simp at hM
  · intro e; subst e; rw [hJ] at hA; simp at hA
  · intro e; subst e; rw [hJ] at hD; simp at hD
  · intro e; subst e; rw [hM] at hA; simp at hA
  · intro e; subst e; rw [hM] at hD; simp at hD
  · intro e; subst e; rw [hA] at hD; simp at hD

section
variable {J M A D C a i m : Nat} {ts : List (Int × List Int)} {w wr w' : World}
theorem NewM.later (h : NewM J M A D C a i m ts w wr) (hb : Below wr.heap.size wr w') : NewM J M A D C a i m ts w w' := by
  obtain ⟨av, ha, hap⟩ := h.aft
  exact ⟨h.row.of_block (hb.block _ h.row.lt), h.miss.of_block (hb.block _ h.miss.lt), ⟨av, ha.of_blocks (hb.block _ ha.row.lt) (fun k _ hk => hb.block k hk), hap⟩, h.done.of_block (hb.block _ h.done.lt), h.lt, h.ne, h.low, Nat.le_trans h.size hb.size, h.below.trans (hb.mono h.below.size)⟩
theorem NewM.c0 (h : NewM J M A D C a i m ts w wr) : wr.cell? ⟨J, 0, none⟩ = some (.slice (some ⟨M, 0, none⟩) ts.length ts.length) := by
  have := h.row.cell (i := 0) (by omega)
  simpa [joinRow] using this
theorem NewM.c1 (h : NewM J M A D C a i m ts w wr) : wr.cell? ⟨J, 1, none⟩ = some (.slice (some ⟨A, 0, none⟩) ts.length ts.length) := by
  have := h.row.cell (i := 1) (by omega)
  simpa [joinRow] using this
/-- What the next task needs is counted. -/
theorem NewM.count (h : NewM J M A D C i i 0 ts w wr) : NewM J M A D C (i + 1) i 0 ts w (wr.setCell ⟨M, i, none⟩ (.int .i64 (needsOf ts i).length)) := by
  obtain ⟨av, ha, hap⟩ := h.aft
  obtain ⟨n1, n2, n3, n4, n5, n6⟩ := h.ne
  obtain ⟨l1, l2, l3, l4⟩ := h.lt
  have keep : ∀ k, k ≠ M → (wr.setCell ⟨M, i, none⟩ (.int .i64 (needsOf ts i).length)).heap[k]? = wr.heap[k]? := fun k hk => Below.heap_setCell _ _ _ _ (by show k ≠ M; exact hk)
  refine ⟨h.row.of_block (keep J n1), (h.miss.set i _).congr (fun k _ => ?_), ⟨av, ha.of_blocks (keep A (by omega)) (fun k hk _ => keep k (by omega)), hap⟩, h.done.of_block (keep D (by omega)), h.lt, h.ne, h.low, by simpa using h.size, h.below.setCell h.low.2.1 _⟩
  by_cases e : k = i
  · subst e; simp [natV]
  · have : (k < i + 1) ↔ k < i := by omega
    simp [e, this]
/-- The i-th is written down as one that needs the y-th. -/
theorem NewM.put {y q : Nat} {v v2 : Value} {w2 : World} {ob : Obj} {av : Nat → Value} (hg : Good ts) (hi : i < ts.length) (hm : m < (needsOf ts i).length) (hy : (needsOf ts i).getD m 0 = (y : Int)) (hyl : y < ts.length)
    (h : NewM J M A D C a i m ts w wr) (ha : AftAt C A ts.length (aftIn ts i m) av wr) (hap : ∀ k k', k < ts.length → k' < ts.length → k ≠ k' → ∀ b, (av k).ownBlock = some b → (av k').ownBlock ≠ some b) (hv : av y = v)
    (hgr : ((wr.drewN q).alloc ob).grownBy w2 v.ownBlock) (hat : v2.ownBlock = v.ownBlock ∨ v2.ownBlock = some ((wr.drewN q).alloc ob).heap.size) (hR : RowI C w2 v2 (intsOf (aftIn ts i m y) ++ [(i : Int)])) :
    NewM J M A D C a i (m + 1) ts w (w2.setCell ⟨A, y, none⟩ v2) := by
  subst hv
  obtain ⟨n1, n2, n3, n4, n5, n6⟩ := h.ne
  obtain ⟨l1, l2, l3, l4⟩ := h.lt
  have hCs := h.size
  have hb1 : Below wr.heap.size wr ((wr.drewN q).alloc ob) := ⟨rfl, rfl, rfl, by simp, fun k hk => Below.heap_alloc (wr.drewN q) ob k hk⟩
  have hs1 := hb1.size
  have hown := ha.own y hyl
  have keep2 : ∀ k, k < wr.heap.size → (av y).ownBlock ≠ some k → w2.heap[k]? = wr.heap[k]? := fun k hk hne => (hgr.block k (by omega) (fun e => hne e.symm)).trans (hb1.block k hk)
  have keepC : ∀ k, k < C → w2.heap[k]? = wr.heap[k]? := fun k hk => keep2 k (by omega) (fun e => by have := (hown.low e).1; omega)
  have keep : ∀ k, k < C → k ≠ A → (w2.setCell ⟨A, y, none⟩ v2).heap[k]? = wr.heap[k]? := fun k hk hne => (Below.heap_setCell _ _ _ _ (by show k ≠ A; exact hne)).trans (keepC k hk)
  have hA2 : w2.rowIs A 73 ts.length av := ha.row.of_block (keepC A l3)
  refine ⟨h.row.of_block (keep J l1 n2), h.miss.of_block (keep M l2 n4), ⟨fun k => if k = y then v2 else av k, ⟨hA2.set y v2, fun k hk => ?_⟩, fun k k' hk hk' hne b hb => ?_⟩, h.done.of_block (keep D l4 (by omega)), h.lt, h.ne, h.low, ?_, ?_⟩
  · by_cases e : k = y
    · subst e
      simp only [if_true]
      rw [aftIn_hit hg hi hm hy, intsOf_append]
      exact hR.of_blocks (fun b hb => Below.heap_setCell _ _ _ _ (by show b ≠ A; have := (hR.low hb).1; omega))
    · simp only [if_neg e]
      rw [aftIn_miss hm hy e]
      have hk2 := ha.own k hk
      refine hk2.of_blocks (fun b hb => ?_)
      have hlow := hk2.low hb
      exact (Below.heap_setCell _ _ _ _ (by show b ≠ A; omega)).trans (keep2 b hlow.2 (hap k y hk hyl e b hb))
  · change (if k = y then v2 else av k).ownBlock = some b at hb
    show (if k' = y then v2 else av k').ownBlock ≠ some b
    by_cases e : k = y
    · subst e
      rw [if_pos rfl] at hb
      rw [if_neg (fun e => hne e.symm)]
      rcases hat with h1 | h1
      · exact hap k k' hk hk' hne b (h1.symm.trans hb)
      · intro h2
        have := ((ha.own k' hk').low h2).2
        rw [h1] at hb
        simp only [Option.some.injEq] at hb
        omega
    · rw [if_neg e] at hb
      by_cases e' : k' = y
      · subst e'
        rw [if_pos rfl]
        intro h2
        rcases hat with h1 | h1
        · exact hap k k' hk hk' hne b hb (h1.symm.trans h2)
        · have := ((ha.own k hk).low hb).2
          rw [h1] at h2
          simp only [Option.some.injEq] at h2
          omega
      · rw [if_neg e']
        exact hap k k' hk hk' hne b hb
  · have := hgr.size
    simp
    omega
  · have hb2 : Below w.heap.size w w2 := (h.below.trans (hb1.mono h.below.size)).grown hgr (by have := h.below.size; omega) (fun k e => by have := (hown.low e).1; have := h.low; omega)
    exact hb2.setCell h.low.2.2.1 _
theorem NewM.next (h : NewM J M A D C a i (needsOf ts i).length ts w wr) : NewM J M A D C a (i + 1) 0 ts w wr := by
  obtain ⟨av, ha, hap⟩ := h.aft
  refine ⟨h.row, h.miss, ⟨av, ⟨ha.row, fun k hk => ?_⟩, hap⟩, h.done, h.lt, h.ne, h.low, h.size, h.below⟩
  have := ha.own k hk
  rw [aftIn_all] at this
  rw [aftIn_zero]
  exact this
theorem NewM.jnT (h30 : ts.length ≤ 30) (h : NewM J M A D C ts.length ts.length 0 ts w wr) : JnT J M A D C ts (fun _ => false) wr := by
  obtain ⟨av, ha, hap⟩ := h.aft
  refine ⟨h.row, h.miss.congr (fun k hk => by rw [missN_none, if_pos hk]), ⟨av, ha.row, fun k hk => ?_⟩, h.done, h.lt, h.ne, h30⟩
  have := ha.own k hk
  rw [aftIn_zero] at this
  exact this
end

theorem four (w : World) (a b c d : Obj) : ((((w.alloc a).alloc b).alloc c).alloc d).heap[w.heap.size]? = some a ∧ ((((w.alloc a).alloc b).alloc c).alloc d).heap[w.heap.size + 1]? = some b ∧ ((((w.alloc a).alloc b).alloc c).alloc d).heap[w.heap.size + 1 + 1]? = some c ∧ ((((w.alloc a).alloc b).alloc c).alloc d).heap[w.heap.size + 1 + 1 + 1]? = some d := by
  have n1 : (w.alloc a).heap.size = w.heap.size + 1 := by simp
  have n2 : ((w.alloc a).alloc b).heap.size = w.heap.size + 1 + 1 := by simp
  have n3 : (((w.alloc a).alloc b).alloc c).heap.size = w.heap.size + 1 + 1 + 1 := by simp
  refine ⟨?_, ?_, ?_, ?_⟩
  · rw [blk_alloc_lt _ _ _ (by omega), blk_alloc_lt _ _ _ (by omega), blk_alloc_lt _ _ _ (by omega), blk_alloc_new]
  · rw [blk_alloc_lt _ _ _ (by omega), blk_alloc_lt _ _ _ (by omega), ← n1, blk_alloc_new]
  · rw [blk_alloc_lt _ _ _ (by omega), ← n2, blk_alloc_new]
  · rw [← n3, blk_alloc_new]
theorem below_four {w0 w : World} (h : Below w0.heap.size w0 w) (a b c d : Obj) : Below w0.heap.size w0 ((((w.alloc a).alloc b).alloc c).alloc d).drew := by
  have := h.size
  have hb := (((h.alloc (by omega) a).alloc (by simp; omega) b).alloc (by simp; omega) c).alloc (by simp; omega) d
  exact ⟨hb.os, hb.tape, hb.output, hb.size, hb.block⟩

theorem make44 (w : World) : Sem.run Tryz.prog (Instr.makeMap 104 none) w = .ok (.map (some w.heap.size)) (w.alloc (.map #[] 0)) := by kernel_rfl

theorem new_bad (v : Value) (ts : List (Int × List Int)) (w : World) (hp : PlanAt w v ts) {p q : Int} (hc : CheckIs ts p q) (hq : q ≠ 0) :
    Calls Tryz.prog 12 #[v] w fun e w' => e = .returned (.tuple #[.pointer none, errV q]) ∧ Below w.heap.size w w' := by
  have hck := check_any v ts w hp
  obtain ⟨hl, a, c, rfl, hp⟩ := hp
  have hev := errV_some hq
  have HV : Hid (errV q = .iface 97 (.int .i64 q)) := hev
  clear hp
  go_enter Tryz.func12, Tryz.ntmps12
  go_wp2_with fail
  refine hck.mono ?_
  rintro e w1 ⟨⟨p', q', rfl, hc'⟩, hb1⟩
  obtain ⟨rfl, rfl⟩ := hc.det hc'
  rw [hev]
  clear hck hc hc' hev
  go_wp2
  go_ret2
  exact ⟨by rw [HV.out]; rfl, hb1⟩

/-- What New answers to a plan that is right. -/
def NewOut (ts : List (Int × List Int)) (w : World) (e : Ending) (w' : World) : Prop :=
  ∃ J M A D C, e = .returned (.tuple #[.pointer (some ⟨J, 0, none⟩), .nilIface]) ∧ JnT J M A D C ts (fun _ => false) w' ∧ (w.heap.size ≤ J ∧ w.heap.size ≤ M ∧ w.heap.size ≤ A ∧ w.heap.size ≤ D) ∧ Below w.heap.size w w'

set_option maxRecDepth 100000 in
set_option maxHeartbeats 4000000 in
theorem new_good (v : Value) (ts : List (Int × List Int)) (w : World) (hp : PlanAt w v ts) (hc : CheckIs ts 0 0) :
    Calls Tryz.prog 12 #[v] w fun e w' => NewOut ts w e w' := by
  have hck := check_any v ts w hp
  have HP : Hid (PlanAt w v ts) := hp
  have HG : Hid (Good ts) := hc.good
  have h30 := HG.out.le
  obtain ⟨hl, pa, pc, rfl, hp⟩ := hp
  have hmk := fun wx => run_make_row' (P := Tryz.prog) 73 3 (.int .i64 0) 8 Tryz.underlying73 Tryz.info3 rfl .i64 .i64 ts.length (by omega) (by omega) wx
  have hmk2 := fun wx => run_make_row' (P := Tryz.prog) 103 73 (.slice none 0 0) 24 Tryz.underlying103 Tryz.info73 rfl .i64 .i64 ts.length (by omega) (by omega) wx
  have hmk3 := make44
  clear hp
  go_enter Tryz.func12, Tryz.ntmps12
  go_wp2_with fail
  refine hck.mono ?_
  rintro e w1 ⟨⟨p', q', rfl, hc'⟩, hb1⟩
  obtain ⟨rfl, rfl⟩ := hc.det hc'
  rw [errV_zero]
  clear hck hc hc'
  go_upto_region 4 with fail
  go_cut [6] (fun s6 wx => ∃ J M A D C, s6 = .pointer (some ⟨J, 0, none⟩) ∧ Hid (NewM J M A D C 0 0 0 ts w wx))
  case first =>
    go_region
    all_goals
      go_wp2_with fail
      go_meet
      have hsz := hb1.size
      refine ⟨_, _, _, _, _, rfl, NewM.start (four w1 _ _ _ _).2.2.2 ?_ ?_ ?_ ⟨by omega, by omega, by omega, by omega⟩ (below_four hb1 _ _ _ _)⟩
      all_goals first | exact (four w1 _ _ _ _).1 | exact (four w1 _ _ _ _).2.1 | exact (four w1 _ _ _ _).2.2.1
  case rest =>
    obtain ⟨J, M, A, D, C, rfl, hN⟩ := hcut
    clear hmk hmk2 hmk3 hb1
    go_wp2
    go_loopw [30] (fun s30 wr => ∃ k : Nat, k ≤ ts.length ∧ s30 = .int .i64 k ∧ Hid (NewM J M A D C k k 0 ts w wr)) (fun s30 _ => ts.length - (intOf s30).toNat)
    case atStart => exact ⟨0, Nat.zero_le _, rfl, hN⟩
    case round =>
      clear hN
      obtain ⟨k, hk, rfl, hN⟩ := hrel
      by_cases hkl : k < ts.length
      · obtain ⟨_, pa', pc', hve, hpc⟩ := HP.out
        simp only [Value.slice.injEq] at hve
        obtain ⟨rfl, _, rfl⟩ := hve
        rcases hpc with hnil | ⟨b, o, rfl, hbl, hc⟩
        · rw [hnil] at hkl; simp at hkl
        obtain ⟨hc1, nv, hc2, hin⟩ := hc k hkl
        have hc1' := (hN.out.below.cell (p := ⟨b, o + k * 2, none⟩) hbl).trans hc1
        have hc2' := (hN.out.below.cell (p := ⟨b, o + k * 2 + 1, none⟩) hbl).trans hc2
        clear hc hc1 hc2
        have HIN : Hid (IntsAt w nv (needsOf ts k)) := hin
        obtain ⟨_, na, nc, rfl, _⟩ := hin
        have hnl := HG.out.len hkl
        have hNA := hN.out.later ((Below.refl _ _).alloc (Nat.le_refl _) (.cells #[.int .i64 (ts.getD k (0, [])).1, .slice na (needsOf ts k).length nc] 94))
        have hj0 := hNA.c0
        have hmc := hNA.miss.cell hkl
        have hmf := hNA.miss.frozen k
        have hMl := hN.out.miss.lt
        have hMne : ¬ wr.heap.size = M := by omega
        have hN2 : Hid (NewM J M A D C (k + 1) k 0 ts w ((wr.setCell ⟨M, k, none⟩ (.int .i64 (needsOf ts k).length)).alloc (.cells #[.int .i64 (ts.getD k (0, [])).1, .slice na (needsOf ts k).length nc] 94)).drew) :=
          (hN.out.count.later ((Below.refl _ _).alloc (Nat.le_refl _) _)).later ⟨rfl, rfl, rfl, Nat.le_refl _, fun _ _ => rfl⟩
        clear hNA hN
        generalize (ts.getD k (0, [])).1 = wk at *
        go_wp2
        go_region
        go_wp2
        clear hj0 hmc hmf hMl hMne hc1' hc2'
        go_loopw [47] (fun s47 wr2 => ∃ m : Nat, m ≤ (needsOf ts k).length ∧ s47 = .int .i64 m ∧ Hid (NewM J M A D C (k + 1) k m ts w wr2)) (fun s47 _ => (needsOf ts k).length - (intOf s47).toNat)
        case atStart => exact ⟨0, Nat.zero_le _, rfl, hN2⟩
        case round =>
          clear hN2
          obtain ⟨m, hm, rfl, hN⟩ := hrel
          by_cases hml : m < (needsOf ts k).length
          · obtain ⟨_, na', nc', hve2, hz⟩ := HIN.out
            simp only [Value.slice.injEq] at hve2
            obtain ⟨rfl, _, rfl⟩ := hve2
            rcases hz with hz | ⟨nb, no, rfl, hnb, hnc⟩
            · rw [hz] at hml; simp at hml
            have hyc := (hN.out.below.cell (p := ⟨nb, no + m, none⟩) hnb).trans (hnc m hml)
            obtain ⟨hylt, _, hy0⟩ := need_at HG.out.rng hkl hml
            obtain ⟨y, hy⟩ := Int.eq_ofNat_of_zero_le hy0
            rw [hy] at hyc hylt
            rw [Int.toNat_natCast] at hylt
            have HY : Hid ((needsOf ts k).getD m 0 = (y : Int)) := hy
            clear hnc hy hy0
            obtain ⟨av, ha, hap⟩ := hN.out.aft
            have HA : Hid (AftAt C A ts.length (aftIn ts k m) av wr) := ha
            have HAP : Hid (∀ k k', k < ts.length → k' < ts.length → k ≠ k' → ∀ b, (av k).ownBlock = some b → (av k').ownBlock ≠ some b) := hap
            have hcA := ha.row.cell hylt
            have hfA := ha.row.frozen y
            have hAl := ha.row.lt
            obtain ⟨la, lc, hav⟩ := (ha.own y hylt).shape
            have HV : Hid (av y = .slice la (intsOf (aftIn ts k m y)).length lc) := hav
            rw [hav] at hcA
            have hrow := ha.own y hylt
            rw [hav] at hrow
            have hcA2 : (wr.alloc (.cells #[.int .i64 k] 3)).cell? ⟨A, y, none⟩ = some (.slice la (intsOf (aftIn ts k m y)).length lc) := (World.cell?_of_block (a := ⟨A, y, none⟩) (Below.heap_alloc _ _ _ hAl)).trans hcA
            have HR : Hid (RowI C (wr.alloc (.cells #[.int .i64 k] 3)) (.slice la (intsOf (aftIn ts k m y)).length lc) (intsOf (aftIn ts k m y))) := hrow.alloc _
            have HO : Hid (Rds (fun _ => True) (wr.alloc (.cells #[.int .i64 k] 3)) (.slice (some ⟨wr.heap.size, 0, none⟩) 1 1) [(k : Int)]) := one_rds wr k
            have hj1 := hN.out.c1
            have hJl := hN.out.row.lt
            have hj1A : (wr.alloc (.cells #[.int .i64 k] 3)).cell? ⟨J, 1, none⟩ = some (.slice (some ⟨A, 0, none⟩) ts.length ts.length) := (World.cell?_of_block (a := ⟨J, 1, none⟩) (Below.heap_alloc _ _ _ hJl)).trans hj1
            have hlen : (intsOf (aftIn ts k m y)).length ≤ 31 := by rw [intsOf_length]; have := aftIn_len ts k m y; omega
            have hCs := hN.out.size
            have hlt := hN.out.lt
            have hlow : ∀ j, (Value.slice la (intsOf (aftIn ts k m y)).length lc).ownBlock = some j → C ≤ j := fun j e => (hrow.low e).1
            clear ha hap hav hrow
            generalize hl : intsOf (aftIn ts k m y) = l at *
            have HL : Hid (intsOf (aftIn ts k m y) = l) := hl
            have hZS : (l ++ [(k : Int)]).length = l.length + 1 := by simp
            clear hl
            go_wp2
            go_region_law (refine step_append_rows rfl (.tmp 62) (.tmp 64) rfl C (fun _ => True) (.slice la l.length lc) (.slice (some ⟨wr.heap.size, 0, none⟩) 1 1) l [(k : Int)] (by simp [Act.eval]) (by simp [Act.eval]) HR.out HO.out (by simp; omega) (by simp; omega) ?_; intro v2 w2 hown2 hgr2 hat2; have HR2 : Hid (RowI C w2 v2 (l ++ [(k : Int)])) := hown2; obtain ⟨a2, k2, rfl⟩ := hown2.shape; rw [hZS] at HR2 hat2 ⊢; have hbk : w2.heap[A]? = wr.heap[A]? := (hgr2.block A (by simp; omega) (fun e => by have := hlow A e.symm; omega)).trans (Below.heap_alloc _ _ _ hAl); have hz2 := (World.frozen?_of_block (a := ⟨A, y, none⟩) hbk).trans hfA; have hcm := (World.cell?_of_block (a := ⟨A, y, none⟩) hbk).trans hcA; have hj1w : w2.cell? ⟨J, 1, none⟩ = some (.slice (some ⟨A, 0, none⟩) ts.length ts.length) := (World.cell?_of_block (a := ⟨J, 1, none⟩) (hgr2.block J (by simp; omega) (fun e => by have := hlow J e.symm; omega))).trans hj1A; clear hown2)
            all_goals
              have hN3 : Hid (NewM J M A D C (k + 1) k (m + 1) ts w (w2.setCell ⟨A, y, none⟩ (.slice a2 (l.length + 1) k2))) :=
                NewM.put (q := 1) HG.out hkl hml HY.out hylt hN.out HA.out HAP.out HV.out hgr2 hat2 (by rw [HL.out]; exact HR2.out)
              clear hgr2 hat2 HR2 hbk hz2 hcm hj1w
              go_wp2
              go_roundw
              case rel => exact ⟨m + 1, by omega, by go_num, hN3⟩
              case measure => simp [intOf]; omega
          · have hke : m = (needsOf ts k).length := by omega
            have hml' : ¬ (m : Int) < ((needsOf ts k).length : Int) := by omega
            have hN3 : Hid (NewM J M A D C (k + 1) (k + 1) 0 ts w wr) := NewM.next (by rw [← hke]; exact hN.out)
            clear hke hN
            go_wp2
            go_roundw
            case rel => exact ⟨k + 1, by omega, by go_num, hN3⟩
            case measure => simp [intOf]; omega
      · have hke : k = ts.length := by omega
        have hkl' : ¬ (k : Int) < (ts.length : Int) := by omega
        have hN3 : Hid (NewM J M A D C ts.length ts.length 0 ts w wr) := by have := hN.out; rw [hke] at this; exact this
        clear hke hN
        go_wp2
        go_ret2
        exact ⟨J, M, A, D, C, rfl, hN3.out.jnT h30, hN3.out.low, hN3.out.below⟩
end Go.Proofs.YtlfbdjeojgbniaaGreatDoor
