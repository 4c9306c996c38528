/- The contracts of release and Done. -/
import Derived.Test.YtbknbakbfblbiaaDoorO
namespace Go.Proofs.YtbknbakbfblbiaaDoor
open Go.RowKit Go.Deep Go.Maps

/-- What is missing while those that need the i-th are gone over: m of them are. -/
def missTo (ts : List (Int × List Int)) (S : Nat → Bool) (i m k : Nat) : Nat := if k ∈ (aftTo ts ts.length i).take m then missN ts (mark S i) k else missN ts S k
theorem missTo_zero (ts : List (Int × List Int)) (S : Nat → Bool) (i k : Nat) : missTo ts S i 0 k = missN ts S k := by simp [missTo]
theorem missTo_all {ts : List (Int × List Int)} (hg : Good ts) {S : Nat → Bool} {i k : Nat} (hS : S i = false) (hk : k < ts.length) : missTo ts S i (aftTo ts ts.length i).length k = missN ts (mark S i) k := by
  unfold missTo
  rw [List.take_length]
  split
  · rfl
  · rename_i h
    rw [mem_aftTo] at h
    have := missN_mark hg (i := i) hS hk
    rw [if_neg (fun e => h ⟨hk, e⟩)] at this
    omega
theorem nat_take_last {l : List Nat} {m : Nat} (h : m < l.length) : l.take (m + 1) = l.take m ++ [l.getD m 0] := by
  rw [List.take_succ_eq_append_getElem h, List.getD_eq_getElem?_getD, List.getElem?_eq_getElem h]; rfl
theorem getD_mem {l : List Nat} {m : Nat} (h : m < l.length) : l.getD m 0 ∈ l := by
  rw [List.getD_eq_getElem?_getD, List.getElem?_eq_getElem h]; exact List.getElem_mem h
theorem nodup_not_take {l : List Nat} (hd : l.Nodup) {m : Nat} (h : m < l.length) : ¬ l.getD m 0 ∈ l.take m := by
  rw [← List.take_append_drop (m + 1) l, nat_take_last h] at hd
  intro hm
  exact (List.nodup_append.1 (List.nodup_append.1 hd).1).2.2 _ hm _ (by simp) rfl
theorem missTo_at {ts : List (Int × List Int)} (hg : Good ts) {S : Nat → Bool} {i m : Nat} (hS : S i = false) (hm : m < (aftTo ts ts.length i).length) :
    missTo ts S i m ((aftTo ts ts.length i).getD m 0) = missN ts (mark S i) ((aftTo ts ts.length i).getD m 0) + 1 := by
  have hmem := mem_aftTo.1 (getD_mem hm)
  unfold missTo
  rw [if_neg (nodup_not_take (aftTo_nodup ts _ i) hm), missN_mark hg hS hmem.1, if_pos hmem.2]
theorem missTo_succ {ts : List (Int × List Int)} {S : Nat → Bool} {i m j : Nat} (hm : m < (aftTo ts ts.length i).length) :
    missTo ts S i (m + 1) j = if j = (aftTo ts ts.length i).getD m 0 then missN ts (mark S i) j else missTo ts S i m j := by
  unfold missTo
  rw [nat_take_last hm]
  by_cases e : j = (aftTo ts ts.length i).getD m 0
  · rw [if_pos e, if_pos (by rw [e]; simp)]
  · rw [if_neg e]
    by_cases h : j ∈ (aftTo ts ts.length i).take m
    · rw [if_pos h, if_pos (by simp [h])]
    · rw [if_neg h, if_neg (by simp only [List.mem_append, List.mem_singleton, not_or]; exact ⟨h, e⟩)]
theorem pairwise_len : ∀ (l : List Int) (a b : Int), a ≤ b → l.Pairwise (· < ·) → (∀ x, x ∈ l → a ≤ x ∧ x < b) → (l.length : Int) ≤ b - a := by
  intro l
  induction l with
  | nil => intro a b h _ _; simp; omega
  | cons x r ih =>
    intro a b _ hp hx
    have h1 := hx x (List.mem_cons_self ..)
    have hp := List.pairwise_cons.1 hp
    have := ih (x + 1) b (by omega) hp.2 (fun y hy => ⟨by have := hp.1 y hy; omega, (hx y (List.mem_cons_of_mem _ hy)).2⟩)
    simp only [List.length_cons]
    omega
theorem Good.len {ts : List (Int × List Int)} (hg : Good ts) {k : Nat} (hk : k < ts.length) : (needsOf ts k).length ≤ ts.length := by
  have := pairwise_len (needsOf ts k) 0 ts.length (by omega) (hg.up k hk) (fun x hx => hg.rng k hk x hx)
  omega

/-- While what is missing is counted down. -/
structure RelM (M m i : Nat) (ts : List (Int × List Int)) (S : Nat → Bool) (w wr : World) : Prop where
  row : wr.rowIs M 3 ts.length (fun k => natV (missTo ts S i m k))
  kx : Kx (fun k => k = M) w wr

/-- Each cell of a row is as it was, or has no list. -/
def SubA (A : Nat) (w w' : World) : Prop := ∀ k v, w'.cell? ⟨A, k, none⟩ = some v → v = .slice none 0 0 ∨ w.cell? ⟨A, k, none⟩ = some v
theorem SubA.set {A i : Nat} {w wr : World} {x : Value} (h : wr.heap[A]? = w.heap[A]?) (hx : wr.cell? ⟨A, i, none⟩ = some x) : SubA A w (wr.setCell ⟨A, i, none⟩ (.slice none 0 0)) := by
  intro k v hv
  by_cases e : k = i
  · subst e
    left
    rw [World.cell?_setCell_same _ _ _ hx] at hv
    exact (Option.some.inj hv).symm
  · right
    rw [World.cell?_setCell_other _ _ _ _ (by intro h; simp only [Addr.mk.injEq] at h; omega)] at hv
    exact (World.cell?_of_block (a := ⟨A, k, none⟩) h).symm.trans hv

theorem RelM.jnT {J M A D C i : Nat} {ts : List (Int × List Int)} {S : Nat → Bool} {w wr : World} (hg : Good ts) (hi : i < ts.length) (hS : S i = false)
    (h : Jn J M A D C ts.length (missN ts S) (fun k => if S k then [] else aftTo ts ts.length k) (mark S i) w) (hM : RelM M (aftTo ts ts.length i).length i ts S w wr) :
    JnT J M A D C ts (mark S i) (wr.setCell ⟨A, i, none⟩ (.slice none 0 0)) := by
  obtain ⟨av, ha⟩ := h.aft
  obtain ⟨n1, n2, n3, n4, n5, n6⟩ := h.ne
  obtain ⟨l1, l2, l3, l4⟩ := h.lt
  have keep : ∀ k, k < w.heap.size → k ≠ M → k ≠ A → (wr.setCell ⟨A, i, none⟩ (.slice none 0 0)).heap[k]? = w.heap[k]? := fun k hk h1 h2 =>
    (Below.heap_setCell _ _ _ _ (by show k ≠ A; exact h2)).trans (hM.kx.block k hk h1)
  have harow : wr.rowIs A 24 ts.length av := ha.row.of_block (hM.kx.block A h.ltA (by omega))
  refine ⟨h.row.of_block (keep J h.row.lt n1 n2), ?_, ⟨fun k => if k = i then .slice none 0 0 else av k, ?_, fun k hk => ?_⟩, h.done.of_block (keep D h.done.lt (by omega) (by omega)), h.lt, h.ne, h.le⟩
  · exact (hM.row.setOther (a := ⟨A, i, none⟩) (by show M ≠ A; exact n4) _).congr (fun k hk => by rw [missTo_all hg hS hk])
  · exact harow.set i _
  · by_cases e : k = i
    · subst e
      simp only [mark_self, if_true]
      exact RowI.nil _ _
    · simp only [mark_ne e, if_neg e]
      exact (ha.own k hk).of_blocks (fun b hb => by
        have := (ha.own k hk).low hb
        exact keep b this.2 (by omega) (by omega))

set_option maxRecDepth 100000 in
set_option maxHeartbeats 4000000 in
theorem release_any (J M A D C : Nat) (ts : List (Int × List Int)) (hg : Good ts) (S : Nat → Bool) (i : Nat) (w : World) (hi : i < ts.length) (hS : S i = false)
    (h : Jn J M A D C ts.length (missN ts S) (fun k => if S k then [] else aftTo ts ts.length k) (mark S i) w) :
    Calls Tryd.prog 37 #[.pointer (some ⟨J, 0, none⟩), .int .i64 i] w fun e w' => (∃ v, e = .returned v ∧ RowI w.heap.size w' v (intsOf (newL ts S i))) ∧ JnT J M A D C ts (mark S i) w' ∧ Kx (fun k => k = M ∨ k = A) w w' ∧ SubA A w w' := by
  have HJ : Hid (Jn J M A D C ts.length (missN ts S) (fun k => if S k then [] else aftTo ts ts.length k) (mark S i) w) := h
  have HG : Hid (Good ts) := hg
  have h30 := hg.le
  obtain ⟨av, ha⟩ := h.aft
  have hc1 := h.c1
  have hcA : w.cell? ⟨A, i, none⟩ = some (av i) := ha.row.cell hi
  have hrow := ha.own i hi
  simp only [hS, Bool.false_eq_true, if_false] at hrow
  obtain ⟨la, lc, hav⟩ := hrow.shape
  rw [intsOf_length] at hav
  rw [hav] at hcA hrow
  have HL : Hid (RowI C w (.slice la (aftTo ts ts.length i).length lc) (intsOf (aftTo ts ts.length i))) := hrow
  have hLl := aftTo_len ts ts.length i
  obtain ⟨n1, n2, n3, n4, n5, n6⟩ := h.ne
  obtain ⟨l1, l2, l3, l4⟩ := h.lt
  have HM0 : Hid (RelM M 0 i ts S w w) := ⟨h.miss.congr (fun k _ => by rw [missTo_zero]), Kx.refl _ _⟩
  have HSI : Hid (S i = false) := hS
  clear h ha hrow hav hg hS n3 n5 n6 l4
  go_enter Tryd.func37, Tryd.ntmps37
  go_wp2
  go_loopw [5, 16] (fun s5 s16 wr => ∃ m : Nat, m ≤ (aftTo ts ts.length i).length ∧ s16 = .int .i64 m ∧ Hid (RowI w.heap.size wr s5 (intsOf (((aftTo ts ts.length i).take m).filter (fun k => decide (missN ts (mark S i) k = 0))))) ∧ Hid (RelM M m i ts S w wr)) (fun _ s16 _ => (aftTo ts ts.length i).length - (intOf s16).toNat)
  case atStart => exact ⟨0, Nat.zero_le _, rfl, RowI.nil _ _, HM0⟩
  case round =>
    clear HM0
    obtain ⟨m, hm, rfl, hR, hM⟩ := hrel
    obtain ⟨ra, rc, rfl⟩ := hR.out.shape
    have hc0 : wr.cell? ⟨J, 0, none⟩ = some (.slice (some ⟨M, 0, none⟩) ts.length ts.length) := (World.cell?_of_block (a := ⟨J, 0, none⟩) (hM.out.kx.block J HJ.out.row.lt n1)).trans HJ.out.c0
    have hc1' : wr.cell? ⟨J, 1, none⟩ = some (.slice (some ⟨A, 0, none⟩) ts.length ts.length) := (World.cell?_of_block (a := ⟨J, 1, none⟩) (hM.out.kx.block J HJ.out.row.lt n1)).trans hc1
    by_cases hml : m < (aftTo ts ts.length i).length
    · obtain ⟨g, c', hv, hCg, hgl, _⟩ := HL.out.full (by rw [intsOf_length]; omega)
      simp only [Value.slice.injEq] at hv
      obtain ⟨rfl, hdum, rfl⟩ := hv
      clear hdum
      have hgM : ¬ g = M := by omega
      have hcell := (World.cell?_of_block (a := ⟨g, m, none⟩) (hM.out.kx.block g hgl hgM)).trans (HL.out.cell (k := m) (by rw [intsOf_length]; exact hml))
      rw [intsOf_getD] at hcell
      have hmem := mem_aftTo.1 (getD_mem hml)
      have hat := missTo_at HG.out HSI.out hml
      have hsucc : Hid (∀ j, missTo ts S i (m + 1) j = if j = (aftTo ts ts.length i).getD m 0 then missN ts (mark S i) j else missTo ts S i m j) := fun j => missTo_succ hml
      have htake : Hid ((aftTo ts ts.length i).take (m + 1) = (aftTo ts ts.length i).take m ++ [(aftTo ts ts.length i).getD m 0]) := nat_take_last hml
      have hlen : (intsOf (((aftTo ts ts.length i).take m).filter (fun k => decide (missN ts (mark S i) k = 0)))).length ≤ 30 := by
        rw [intsOf_length]
        have := List.length_filter_le (fun k => decide (missN ts (mark S i) k = 0)) ((aftTo ts ts.length i).take m)
        simp only [List.length_take] at this
        omega
      generalize (aftTo ts ts.length i).getD m 0 = y at *
      have hyl := hmem.1
      have hmy := hM.out.row.cell hyl
      have hfy := hM.out.row.frozen y
      simp only [hat, natV] at hmy
      have hb30 : missN ts (mark S i) y ≤ 30 := by have := missN_le ts (mark S i) y; have := HG.out.len hyl; omega
      have hsub : ((missN ts (mark S i) y + 1 : Nat) : Int) - 1 = (missN ts (mark S i) y : Int) := by omega
      have hM2 : Hid (RelM M (m + 1) i ts S w (wr.setCell ⟨M, y, none⟩ (.int .i64 (missN ts (mark S i) y)))) :=
        ⟨(hM.out.row.set y _).congr (fun k _ => by rw [hsucc.out k]; by_cases e : k = y; { subst e; simp [natV] }; { simp [e] }), hM.out.kx.set (Or.inl rfl) _ _⟩
      have hR1 : Hid (RowI w.heap.size (wr.setCell ⟨M, y, none⟩ (.int .i64 (missN ts (mark S i) y))) (.slice ra (intsOf (((aftTo ts ts.length i).take m).filter (fun k => decide (missN ts (mark S i) k = 0)))).length rc) (intsOf (((aftTo ts ts.length i).take m).filter (fun k => decide (missN ts (mark S i) k = 0))))) :=
        hR.out.of_blocks (fun b hb => Below.heap_setCell _ _ _ _ (by show b ≠ M; have := (hR.out.low hb).1; have := HJ.out.miss.lt; omega))
      clear hR hM hmem hat hsucc hc1
      by_cases hz : missN ts (mark S i) y = 0
      · have HT : Hid (intsOf (((aftTo ts ts.length i).take (m + 1)).filter (fun k => decide (missN ts (mark S i) k = 0))) = intsOf (((aftTo ts ts.length i).take m).filter (fun k => decide (missN ts (mark S i) k = 0))) ++ [(y : Int)]) := by
          show _ = _
          rw [htake.out, List.filter_append]; simp [hz, intsOf]
        have HZ : Hid (missN ts (mark S i) y = 0) := hz
        rw [hz] at hmy hM2 hR1 hsub
        clear htake hz hb30 hsub
        generalize intsOf (((aftTo ts ts.length i).take m).filter (fun k => decide (missN ts (mark S i) k = 0))) = l at *
        have HO : Hid (Rds (fun _ => True) ((wr.setCell ⟨M, y, none⟩ (.int .i64 0)).alloc (.cells #[.int .i64 y] 3)) (.slice (some ⟨wr.heap.size, 0, none⟩) 1 1) [(y : Int)]) := by
          show Rds _ _ _ _
          have := one_rds (wr.setCell ⟨M, y, none⟩ (.int .i64 0)) y
          simpa using this
        have hoa := hR1.out.alloc (.cells #[.int .i64 y] 3)
        have hsz := hM2.out.kx.size
        simp only [Int.natCast_zero] at hM2 hR1 hoa
        go_wp2_with (first | (at_builtin; refine wpList_append_rows rfl (.tmp 37) (.tmp 39) rfl w.heap.size (fun _ => True) (.slice ra l.length rc) (.slice (some ⟨wr.heap.size, 0, none⟩) 1 1) l [(y : Int)] rfl rfl hoa HO.out (by simp; omega) (by simp at hsz ⊢; omega) ?_; intro v2 w2 hown2 hgr2 hat2))
        have hlow : ∀ b, (Value.slice ra l.length rc).ownBlock = some b → w.heap.size ≤ b := fun b hb => (hR1.out.low hb).1
        have hM3 : Hid (RelM M (m + 1) i ts S w w2) := by
          have hMl := HJ.out.miss.lt
          refine ⟨(hM2.out.row.alloc _).of_block (hgr2.block M (by simp at hsz ⊢; omega) (fun e => by have := hlow M e.symm; omega)), ?_⟩
          exact (hM2.out.kx.later ((Below.refl _ _).alloc (Nat.le_refl _) _)).trans (Y := fun k => (Value.slice ra l.length rc).ownBlock = some k) ⟨hgr2.os, hgr2.tape, hgr2.output, hgr2.size, fun k hk hne => hgr2.block k hk (fun e => hne e.symm)⟩ (fun b hb => Or.inr (hlow b hb))
        have HN : Hid (RowI w.heap.size w2 v2 (intsOf (((aftTo ts ts.length i).take (m + 1)).filter (fun k => decide (missN ts (mark S i) k = 0))))) := by rw [HT.out]; exact hown2
        clear hown2 hgr2 hat2 hoa HO hM2 hR1
        go_wp2
        go_roundw
        case rel => exact ⟨m + 1, by omega, by go_num, HN, hM3⟩
        case measure => simp [intOf]; omega
      · have HT : Hid (intsOf (((aftTo ts ts.length i).take (m + 1)).filter (fun k => decide (missN ts (mark S i) k = 0))) = intsOf (((aftTo ts ts.length i).take m).filter (fun k => decide (missN ts (mark S i) k = 0)))) := by
          show _ = _
          rw [htake.out, List.filter_append]; simp [hz]
        have hz2 : (((missN ts (mark S i) y : Nat) : Int) == 0) = false := by simp; omega
        clear htake hz
        generalize missN ts (mark S i) y = my at *
        generalize intsOf (((aftTo ts ts.length i).take m).filter (fun k => decide (missN ts (mark S i) k = 0))) = l at *
        go_wp2
        go_roundw
        case rel => exact ⟨m + 1, by omega, by go_num, by rw [HT.out]; exact hR1, hM2⟩
        case measure => simp [intOf]; omega
    · have hke : m = (aftTo ts ts.length i).length := by omega
      have hml' : ¬ (m : Int) < ((aftTo ts ts.length i).length : Int) := by omega
      have HE : Hid (RowI w.heap.size wr (.slice ra (intsOf (((aftTo ts ts.length i).take m).filter (fun k => decide (missN ts (mark S i) k = 0)))).length rc) (intsOf (newL ts S i))) := by
        have := hR.out
        rw [hke, List.take_length] at this ⊢
        exact this
      have HJ2 : Hid (JnT J M A D C ts (mark S i) (wr.setCell ⟨A, i, none⟩ (.slice none 0 0))) := RelM.jnT HG.out hi HSI.out HJ.out (by rw [← hke]; exact hM.out)
      have hfA : wr.frozen? ⟨A, i, none⟩ = false := (World.frozen?_of_block (a := ⟨A, i, none⟩) (hM.out.kx.block A HJ.out.ltA (by show A ≠ M; omega))).trans (by obtain ⟨av2, ha2⟩ := HJ.out.aft; exact ha2.row.frozen i)
      have hcA2 : wr.cell? ⟨A, i, none⟩ = some (.slice la (aftTo ts ts.length i).length lc) := (World.cell?_of_block (a := ⟨A, i, none⟩) (hM.out.kx.block A HJ.out.ltA (by show A ≠ M; omega))).trans hcA
      have HK : Hid (Kx (fun k => k = M ∨ k = A) w (wr.setCell ⟨A, i, none⟩ (.slice none 0 0))) := by
        show Kx (fun k => k = M ∨ k = A) w _
        exact Kx.set (X := fun k => k = M ∨ k = A) (M := A) ⟨hM.out.kx.os, hM.out.kx.tape, hM.out.kx.output, hM.out.kx.size, fun k hk hX => hM.out.kx.block k hk (fun e => hX (Or.inl e))⟩ (Or.inl (Or.inr rfl)) _ _
      have HE2 : Hid (RowI w.heap.size (wr.setCell ⟨A, i, none⟩ (.slice none 0 0)) (.slice ra (intsOf (((aftTo ts ts.length i).take m).filter (fun k => decide (missN ts (mark S i) k = 0)))).length rc) (intsOf (newL ts S i))) :=
        HE.out.of_blocks (fun b hb => Below.heap_setCell _ _ _ _ (by show b ≠ A; have := (HE.out.low hb).1; have := HJ.out.ltA; omega))
      have HSA : Hid (SubA A w (wr.setCell ⟨A, i, none⟩ (.slice none 0 0))) := SubA.set (hM.out.kx.block A HJ.out.ltA (by show A ≠ M; omega)) hcA2
      clear hR hke hM HE hc0 hcA hc1 HL
      generalize intsOf (((aftTo ts ts.length i).take m).filter (fun k => decide (missN ts (mark S i) k = 0))) = l at *
      go_wp2
      go_ret
      exact ⟨⟨_, rfl, HE2.out⟩, HJ2.out, HK.out, HSA.out⟩

theorem done_range (J M A D C : Nat) (ts : List (Int × List Int)) (S : Nat → Bool) (i : Int) (w : World) (h : JnT J M A D C ts S w) (hi : i < 0 ∨ (ts.length : Int) ≤ i) :
    Calls Tryd.prog 24 #[.pointer (some ⟨J, 0, none⟩), .int .i64 i] w fun e w' => e = .returned (.tuple #[.slice none 0 0, errV 1]) ∧ w' = w := by
  have hs := state_bad J M A D C ts S i w h hi
  unfold errV at hs
  clear h hi
  go_enter Tryd.func24, Tryd.ntmps24
  go_wp2_with (go_at_call 36; refine hs.mono ?_; clear hs; rintro e w' ⟨rfl, rfl⟩)
  go_ret2
  exact ⟨rfl, rfl⟩
theorem done_state (J M A D C : Nat) (ts : List (Int × List Int)) (S : Nat → Bool) (i : Nat) (w : World) (h : JnT J M A D C ts S w) (hi : i < ts.length) (hr : readyB ts S i = false) :
    Calls Tryd.prog 24 #[.pointer (some ⟨J, 0, none⟩), .int .i64 i] w fun e w' => e = .returned (.tuple #[.slice none 0 0, errV 6]) ∧ Below w.heap.size w w' := by
  have hs := state_good J M A D C ts S i w h hi
  have hne : (((stN ts S i : Nat) : Int) != 1) = true := by have := stN_not hr; simp; omega
  generalize stN ts S i = st at *
  clear h hr
  go_enter Tryd.func24, Tryd.ntmps24
  go_wp2_with (go_at_call 36; refine hs.mono ?_; clear hs; rintro e w' ⟨rfl, hb⟩)
  go_ret2
  exact ⟨rfl, hb⟩

/-- One more is done. -/
theorem Jn.put {J M A D C : Nat} {ts : List (Int × List Int)} {S : Nat → Bool} {i m : Nat} {w w1 : World} {D' : DataW Unit} (h : JnT J M A D C ts S w) (hi : i < ts.length) (hS : S i = false)
    (hown : w.ownsMap Tryd.prog 3 (unitElem (H := Unit)) D m D') (hs : Maps.size D' = m) (hm : m + unseen S ts.length = ts.length) (hD : ∀ x : Nat, x < ts.length → Maps.has D' (.int .i64 x) = S x)
    (hown1 : w1.ownsMap Tryd.prog 3 (unitElem (H := Unit)) D (m + 1) (D'.put (.int .i64 i) (.agg []))) (hg : w.grownBy w1 (some D)) :
    Jn J M A D C ts.length (missN ts S) (fun k => if S k then [] else aftTo ts ts.length k) (mark S i) w1 := by
  obtain ⟨av, ha⟩ := Jn.aft h
  obtain ⟨n1, n2, n3, n4, n5, n6⟩ := Jn.ne h
  obtain ⟨l1, l2, l3, l4⟩ := Jn.lt h
  have keep : ∀ k, k < w.heap.size → k ≠ D → w1.heap[k]? = w.heap[k]? := fun k hk hne => hg.block k hk (fun e => hne (Option.some.inj e))
  have hu := unseen_mark S ts.length i hi hS
  refine ⟨(Jn.row h).of_block (keep J (Jn.row h).lt n3), (Jn.miss h).of_block (keep M (Jn.miss h).lt n5), ⟨av, ha.of_blocks (keep A ha.row.lt n6) (fun k hk hl => keep k hl (by omega))⟩, ⟨m + 1, _, hown1, ?_, by omega, fun x hx => ?_⟩, Jn.lt h, Jn.ne h, Jn.le h⟩
  · rw [Maps.size_put (hown.tidy keyed3), hD i hi, hS, hs]; rfl
  · by_cases e : x = i
    · subst e
      rw [Maps.has_put_same hown.isMap (by trivial)]; simp [mark]
    · rw [Maps.has_put_other (by intro h; injection h with _ h; omega), hD x hx]; simp [mark, e]

set_option maxRecDepth 100000 in
set_option maxHeartbeats 2000000 in
theorem done_good (J M A D C : Nat) (ts : List (Int × List Int)) (hg : Good ts) (S : Nat → Bool) (i : Nat) (w : World) (h : JnT J M A D C ts S w) (hi : i < ts.length) (hr : readyB ts S i = true) :
    Calls Tryd.prog 24 #[.pointer (some ⟨J, 0, none⟩), .int .i64 i] w fun e w' => (∃ v, e = .returned (.tuple #[v, .nilIface]) ∧ RowI w.heap.size w' v (intsOf (newL ts S i))) ∧ JnT J M A D C ts (mark S i) w' ∧ Kx (fun k => k = M ∨ k = A ∨ k = D) w w' ∧ SubA A w w' := by
  have hs := state_good J M A D C ts S i w h hi
  rw [stN_ready hr] at hs
  have HJ : Hid (JnT J M A D C ts S w) := h
  have HS : Hid (S i = false) := (ready_parts hr).1
  have h30 := hg.le
  have hkey := key_nat (y := i) (by omega)
  clear h hr
  go_enter Tryd.func24, Tryd.ntmps24
  go_wp2_with fail
  refine hs.mono ?_
  clear hs
  rintro e w1 ⟨rfl, hb1⟩
  have hJ1 := Jn.later HJ.out hb1
  have HJ1 : Hid (JnT J M A D C ts S w1) := hJ1
  have hc2 := hJ1.c2
  obtain ⟨m, D', hown, hsz, hm, hD⟩ := hJ1.done
  have HD : Hid (Maps.size D' = m ∧ m + unseen S ts.length = ts.length ∧ ∀ x : Nat, x < ts.length → Maps.has D' (.int .i64 x) = S x) := ⟨hsz, hm, hD⟩
  have hml : m < maxLen := by unfold maxLen; omega
  clear hJ1 hsz hm hD
  go_wp2_with (at_mapUpdate; refine wpList_mapUpdate_own _ rfl _ _ _ 67 rfl 3 72 keyed3 Tryd.underlying67 (unitElem (H := Unit)) D m D' rfl hown hml _ _ _ rfl rfl hkey (.agg []) [] unitElem_mk ?_; intro w2 hown2 hgrow2)
  have hJ2 := Jn.put HJ1.out hi HS.out hown HD.out.1 HD.out.2.1 HD.out.2.2 hown2 hgrow2
  have hrel := release_any J M A D C ts hg S i w2 hi HS.out hJ2
  have hs2 := hgrow2.size
  have hs1 := hb1.size
  have hk2 : Kx (fun k => k = M ∨ k = A ∨ k = D) w w2 := (Below.kx hb1).trans (Y := fun k => k = D) ⟨hgrow2.os, hgrow2.tape, hgrow2.output, hgrow2.size, fun k hk hX => hgrow2.block k hk (fun e => hX (Option.some.inj e))⟩ (fun j e => Or.inl (Or.inr (Or.inr e)))
  have HK2 : Hid (Kx (fun k => k = M ∨ k = A ∨ k = D) w w2) := hk2
  have HA2 : Hid (w2.heap[A]? = w.heap[A]?) := (hgrow2.block A HJ1.out.ltA (fun e => HJ1.out.ne.2.2.2.2.2 (Option.some.inj e))).trans (hb1.block A (Jn.ltA HJ.out))
  clear hJ2 hown hown2 hgrow2 hc2 hk2 hkey hb1
  go_wp2_with fail
  refine hrel.mono ?_
  clear hrel
  rintro e w3 ⟨⟨v, rfl, hv⟩, hJ3, hk3, hsa⟩
  have HSA : Hid (SubA A w w3) := fun k v hv => (hsa k v hv).imp id (fun h => (World.cell?_of_block (a := ⟨A, k, none⟩) HA2.out).symm.trans h)
  clear hsa
  obtain ⟨va, vc, rfl⟩ := hv.shape
  have HV : Hid (RowI w.heap.size w3 (.slice va (intsOf (newL ts S i)).length vc) (intsOf (newL ts S i))) := hv.mono (by omega)
  have HK3 : Hid (Kx (fun k => k = M ∨ k = A ∨ k = D) w w3) := HK2.out.trans hk3 (fun j e => Or.inl (by rcases e with e | e; { exact Or.inl e }; { exact Or.inr (Or.inl e) }))
  clear hv hk3
  generalize (intsOf (newL ts S i)).length = n at *
  go_wp2
  go_ret2
  exact ⟨⟨.slice va n vc, rfl, HV.out⟩, hJ3, HK3.out, HSA.out⟩
end Go.Proofs.YtbknbakbfblbiaaDoor
