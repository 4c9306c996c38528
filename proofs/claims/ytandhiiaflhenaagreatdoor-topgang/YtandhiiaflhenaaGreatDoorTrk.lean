/- trace.Parse. -/
import Derived.Test.YtandhiiaflhenaaGreatDoorTri
namespace Go.Proofs.YtandhiiaflhenaaGreatDoor
open Go.RowKit Go.Deep Go.Shelf

attribute [local go_sem] Oper.semAt_some

theorem splitC_free (c : UInt8) : ∀ (l : List UInt8) (x : List UInt8), x ∈ splitC c l → c ∉ x := by
  intro l
  induction l with
  | nil => intro x hx; simp [splitC] at hx; rw [hx]; simp
  | cons b r ih =>
    intro x hx
    rw [splitC_cons] at hx
    by_cases hb : b = c
    · rw [if_pos hb] at hx
      rcases List.mem_cons.1 hx with rfl | hx
      · simp
      · exact ih x hx
    · rw [if_neg hb] at hx
      cases hs : splitC c r with
      | nil => exact absurd hs (splitC_ne c r)
      | cons y ys =>
        rw [hs] at hx
        rcases List.mem_cons.1 hx with rfl | hx
        · intro hm
          rcases List.mem_cons.1 hm with e | hm
          · exact hb e.symm
          · exact ih y (by rw [hs]; simp) hm
        · exact ih x (by rw [hs]; simp [hx])
theorem allOf_no {α β : Type} {f : α → Option β} : ∀ {l : List α} {x : α}, x ∈ l → f x = none → allOf f l = none := by
  intro l
  induction l with
  | nil => intro x hx; simp at hx
  | cons a r ih =>
    intro x hx h
    unfold allOf
    rcases List.mem_cons.1 hx with rfl | hx
    · rw [h]
    · rw [ih hx h]
      cases f a <;> rfl
theorem allOf_ends {g : List UInt8 → Option Deed} {f : List UInt8 → Option Deed} : ∀ (l : List (List UInt8)), (∀ x, x ∈ l → g (x ++ [10]) = f x) → allOf g (l.map (fun x => x ++ [10])) = allOf f l := by
  intro l
  induction l with
  | nil => intro _; rfl
  | cons a r ih =>
    intro h
    rw [List.map_cons]
    unfold allOf
    rw [h a (by simp), ih (fun x hx => h x (List.mem_cons_of_mem _ hx))]
theorem lineD_end (x : List UInt8) : lineD (x ++ [10]) = deedOf x := by unfold lineD; simp
theorem lines_deeds (t : List UInt8) : allOf lineD (linesN t) = deedsOf t := by
  unfold linesN deedsOf
  by_cases h : (splitC 10 t).getLast? = some []
  · rw [if_pos h, if_pos h, List.append_nil]
    exact allOf_ends _ (fun x _ => lineD_end x)
  · rw [if_neg h, if_neg h]
    refine allOf_no (x := (splitC 10 t).getLastD []) (List.mem_append.2 (Or.inr (List.mem_singleton.2 rfl))) ?_
    unfold lineD
    rw [if_neg]
    intro e
    have hm : (splitC 10 t).getLastD [] ∈ splitC 10 t := by
      rw [List.getLastD_eq_getLast?]
      cases hg : (splitC 10 t).getLast? with
      | none => rw [List.getLast?_eq_none_iff] at hg; exact absurd hg (splitC_ne _ _)
      | some y => exact List.mem_of_getLast? hg
    exact splitC_free 10 t _ hm (List.mem_of_getLast? e)
def pErr (t : List UInt8) : Int := match deedsOf t with | none => 2 | some ds => deedsErr ds
def pDeeds (t : List UInt8) : List Deed := if pErr t = 0 then (deedsOf t).getD [] else []
theorem deedsErr_take (ds : List Deed) : deedsErr (ds.take 1001) = deedsErr ds := by
  by_cases h : 1000 < ds.length
  · unfold deedsErr; rw [if_pos h, if_pos (by simp; omega)]
  · rw [List.take_of_length_le (by omega)]
theorem take_more (ds : List Deed) (d : Deed) : (ds ++ [d]).take 1001 = if (ds.take 1001).length ≤ 1000 then ds.take 1001 ++ [d] else ds.take 1001 := by
  by_cases h : ds.length ≤ 1000
  · rw [if_pos (by simp; omega), List.take_of_length_le (by simp; omega), List.take_of_length_le (by omega)]
  · rw [if_neg (by simp; omega), List.take_append_of_le_length (by omega)]
/-- What Parse keeps while it reads: its results, its deeds. -/
def PI (w : World) (pre : List { x : List UInt8 // x.length ≤ 9223372036854775000 }) (W : World) : Prop :=
  ∃ v ds, allOf lineD (pre.map Subtype.val) = some ds ∧ W.heap[w.heap.size]? = some (.cells #[.slice none 0 0] 38 (0, 0)) ∧ W.heap[w.heap.size + 1]? = some (.cells #[.nilIface] 29 (0, 0)) ∧ W.heap[w.heap.size + 2]? = some (.cells #[v] 38 (0, 0)) ∧ RowD (w.heap.size + 4) W v (ds.take 1001) ∧ Below w.heap.size w W ∧ w.heap.size + 4 ≤ W.heap.size
/-- It has left. -/
def PX (w : World) (pre : List { x : List UInt8 // x.length ≤ 9223372036854775000 }) (W : World) : Prop :=
  (∃ x, x ∈ pre.map Subtype.val ∧ lineD x = none) ∧ W.heap[w.heap.size]? = some (.cells #[.slice none 0 0] 38 (0, 0)) ∧ W.heap[w.heap.size + 1]? = some (.cells #[.iface 80 (.int .i64 2)] 29 (0, 0)) ∧ Below w.heap.size w W
theorem cells_keep {A B : World} {row : Option Nat} {n k : Nat} {cs : Array Value} {t : TypeId} {f : Nat × Nat} (hg : A.grownBy B row) (hr : ∀ r, row = some r → n ≤ r ∧ ∃ o : Obj, A.heap[r]? = some o ∧ o.isCells = false) (h : A.heap[k]? = some (.cells cs t f)) : B.heap[k]? = some (.cells cs t f) :=
  (hg.block k (Array.getElem?_eq_some_iff.1 h).1 (fun e => by
    obtain ⟨_, o, ho, hc⟩ := hr k e.symm
    rw [h] at ho
    cases ho
    cases hc)).trans h
theorem rowD_keep {b : Nat} {A B : World} {v : Value} {l : List Deed} (h : RowD b A v l) (hk : ∀ k cs t f, b ≤ k → A.heap[k]? = some (.cells cs t f) → B.heap[k]? = some (.cells cs t f)) : RowD b B v l := by
  rcases h.2 with ⟨rfl, hn⟩ | ⟨g, cap, cur, rfl, hb, hh, hr⟩
  · exact ⟨h.1, Or.inl ⟨rfl, hn⟩⟩
  · exact ⟨h.1, Or.inr ⟨g, cap, cur, rfl, hb, hk g _ _ _ hb hh, hr⟩⟩
theorem PI.own (w : World) (n : Nat) (hn : w.heap.size ≤ n) : OwnFrom n (PI w) := fun s A B row hs hg hr => by
  obtain ⟨v, ds, h1, h2, h3, h4, h5, h6, h7⟩ := hs
  exact ⟨v, ds, h1, cells_keep hg hr h2, cells_keep hg hr h3, cells_keep hg hr h4, rowD_keep h5 (fun k cs t f _ h => cells_keep hg hr h), h6.grown hg (by have := (Array.getElem?_eq_some_iff.1 h2).1; omega) (fun k e => by have := (hr k e).1; omega), Nat.le_trans h7 hg.size⟩
theorem PX.own (w : World) (n : Nat) (hn : w.heap.size ≤ n) : OwnFrom n (PX w) := fun s A B row hs hg hr => by
  obtain ⟨h1, h2, h3, h6⟩ := hs
  exact ⟨h1, cells_keep hg hr h2, cells_keep hg hr h3, h6.grown hg (by have := (Array.getElem?_eq_some_iff.1 h2).1; omega) (fun k e => by have := (hr k e).1; omega)⟩
theorem PI.box (w : World) : ∀ s A B, PI w s A → A.grownBy B (some (w.heap.size + 3)) → PI w s B := fun s A B hs hg => by
  obtain ⟨v, ds, h1, h2, h3, h4, h5, h6, h7⟩ := hs
  exact ⟨v, ds, h1, grown_other hg h2 (by omega), grown_other hg h3 (by omega), grown_other hg h4 (by omega), rowD_keep h5 (fun k cs t f hk h => grown_other hg h (by omega)), h6.grown hg (by have := (Array.getElem?_eq_some_iff.1 h2).1; omega) (fun k e => by cases e; omega), Nat.le_trans h7 hg.size⟩
set_option maxRecDepth 100000 in
set_option maxHeartbeats 8000000 in
theorem parse_in (t : List UInt8) (ht : t.length ≤ 9223372036854775000) (w : World) (hf : FormsAt w) (hs : Synt w) :
    CallsIn Fence.wide 5 Tryz.prog 13 #[strL t] w fun e w' => (∃ v, e = .returned (.tuple #[v, errV (pErr t)]) ∧ RowD w.heap.size w' v (pDeeds t)) ∧ Below w.heap.size w w' := by
  have HF : Hid (FormsAt w ∧ Synt w) := ⟨hf, hs⟩
  clear hf hs
  refine callsIn_of_wp_marks Tryz.func13 rfl trivial ?_ rfl
  simp only [Tryz.ntmps13, List.size_toArray, List.length_cons, List.length_nil, Nat.reduceAdd, Nat.reduceSub, Array.replicate_succ, Array.replicate_zero, List.push_toArray, List.append_toArray, List.nil_append, List.cons_append]
  gi_wp2_with fail
  refine ⟨trivial, (lines_in Fence.wide 4 trivial rfl t _).mono ?_⟩
  rintro e w' ⟨rfl, rfl⟩
  gi_wp2
  obtain ⟨W0, hW0⟩ : ∃ W0, W0 = (((w.alloc (.cells #[.slice none 0 0] 38)).alloc (.cells #[.nilIface] 29)).alloc (.cells #[.slice none 0 0] 38)).alloc (.cells #[strL t] 9) := ⟨_, rfl⟩
  have hsz : W0.heap.size = w.heap.size + 4 := by rw [hW0]; simp
  have hB0 : Below w.heap.size w W0 := by rw [hW0]; exact ((((Below.refl _ _).alloc (Nat.le_refl _) _).alloc (by simp) _).alloc (by simp only [nblk_alloc]; omega) _).alloc (by simp only [nblk_alloc]; omega) _
  have c0 : W0.heap[w.heap.size]? = some (.cells #[.slice none 0 0] 38 (0, 0)) := by
    rw [hW0, Below.heap_alloc _ _ _ (by simp only [nblk_alloc]; omega), Below.heap_alloc _ _ _ (by simp only [nblk_alloc]; omega), Below.heap_alloc _ _ _ (by simp)]; exact blk_alloc_new _ _
  have c1 : W0.heap[w.heap.size + 1]? = some (.cells #[.nilIface] 29 (0, 0)) := by
    have h := blk_alloc_new (w.alloc (.cells #[.slice none 0 0] 38)) (.cells #[.nilIface] 29)
    rw [nblk_alloc] at h
    rw [hW0, Below.heap_alloc _ _ _ (by simp only [nblk_alloc]; omega), Below.heap_alloc _ _ _ (by simp)]; exact h
  have c2 : W0.heap[w.heap.size + 2]? = some (.cells #[.slice none 0 0] 38 (0, 0)) := by
    have h := blk_alloc_new ((w.alloc (.cells #[.slice none 0 0] 38)).alloc (.cells #[.nilIface] 29)) (.cells #[.slice none 0 0] 38)
    rw [nblk_alloc, nblk_alloc] at h
    rw [hW0, Below.heap_alloc _ _ _ (by simp)]; exact h
  have c3 : W0.heap[w.heap.size + 3]? = some (.cells #[strL t] 9 (0, 0)) := by
    have h := blk_alloc_new (((w.alloc (.cells #[.slice none 0 0] 38)).alloc (.cells #[.nilIface] 29)).alloc (.cells #[.slice none 0 0] 38)) (.cells #[strL t] 9)
    rw [nblk_alloc, nblk_alloc, nblk_alloc] at h
    rw [hW0]; exact h
  have HI0 : Hid (PI w [] W0) := ⟨.slice none 0 0, [], rfl, c0, c1, c2, RowD.nil _ _, hB0, by omega⟩
  rw [← hW0]
  clear hW0 c0 c1 c2 hB0
  refine range_box rfl (by decide) (gf := 62) (lb := #[.pointer (some ⟨w.heap.size + 3, 0, none⟩)]) rfl trivial (enters_of Tryz.func62 (by kernel_rfl) rfl)
    (lines_box 4 (by decide) (w.heap.size + 3) t ht W0 (by omega) c3) (by omega) (Below.refl _ _) (fun _ => rfl) (PI w) (PX w) (PI.own w _ (by omega)) (PX.own w _ (by omega)) (PI.box w) HI0.out
    (fun x => { tmps := #[strL t, undef, .pointer (some ⟨w.heap.size, 0, none⟩), .pointer (some ⟨w.heap.size + 1, 0, none⟩), .pointer (some ⟨w.heap.size + 1 + 1, 0, none⟩), strL x.1, undef, undef, undef, strL t, .func (.func 62) #[] #[.pointer (some ⟨w.heap.size + 3, 0, none⟩)], strL x.1, undef, undef, undef, undef, undef, undef, undef, undef, undef, undef, undef, undef, undef, undef, undef, undef, undef, undef, undef, undef, undef], defers := [] }) ?assign ?body ?done ?stop
  case assign =>
    intro l x W K hK
    gi_wp2
    exact hK
  case body =>
    rintro l pre x W ⟨v, ds, hal, r0, r1, r2, hrow, hB, hB4⟩ -
    have hrl := readLine_any x.1 (by have := x.2; omega) W (HF.out.1.later hB) (HF.out.2.later hB)
    obtain ⟨va, vc, rfl⟩ := hrow.shape
    have HB : Hid (Below w.heap.size w W) := hB
    have HROW : Hid (RowD (w.heap.size + 4) W (.slice va (ds.take 1001).length vc) (ds.take 1001)) := hrow
    have HAL : Hid (allOf lineD (pre.map Subtype.val) = some ds) := hal
    have HR : Hid (W.heap[w.heap.size]? = some (.cells #[.slice none 0 0] 38 (0, 0)) ∧ W.heap[w.heap.size + 1]? = some (.cells #[.nilIface] 29 (0, 0)) ∧ W.heap[w.heap.size + 2]? = some (.cells #[.slice va (ds.take 1001).length vc] 38 (0, 0))) := ⟨r0, r1, r2⟩
    clear hal r0 r1 r2 hrow hB
    gi_wp2_with fail
    refine ⟨trivial, (CallsIn.inRound l (callsIn_wide.2 hrl)).mono ?_⟩
    clear hrl
    rintro e W2 hLO
    obtain ⟨⟨a, b, c, d, rfl, hx⟩, hb2⟩ := hLO
    obtain ⟨W3, hW3⟩ : ∃ W3, W3 = W2.alloc (.cells #[.int .i64 a, .int .i64 b, .int .i64 c, .int .i64 d] 43) := ⟨_, rfl⟩
    have hb3 : Below W.heap.size W W3 := by rw [hW3]; exact hb2.alloc hb2.size _
    have s0 := (hb3.block _ (Array.getElem?_eq_some_iff.1 HR.out.1).1).trans HR.out.1
    have s1 := (hb3.block _ (Array.getElem?_eq_some_iff.1 HR.out.2.1).1).trans HR.out.2.1
    have s2 := (hb3.block _ (Array.getElem?_eq_some_iff.1 HR.out.2.2).1).trans HR.out.2.2
    have HB3 : Hid (Below W.heap.size W W3 ∧ W2.heap.size < W3.heap.size) := ⟨hb3, by rw [hW3]; simp⟩
    have hs3 : W2.heap.size + 1 = W3.heap.size := by rw [hW3]; simp
    have HS : Hid (W3.heap[w.heap.size]? = some (.cells #[.slice none 0 0] 38 (0, 0)) ∧ W3.heap[w.heap.size + 1]? = some (.cells #[.nilIface] 29 (0, 0)) ∧ W3.heap[w.heap.size + 2]? = some (.cells #[.slice va (ds.take 1001).length vc] 38 (0, 0))) := ⟨s0, s1, s2⟩
    have HKF : Hid (KeepsFrom W0.heap.size W W3) := ⟨hb3.size, fun k o _ hk _ => (hb3.block k (Array.getElem?_eq_some_iff.1 hk).1).trans hk⟩
    have q2 : W3.cell? ⟨w.heap.size + 1 + 1, 0, none⟩ = some (.slice va (ds.take 1001).length vc) := by
      show W3.cell? ⟨w.heap.size + 2, 0, none⟩ = _
      simp [World.cell?, s2]
    have f2 : W3.frozen? ⟨w.heap.size + 1 + 1, 0, none⟩ = false := by
      show W3.frozen? ⟨w.heap.size + 2, 0, none⟩ = _
      simp [World.frozen?, s2]
    have HWW : Hid (W3 = W2.alloc (.cells #[.int .i64 a, .int .i64 b, .int .i64 c, .int .i64 d] 43)) := hW3
    have hd3 : W3.heap[W2.heap.size]? = some (.cells #[.int .i64 a, .int .i64 b, .int .i64 c, .int .i64 d] 43 (0, 0)) := by rw [hW3]; exact blk_alloc_new _ _
    have d0 : W3.cell? ⟨W2.heap.size, 0, none⟩ = some (.int .i64 a) := by simp [World.cell?, hd3]
    have d1 : W3.cell? ⟨W2.heap.size, 1, none⟩ = some (.int .i64 b) := by simp [World.cell?, hd3]
    have d2 : W3.cell? ⟨W2.heap.size, 2, none⟩ = some (.int .i64 c) := by simp [World.cell?, hd3]
    have d3 : W3.cell? ⟨W2.heap.size, 3, none⟩ = some (.int .i64 d) := by simp [World.cell?, hd3]
    have HBW : Hid (Below w.heap.size w W3) := HB.out.trans (hb3.mono HB.out.size)
    have HBS : Hid (W3.heap[w.heap.size + 3]? = W.heap[w.heap.size + 3]? ∧ w.heap.size + 4 ≤ W3.heap.size ∧ w.heap.size + 4 ≤ W.heap.size) := by
      have hl : w.heap.size + 3 < W.heap.size := by omega
      exact ⟨hb3.block _ hl, by have := hb3.size; omega, by omega⟩
    have HROW3 : Hid (RowD (w.heap.size + 4) W3 (.slice va (ds.take 1001).length vc) (ds.take 1001)) := HROW.out.later hb3
    clear hb2 hb3 hW3 s0 s1 s2 hd3
    cases hm : lineD x.1
    case none =>
      have q0 : W3.cell? ⟨w.heap.size, 0, none⟩ = some (.slice none 0 0) := by simp [World.cell?, HS.out.1]
      have f0 : W3.frozen? ⟨w.heap.size, 0, none⟩ = false := by simp [World.frozen?, HS.out.1]
      have z1 : (W3.setCell ⟨w.heap.size, 0, none⟩ (.slice none 0 0)).heap[w.heap.size + 1]? = some (.cells #[.nilIface] 29 (0, 0)) := (Below.heap_setCell _ _ _ _ (by show w.heap.size + 1 ≠ w.heap.size; omega)).trans HS.out.2.1
      have q1 : (W3.setCell ⟨w.heap.size, 0, none⟩ (.slice none 0 0)).cell? ⟨w.heap.size + 1, 0, none⟩ = some .nilIface := by simp [World.cell?, z1]
      have f1 : (W3.setCell ⟨w.heap.size, 0, none⟩ (.slice none 0 0)).frozen? ⟨w.heap.size + 1, 0, none⟩ = false := by simp [World.frozen?, z1]
      have HFIN : Hid (KeepsFrom W0.heap.size W ((W3.setCell ⟨w.heap.size, 0, none⟩ (.slice none 0 0)).setCell ⟨w.heap.size + 1, 0, none⟩ (.iface 80 (.int .i64 2))) ∧ PX w (pre ++ [x]) ((W3.setCell ⟨w.heap.size, 0, none⟩ (.slice none 0 0)).setCell ⟨w.heap.size + 1, 0, none⟩ (.iface 80 (.int .i64 2)))) :=
        ⟨(HKF.out.trans ((KeepsOthers.setCell _ _ _).from _)).trans ((KeepsOthers.setCell _ _ _).from _), ⟨x.1, by simp, hm⟩, (Below.heap_setCell _ _ _ _ (by show w.heap.size ≠ w.heap.size + 1; omega)).trans (blk_set_same W3 w.heap.size 0 _ _ _ HS.out.1), blk_set_same _ (w.heap.size + 1) 0 _ _ _ z1, (HBW.out.setCell (p := ⟨w.heap.size, 0, none⟩) (Nat.le_refl _) _).setCell (p := ⟨w.heap.size + 1, 0, none⟩) (by show w.heap.size ≤ w.heap.size + 1; omega) _⟩
      clear hx hm z1 hs3
      generalize (ds.take 1001).length = n0 at *
      have h3 := HWW.out
      subst h3
      gi_wp2
      exact HFIN.out
    case some y =>
      have hxy := hx y hm
      have HAL2 : Hid (allOf lineD ((pre ++ [x]).map Subtype.val) = some (ds ++ [y])) := (show _ = _ by rw [List.map_append]; exact allOf_snoc lineD _ _ _ _ HAL.out hm)
      have HTM : Hid ((ds ++ [y]).take 1001 = if (ds.take 1001).length ≤ 1000 then ds.take 1001 ++ [y] else ds.take 1001) := take_more ds y
      have HY : Hid (y = (a, b, c, d)) := hxy
      clear hx hm hxy
      by_cases hle : (ds.take 1001).length ≤ 1000
      · have hlei : ((ds.take 1001).length : Int) ≤ 1000 := by omega
        rw [if_pos hle] at HTM
        obtain ⟨i3, hi3, hz0, hz1, hz2⟩ := info_parts Tryz.infoDeed
        have HRA : Hid (w.heap.size + 4 ≤ (W3.alloc (.cells #[.int .i64 a, .int .i64 b, .int .i64 c, .int .i64 d] 43)).heap.size) := (show _ ≤ _ by have := HBS.out.2.1; rw [nblk_alloc]; omega)
        have hrA : (W3.alloc (.cells #[.int .i64 a, .int .i64 b, .int .i64 c, .int .i64 d] 43)).ownsRow (w.heap.size + 4) 43 4 (.slice va (ds.take 1001).length vc) (ds.take 1001).length (flat4 (ds.take 1001)) := HROW3.out.alloc _
        have hcA := cell_four_new W3 (W2.heap.size + 1) hs3 (.int .i64 a) (.int .i64 b) (.int .i64 c) (.int .i64 d) 43
        have HRW4 : Hid (∀ v' w5, w5.ownsRow (w.heap.size + 4) 43 4 v' ((ds.take 1001).length + 1) (flat4 (ds.take 1001) ++ [.int .i64 a, .int .i64 b, .int .i64 c, .int .i64 d]) → RowD (w.heap.size + 4) w5 v' ((ds ++ [y]).take 1001)) := fun v' w5 h => by
          rw [HTM.out, HY.out]
          show w5.ownsRow (w.heap.size + 4) 43 4 v' (ds.take 1001 ++ [(a, b, c, d)]).length (flat4 (ds.take 1001 ++ [(a, b, c, d)]))
          rw [List.length_append, flat4_append, flat4_one]
          exact h
        have HOB : Hid (∀ k, (Value.slice va (ds.take 1001).length vc).ownBlock = some k → w.heap.size + 4 ≤ k) := fun k hk => (HROW3.out.low hk).1
        have HKP : Hid (∀ w5 v', (W3.alloc (.cells #[.int .i64 a, .int .i64 b, .int .i64 c, .int .i64 d] 43)).grownBy w5 (Value.slice va (ds.take 1001).length vc).ownBlock → RowD (w.heap.size + 4) w5 v' ((ds ++ [y]).take 1001) → (w5.cell? ⟨w.heap.size + 1 + 1, 0, none⟩ = some (.slice va (ds.take 1001).length vc) ∧ w5.frozen? ⟨w.heap.size + 1 + 1, 0, none⟩ = false) ∧ KeepsFrom W0.heap.size W (w5.setCell ⟨w.heap.size + 1 + 1, 0, none⟩ v') ∧ (w5.setCell ⟨w.heap.size + 1 + 1, 0, none⟩ v').heap[w.heap.size + 3]? = W.heap[w.heap.size + 3]? ∧ PI w (pre ++ [x]) (w5.setCell ⟨w.heap.size + 1 + 1, 0, none⟩ v')) := fun w5 v' hg hr5 => by
          have old : ∀ k, k < w.heap.size + 4 → w5.heap[k]? = W3.heap[k]? := fun k hk => (hg.block k (by have := HRA.out; omega) (fun e => by have := HOB.out k e.symm; omega)).trans (Below.heap_alloc _ _ _ (by have := HBS.out.2.1; omega))
          have t2 : w5.heap[w.heap.size + 2]? = some (.cells #[.slice va (ds.take 1001).length vc] 38 (0, 0)) := (old _ (by omega)).trans HS.out.2.2
          have sb : Below w.heap.size w w5 := (HBW.out.alloc (by have := HBS.out.2.1; omega) _).grown hg (by have := HRA.out; omega) (fun k e => by have := HOB.out k e; omega)
          have sz5 : w.heap.size + 4 ≤ w5.heap.size := Nat.le_trans HRA.out hg.size
          refine ⟨⟨by show w5.cell? ⟨w.heap.size + 2, 0, none⟩ = _; simp [World.cell?, t2], by show w5.frozen? ⟨w.heap.size + 2, 0, none⟩ = _; simp [World.frozen?, t2]⟩, ?_, ?_, v', ds ++ [y], HAL2.out, ?_, ?_, ?_, ?_, ?_, by simpa using sz5⟩
          · refine ((HKF.out.trans ((KeepsOthers.alloc _ _).from _)).trans ⟨hg.size, fun k o _ hk ho => (hg.block k (Array.getElem?_eq_some_iff.1 hk).1 (fun e => ?_)).trans hk⟩).trans ((KeepsOthers.setCell _ _ _).from _)
            rcases hrA.2 with ⟨hv, _⟩ | ⟨g, cap, cur, hv, _, hh, _⟩
            · rw [hv] at e; simp [Value.ownBlock] at e
            · rw [hv] at e
              simp only [Value.ownBlock, Option.some.injEq] at e
              rw [e, hh] at hk
              cases hk
              cases ho
          · exact (Below.heap_setCell _ _ _ _ (by show w.heap.size + 3 ≠ w.heap.size + 1 + 1; omega)).trans ((old _ (by omega)).trans HBS.out.1)
          · exact (Below.heap_setCell _ _ _ _ (by show w.heap.size ≠ w.heap.size + 1 + 1; omega)).trans ((old _ (by omega)).trans HS.out.1)
          · exact (Below.heap_setCell _ _ _ _ (by show w.heap.size + 1 ≠ w.heap.size + 1 + 1; omega)).trans ((old _ (by omega)).trans HS.out.2.1)
          · exact blk_set_same w5 (w.heap.size + 2) 0 _ _ _ t2
          · exact rowD_keep hr5 (fun k cs tt f hk h => (Below.heap_setCell _ _ _ _ (by show k ≠ w.heap.size + 1 + 1; omega)).trans h)
          · exact sb.setCell (p := ⟨w.heap.size + 1 + 1, 0, none⟩) (by show w.heap.size ≤ w.heap.size + 1 + 1; omega) _
        clear HROW HAL HTM HOB hs3
        generalize (ds.take 1001).length = n0 at *
        generalize flat4 (ds.take 1001) = fl at *
        have h3 := HWW.out
        subst h3
        gi_wp2_with (first | (gi_at_builtin; refine wpListIn_append_own _ rfl _ _ 38 rfl (w.heap.size + 4) 43 i3 _ 4 32 Tryz.underlying38 hi3 hz0 hz1 hz2 rfl (by decide) _ _ _ rfl hrA ⟨W2.heap.size + 1, 0, none⟩ 1 1 [.int .i64 a, .int .i64 b, .int .i64 c, .int .i64 d] rfl rfl hcA ?x1 ?x2 ?x3 ?x4 ?_))
        case x1 => intro u hu; simp at hu; rcases hu with rfl | rfl | rfl | rfl <;> rfl
        case x2 => unfold maxLen; omega
        case x3 => omega
        case x4 => exact HRA.out
        intro v' w5 hown' hgrow _
        have hr5 := HRW4.out v' w5 hown'
        obtain ⟨⟨k1, k2⟩, HFIN⟩ := HKP.out w5 v' hgrow hr5
        obtain ⟨g', cap', rfl⟩ : ∃ g' cap', v' = .slice (some ⟨g', 0, none⟩) (n0 + 1) cap' := by
          rcases hown'.2 with ⟨_, h0⟩ | ⟨g, cap, cur, hv, _⟩
          · omega
          · exact ⟨g, cap, hv⟩
        have HFN : Hid _ := HFIN
        clear hown' hgrow hr5 HFIN
        gi_wp2
        exact HFN.out
      · have hlei : ¬ ((ds.take 1001).length : Int) ≤ 1000 := by omega
        rw [if_neg hle] at HTM
        have HFIN : Hid (KeepsFrom W0.heap.size W W3 ∧ W3.heap[w.heap.size + 3]? = W.heap[w.heap.size + 3]? ∧ PI w (pre ++ [x]) W3) := ⟨HKF.out, HBS.out.1, _, ds ++ [y], HAL2.out, HS.out.1, HS.out.2.1, HS.out.2.2, by rw [HTM.out]; exact HROW3.out, HBW.out, HBS.out.2.1⟩
        clear HROW HAL HTM hs3
        generalize (ds.take 1001).length = n0 at *
        have h3 := HWW.out
        subst h3
        gi_wp2
        exact HFIN.out
  case done =>
    rintro D xs W hD hS ⟨v, ds, hal, r0, r1, r2, hrow, hB, hB4⟩ hK
    have hal2 : deedsOf t = some ds := by rw [← lines_deeds, ← hS]; exact hal
    have hrl := hrow.at (by have : (ds.take 1001).length ≤ 1001 := by simp; omega
                            omega)
    have hcd := checkDeeds_any v (ds.take 1001) W hrl
    rw [deedsErr_take] at hcd
    have hpe : pErr t = deedsErr ds := by unfold pErr; rw [hal2]
    obtain ⟨va, vc, rfl⟩ := hrow.shape
    have q2 : W.cell? ⟨w.heap.size + 1 + 1, 0, none⟩ = some (.slice va (ds.take 1001).length vc) := by
      show W.cell? ⟨w.heap.size + 2, 0, none⟩ = _
      simp [World.cell?, r2]
    have HK : Hid (∀ W2, Below W.heap.size W W2 → W2.heap[w.heap.size]? = some (.cells #[.slice none 0 0] 38 (0, 0)) ∧ W2.heap[w.heap.size + 1]? = some (.cells #[.nilIface] 29 (0, 0)) ∧ W2.heap[w.heap.size + 2]? = some (.cells #[.slice va (ds.take 1001).length vc] 38 (0, 0)) ∧ RowD (w.heap.size + 4) W2 (.slice va (ds.take 1001).length vc) (ds.take 1001) ∧ Below w.heap.size w W2 ∧ W2.heap[D]? = some (.deferred (some []))) := fun W2 hb => ⟨(hb.block _ (by omega)).trans r0, (hb.block _ (by omega)).trans r1, (hb.block _ (by omega)).trans r2, hrow.later hb, hB.trans (hb.mono hB.size), (hb.block D (Array.getElem?_eq_some_iff.1 hK).1).trans hK⟩
    have HDD : Hid (D ≠ w.heap.size ∧ D ≠ w.heap.size + 1 ∧ D ≠ w.heap.size + 2 ∧ w.heap.size ≤ D) := ⟨by omega, by omega, by omega, by omega⟩
    clear r0 r1 r2 hrow hB hK hal hS hrl
    by_cases hz : deedsErr ds = 0
    · rw [hz, errV_zero] at hcd
      have HPD : Hid (pErr t = 0 ∧ pDeeds t = ds ∧ ds.take 1001 = ds) := by
        have h0 : pErr t = 0 := hpe.trans hz
        exact ⟨h0, by unfold pDeeds; rw [if_pos h0, hal2]; rfl, List.take_of_length_le (by have := (deedsErr_zero hz).1; omega)⟩
      have HRD : Hid (∀ W2, RowD (w.heap.size + 4) W2 (.slice va (ds.take 1001).length vc) (ds.take 1001) → RowD w.heap.size W2 (.slice va (ds.take 1001).length vc) (pDeeds t)) := fun W2 h => by
        rw [HPD.out.2.1]
        rw [HPD.out.2.2] at h ⊢
        exact h.mono (by omega)
      clear hpe hz hal2
      generalize (ds.take 1001).length = n0 at *
      gi_wp2_with fail
      refine ⟨trivial, (callsIn_wide.2 hcd).mono ?_⟩
      clear hcd q2
      rintro e W2 ⟨rfl, hb2⟩
      obtain ⟨k0, k1, k2, hrow, hB, hK⟩ := HK.out W2 hb2
      have q0 : W2.cell? ⟨w.heap.size, 0, none⟩ = some (.slice none 0 0) := by simp [World.cell?, k0]
      have q2 : W2.cell? ⟨w.heap.size + 1 + 1, 0, none⟩ = some (.slice va n0 vc) := by
        show W2.cell? ⟨w.heap.size + 2, 0, none⟩ = _
        simp [World.cell?, k2]
      have f0 : W2.frozen? ⟨w.heap.size, 0, none⟩ = false := by simp [World.frozen?, k0]
      have z0 : (W2.setCell ⟨w.heap.size, 0, none⟩ (.slice va n0 vc)).heap[w.heap.size]? = some (.cells #[.slice va n0 vc] 38 (0, 0)) := blk_set_same W2 w.heap.size 0 _ _ _ k0
      have z1 : (W2.setCell ⟨w.heap.size, 0, none⟩ (.slice va n0 vc)).heap[w.heap.size + 1]? = some (.cells #[.nilIface] 29 (0, 0)) := (Below.heap_setCell _ _ _ _ (by show w.heap.size + 1 ≠ w.heap.size; omega)).trans k1
      have q1 : (W2.setCell ⟨w.heap.size, 0, none⟩ (.slice va n0 vc)).cell? ⟨w.heap.size + 1, 0, none⟩ = some .nilIface := by simp [World.cell?, z1]
      have f1 : (W2.setCell ⟨w.heap.size, 0, none⟩ (.slice va n0 vc)).frozen? ⟨w.heap.size + 1, 0, none⟩ = false := by simp [World.frozen?, z1]
      obtain ⟨W4, hW4⟩ : ∃ W4, W4 = (W2.setCell ⟨w.heap.size, 0, none⟩ (.slice va n0 vc)).setCell ⟨w.heap.size + 1, 0, none⟩ .nilIface := ⟨_, rfl⟩
      have HW4 : Hid (W4 = (W2.setCell ⟨w.heap.size, 0, none⟩ (.slice va n0 vc)).setCell ⟨w.heap.size + 1, 0, none⟩ .nilIface) := hW4
      have HFIN : Hid (W4.heap[w.heap.size]? = some (.cells #[.slice va n0 vc] 38 (0, 0)) ∧ W4.heap[w.heap.size + 1]? = some (.cells #[.nilIface] 29 (0, 0)) ∧ RowD (w.heap.size + 4) W4 (.slice va n0 vc) (ds.take 1001) ∧ Below w.heap.size w W4 ∧ W4.heap[D]? = some (.deferred (some []))) := by
        show _ ∧ _ ∧ _ ∧ _ ∧ _
        rw [hW4]
        exact ⟨(Below.heap_setCell _ _ _ _ (by show w.heap.size ≠ w.heap.size + 1; omega)).trans z0, blk_set_same _ (w.heap.size + 1) 0 _ _ _ z1, rowD_keep hrow (fun k cs tt f hk h => (Below.heap_setCell _ _ _ _ (by show k ≠ w.heap.size + 1; omega)).trans ((Below.heap_setCell _ _ _ _ (by show k ≠ w.heap.size; omega)).trans h)), (hB.setCell (p := ⟨w.heap.size, 0, none⟩) (Nat.le_refl _) _).setCell (p := ⟨w.heap.size + 1, 0, none⟩) (by show w.heap.size ≤ w.heap.size + 1; omega) _, (Below.heap_setCell _ _ _ _ (HDD.out.2.1)).trans ((Below.heap_setCell _ _ _ _ (HDD.out.1)).trans hK)⟩
      clear hb2 k0 k1 k2 hrow hB hK z0 z1 hW4
      gi_wp2
      rw [← HW4.out]
      obtain ⟨m0, m1, mr, mB, mK⟩ := HFIN.out
      refine ⟨by simp, .inl ⟨_, _, rfl, run_takeDeferred mK, ?_⟩⟩
      have y0 : (W4.putObj D (.deferred none)).heap[w.heap.size]? = some (.cells #[.slice va n0 vc] 38 (0, 0)) := (World.putObj_heap_other (by have := HDD.out.1; omega)).trans m0
      have y1 : (W4.putObj D (.deferred none)).heap[w.heap.size + 1]? = some (.cells #[.nilIface] 29 (0, 0)) := (World.putObj_heap_other (by have := HDD.out.2.1; omega)).trans m1
      have x0 : (W4.putObj D (.deferred none)).cell? ⟨w.heap.size, 0, none⟩ = some (.slice va n0 vc) := by simp [World.cell?, y0]
      have x1 : (W4.putObj D (.deferred none)).cell? ⟨w.heap.size + 1, 0, none⟩ = some .nilIface := by simp [World.cell?, y1]
      refine ⟨.tuple #[.slice va n0 vc, .nilIface], by simp [results, Tryz.results13, go_sem, x0, x1], ⟨_, by rw [HPD.out.1, errV_zero], HRD.out _ (rowD_keep mr (fun k cs tt f hk h => (World.putObj_heap_other (fun e => ?_)).trans h))⟩, mB.trans (belowK_b (w := w) (Nat.le_refl _) W4 D _ _ HDD.out.2.2.2 mK rfl rfl)⟩
      subst e
      rw [mK] at h
      cases h
    · rw [errV_some hz] at hcd
      have HPD : Hid (errV (pErr t) = .iface 80 (.int .i64 (deedsErr ds)) ∧ pDeeds t = []) := ⟨by rw [hpe]; exact errV_some hz, by unfold pDeeds; rw [if_neg (by rw [hpe]; exact hz)]⟩
      clear hpe hz hal2
      generalize (ds.take 1001).length = n0 at *
      generalize deedsErr ds = de at *
      gi_wp2_with fail
      refine ⟨trivial, (callsIn_wide.2 hcd).mono ?_⟩
      clear hcd q2
      rintro e W2 ⟨rfl, hb2⟩
      obtain ⟨k0, k1, -, -, hB, hK⟩ := HK.out W2 hb2
      have q0 : W2.cell? ⟨w.heap.size, 0, none⟩ = some (.slice none 0 0) := by simp [World.cell?, k0]
      have f0 : W2.frozen? ⟨w.heap.size, 0, none⟩ = false := by simp [World.frozen?, k0]
      have z0 : (W2.setCell ⟨w.heap.size, 0, none⟩ (.slice none 0 0)).heap[w.heap.size]? = some (.cells #[.slice none 0 0] 38 (0, 0)) := blk_set_same W2 w.heap.size 0 _ _ _ k0
      have z1 : (W2.setCell ⟨w.heap.size, 0, none⟩ (.slice none 0 0)).heap[w.heap.size + 1]? = some (.cells #[.nilIface] 29 (0, 0)) := (Below.heap_setCell _ _ _ _ (by show w.heap.size + 1 ≠ w.heap.size; omega)).trans k1
      have q1 : (W2.setCell ⟨w.heap.size, 0, none⟩ (.slice none 0 0)).cell? ⟨w.heap.size + 1, 0, none⟩ = some .nilIface := by simp [World.cell?, z1]
      have f1 : (W2.setCell ⟨w.heap.size, 0, none⟩ (.slice none 0 0)).frozen? ⟨w.heap.size + 1, 0, none⟩ = false := by simp [World.frozen?, z1]
      obtain ⟨W4, hW4⟩ : ∃ W4, W4 = (W2.setCell ⟨w.heap.size, 0, none⟩ (.slice none 0 0)).setCell ⟨w.heap.size + 1, 0, none⟩ (.iface 80 (.int .i64 de)) := ⟨_, rfl⟩
      have HW4 : Hid (W4 = (W2.setCell ⟨w.heap.size, 0, none⟩ (.slice none 0 0)).setCell ⟨w.heap.size + 1, 0, none⟩ (.iface 80 (.int .i64 de))) := hW4
      have HFIN : Hid (W4.heap[w.heap.size]? = some (.cells #[.slice none 0 0] 38 (0, 0)) ∧ W4.heap[w.heap.size + 1]? = some (.cells #[.iface 80 (.int .i64 de)] 29 (0, 0)) ∧ Below w.heap.size w W4 ∧ W4.heap[D]? = some (.deferred (some []))) := by
        show _ ∧ _ ∧ _ ∧ _
        rw [hW4]
        exact ⟨(Below.heap_setCell _ _ _ _ (by show w.heap.size ≠ w.heap.size + 1; omega)).trans z0, blk_set_same _ (w.heap.size + 1) 0 _ _ _ z1, (hB.setCell (p := ⟨w.heap.size, 0, none⟩) (Nat.le_refl _) _).setCell (p := ⟨w.heap.size + 1, 0, none⟩) (by show w.heap.size ≤ w.heap.size + 1; omega) _, (Below.heap_setCell _ _ _ _ (HDD.out.2.1)).trans ((Below.heap_setCell _ _ _ _ (HDD.out.1)).trans hK)⟩
      clear hb2 k0 k1 hB hK z0 z1 hW4
      gi_wp2
      rw [← HW4.out]
      obtain ⟨m0, m1, mB, mK⟩ := HFIN.out
      refine ⟨by simp, .inl ⟨_, _, rfl, run_takeDeferred mK, ?_⟩⟩
      have y0 : (W4.putObj D (.deferred none)).heap[w.heap.size]? = some (.cells #[.slice none 0 0] 38 (0, 0)) := (World.putObj_heap_other (by have := HDD.out.1; omega)).trans m0
      have y1 : (W4.putObj D (.deferred none)).heap[w.heap.size + 1]? = some (.cells #[.iface 80 (.int .i64 de)] 29 (0, 0)) := (World.putObj_heap_other (by have := HDD.out.2.1; omega)).trans m1
      have x0 : (W4.putObj D (.deferred none)).cell? ⟨w.heap.size, 0, none⟩ = some (.slice none 0 0) := by simp [World.cell?, y0]
      have x1 : (W4.putObj D (.deferred none)).cell? ⟨w.heap.size + 1, 0, none⟩ = some (.iface 80 (.int .i64 de)) := by simp [World.cell?, y1]
      exact ⟨.tuple #[.slice none 0 0, .iface 80 (.int .i64 de)], by simp [results, Tryz.results13, go_sem, x0, x1], ⟨_, by rw [HPD.out.1], by rw [HPD.out.2]; exact RowD.nil _ _⟩, mB.trans (belowK_b (w := w) (Nat.le_refl _) W4 D _ _ HDD.out.2.2.2 mK rfl rfl)⟩
  case stop =>
    rintro D pre W hD hSp ⟨hbad, r0, r1, hB⟩ hK
    gi_wp2
    refine ⟨by simp, .inl ⟨_, _, rfl, run_takeDeferred hK, ?_⟩⟩
    have hno : deedsOf t = none := by
      rw [← lines_deeds]
      obtain ⟨x, hx, hn⟩ := hbad
      exact allOf_no (hSp.subset hx) hn
    have hpe : pErr t = 2 := by unfold pErr; rw [hno]
    have hpd : pDeeds t = [] := by unfold pDeeds; rw [hpe]; rfl
    have y0 : (W.putObj D (.deferred none)).heap[w.heap.size]? = some (.cells #[.slice none 0 0] 38 (0, 0)) := (World.putObj_heap_other (by omega)).trans r0
    have y1 : (W.putObj D (.deferred none)).heap[w.heap.size + 1]? = some (.cells #[.iface 80 (.int .i64 2)] 29 (0, 0)) := (World.putObj_heap_other (by omega)).trans r1
    have x0 : (W.putObj D (.deferred none)).cell? ⟨w.heap.size, 0, none⟩ = some (.slice none 0 0) := by simp [World.cell?, y0]
    have x1 : (W.putObj D (.deferred none)).cell? ⟨w.heap.size + 1, 0, none⟩ = some (.iface 80 (.int .i64 2)) := by simp [World.cell?, y1]
    exact ⟨.tuple #[.slice none 0 0, .iface 80 (.int .i64 2)], by simp [results, Tryz.results13, go_sem, x0, x1], ⟨_, by rw [hpe]; rfl, by rw [hpd]; exact RowD.nil _ _⟩, hB.trans (belowK_b (w := w) (Nat.le_refl _) W D _ _ (by omega) hK rfl rfl)⟩
theorem parse_any (t : List UInt8) (ht : t.length ≤ 9223372036854775000) (w : World) (hf : FormsAt w) (hs : Synt w) :
    Calls Tryz.prog 13 #[strL t] w fun e w' => (∃ v, e = .returned (.tuple #[v, errV (pErr t)]) ∧ RowD w.heap.size w' v (pDeeds t)) ∧ Below w.heap.size w w' := callsIn_wide.1 (parse_in t ht w hf hs)
end Go.Proofs.YtandhiiaflhenaaGreatDoor
