/- The contract of readTask. The contract of Parse. The contracts of writeTask and Print. -/
import Derived.Test.YtlfbdjeojgbniaaGreatDoorRcm19
import Derived.Test.YtlfbdjeojgbniaaGreatDoorRcm01
import Derived.Test.YtlfbdjeojgbniaaGreatDoorRcm09
import Derived.Test.YtlfbdjeojgbniaaGreatDoorRcm17

namespace Go.Proofs.YtlfbdjeojgbniaaGreatDoor
open Go.RowKit Go.Deep

/-- The needs of a task in a row that nobody else has; none: maybe the nil slice. -/
def NeedsRow (N : Nat) (w : World) (nv : Value) (zs : List Int) : Prop := w.ownsRow N 3 1 nv zs.length (zs.map (Value.int .i64))

theorem NeedsRow.later {N : Nat} {w w' : World} {nv : Value} {zs : List Int} (h : NeedsRow N w nv zs) (hb : Below w.heap.size w w') : NeedsRow N w' nv zs :=
  World.ownsRow.kept (row := none) h ⟨hb.os, hb.tape, hb.output, hb.size, fun k hk _ => hb.block k hk⟩ (by cases nv.ownBlock <;> simp)
theorem NeedsRow.nil (N : Nat) (w : World) : NeedsRow N w (.slice none 0 0) [] := World.ownsRow_nil _ _ _ _
theorem NeedsRow.of {B : Nat} {w : World} {v : Value} {ns : List Nat} (h : NumsIn B w v ns) : NeedsRow B w v (ns.map Int.ofNat) := by
  obtain ⟨h1, h2⟩ := h
  refine ⟨by simp, ?_⟩
  rcases h2 with ⟨hv, h0⟩ | ⟨g, cap, cur, hv, hgb, hh, hn, hc, hs, ht⟩
  · exact Or.inl ⟨hv, by simpa using h0⟩
  · refine Or.inr ⟨g, cap, cur, by simpa using hv, hgb, hh, by simpa using hn, hc, hs, ?_⟩
    rw [List.length_map, ht, List.map_map]
    rfl
theorem NeedsRow.mono {N M : Nat} {w : World} {nv : Value} {zs : List Int} (h : NeedsRow N w nv zs) (hm : M ≤ N) : NeedsRow M w nv zs := by
  refine ⟨h.1, ?_⟩
  rcases h.2 with h2 | ⟨g, cap, cur, hv, hb, h3⟩
  · exact Or.inl h2
  · exact Or.inr ⟨g, cap, cur, hv, Nat.le_trans hm hb, h3⟩
theorem NeedsRow.shape {N : Nat} {w : World} {nv : Value} {zs : List Int} (h : NeedsRow N w nv zs) : ∃ a c, nv = .slice a zs.length c := by
  rcases h.2 with ⟨hv, h0⟩ | ⟨g, cap, cur, hv, _⟩
  · exact ⟨none, 0, by rw [hv, h0]⟩
  · exact ⟨_, _, hv⟩

theorem set_two {W : World} {k : Nat} {x y a b : Value} {t : TypeId} (h : W.heap[k]? = some (.cells #[x, y] t (0, 0))) :
    ((W.setCell ⟨k, 0, none⟩ a).setCell ⟨k, 1, none⟩ b).cell? ⟨k, 0, none⟩ = some a ∧ ((W.setCell ⟨k, 0, none⟩ a).setCell ⟨k, 1, none⟩ b).cell? ⟨k, 1, none⟩ = some b := by
  have : ((W.setCell ⟨k, 0, none⟩ a).setCell ⟨k, 1, none⟩ b).heap[k]? = some (.cells #[a, b] t (0, 0)) := by simp [World.setCell, Array.getElem?_modify, h]
  constructor <;> simp [World.cell?, this]

theorem below_two {B : Nat} {w W : World} {k : Nat} {a b : Value} (h : Below B w W) (hk : B ≤ k) : Below B w ((W.setCell ⟨k, 0, none⟩ a).setCell ⟨k, 1, none⟩ b) := (h.setCell (p := ⟨k, 0, none⟩) hk a).setCell (p := ⟨k, 1, none⟩) hk b

theorem NeedsRow.two {N : Nat} {W : World} {k : Nat} {x y a b nv : Value} {zs : List Int} (h : NeedsRow N W nv zs) (hk : W.heap[k]? = some (.cells #[x, y] 94 (0, 0))) : NeedsRow N ((W.setCell ⟨k, 0, none⟩ a).setCell ⟨k, 1, none⟩ b) nv zs := by
  have hne : nv.ownBlock ≠ some k := by
    rcases h.2 with ⟨hv, _⟩ | ⟨g, cap, cur, hv, _, hh, _⟩
    · subst hv; simp [Value.ownBlock]
    · subst hv
      simp only [Value.ownBlock, ne_eq, Option.some.injEq]
      rintro rfl
      rw [hk] at hh
      simp at hh
  exact ownsRow_setCell_other (a := ⟨k, 1, none⟩) (ownsRow_setCell_other (a := ⟨k, 0, none⟩) h hne a) hne b

set_option maxRecDepth 100000 in
set_option maxHeartbeats 4000000 in
theorem readTask_any (l : List UInt8) (w : World) (hl : l.length ≤ 1048576) (he : Synt w) (hm : Lens w) :
    Calls Tryz.prog 39 #[.string ⟨l.toArray⟩] w fun e w' => ((∃ wk nv zs, taskOf l = some (wk, zs) ∧ e = .returned (.tuple #[.agg #[.int .i64 wk, nv], .bool true]) ∧ NeedsRow w.heap.size w' nv zs) ∨ (taskOf l = none ∧ e = .returned (.tuple #[.agg #[.int .i64 0, .slice none 0 0], .bool false]))) ∧ Below w.heap.size w w' := by
  have hb0 : Below w.heap.size w (w.alloc (.cells #[.int .i64 0, .slice none 0 0] 94)) := (Below.refl _ _).alloc (Nat.le_refl _) _
  have hcut := cut_any l 60 (w.alloc (.cells #[.int .i64 0, .slice none 0 0] 94)) hl (hm.later hb0)
  have hl1 := cutB_le1 60 l
  have hl2 := cutB_le2 60 l
  have HT : Hid (taskOf l = match numOf (cutB 60 l).1 with | none => none | some w => if (cutB 60 l).2.2 then (numsOf (cutB 60 l).2.1).map (fun ns => ((w : Int), ns)) else some ((w : Int), [])) := rfl
  generalize (cutB 60 l).1 = a at *
  generalize (cutB 60 l).2.1 = r at *
  generalize (cutB 60 l).2.2 = f at *
  have hblk0 : (w.alloc (.cells #[.int .i64 0, .slice none 0 0] 94)).heap[w.heap.size]? = some (.cells #[.int .i64 0, .slice none 0 0] 94 (0, 0)) := blk_alloc_new _ _
  have hsz0 : (w.alloc (.cells #[.int .i64 0, .slice none 0 0] 94)).heap.size = w.heap.size + 1 := nblk_alloc _ _
  have HE : Hid (Synt w) := he
  have HM : Hid (Lens w) := hm
  clear he hm
  go_enter Tryz.func39, Tryz.ntmps39
  go_wp2_with fail
  refine hcut.mono ?_
  rintro e w2 ⟨rfl, hb2⟩
  rw [hsz0] at hb2
  have hB2 : Below w.heap.size w w2 := hb0.trans (hb2.mono (by omega))
  have hk2 : w2.heap[w.heap.size]? = some (.cells #[.int .i64 0, .slice none 0 0] 94 (0, 0)) := (hb2.block _ (by omega)).trans hblk0
  have hrn := readNumber_list a w2 (by omega) (HE.out.later hB2)
  clear hcut
  go_wp2_with fail
  refine hrn.mono ?_
  rintro e w3 ⟨rfl, hb3⟩
  have hB3 : Below w.heap.size w w3 := hB2.trans (hb3.mono hB2.size)
  have hs2 : w.heap.size < w2.heap.size := lt_of_block hk2
  have hk3 : w3.heap[w.heap.size]? = some (.cells #[.int .i64 0, .slice none 0 0] 94 (0, 0)) := (hb3.block _ hs2).trans hk2
  have hs3 : w.heap.size < w3.heap.size := lt_of_block hk3
  have c0 : w3.cell? ⟨w.heap.size, 0, none⟩ = some (.int .i64 0) := by simp [World.cell?, hk3]
  have c1 : w3.cell? ⟨w.heap.size, 1, none⟩ = some (.slice none 0 0) := by simp [World.cell?, hk3]
  have f0 : w3.frozen? ⟨w.heap.size, 0, none⟩ = false := by simp [World.frozen?, hk3]
  have f1 : w3.frozen? ⟨w.heap.size, 1, none⟩ = false := by simp [World.frozen?, hk3]
  clear hrn hblk0 hsz0 hb2 hk2 hb0 hB2 hs2
  have HK3 : Hid (w3.heap[w.heap.size]? = some (.cells #[.int .i64 0, .slice none 0 0] 94 (0, 0))) := hk3
  clear hk3 hb3
  cases hn : numOf a with
  | none =>
    have HN : Hid (taskOf l = none) := by rw [HT.out, hn]; rfl
    clear hn HT
    simp only [Option.getD_none, Option.isSome_none]
    go_wp2
    obtain ⟨q0, q1⟩ := set_two (a := .int .i64 0) (b := .slice none 0 0) HK3.out
    exact bodyPost_ret (v := .tuple #[.agg #[.int .i64 0, .slice none 0 0], .bool false]) (by simp [results, go_sem, q0, q1]) rfl ⟨Or.inr ⟨HN.out, rfl⟩, below_two hB3 (Nat.le_refl _)⟩
  | some n =>
    simp only [Option.getD_some, Option.isSome_some]
    cases f with
    | false =>
      have HN : Hid (taskOf l = some ((n : Int), [])) := by rw [HT.out, hn]; rfl
      clear hn HT
      go_wp2
      obtain ⟨q0, q1⟩ := set_two (a := .int .i64 (n : Int)) (b := .slice none 0 0) HK3.out
      exact bodyPost_ret (v := .tuple #[.agg #[.int .i64 (n : Int), .slice none 0 0], .bool true]) (by simp [results, go_sem, q0, q1]) rfl ⟨Or.inl ⟨n, .slice none 0 0, [], HN.out, rfl, NeedsRow.nil _ _⟩, below_two hB3 (Nat.le_refl _)⟩
    | true =>
      have hrs := readNumbers_any r w3 (by omega) (HE.out.later hB3) (HM.out.later hB3)
      have HN : Hid (taskOf l = (numsOf r).map (fun ns => ((n : Int), ns))) := by rw [HT.out, hn]; rfl
      clear hn HT
      go_wp2_with fail
      refine hrs.mono ?_
      rintro e w4 ⟨hres, hb4⟩
      clear hrs
      have hB4 : Below w.heap.size w w4 := hB3.trans (hb4.mono hB3.size)
      have hk4 : w4.heap[w.heap.size]? = some (.cells #[.int .i64 0, .slice none 0 0] 94 (0, 0)) := (hb4.block _ hs3).trans HK3.out
      have hs4 : w.heap.size < w4.heap.size := lt_of_block hk4
      have d0 : w4.cell? ⟨w.heap.size, 0, none⟩ = some (.int .i64 0) := by simp [World.cell?, hk4]
      have d1 : w4.cell? ⟨w.heap.size, 1, none⟩ = some (.slice none 0 0) := by simp [World.cell?, hk4]
      have g0 : w4.frozen? ⟨w.heap.size, 0, none⟩ = false := by simp [World.frozen?, hk4]
      have g1 : w4.frozen? ⟨w.heap.size, 1, none⟩ = false := by simp [World.frozen?, hk4]
      have HK4 : Hid (w4.heap[w.heap.size]? = some (.cells #[.int .i64 0, .slice none 0 0] 94 (0, 0))) := hk4
      have HSZ : Hid (w.heap.size ≤ w3.heap.size) := hB3.size
      clear hk4 c0 c1 f0 f1 hb4 hB3 HK3
      rcases hres with ⟨ns, v, hall, rfl, hown⟩ | ⟨hall, rfl⟩
      · have HN2 : Hid (taskOf l = some ((n : Int), ns.map Int.ofNat)) := by rw [HN.out]; unfold numsOf; rw [hall]; rfl
        have hrow := NeedsRow.of hown
        obtain ⟨va, vc, rfl⟩ := hrow.shape
        have HR : Hid (NeedsRow w.heap.size w4 (.slice va (ns.map Int.ofNat).length vc) (ns.map Int.ofNat)) := hrow.mono HSZ.out
        clear hall hown hrow HN
        generalize ns.map Int.ofNat = zs at *
        go_wp2
        obtain ⟨q0, q1⟩ := set_two (a := .int .i64 (n : Int)) (b := .slice va zs.length vc) HK4.out
        exact bodyPost_ret (v := .tuple #[.agg #[.int .i64 (n : Int), .slice va zs.length vc], .bool true]) (by simp [results, go_sem, q0, q1]) rfl ⟨Or.inl ⟨n, _, zs, HN2.out, rfl, HR.out.two HK4.out⟩, below_two hB4 (Nat.le_refl _)⟩
      · have HN2 : Hid (taskOf l = none) := by rw [HN.out]; unfold numsOf; rw [hall]; rfl
        clear hall HN
        go_wp2
        obtain ⟨q0, q1⟩ := set_two (a := .int .i64 0) (b := .slice none 0 0) HK4.out
        exact bodyPost_ret (v := .tuple #[.agg #[.int .i64 0, .slice none 0 0], .bool false]) (by simp [results, go_sem, q0, q1]) rfl ⟨Or.inr ⟨HN2.out, rfl⟩, below_two hB4 (Nat.le_refl _)⟩
end Go.Proofs.YtlfbdjeojgbniaaGreatDoor

namespace Go.Proofs.YtlfbdjeojgbniaaGreatDoor
open Go.RowKit Go.Deep

/-- Tasks in a row of the call's own, their needs in rows of their own. -/
def OwnTasks (N : Nat) (w : World) (v : Value) (ts : List (Int × List Int)) : Prop :=
  ∃ xs, w.ownsRow N 94 2 v ts.length xs ∧ ∀ j, j < ts.length → xs[j * 2]? = some (.int .i64 (ts.getD j (0, [])).1) ∧ ∃ nv, xs[j * 2 + 1]? = some nv ∧ NeedsRow N w nv (needsOf ts j)

theorem NeedsRow.grown {M : Nat} {w w' : World} {nv v : Value} {zs : List Int} {N n : Nat} {xs : List Value} (h : NeedsRow M w nv zs) (ho : w.ownsRow N 94 2 v n xs) (hg : w.grownBy w' v.ownBlock) : NeedsRow M w' nv zs := by
  refine World.ownsRow.kept h hg ?_
  rcases ho.2 with ⟨hv, _⟩ | ⟨g, cap, cur, hv, _, hh, _⟩
  · subst hv; cases nv.ownBlock <;> simp [Value.ownBlock]
  · subst hv
    rcases h.2 with ⟨hv2, _⟩ | ⟨g2, cap2, cur2, hv2, _, hh2, _⟩
    · subst hv2; exact Or.inl rfl
    · subst hv2
      right
      simp only [Value.ownBlock, ne_eq, Option.some.injEq]
      rintro rfl
      rw [hh] at hh2
      simp at hh2

theorem OwnTasks.nil (N : Nat) (w : World) : OwnTasks N w (.slice none 0 0) [] := ⟨[], World.ownsRow_nil _ _ _ _, fun j hj => by simp at hj⟩
theorem OwnTasks.later {N : Nat} {w w' : World} {v : Value} {ts : List (Int × List Int)} (h : OwnTasks N w v ts) (hb : Below w.heap.size w w') : OwnTasks N w' v ts := by
  obtain ⟨xs, ho, hx⟩ := h
  refine ⟨xs, ho.kept (row := none) ⟨hb.os, hb.tape, hb.output, hb.size, fun k hk _ => hb.block k hk⟩ (by cases v.ownBlock <;> simp), fun j hj => ?_⟩
  obtain ⟨h1, nv, h2, h3⟩ := hx j hj
  exact ⟨h1, nv, h2, h3.later hb⟩
theorem OwnTasks.shape {N : Nat} {w : World} {v : Value} {ts : List (Int × List Int)} (h : OwnTasks N w v ts) : ∃ a c, v = .slice a ts.length c := by
  obtain ⟨xs, ho, _⟩ := h
  rcases ho.2 with ⟨hv, h0⟩ | ⟨g, cap, cur, hv, _⟩
  · exact ⟨none, 0, by rw [hv, h0]⟩
  · exact ⟨_, _, hv⟩
theorem OwnTasks.append {N : Nat} {w w' : World} {v v' nv : Value} {ts : List (Int × List Int)} {xs : List Value} {wk : Int} {zs : List Int}
    (ho : w.ownsRow N 94 2 v ts.length xs) (hx : ∀ j, j < ts.length → xs[j * 2]? = some (.int .i64 (ts.getD j (0, [])).1) ∧ ∃ nv, xs[j * 2 + 1]? = some nv ∧ NeedsRow N w nv (needsOf ts j))
    (hn : NeedsRow N w nv zs) (ho' : w'.ownsRow N 94 2 v' (ts.length + 1) (xs ++ [.int .i64 wk, nv])) (hg : w.grownBy w' v.ownBlock) : OwnTasks N w' v' (ts ++ [(wk, zs)]) := by
  have hl : xs.length = ts.length * 2 := ho.1
  refine ⟨xs ++ [.int .i64 wk, nv], by simpa using ho', fun j hj => ?_⟩
  simp at hj
  by_cases e : j = ts.length
  · subst e
    unfold needsOf
    rw [getD_snoc_at]
    refine ⟨by rw [← hl]; simp, nv, by rw [← hl]; simp, hn.grown ho hg⟩
  · have hlt : j < ts.length := by omega
    obtain ⟨h1, nv2, h2, h3⟩ := hx j hlt
    unfold needsOf at h3 ⊢
    rw [getD_snoc _ _ _ _ hlt]
    exact ⟨by rw [List.getElem?_append_left (by omega)]; exact h1, nv2, by rw [List.getElem?_append_left (by omega)]; exact h2, h3.grown ho hg⟩
theorem NeedsRow.ints {M : Nat} {w : World} {nv : Value} {zs : List Int} (h : NeedsRow M w nv zs) (hl : zs.length * 8 ≤ 140737488351232) : IntsAt w nv zs := by
  refine ⟨hl, ?_⟩
  rcases h.2 with ⟨hv, h0⟩ | ⟨g, cap, cur, hv, _, hh, _⟩
  · exact ⟨none, 0, by rw [hv, h0], Or.inl (List.eq_nil_of_length_eq_zero h0)⟩
  · subst hv
    refine ⟨_, _, rfl, Or.inr ⟨g, 0, rfl, lt_of_block hh, fun k hk => ?_⟩⟩
    have := World.ownsRow.cellAt h k (by omega)
    rw [Nat.zero_add, this]
    simp [hk]
theorem OwnTasks.planAt {N : Nat} {w : World} {v : Value} {ts : List (Int × List Int)} (h : OwnTasks N w v ts) (hl : ts.length * 32 ≤ 140737488351232) (hn : ∀ j, j < ts.length → (needsOf ts j).length * 8 ≤ 140737488351232) : PlanAt w v ts := by
  obtain ⟨xs, ho, hx⟩ := h
  refine ⟨hl, ?_⟩
  rcases ho.2 with ⟨hv, h0⟩ | ⟨g, cap, cur, hv, _, hh, _⟩
  · exact ⟨none, 0, by rw [hv, h0], Or.inl (List.eq_nil_of_length_eq_zero h0)⟩
  · subst hv
    refine ⟨_, _, rfl, Or.inr ⟨g, 0, rfl, lt_of_block hh, fun k hk => ?_⟩⟩
    obtain ⟨h1, nv, h2, h3⟩ := hx k hk
    have e1 := ho.cellAt (k * 2) (by omega)
    have e2 := ho.cellAt (k * 2 + 1) (by omega)
    rw [Nat.zero_add]
    exact ⟨by rw [e1]; exact h1, nv, by rw [e2]; exact h2, h3.ints (hn k hk)⟩

theorem OwnTasks.of_blocks {N : Nat} {w w' : World} {v : Value} {ts : List (Int × List Int)} (h : OwnTasks N w v ts) (hk : ∀ k, N ≤ k → k < w.heap.size → w'.heap[k]? = w.heap[k]?) : OwnTasks N w' v ts := by
  have key : ∀ {t sz n : Nat} {v : Value} {xs : List Value}, w.ownsRow N t sz v n xs → w'.ownsRow N t sz v n xs := by
    rintro t sz n v xs ⟨h1, h2⟩
    refine ⟨h1, ?_⟩
    rcases h2 with h2 | ⟨g, cap, cur, hv, hb, hh, h3⟩
    · exact Or.inl h2
    · exact Or.inr ⟨g, cap, cur, hv, hb, (hk g hb (lt_of_block hh)).trans hh, h3⟩
  obtain ⟨xs, ho, hx⟩ := h
  refine ⟨xs, key ho, fun j hj => ?_⟩
  obtain ⟨h1, nv, h2, h3⟩ := hx j hj
  exact ⟨h1, nv, h2, key h3⟩
theorem OwnTasks.planNew {N : Nat} {w : World} {v : Value} {ts : List (Int × List Int)} (h : OwnTasks N w v ts) (hl : ts.length * 32 ≤ 140737488351232) (hn : ∀ j, j < ts.length → (needsOf ts j).length * 8 ≤ 140737488351232) : PlanNew N w v ts :=
  fun W hW => (h.of_blocks (w' := W) hW).planAt hl hn

theorem splitC_len (c : UInt8) (l : List UInt8) : (splitC c l).length ≤ l.length + 1 := by
  induction l with
  | nil => simp [splitC]
  | cons b r ih =>
    rw [splitC_cons]
    split
    · simp; omega
    · cases hs : splitC c r with
      | nil => simp
      | cons x xs => rw [hs] at ih; simp at ih ⊢; omega
theorem allOf_len {α β : Type} (f : α → Option β) (l : List α) (ys : List β) (h : allOf f l = some ys) : ys.length = l.length := by
  induction l generalizing ys with
  | nil => simp [allOf] at h; subst h; rfl
  | cons a r ih =>
    simp only [allOf] at h
    cases ha : f a with
    | none => simp [ha] at h
    | some b =>
      cases hr : allOf f r with
      | none => simp [ha, hr] at h
      | some bs => simp [ha, hr] at h; subst h; simp [ih bs hr]
theorem taskOf_len (l : List UInt8) (t : Int × List Int) (h : taskOf l = some t) : t.2.length ≤ l.length + 1 := by
  unfold taskOf at h
  cases hn : numOf (cutB 60 l).1 with
  | none => simp [hn] at h
  | some w =>
    rw [hn] at h
    simp only at h
    split at h
    · obtain ⟨zs, hz, rfl⟩ := Option.map_eq_some_iff.1 h
      unfold numsOf at hz
      obtain ⟨ns, hns, rfl⟩ := Option.map_eq_some_iff.1 hz
      have h1 := allOf_len _ _ _ hns
      have h2 := splitC_len 44 (cutB 60 l).2.1
      have h3 := cutB_le2 60 l
      simp; omega
    · simp at h; subst h; simp

/-- All needs are not too many. -/
def Few (ts : List (Int × List Int)) : Prop := ∀ t, t ∈ ts → t.2.length ≤ 1048577
theorem Few.needs {ts : List (Int × List Int)} (h : Few ts) (j : Nat) : (needsOf ts j).length ≤ 1048577 := by
  unfold needsOf
  by_cases hj : j < ts.length
  · rw [List.getD_eq_getElem?_getD, List.getElem?_eq_getElem hj]; exact h _ (List.getElem_mem hj)
  · rw [List.getD_eq_getElem?_getD, List.getElem?_eq_none (by omega)]; simp
theorem Few.take {ts : List (Int × List Int)} (h : Few ts) (n : Nat) : Few (ts.take n) := fun t ht => h t (List.mem_of_mem_take ht)

/-- Where the reading of a plan stands. -/
def StandsT (l : List UInt8) (done : List (List UInt8)) (rest : List UInt8) (more : Bool) : Prop :=
  tasksOf l = allOf taskOf (done ++ (if more then splitC 32 rest else []))
theorem StandsT.start (l : List UInt8) : StandsT l [] l (!l.isEmpty) := by
  unfold StandsT tasksOf
  cases l with
  | nil => rfl
  | cons b r => simp
theorem StandsT.step {l : List UInt8} {done : List (List UInt8)} {rest : List UInt8} (h : StandsT l done rest true) : StandsT l (done ++ [(cutB 32 rest).1]) (cutB 32 rest).2.1 (cutB 32 rest).2.2 := by
  unfold StandsT at h ⊢
  rw [h, List.append_assoc]
  simp only [↓reduceIte]
  conv => lhs; rw [splitC_cut 32 rest]
  rfl
theorem StandsT.bad {l : List UInt8} {done : List (List UInt8)} {rest : List UInt8} (h : StandsT l done rest true) (hx : taskOf (cutB 32 rest).1 = none) : tasksOf l = none := by
  unfold StandsT at h
  rw [h]
  simp only [↓reduceIte]
  rw [splitC_cut 32 rest]
  exact allOf_bad taskOf _ _ _ hx

set_option maxRecDepth 100000 in
set_option maxHeartbeats 4000000 in
theorem parseP_any (l : List UInt8) (w : World) (hl : l.length ≤ 1048576) (he : Synt w) (hm : Lens w) :
    Calls Tryz.prog 10 #[.string ⟨l.toArray⟩] w fun e w' => ((tasksOf l = none ∧ e = .returned (.tuple #[.slice none 0 0, errV 2])) ∨
      (∃ ts p q, tasksOf l = some ts ∧ Few ts ∧ CheckIs (ts.take 31) p q ∧ ((q ≠ 0 ∧ e = .returned (.tuple #[.slice none 0 0, errV q])) ∨ (q = 0 ∧ ∃ v, e = .returned (.tuple #[v, .nilIface]) ∧ PlanNew w.heap.size w' v (ts.take 31))))) ∧ Below w.heap.size w w' := by
  obtain ⟨i30, hi30, hz0, hz1, hz2⟩ := info_parts Tryz.info94
  have HE : Hid (Synt w) := he
  have HM : Hid (Lens w) := hm
  clear he hm
  go_enter Tryz.func10, Tryz.ntmps10
  go_wp2
  go_loopg [4, 6, 7] (l.length + 1) (fun gg s4 s6 s7 wr => ∃ done rest more ts, s6 = .string ⟨(rest : List UInt8).toArray⟩ ∧ s7 = .bool more ∧ Hid (OwnTasks w.heap.size wr s4 (ts.take 31)) ∧ Hid (StandsT l done rest more) ∧ Hid (allOf taskOf done = some ts) ∧ Hid (Few ts) ∧ Below w.heap.size w wr ∧ rest.length ≤ l.length ∧ restOf rest more ≤ gg)
  case atStart => exact ⟨[], l, _, [], rfl, rfl, OwnTasks.nil _ _, StandsT.start l, rfl, fun t ht => by simp at ht, Below.refl _ _, Nat.le_refl _, by unfold restOf; split <;> omega⟩
  case round =>
    obtain ⟨done, rest, more, ts, rfl, rfl, hown, hst, hall, hfew, hb, hrl, hg⟩ := hrel
    cases more
    · have HT : Hid (tasksOf l = some ts) := by
        have := hst.out
        unfold StandsT at this
        simp only [Bool.false_eq_true, ↓reduceIte, List.append_nil] at this
        rw [this.trans hall.out]; rfl
      have hlen : (ts.take 31).length ≤ 31 := by simp; omega
      have hpa : PlanAt wr _ (ts.take 31) := hown.out.planAt (by omega) (fun j _ => by have := (hfew.out.take 31).needs j; omega)
      have hpn : PlanNew w.heap.size wr _ (ts.take 31) := hown.out.planNew (by omega) (fun j _ => by have := (hfew.out.take 31).needs j; omega)
      have hck := check_any _ _ wr hpa
      have HP : Hid (PlanNew w.heap.size wr _ (ts.take 31)) := hpn
      clear hpa hpn hst hall hown
      go_wp2_with fail
      refine hck.mono ?_
      rintro e w2 ⟨⟨p, q, rfl, hc⟩, hb2⟩
      clear hck
      have hB2 : Below w.heap.size w w2 := hb.trans (hb2.mono hb.size)
      by_cases hq : q = 0
      · subst hq
        rw [errV_zero]
        go_wp2
        go_ret2
        exact ⟨Or.inr ⟨ts, p, 0, HT.out, hfew.out, hc, Or.inr ⟨rfl, _, rfl, HP.out.later hb2⟩⟩, hB2⟩
      · have hev := errV_some hq
        rw [hev]
        have HV : Hid (errV q = .iface 97 (.int .i64 q)) := hev
        clear hev
        go_wp2
        go_ret2
        exact ⟨Or.inr ⟨ts, p, q, HT.out, hfew.out, hc, Or.inl ⟨hq, by rw [HV.out]; rfl⟩⟩, hB2⟩
    · have hcut := cut_any rest 32 wr (by omega) (HM.out.later hb)
      have hr := restOf_step 32 rest
      have hl1 := cutB_le1 32 rest
      have hl2 := cutB_le2 32 rest
      have HBad : Hid (taskOf (cutB 32 rest).1 = none → tasksOf l = none) := fun h => hst.out.bad h
      have HStep : Hid (StandsT l (done ++ [(cutB 32 rest).1]) (cutB 32 rest).2.1 (cutB 32 rest).2.2) := hst.out.step
      generalize hc1 : (cutB 32 rest).1 = word at *
      generalize hc2 : (cutB 32 rest).2.1 = rest2 at *
      generalize hc3 : (cutB 32 rest).2.2 = more2 at *
      clear hc1 hc2 hc3 hst
      go_wp2_with fail
      refine hcut.mono ?_
      rintro e w2 ⟨rfl, hb2⟩
      have hB2 : Below w.heap.size w w2 := hb.trans (hb2.mono hb.size)
      have hrt := readTask_any word w2 (by omega) (HE.out.later hB2) (HM.out.later hB2)
      clear hcut
      go_wp2_with fail
      refine hrt.mono ?_
      rintro e w3 ⟨hres, hb3⟩
      clear hrt
      have hB3 : Below w.heap.size w w3 := hB2.trans (hb3.mono hB2.size)
      have hown3 := (hown.out.later hb2).later hb3
      rcases hres with ⟨wk, nv, zs, htask, rfl, hrow⟩ | ⟨htask, rfl⟩
      · have HA : Hid (allOf taskOf (done ++ [word]) = some (ts ++ [(wk, zs)])) := allOf_snoc _ _ _ _ _ hall.out htask
        have HF : Hid (Few (ts ++ [(wk, zs)])) := by
          intro t ht
          rcases List.mem_append.1 ht with h | h
          · exact hfew.out t h
          · have := taskOf_len word _ htask
            rw [List.mem_singleton.1 h]; simp at this ⊢; omega
        obtain ⟨na, nc, rfl⟩ := hrow.shape
        obtain ⟨sa, sc, rfl⟩ := hown3.shape
        clear htask hall hfew hown hb2 hb3
        by_cases h30 : ts.length ≤ 30
        · have hlen : (ts.take 31).length ≤ 30 := by simp; omega
          have htk : ts.take 31 = ts := List.take_of_length_le (by omega)
          have hi : ((ts.take 31).length : Int) ≤ 30 := by omega
          have hbA : Below w3.heap.size w3 ((w3.alloc (.cells #[.int .i64 wk, .slice na zs.length nc] 94)).alloc (.cells #[.int .i64 wk, .slice na zs.length nc] 94)) := ((Below.refl _ _).alloc (Nat.le_refl _) _).alloc (by simp) _
          obtain ⟨xs, ho, hx⟩ := hown3.later hbA
          have HR : Hid (NeedsRow w.heap.size ((w3.alloc (.cells #[.int .i64 wk, .slice na zs.length nc] 94)).alloc (.cells #[.int .i64 wk, .slice na zs.length nc] 94)) (.slice na zs.length nc) zs) := (hrow.later hbA).mono hB2.size
          have HX : Hid (∀ j, j < (ts.take 31).length → xs[j * 2]? = some (.int .i64 ((ts.take 31).getD j (0, [])).1) ∧ ∃ nv, xs[j * 2 + 1]? = some nv ∧ NeedsRow w.heap.size ((w3.alloc (.cells #[.int .i64 wk, .slice na zs.length nc] 94)).alloc (.cells #[.int .i64 wk, .slice na zs.length nc] 94)) nv (needsOf (ts.take 31) j)) := hx
          have HTK : Hid (ts.take 31 = ts) := htk
          clear hx htk hown3 hrow
          generalize htt : ts.take 31 = tt at *
          clear htt
          go_wp2_with (at_builtin; refine wpList_append_own _ rfl (.tmp 33) (.tmp 35) 27 rfl w.heap.size 94 i30 (.agg #[.int .i64 0, .slice none 0 0]) 2 32 Tryz.underlying27 hi30 hz0 hz1 hz2 rfl (by decide) _ tt.length xs rfl ho ⟨w3.heap.size + 1, 0, none⟩ 1 1 [.int .i64 wk, .slice na zs.length nc] rfl rfl ?c1 ?c2 ?c3 ?c4 ?c5 ?_)
          case c1 =>
            have h2 := cell_two_new (w3.alloc (.cells #[.int .i64 wk, .slice na zs.length nc] 94)) (.int .i64 wk) (.slice na zs.length nc) 94
            rw [nblk_alloc] at h2
            exact h2
          case c2 => intro u hu; simp at hu; rcases hu with rfl | rfl <;> rfl
          case c3 => unfold maxLen; omega
          case c4 => omega
          case c5 => have := hB3.size; simp; omega
          intro v' w4 hown' hgrow _
          have hB4 : Below w.heap.size w w4 := (hB3.trans (hbA.mono hB3.size)).grown hgrow (by have := hB3.size; simp; omega) (fun j e => (ho.lt j e).1)
          have HO : Hid (OwnTasks w.heap.size w4 v' ((ts ++ [(wk, zs)]).take 31)) := by
            have := OwnTasks.append ho HX.out HR.out hown' hgrow
            rw [List.take_of_length_le (by simp; omega)]
            rw [← HTK.out]
            exact this
          clear hown' hgrow ho hbA HX HR
          go_wp2
          go_roundg (restOf rest2 more2)
          case measure => omega
          case rel => exact ⟨done ++ [word], rest2, more2, ts ++ [(wk, zs)], rfl, rfl, HO, HStep, HA, HF, hB4, by omega, Nat.le_refl _⟩
        · have hlen : (ts.take 31).length = 31 := by simp; omega
          have hi : ¬ ((ts.take 31).length : Int) ≤ 30 := by omega
          have hbA : Below w3.heap.size w3 (w3.alloc (.cells #[.int .i64 wk, .slice na zs.length nc] 94)) := (Below.refl _ _).alloc (Nat.le_refl _) _
          have HO : Hid (OwnTasks w.heap.size (w3.alloc (.cells #[.int .i64 wk, .slice na zs.length nc] 94)) (.slice sa (ts.take 31).length sc) ((ts ++ [(wk, zs)]).take 31)) := by
            have := hown3.later hbA
            rw [List.take_append_of_le_length (by omega)]
            exact this
          clear hown3 hrow hlen
          generalize (ts.take 31).length = tl at *
          go_wp2
          go_roundg (restOf rest2 more2)
          case measure => omega
          case rel => exact ⟨done ++ [word], rest2, more2, ts ++ [(wk, zs)], rfl, rfl, HO, HStep, HA, HF, hB3.trans (hbA.mono hB3.size), by omega, Nat.le_refl _⟩
      · have HF : Hid (tasksOf l = none) := HBad.out htask
        clear htask hown3 hown
        go_wp2
        go_ret2
        exact ⟨Or.inl ⟨HF.out, rfl⟩, hB3.alloc hB3.size _⟩
end Go.Proofs.YtlfbdjeojgbniaaGreatDoor

namespace Go.Proofs.YtlfbdjeojgbniaaGreatDoor
open Go.RowKit Go.Deep

theorem joinC_snoc (c : UInt8) (ws : List (List UInt8)) (x : List UInt8) : joinC c (ws ++ [x]) = if ws = [] then x else joinC c ws ++ c :: x := by
  induction ws with
  | nil => rfl
  | cons a r ih =>
    cases r with
    | nil => rfl
    | cons b r =>
      have e : joinC c ((a :: b :: r) ++ [x]) = a ++ c :: joinC c ((b :: r) ++ [x]) := rfl
      rw [e, ih]
      simp [joinC]

/-- The text of the first k needs. -/
def needsText (zs : List Int) (k : Nat) : List UInt8 := if zs.take k = [] then [] else 60 :: joinC 44 ((zs.take k).map digs)
def markAt (k : Nat) : Nat := if k = 0 then 60 else 44

theorem needsText_zero (zs : List Int) : needsText zs 0 = [] := by simp [needsText]
theorem needsText_succ (zs : List Int) (k : Nat) (hk : k < zs.length) : needsText zs (k + 1) = (needsText zs k ++ [UInt8.ofNat (markAt k)]) ++ digs (zs.getD k 0) := by
  have he : zs.getD k 0 = zs[k] := by rw [List.getD_eq_getElem?_getD, List.getElem?_eq_getElem hk]; rfl
  unfold needsText
  rw [List.take_succ_eq_append_getElem hk, if_neg (fun e => by have := congrArg List.length e; simp only [List.length_append, List.length_singleton, List.length_nil] at this; omega), List.map_append, List.map_singleton, joinC_snoc, he]
  by_cases h0 : k = 0
  · subst h0; simp [markAt]
  · have h1 : zs.take k ≠ [] := by
      intro e
      have := congrArg List.length e
      simp only [List.length_take, List.length_nil] at this; omega
    rw [if_neg (by simpa using h1), if_neg h1]
    simp [markAt, h0]
theorem needsText_all (zs : List Int) : needsText zs zs.length = if zs = [] then [] else 60 :: joinC 44 (zs.map digs) := by
  unfold needsText; rw [List.take_length]

theorem digsP_len (z : Int) (h : 0 ≤ z ∧ z < 100) : (digs z).length ≤ 2 := by
  unfold digs
  by_cases h1 : z.toNat < 10
  · rw [dec_small _ h1]; simp
  · rw [dec_two _ (by omega) (by omega)]; simp
theorem needsText_len (zs : List Int) (h : ∀ z, z ∈ zs → 0 ≤ z ∧ z < 100) : ∀ k, k ≤ zs.length → (needsText zs k).length ≤ 3 * k := by
  intro k
  induction k with
  | zero => intro _; rw [needsText_zero]; simp
  | succ k ih =>
    intro hk
    rw [needsText_succ zs k (by omega)]
    have hm : zs.getD k 0 ∈ zs := by rw [List.getD_eq_getElem?_getD, List.getElem?_eq_getElem (by omega)]; exact List.getElem_mem _
    have := digsP_len _ (h _ hm)
    have := ih (by omega)
    simp at *; omega

set_option maxRecDepth 100000 in
set_option maxHeartbeats 4000000 in
theorem writeTask_any (w0 w : World) (b : Nat) (acc : List UInt8) (wk : Int) (nv : Value) (zs : List Int) (hb0 : Below w0.heap.size w0 w) (h : BuildsAt w0.heap.size b w acc) (hz : IntsAt w0 nv zs) (hw : 0 ≤ wk ∧ wk < 100) (hs : ∀ z, z ∈ zs → 0 ≤ z ∧ z < 100)
    (hl : acc.length + 10 ≤ 50000000) (hzl : zs.length ≤ 10000000) :
    Calls Tryz.prog 121 #[.pointer (some ⟨b, 0, none⟩), .agg #[.int .i64 wk, nv]] w fun e w' => e = .returned (.tuple #[]) ∧ BuildsAt w0.heap.size b w' (acc ++ taskText (wk, zs)) ∧ Below w0.heap.size w0 w' := by
  obtain ⟨n, rfl⟩ := Int.eq_ofNat_of_zero_le hw.1
  have hdl := digsP_len (n : Int) hw
  have HTX : Hid (taskText ((n : Int), zs) = digs (n : Int) ++ needsText zs zs.length) := by unfold taskText; rw [needsText_all]; rfl
  have hbA : Below w0.heap.size w0 (w.alloc (.cells #[.int .i64 (n : Int), nv] 94)) := hb0.alloc hb0.size _
  obtain ⟨a2, c2, hnv⟩ : ∃ a2 c2, nv = .slice a2 zs.length c2 := by
    obtain ⟨_, a2, c2, h, _⟩ := hz
    exact ⟨a2, c2, h⟩
  subst hnv
  have hnum := fun W => putNumber n (by omega) W
  have h1 : BuildsAt w0.heap.size b (w.alloc (.cells #[.int .i64 (n : Int), .slice a2 zs.length c2] 94)) acc := h.later ((Below.refl _ _).alloc (Nat.le_refl _) _)
  have hps := putString w0.heap.size b acc (digs (n : Int)) _ h1 (by omega) hbA.size
  have HZ : Hid (IntsAt w0 (.slice a2 zs.length c2) zs) := hz
  have hblk : (w.alloc (.cells #[.int .i64 (n : Int), .slice a2 zs.length c2] 94)).heap[w.heap.size]? = some (.cells #[.int .i64 (n : Int), .slice a2 zs.length c2] 94 (0, 0)) := blk_alloc_new _ _
  have HB : Hid (BuildsAt w0.heap.size b w acc) := h
  clear hz h h1
  have hblt : b < w.heap.size := by
    rcases HB.out with h | h
    · exact h.lt
    · exact h.lt
  have hnb : w.heap.size ≠ b := by omega
  go_enter Tryz.func121, Tryz.ntmps121
  go_wp2_with (go_at_call 95; refine (hnum _).mono ?_; rintro e w' ⟨rfl, rfl⟩)
  refine hps.mono ?_
  rintro e w2 ⟨⟨kk, rfl⟩, h2, hb2, hk2⟩
  have hB2 : Below w0.heap.size w0 w2 := hbA.trans hb2
  have hblk2 := hk2 _ _ _ hblk (by decide) hnb
  have c1 : w2.cell? ⟨w.heap.size, 1, none⟩ = some (.slice a2 zs.length c2) := by simp [World.cell?, hblk2]
  have H2 : Hid (BuildsAt w0.heap.size b w2 (acc ++ digs (n : Int))) := h2
  clear hps hblk hblk2 hk2 hb2 hbA h2 hnum HB
  go_wp2
  go_loopw [4, 15] (fun s4 s15 wr => ∃ k : Nat, k ≤ zs.length ∧ s15 = .int .i64 k ∧ s4 = .int .u8 (markAt k : Nat) ∧ Hid (BuildsAt w0.heap.size b wr ((acc ++ digs (n : Int)) ++ needsText zs k)) ∧ Below w0.heap.size w0 wr) (fun _ s15 _ => zs.length - (intOf s15).toNat)
  case atStart => exact ⟨0, Nat.zero_le _, rfl, rfl, by rw [needsText_zero, List.append_nil]; exact H2, hB2⟩
  case round =>
    clear H2 hB2 c1
    obtain ⟨k, hk, rfl, rfl, hbu, hB⟩ := hrel
    by_cases hkl : k < zs.length
    · obtain ⟨hl8, sa, sc, hsv, hcs⟩ := HZ.out
      simp only [Value.slice.injEq] at hsv
      obtain ⟨rfl, _, rfl⟩ := hsv
      rcases hcs with rfl | ⟨b2, o2, rfl, hbl2, hcells⟩
      · simp at hkl
      have hck := (hB.cell (p := ⟨b2, o2 + k, none⟩) hbl2).trans (hcells k hkl)
      have hmem : zs.getD k 0 ∈ zs := by rw [List.getD_eq_getElem?_getD, List.getElem?_eq_getElem hkl]; exact List.getElem_mem hkl
      have hzb := hs _ hmem
      have hstep := needsText_succ zs k hkl
      have hnl := needsText_len zs hs k hk
      have hdz := digsP_len _ hzb
      generalize hzz : zs.getD k 0 = z at *
      obtain ⟨m, rfl⟩ := Int.eq_ofNat_of_zero_le hzb.1
      have HST : Hid (needsText zs (k + 1) = (needsText zs k ++ [UInt8.ofNat (markAt k)]) ++ digs (m : Int)) := hstep
      have hmk : markAt k < 256 := by unfold markAt; split <;> omega
      have hmk1 : Hid (markAt (k + 1) = 44) := by unfold markAt; rw [if_neg (by omega)]; rfl
      have hpb := putByte w0.heap.size b ((acc ++ digs (n : Int)) ++ needsText zs k) (markAt k) hmk wr hbu.out (by simp only [List.length_append]; omega) hB.size
      have hpn := fun W => putNumber m (by omega) W
      clear hcells hmem hstep hzz HZ hbu
      go_wp2_with fail
      refine hpb.mono ?_
      rintro e w3 ⟨rfl, h3, hb3, _⟩
      have hB3 : Below w0.heap.size w0 w3 := hB.trans hb3
      have hps3 := putString w0.heap.size b _ (digs (m : Int)) w3 h3 (by simp only [List.length_append, List.length_singleton]; omega) hB3.size
      clear hpb h3
      go_wp2_with (go_at_call 95; refine (hpn _).mono ?_; rintro e w' ⟨rfl, rfl⟩)
      refine hps3.mono ?_
      rintro e w4 ⟨⟨kk2, rfl⟩, h4, hb4, _⟩
      have HB4 : Hid (BuildsAt w0.heap.size b w4 ((acc ++ digs (n : Int)) ++ needsText zs (k + 1))) := by
        rw [HST.out]
        simpa [Hid] using h4
      clear hps3 h4 hpn
      go_wp2
      go_roundw
      case rel => exact ⟨k + 1, by omega, by go_num, by rw [hmk1.out]; rfl, HB4, hB3.trans hb4⟩
      case measure => simp [intOf]; omega
    · have hke : k = zs.length := by omega
      have HK : Hid (k = zs.length) := hke
      clear hke
      go_wp2
      go_end0
      refine ⟨rfl, ?_, hB⟩
      rw [HTX.out, ← HK.out, ← List.append_assoc]
      exact hbu.out
end Go.Proofs.YtlfbdjeojgbniaaGreatDoor
