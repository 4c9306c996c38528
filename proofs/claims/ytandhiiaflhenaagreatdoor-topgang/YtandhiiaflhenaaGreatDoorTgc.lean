/- For TopGang: steps among the arguments, the box of a step; deeds are read as they were told; what Check tells. -/
import Derived.Test.YtandhiiaflhenaaGreatDoorTgb
import Derived.Test.YtandhiiaflhenaaGreatDoorTds
import Derived.Test.YtandhiiaflhenaaGreatDoorTrk
import Derived.Test.YtandhiiaflhenaaGreatDoorTke
import Derived.Test.YtandhiiaflhenaaGreatDoorPcd
namespace Go.Proofs.YtandhiiaflhenaaGreatDoor
open Go.RowKit Go.Deep

/-- The steps, each a list, lie in memory. -/
def Steps (w : World) (sa : Option Addr) (n : Nat) : Prop :=
  ∀ k, k < n → ∃ b off rv ys, sa = some ⟨b, off, none⟩ ∧ b < w.heap.size ∧ w.cell? ⟨b, off + k, none⟩ = some rv ∧ Rds (fun j => j < w.heap.size) w rv ys ∧ ys.length ≤ 9223372036854775000 ∧ ∀ z, z ∈ ys → z < 9223372036854775808
def VM (V : Nat) (w0 w : World) : Prop := w0.heap.size = V ∧ Below V w0 w ∧ ∃ x y, y < 9223372036854775808 ∧ x < 9223372036854775808 ∧ w.heap[V]? = some (.cells #[.int .i64 x, .int .i64 y] 39 (0, 0))
theorem VM.start (w : World) : VM w.heap.size w (w.alloc (.cells #[.int .i64 0, .int .i64 0] 39)) := ⟨rfl, (Below.refl _ _).alloc (Nat.le_refl _) _, 0, 0, by omega, by omega, heap_alloc_new w _⟩
theorem VM.set {V : Nat} {w0 w : World} (h : VM V w0 w) (k : Nat) (hk : k < 2) (z : Int) (hz : z < 9223372036854775808) : VM V w0 (w.setCell ⟨V, k, none⟩ (.int .i64 z)) := by
  obtain ⟨h0, hb, x, y, hy, hx1, hx⟩ := h
  refine ⟨h0, hb.setCell (Nat.le_refl _) _, ?_⟩
  rcases (by omega : k = 0 ∨ k = 1) with rfl | rfl
  · exact ⟨z, y, hy, hz, by rw [setCell_eq_setRow w V 0 _ 39 (0, 0) _ hx, setRow_heap w V _ _ 39 _ hx]; rfl⟩
  · exact ⟨x, z, hz, hx1, by rw [setCell_eq_setRow w V 1 _ 39 (0, 0) _ hx, setRow_heap w V _ _ 39 _ hx]; rfl⟩
theorem getD_memI {l : List Int} {k : Nat} (hk : k < l.length) : l.getD k 0 ∈ l := by
  rw [List.getD_eq_getElem?_getD, List.getElem?_eq_getElem hk]
  exact List.getElem_mem hk
theorem finOf_take {dl : List Deed} {k : Nat} (hk : k < dl.length) : finOf (dl.take (k + 1)) = finOf (dl.take k) ++ if (dl.getD k (0, 0, 0, 0)).1 = 4 then [(dl.getD k (0, 0, 0, 0)).2.2.1.toNat] else [] := by
  rw [List.take_succ_eq_append_getElem hk, finOf_append]
  congr 1
  rw [List.getD_eq_getElem?_getD, List.getElem?_eq_getElem hk]
  unfold finOf
  simp only [List.filter_cons, List.filter_nil, Option.getD_some]
  by_cases e : dl[k].1 = 4
  · simp [e]
  · simp [e]
theorem fin_mem {dl : List Deed} {k : Nat} (hk : k < dl.length) (h4 : (dl.getD k (0, 0, 0, 0)).1 = 4) : (dl.getD k (0, 0, 0, 0)).2.2.1.toNat ∈ finOf dl := by
  unfold finOf
  refine List.mem_map.2 ⟨dl.getD k (0, 0, 0, 0), List.mem_filter.2 ⟨?_, by simpa using h4⟩, rfl⟩
  rw [List.getD_eq_getElem?_getD, List.getElem?_eq_getElem hk]
  exact List.getElem_mem hk
theorem deedE_task {d : Deed} (h : deedE d = 0) : 0 ≤ d.2.2.1 := by
  unfold deedE at h
  by_cases hc : d.1 < 1 ∨ 6 < d.1 ∨ d.2.1 < 0 ∨ 5 < d.2.1 ∨ d.2.2.1 < 0 ∨ 29 < d.2.2.1 ∨ (d.1 = 2 ∧ (d.2.2.2 < 0 ∨ 5 < d.2.2.2))
  · rw [if_pos hc] at h; omega
  · omega
theorem deeds_fine {ds : List Deed} (hl : ds.length ≤ 1000) (he : ∀ d, d ∈ ds → deedE d = 0) : deedsErr ds = 0 :=
  (if_neg (by omega)).trans (firstE_none ds (fun j hj => he _ (by rw [List.getD_eq_getElem?_getD, List.getElem?_eq_getElem hj]; exact List.getElem_mem hj)))
theorem text_back {ds : List Deed} (h : deedsErr ds = 0) : pErr (deedsText ds) = 0 ∧ pDeeds (deedsText ds) = ds := by
  have hd := deeds_text (deedsErr_zero h).2
  have hp : pErr (deedsText ds) = 0 := by unfold pErr; rw [hd]; exact h
  exact ⟨hp, by unfold pDeeds; rw [if_pos hp, hd]; rfl⟩
theorem check_fine {v dv : Value} {ts : List (Int × List Int)} {hands : Nat} {ds : List Deed} {wx : World} (hc : CheckIs ts 0 0) (h1 : 1 ≤ hands) (h6 : hands ≤ 6) (hp : PlanAt wx v ts) (hd : DeedsAt wx dv ds) (he : deedsErr ds = 0) (ht : trErrs ts hands trNew ds = 0) :
    Calls Tryz.prog 15 #[v, .int .i64 hands, dv] wx fun e w' => e = .returned .nilIface ∧ Below wx.heap.size wx w' := by
  have e1 : toldErr ts hands ds = 0 := (if_pos he).trans ht
  have := trCheck_in v dv ts hands ds wx hp hd hc h1 h6
  rwa [e1] at this
/-- How long a text of deeds is at most. -/
theorem RowI.intsAtG {b : Nat} {w : World} {v : Value} {zs : List Int} (h : RowI b w v zs) (hl : zs.length * 8 ≤ 140737488351232) : IntsAt w v zs := by
  refine ⟨hl, ?_⟩
  obtain ⟨a, c, rfl⟩ := h.shape
  refine ⟨a, c, rfl, ?_⟩
  by_cases h0 : zs = []
  · exact Or.inl h0
  · obtain ⟨g, c', hv, hg⟩ := h.full (List.length_pos_iff.2 h0)
    simp only [Value.slice.injEq] at hv
    obtain ⟨rfl, _, rfl⟩ := hv
    exact Or.inr ⟨g, 0, rfl, hg.2.1, fun k hk => by rw [Nat.zero_add]; exact h.cell hk⟩
/-- Where the hands begin to go in turn. -/
def TR (ts : List (Int × List Int)) (hands room tot tn i : Nat) (g : Gs) : Prop :=
  tn ≤ i → ∃ g0 ord0 ds0, PL ts hands room tot g0 ord0 ds0 ∧ g = grot ts room hands tn g0 (i - tn)
theorem TR.start {ts : List (Int × List Int)} {hands room tot tn i : Nat} {g : Gs} {ord : List Nat} {ds : List Deed} (h : PL ts hands room tot g ord ds) (hi : i ≤ tn) : TR ts hands room tot tn i g := fun hti => by
  obtain rfl : i = tn := by omega
  exact ⟨g, ord, ds, h, by rw [Nat.sub_self]; rfl⟩
theorem TR.next {ts : List (Int × List Int)} {hands room tot tn i : Nat} {g : Gs} (h : TR ts hands room tot tn i g) (hi : tn ≤ i) : TR ts hands room tot tn (i + 1) (gstep ts room hands g (i % hands) i) := fun _ => by
  obtain ⟨g0, ord0, ds0, h0, rfl⟩ := h hi
  refine ⟨g0, ord0, ds0, h0, ?_⟩
  rw [show i + 1 - tn = (i - tn) + 1 by omega, grot_succ, show tn + (i - tn) = i by omega]
/-- At the end all are done. -/
theorem TR.done {ts : List (Int × List Int)} {hands room tot tn : Nat} {g : Gs} (hg : Good ts) (hw : ∀ i, i < ts.length → 1 ≤ workOf ts i) (hr1 : 1 ≤ room) (h1 : 1 ≤ hands) (h : TR ts hands room tot tn (tn + hands * tot) g) : ∀ k, k < ts.length → g.S k = true := by
  obtain ⟨g0, ord0, ds0, h0, rfl⟩ := h (by omega)
  obtain ⟨R, hR, hle⟩ := h0.rm
  rw [show tn + hands * tot - tn = hands * tot by omega]
  exact rot_done hR h0.inv hg hw hr1 h1 tn hle
end Go.Proofs.YtandhiiaflhenaaGreatDoor
