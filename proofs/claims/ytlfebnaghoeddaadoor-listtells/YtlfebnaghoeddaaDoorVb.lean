/- What the document's list run has in memory at a time: who is busy, who is done, who is taken. -/
import Derived.Test.YtlfebnaghoeddaaDoorVa
namespace Go.Proofs.YtlfebnaghoeddaaDoor
open Go.RowKit Go.Deep

def updB (f : Nat → Bool) (x : Nat) : Nat → Bool := fun y => if y = x then true else f y
def markR (f : Nat → Bool) : Nat → Value := fun k => .bool (f k)
theorem row_updB {w : World} {b n x : Nat} {f : Nat → Bool} (h : w.rowIs b 4 n (markR f)) : (w.setCell ⟨b, x, none⟩ (.bool true)).rowIs b 4 n (markR (updB f x)) :=
  (h.set x _).congr (fun k _ => by unfold markR updB; split <;> rfl)

/-- A stay's length of a slice value. -/
def slen : Value → Nat | .slice _ n _ => n | _ => 0

theorem take_sty {l : List Sty} {k : Nat} (hk : k < l.length) : l.take (k + 1) = l.take k ++ [l.getD k (0, 0, 0, 0)] := by
  rw [List.take_succ_eq_append_getElem hk, List.getD_eq_getElem?_getD, List.getElem?_eq_getElem hk]; rfl
theorem sty_mem {l : List Sty} {k : Nat} (hk : k < l.length) : l.getD k (0, 0, 0, 0) ∈ l := by
  rw [List.getD_eq_getElem?_getD, List.getElem?_eq_getElem hk]; exact List.getElem_mem hk
theorem took_snoc (l : List Sty) (s : Sty) : tookB (l ++ [s]) = updB (tookB l) s.2.1 := by
  funext x
  unfold updB tookB
  rw [List.any_append]
  by_cases e : x = s.2.1
  · simp [e]
  · have : ¬ s.2.1 = x := fun h => e h.symm
    simp [e, this]
theorem busy_snoc_yes (l : List Sty) (s : Sty) {t : Nat} (h : t < s.2.2.2) : busyB (l ++ [s]) t = updB (busyB l t) s.1 := by
  funext x
  unfold updB busyB
  rw [List.any_append]
  by_cases e : x = s.1
  · simp [e, h]
  · have : ¬ s.1 = x := fun h => e h.symm
    simp [e, this]
theorem busy_snoc_no (l : List Sty) (s : Sty) {t : Nat} (h : ¬ t < s.2.2.2) : busyB (l ++ [s]) t = busyB l t := by
  funext x
  unfold busyB
  rw [List.any_append]
  simp [h]
theorem done_snoc_yes (l : List Sty) (s : Sty) {t : Nat} (h : ¬ t < s.2.2.2) : doneB (l ++ [s]) t = updB (doneB l t) s.2.1 := by
  funext x
  have h' : s.2.2.2 ≤ t := by omega
  unfold updB doneB
  rw [List.any_append]
  by_cases e : x = s.2.1
  · simp [e, h']
  · have : ¬ s.2.1 = x := fun h => e h.symm
    simp [e, this]
theorem done_snoc_no (l : List Sty) (s : Sty) {t : Nat} (h : t < s.2.2.2) : doneB (l ++ [s]) t = doneB l t := by
  funext x
  have h' : ¬ s.2.2.2 ≤ t := by omega
  unfold doneB
  rw [List.any_append]
  simp [h']

/-- Three rows of marks. -/
structure TMem (M n h : Nat) (w wr : World) (bf df tf : Nat → Bool) : Prop where
  busy : wr.rowIs M 4 h (markR bf)
  done : wr.rowIs (M + 1) 4 n (markR df)
  took : wr.rowIs (M + 1 + 1) 4 n (markR tf)
  below : Below M w wr
theorem TMem.size {M n h : Nat} {w wr : World} {bf df tf : Nat → Bool} (m : TMem M n h w wr bf df tf) : M + 1 + 1 < wr.heap.size := m.took.lt
theorem TMem.later {M n h : Nat} {w wr w' : World} {bf df tf : Nat → Bool} (m : TMem M n h w wr bf df tf) (hb : Below wr.heap.size wr w') : TMem M n h w w' bf df tf :=
  ⟨m.busy.of_block (hb.block _ m.busy.lt), m.done.of_block (hb.block _ m.done.lt), m.took.of_block (hb.block _ m.took.lt), m.below.trans (hb.mono (by have := m.size; omega))⟩
theorem TMem.setB {M n h : Nat} {w wr : World} {bf df tf : Nat → Bool} (m : TMem M n h w wr bf df tf) (x : Nat) : TMem M n h w (wr.setCell ⟨M, x, none⟩ (.bool true)) (updB bf x) df tf :=
  ⟨row_updB m.busy, m.done.of_block (Below.heap_setCell wr ⟨M, x, none⟩ _ _ (by show M + 1 ≠ M; omega)), m.took.of_block (Below.heap_setCell wr ⟨M, x, none⟩ _ _ (by show M + 1 + 1 ≠ M; omega)), m.below.setCell (p := ⟨M, x, none⟩) (Nat.le_refl _) _⟩
theorem TMem.setD {M n h : Nat} {w wr : World} {bf df tf : Nat → Bool} (m : TMem M n h w wr bf df tf) (x : Nat) : TMem M n h w (wr.setCell ⟨M + 1, x, none⟩ (.bool true)) bf (updB df x) tf :=
  ⟨m.busy.of_block (Below.heap_setCell wr ⟨M + 1, x, none⟩ _ _ (by show M ≠ M + 1; omega)), row_updB m.done, m.took.of_block (Below.heap_setCell wr ⟨M + 1, x, none⟩ _ _ (by show M + 1 + 1 ≠ M + 1; omega)), m.below.setCell (p := ⟨M + 1, x, none⟩) (by show M ≤ M + 1; omega) _⟩
theorem TMem.setT {M n h : Nat} {w wr : World} {bf df tf : Nat → Bool} (m : TMem M n h w wr bf df tf) (x : Nat) : TMem M n h w (wr.setCell ⟨M + 1 + 1, x, none⟩ (.bool true)) bf df (updB tf x) :=
  ⟨m.busy.of_block (Below.heap_setCell wr ⟨M + 1 + 1, x, none⟩ _ _ (by show M ≠ M + 1 + 1; omega)), m.done.of_block (Below.heap_setCell wr ⟨M + 1 + 1, x, none⟩ _ _ (by show M + 1 ≠ M + 1 + 1; omega)), row_updB m.took, m.below.setCell (p := ⟨M + 1 + 1, x, none⟩) (by show M ≤ M + 1 + 1; omega) _⟩
theorem TMem.start (w : World) (n h t : Nat) : TMem w.heap.size n h w (((w.alloc (.cells (madeCells #[.bool false] h) 4)).alloc (.cells (madeCells #[.bool false] n) 4)).alloc (.cells (madeCells #[.bool false] n) 4)) (busyB [] t) (doneB [] t) (tookB []) := by
  have e1 : (w.alloc (.cells (madeCells #[.bool false] h) 4)).heap.size = w.heap.size + 1 := by simp
  have e2 : ((w.alloc (.cells (madeCells #[.bool false] h) 4)).alloc (.cells (madeCells #[.bool false] n) 4)).heap.size = w.heap.size + 1 + 1 := by simp
  have r0 := World.rowIs_made w (.bool false) h 4
  have r1 := World.rowIs_made (w.alloc (.cells (madeCells #[.bool false] h) 4)) (.bool false) n 4
  have r2 := World.rowIs_made ((w.alloc (.cells (madeCells #[.bool false] h) 4)).alloc (.cells (madeCells #[.bool false] n) 4)) (.bool false) n 4
  rw [e1] at r1
  rw [e2] at r2
  exact ⟨((r0.alloc _).alloc _).congr (fun k _ => rfl), (r1.alloc _).congr (fun k _ => rfl), r2.congr (fun k _ => rfl), (((Below.refl _ _).alloc (Nat.le_refl _) _).alloc (by omega) _).alloc (by omega) _⟩
theorem TMem.bools {M n h : Nat} {w wr : World} {bf df tf : Nat → Bool} (m : TMem M n h w wr bf df tf) : BoolsAt wr (.slice (some ⟨M + 1, 0, none⟩) n n) n df :=
  ⟨M + 1, 0, n, rfl, m.done.lt, fun k hk => by rw [Nat.zero_add]; exact m.done.cell hk⟩
theorem TMem.busyIs {M n h : Nat} {w wr : World} {bf df tf : Nat → Bool} (m : TMem M n h w wr bf df tf) {k : Nat} (hk : k < h) : wr.cell? ⟨M, k, none⟩ = some (.bool (bf k)) := m.busy.cell hk
theorem TMem.doneIs {M n h : Nat} {w wr : World} {bf df tf : Nat → Bool} (m : TMem M n h w wr bf df tf) {k : Nat} (hk : k < n) : wr.cell? ⟨M + 1, k, none⟩ = some (.bool (df k)) := m.done.cell hk
theorem TMem.tookIs {M n h : Nat} {w wr : World} {bf df tf : Nat → Bool} (m : TMem M n h w wr bf df tf) {k : Nat} (hk : k < n) : wr.cell? ⟨M + 1 + 1, k, none⟩ = some (.bool (tf k)) := m.took.cell hk

section
variable {ts : List (Int × List Int)} {h : Nat} {ord : List Nat}
theorem Filling.takes (ho : ∀ x, x ∈ ord → x < ts.length) {t : Nat} {out : List Sty} {s : Sty} (hF : Filling ts h ord t 0 out) (hs : takeAt ts h ord t out = some s) : Filling ts h ord t 0 (out ++ [s]) ∧ out.length < ts.length := by
  have hlt : out.length < ts.length := Nat.lt_of_not_le fun hle => by
    rw [take_full ho hF.laid hle] at hs; cases hs
  refine ⟨⟨hF.laid.take ho hs, fun j hj => by omega, ?_⟩, hlt⟩
  rw [← hF.goes]
  obtain ⟨n, hn⟩ : ∃ n, ts.length - out.length = n + 1 := ⟨ts.length - out.length - 1, by omega⟩
  rw [hn]
  conv => rhs; unfold fillN
  rw [hs]
  dsimp only
  congr 1
  rw [List.length_append]
  simp
  omega
theorem take_of {t j x : Nat} {out : List Sty} (h1 : handAt out t h = some j) (h2 : taskAt ts out t ord = some x) : takeAt ts h ord t out = some (j, x, t, t + wkN ts x) := by
  unfold takeAt
  rw [h1, h2]
theorem take_noHand {t : Nat} {out : List Sty} (h1 : handAt out t h = none) : takeAt ts h ord t out = none := by
  unfold takeAt
  rw [h1]
theorem take_noTask {t : Nat} {out : List Sty} (h2 : taskAt ts out t ord = none) : takeAt ts h ord t out = none := by
  unfold takeAt
  rw [h2]
  split
  · rename_i h3; cases h3
  · rfl
theorem hand_at {t j : Nat} {out : List Sty} (hj : j < h) (hb : ∀ i, i < j → busyB out t i = true) (hn : busyB out t j = false) : handAt out t h = some j := by
  unfold handAt
  rw [List.find?_range_eq_some]
  exact ⟨by simp [hn], List.mem_range.2 hj, fun i hi => by simp [hb i hi]⟩
theorem hand_none {t : Nat} {out : List Sty} (hb : ∀ i, i < h → busyB out t i = true) : handAt out t h = none := by
  unfold handAt
  rw [List.find?_eq_none]
  intro i hi
  simp [hb i (List.mem_range.1 hi)]
theorem task_none {t : Nat} {out : List Sty} (hb : ∀ x, x ∈ ord → rdyS ts out t x = false) : taskAt ts out t ord = none := by
  unfold taskAt
  rw [List.find?_eq_none]
  intro x hx
  simp [hb x hx]
theorem task_at {t k : Nat} {out : List Sty} (hk : k < ord.length) (hb : ∀ x, x ∈ ord.take k → rdyS ts out t x = false) (hr : rdyS ts out t (ord.getD k 0) = true) : taskAt ts out t ord = some (ord.getD k 0) := find_none_take hk hb hr
theorem rdy_missing (t x : Nat) (out : List Sty) : rdyS ts out t x = (!tookB out x && !missing ts (doneB out t) x) := by
  unfold rdyS missing
  rw [List.not_any_eq_all_not]
  simp
end
end Go.Proofs.YtlfebnaghoeddaaDoor
