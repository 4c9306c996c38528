/- The walk of JoinEnds. -/
import Derived.Test.YtabmagmgoaiehaaV
namespace Go.Proofs.Ytabmagmgoaiehaa
open Go.RowKit Go.Deep

theorem least (P : Nat → Prop) : ∀ n, P n → ∃ k, P k ∧ ∀ j, j < k → ¬ P j := by
  intro n
  induction n using Nat.strongRecOn with
  | _ n ih =>
    intro hn
    by_cases h : ∃ j, j < n ∧ P j
    · obtain ⟨j, hj, hp⟩ := h
      exact ih j hj hp
    · exact ⟨n, hn, fun j hj hp => h ⟨j, hj, hp⟩⟩
theorem check_exists (ts : List (Int × List Int)) : ∃ p q, CheckIs ts p q := by
  by_cases h30 : 30 < ts.length
  · exact ⟨_, _, CheckIs.full h30⟩
  by_cases he : ∃ k, k < ts.length ∧ errOf ts k ≠ 0
  · obtain ⟨k0, h0⟩ := he
    obtain ⟨k, ⟨h1, h2⟩, h3⟩ := least (fun k => k < ts.length ∧ errOf ts k ≠ 0) k0 h0
    refine ⟨_, _, CheckIs.task k (by omega) h1 (fun j hj => ?_) h2⟩
    by_cases e : errOf ts j = 0
    · exact e
    · exact absurd ⟨by omega, e⟩ (h3 j hj)
  have hall : ∀ j, j < ts.length → errOf ts j = 0 := fun j hj => by
    by_cases e : errOf ts j = 0
    · exact e
    · exact absurd ⟨j, hj, e⟩ he
  by_cases hr : ∃ k, k < ts.length ∧ Reach ts k k
  · obtain ⟨k0, h0⟩ := hr
    obtain ⟨k, ⟨h1, h2⟩, h3⟩ := least (fun k => k < ts.length ∧ Reach ts k k) k0 h0
    exact ⟨_, _, CheckIs.ring k (by omega) hall h1 (fun j hj e => h3 j hj ⟨by omega, e⟩) h2⟩
  · exact ⟨_, _, CheckIs.none (by omega) hall (fun j hj e => hr ⟨j, hj, e⟩)⟩

theorem rowIs_type {w : World} {b n n' : Nat} {t t' : TypeId} {f f' : Nat → Value} (h : w.rowIs b t n f) (h' : w.rowIs b t' n' f') : t = t' := by
  obtain ⟨c, hb, _⟩ := h
  obtain ⟨c', hb', _⟩ := h'
  rw [hb] at hb'
  simp at hb'
  exact hb'.2
theorem DoneAt.not_row {w : World} {B n n' : Nat} {S : Nat → Bool} {t : TypeId} {f : Nat → Value} (h : DoneAt w B n S) (h' : w.rowIs B t n' f) : False := by
  obtain ⟨m, D, ⟨es, clock, hb, _⟩, _⟩ := h
  obtain ⟨c, hb', _⟩ := h'
  rw [hb] at hb'
  simp at hb'
theorem RowI.not_row {C b n : Nat} {w : World} {v : Value} {zs : List Int} {t : TypeId} {f : Nat → Value} (h : RowI C w v zs) (hb : v.ownBlock = some b) (h' : w.rowIs b t n f) : t = 3 := by
  rcases h.2 with ⟨rfl, _⟩ | ⟨g, cap, cur, rfl, _, hh, _⟩
  · simp [Value.ownBlock] at hb
  · simp only [Value.ownBlock, Option.some.injEq] at hb
    subst hb
    obtain ⟨c, hb', _⟩ := h'
    rw [hh] at hb'
    simp at hb'
    exact hb'.2.symm
/-- A join feels nothing of bools that are written. -/
theorem Jn.setBool {J M A D C n T n' x : Nat} {miss : Nat → Nat} {aft : Nat → List Nat} {S : Nat → Bool} {w : World} {f : Nat → Value} (h : Jn J M A D C n miss aft S w) (hT : w.rowIs T 4 n' f) (u : Value) : Jn J M A D C n miss aft S (w.setCell ⟨T, x, none⟩ u) := by
  have keep : ∀ k, k ≠ T → (w.setCell ⟨T, x, none⟩ u).heap[k]? = w.heap[k]? := fun k hk => Below.heap_setCell _ _ _ _ (by show k ≠ T; exact hk)
  obtain ⟨av, ha⟩ := h.aft
  refine ⟨h.row.of_block (keep J ?_), h.miss.of_block (keep M ?_), ⟨av, ha.row.of_block (keep A ?_), fun k hk => (ha.own k hk).of_blocks (fun b hb => keep b ?_)⟩, h.done.of_block (keep D ?_), h.lt, h.ne, h.le⟩
  · rintro rfl; exact absurd (rowIs_type h.row hT) (by decide)
  · rintro rfl; exact absurd (rowIs_type h.miss hT) (by decide)
  · rintro rfl; exact absurd (rowIs_type ha.row hT) (by decide)
  · rintro rfl; exact absurd ((ha.own k hk).not_row hb hT) (by decide)
  · rintro rfl; exact h.done.not_row hT

/-- What JoinEnds has in memory: a join, and what was told. -/
structure EM (J M A D C T : Nat) (ts : List (Int × List Int)) (S td : Nat → Bool) (w wr : World) : Prop where
  jn : JnT J M A D C ts S wr
  row : wr.rowIs T 4 ts.length (fun k => .bool (td k))
  low : w.heap.size ≤ M ∧ w.heap.size ≤ A ∧ w.heap.size ≤ D ∧ w.heap.size ≤ T
  below : Below w.heap.size w wr
section
variable {J M A D C T : Nat} {ts : List (Int × List Int)} {S td : Nat → Bool} {w wr w' : World}
theorem EM.later (h : EM J M A D C T ts S td w wr) (hb : Below wr.heap.size wr w') : EM J M A D C T ts S td w w' :=
  ⟨Jn.later h.jn hb, h.row.of_block (hb.block _ h.row.lt), h.low, h.below.trans (hb.mono h.below.size)⟩
theorem EM.congr {td' : Nat → Bool} (h : EM J M A D C T ts S td w wr) (e : ∀ k, k < ts.length → td k = td' k) : EM J M A D C T ts S td' w wr :=
  ⟨h.jn, h.row.congr (fun k hk => by rw [e k hk]), h.low, h.below⟩
theorem EM.done {x : Nat} (h : EM J M A D C T ts S td w wr) (hj : JnT J M A D C ts (mark S x) w') (hk : Kx (fun k => k = M ∨ k = A ∨ k = D) wr w') : EM J M A D C T ts (mark S x) td w w' := by
  obtain ⟨l1, l2, l3, l4⟩ := h.low
  refine ⟨hj, h.row.of_block (hk.block T h.row.lt ?_), h.low, h.below.trans (hk.below (fun j e => by rcases e with e | e | e <;> omega) h.below.size)⟩
  rintro (rfl | rfl | rfl)
  · exact absurd (rowIs_type (Jn.miss h.jn) h.row) (by decide)
  · obtain ⟨av, ha⟩ := Jn.aft h.jn
    exact absurd (rowIs_type ha.row h.row) (by decide)
  · exact (Jn.done h.jn).not_row h.row
theorem EM.mark (h : EM J M A D C T ts S td w wr) (k : Nat) : EM J M A D C T ts S (mark td k) w (wr.setCell ⟨T, k, none⟩ (.bool true)) :=
  ⟨Jn.setBool h.jn h.row _, (h.row.set k _).congr (fun j _ => by unfold Go.Proofs.Ytabmagmgoaiehaa.mark; split <;> simp_all), h.low, h.below.setCell h.low.2.2.2 _⟩
end

/-- So many of a list are marked, beside what was. -/
def markTo (td : Nat → Bool) (l : List Nat) (m : Nat) : Nat → Bool := fun k => td k || (l.take m).contains k
theorem markTo_zero (td : Nat → Bool) (l : List Nat) : markTo td l 0 = td := by funext k; simp [markTo]
theorem markTo_succ (td : Nat → Bool) {l : List Nat} {m : Nat} (h : m < l.length) : mark (markTo td l m) (l.getD m 0) = markTo td l (m + 1) := by
  funext k
  unfold mark markTo
  rw [nat_take_last h]
  by_cases e : k = l.getD m 0
  · rw [if_pos e, e]; simp
  · rw [if_neg e]
    rw [Bool.eq_iff_iff]
    simp only [Bool.or_eq_true, List.contains_iff_mem, List.mem_append, List.mem_singleton]
    constructor
    · rintro (h | h)
      · exact Or.inl h
      · exact Or.inr (Or.inl h)
    · rintro (h | h | h)
      · exact Or.inl h
      · exact Or.inr h
      · exact absurd h e
theorem markTo_not {td : Nat → Bool} {l : List Nat} (hd : l.Nodup) {m : Nat} (h : m < l.length) (ht : td (l.getD m 0) = false) : markTo td l m (l.getD m 0) = false := by
  unfold markTo
  rw [ht, Bool.false_or, Bool.eq_false_iff]
  intro hc
  exact nodup_not_take hd h (List.contains_iff_mem.1 hc)
theorem markTo_all (td : Nat → Bool) (l : List Nat) (k : Nat) : markTo td l l.length k = (td k || l.contains k) := by unfold markTo; rw [List.take_length]

theorem told_first {ts : List (Int × List Int)} {k : Nat} (hk : k < ts.length) : (false || (readyTo ts (fun _ => false) ts.length).contains k) = toldB ts (fun _ => false) k := by
  unfold toldB
  rw [Bool.false_or, Bool.false_or, Bool.eq_iff_iff, List.contains_iff_mem, mem_readyTo]
  simp [hk]

theorem lit_plan (w : World) : PlanAt ((w.alloc (.cells #[.int .i64 0] 3)).alloc (.cells #[.int .i64 1, .slice none 0 0, .int .i64 1, .slice (some ⟨w.heap.size, 0, none⟩) 1 1] 31)) (.slice (some ⟨w.heap.size + 1, 0, none⟩) 2 2) (chainTs 1 2) := by
  have hb : ((w.alloc (.cells #[.int .i64 0] 3)).alloc (.cells #[.int .i64 1, .slice none 0 0, .int .i64 1, .slice (some ⟨w.heap.size, 0, none⟩) 1 1] 31)).heap[w.heap.size + 1]? = some (.cells #[.int .i64 1, .slice none 0 0, .int .i64 1, .slice (some ⟨w.heap.size, 0, none⟩) 1 1] 31 (0, 0)) := by
    have := blk_alloc_new (w.alloc (.cells #[.int .i64 0] 3)) (.cells #[.int .i64 1, .slice none 0 0, .int .i64 1, .slice (some ⟨w.heap.size, 0, none⟩) 1 1] 31)
    rwa [nblk_alloc] at this
  have hb0 : ((w.alloc (.cells #[.int .i64 0] 3)).alloc (.cells #[.int .i64 1, .slice none 0 0, .int .i64 1, .slice (some ⟨w.heap.size, 0, none⟩) 1 1] 31)).heap[w.heap.size]? = some (.cells #[.int .i64 0] 3 (0, 0)) := by
    rw [blk_alloc_lt _ _ _ (by simp), blk_alloc_new]
  generalize ((w.alloc (.cells #[.int .i64 0] 3)).alloc (.cells #[.int .i64 1, .slice none 0 0, .int .i64 1, .slice (some ⟨w.heap.size, 0, none⟩) 1 1] 31)) = W at hb hb0 ⊢
  have hl := (Array.getElem?_eq_some_iff.1 hb).1
  have hl0 := (Array.getElem?_eq_some_iff.1 hb0).1
  refine ⟨by simp [chainTs], _, _, rfl, Or.inr ⟨w.heap.size + 1, 0, rfl, hl, fun k hk => ?_⟩⟩
  have hk2 : k < 2 := by simpa [chainTs] using hk
  rcases (by omega : k = 0 ∨ k = 1) with rfl | rfl
  · refine ⟨by simp [World.cell?, hb, chainTs], _, by simp [World.cell?, hb]; rfl, ?_⟩
    exact ⟨by simp [needsOf, chainTs], none, 0, rfl, Or.inl rfl⟩
  · refine ⟨by simp [World.cell?, hb, chainTs], _, by simp [World.cell?, hb]; rfl, ?_⟩
    refine ⟨by simp [needsOf, chainTs], _, _, rfl, Or.inr ⟨w.heap.size, 0, rfl, hl0, fun j hj => ?_⟩⟩
    have hj1 : j < 1 := by simpa [needsOf, chainTs] using hj
    obtain rfl : j = 0 := by omega
    simp [World.cell?, hb0, needsOf, chainTs]
end Go.Proofs.Ytabmagmgoaiehaa
