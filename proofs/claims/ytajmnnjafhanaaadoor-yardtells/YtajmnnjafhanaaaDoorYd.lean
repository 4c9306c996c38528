/- Jobs in memory; in a row of their own; what is wrong with jobs. (Made of the texts of ops, package cells, by names; not built before stage 16 has landed: no dump has had jobs.) -/
import Derived.Test.YtajmnnjafhanaaaDoorYc
namespace Go.Proofs.YtajmnnjafhanaaaDoor
open Go.RowKit Go.Deep

/-- A job: its weight, how much of it waits. -/
abbrev Jb := Int × Int
def wgtJ (os : List Jb) (k : Nat) : Int := (os.getD k (0, 0)).1
def wtsJ (os : List Jb) (k : Nat) : Int := (os.getD k (0, 0)).2
def okJ (os : List Jb) (k : Nat) : Bool := decide (1 ≤ wgtJ os k) && decide (wgtJ os k ≤ 20) && (decide (0 ≤ wtsJ os k) && decide (wtsJ os k ≤ 10000))
/-- What is wrong with jobs. -/
def jobErr (os : List Jb) : Int := if 6 < os.length then 4 else if (List.range os.length).all (okJ os) then 0 else 1
theorem jobErr_full {os : List Jb} (h : 6 < os.length) : jobErr os = 4 := by unfold jobErr; rw [if_pos h]
theorem jobErr_bad {os : List Jb} {k : Nat} (hl : ¬ 6 < os.length) (hk : k < os.length) (h : okJ os k = false) : jobErr os = 1 := by
  unfold jobErr
  rw [if_neg hl, if_neg]
  intro ha
  have := List.all_eq_true.1 ha k (List.mem_range.2 hk)
  rw [h] at this
  cases this
theorem jobErr_ok {os : List Jb} (hl : ¬ 6 < os.length) (h : ∀ k, k < os.length → okJ os k = true) : jobErr os = 0 := by
  unfold jobErr
  rw [if_neg hl, if_pos]
  exact List.all_eq_true.2 fun k hk => h k (List.mem_range.1 hk)
theorem jobErr_right {os : List Jb} (h : jobErr os = 0) : os.length ≤ 6 ∧ ∀ k, k < os.length → (1 ≤ wgtJ os k ∧ wgtJ os k ≤ 20) ∧ 0 ≤ wtsJ os k ∧ wtsJ os k ≤ 10000 := by
  unfold jobErr at h
  by_cases h1 : 6 < os.length
  · rw [if_pos h1] at h; omega
  · rw [if_neg h1] at h
    by_cases h2 : (List.range os.length).all (okJ os) = true
    · refine ⟨by omega, fun k hk => ?_⟩
      have := List.all_eq_true.1 h2 k (List.mem_range.2 hk)
      unfold okJ at this
      simpa using this
    · rw [if_neg h2] at h; omega
/-- A slice value whose elements are the jobs os, in the world w. -/
def JobsAt (w : World) (v : Value) (os : List Jb) : Prop :=
  os.length * 16 ≤ 140737488351232 ∧ ∃ a c, v = .slice a os.length c ∧ (os = [] ∨ ∃ b o, a = some ⟨b, o, none⟩ ∧ b < w.heap.size ∧
    ∀ k, k < os.length → w.cell? ⟨b, o + k * 2, none⟩ = some (.int .i64 (wgtJ os k)) ∧ w.cell? ⟨b, o + k * 2 + 1, none⟩ = some (.int .i64 (wtsJ os k)))
theorem JobsAt.later {w w' : World} {v : Value} {os : List Jb} (h : JobsAt w v os) (hb : Below w.heap.size w w') : JobsAt w' v os := by
  obtain ⟨hl, a, c, hv, h⟩ := h
  refine ⟨hl, a, c, hv, ?_⟩
  rcases h with h | ⟨b, o, ha, hlt, hc⟩
  · exact Or.inl h
  · refine Or.inr ⟨b, o, ha, Nat.lt_of_lt_of_le hlt hb.size, fun k hk => ?_⟩
    obtain ⟨h1, h2⟩ := hc k hk
    exact ⟨(hb.cell (p := ⟨b, o + k * 2, none⟩) hlt).trans h1, (hb.cell (p := ⟨b, o + k * 2 + 1, none⟩) hlt).trans h2⟩
theorem Tryd.info36 : (Tryd.prog.info? 36).map (fun i => (i.zero, i.size, i.bytes)) = some (some (.agg #[.int .i64 0, .int .i64 0]), 2, 16) := by kernel_rfl

/-- Jobs, cell by cell. -/
def flatJ (gs : List Jb) : List Value := gs.flatMap (fun g => [.int .i64 g.1, .int .i64 g.2])
theorem flatJ_length (gs : List Jb) : (flatJ gs).length = gs.length * 2 := by
  induction gs with
  | nil => rfl
  | cons a r ih =>
    show (([Value.int .i64 a.1, Value.int .i64 a.2] : List Value) ++ flatJ r).length = _
    rw [List.length_append, ih]
    simp
    omega
theorem flatJ_append (a b : List Jb) : flatJ (a ++ b) = flatJ a ++ flatJ b := by simp [flatJ]
theorem flatJ_at (gs : List Jb) : ∀ k, k < gs.length → (flatJ gs)[k * 2]? = some (.int .i64 (wgtJ gs k)) ∧ (flatJ gs)[k * 2 + 1]? = some (.int .i64 (wtsJ gs k)) := by
  induction gs with
  | nil => intro k hk; simp at hk
  | cons a r ih =>
    intro k hk
    show (([Value.int .i64 a.1, Value.int .i64 a.2] : List Value) ++ flatJ r)[k * 2]? = _ ∧ (([Value.int .i64 a.1, Value.int .i64 a.2] : List Value) ++ flatJ r)[k * 2 + 1]? = _
    cases k with
    | zero => exact ⟨rfl, rfl⟩
    | succ k =>
      have h := ih k (by simpa using hk)
      rw [List.getElem?_append_right (by simp; omega), List.getElem?_append_right (by simp; omega)]
      have e1 : (k + 1) * 2 - ([Value.int .i64 a.1, Value.int .i64 a.2] : List Value).length = k * 2 := by simp; omega
      have e2 : (k + 1) * 2 + 1 - ([Value.int .i64 a.1, Value.int .i64 a.2] : List Value).length = k * 2 + 1 := by simp; omega
      rw [e1, e2]
      exact h
theorem flatJ_one (gs : List Jb) : ∀ u ∈ flatJ gs, u.oneCell' = true := by
  intro u hu
  obtain ⟨g, _, h⟩ := List.mem_flatMap.1 hu
  simp at h
  rcases h with rfl | rfl <;> rfl
theorem ownsRow_low {w : World} {base base' : Nat} {e : TypeId} {size : Nat} {v : Value} {n : Nat} {xs : List Value} (h : w.ownsRow base e size v n xs) (hb : base' ≤ base) : w.ownsRow base' e size v n xs :=
  ⟨h.1, h.2.imp id (fun ⟨g, cap, cur, hv, hg, r⟩ => ⟨g, cap, cur, hv, Nat.le_trans hb hg, r⟩)⟩
/-- Jobs in a row of the call's own, in a block from b on. -/
def RowJ (b : Nat) (w : World) (v : Value) (gs : List Jb) : Prop := w.ownsRow b 36 2 v gs.length (flatJ gs)
theorem RowJ.at {b : Nat} {w : World} {v : Value} {gs : List Jb} (h : RowJ b w v gs) (hl : gs.length * 16 ≤ 140737488351232) : JobsAt w v gs := by
  refine ⟨hl, ?_⟩
  rcases h.2 with ⟨hv, h0⟩ | ⟨g, cap, cur, hv, _, hh, _⟩
  · exact ⟨none, 0, by rw [hv, h0], Or.inl (List.eq_nil_of_length_eq_zero h0)⟩
  · subst hv
    refine ⟨_, _, rfl, Or.inr ⟨g, 0, rfl, lt_of_block hh, fun k hk => ?_⟩⟩
    have e1 := World.ownsRow.cellAt h (k * 2) (by omega)
    have e2 := World.ownsRow.cellAt h (k * 2 + 1) (by omega)
    obtain ⟨h1, h2⟩ := flatJ_at gs k hk
    rw [Nat.zero_add]
    exact ⟨e1.trans h1, e2.trans h2⟩
theorem RowJ.later {b : Nat} {w w' : World} {v : Value} {gs : List Jb} (h : RowJ b w v gs) (hb : Below w.heap.size w w') : RowJ b w' v gs :=
  h.kept (row := none) ⟨hb.os, hb.tape, hb.output, hb.size, fun k hk _ => hb.block k hk⟩ (by cases v.ownBlock <;> simp)
theorem RowJ.shape {b : Nat} {w : World} {v : Value} {gs : List Jb} (h : RowJ b w v gs) (hn : 0 < gs.length) : ∃ g cap, v = .slice (some ⟨g, 0, none⟩) gs.length cap ∧ b ≤ g ∧ g < w.heap.size := by
  rcases h.2 with ⟨_, h0⟩ | ⟨g, cap, cur, hv, hg, hh, _⟩
  · omega
  · exact ⟨g, cap, hv, hg, lt_of_block hh⟩
/-- What an append of cells reads. -/
theorem jobs_src {w : World} {b o : Nat} {gs : List Jb} (hc : ∀ k, k < gs.length → w.cell? ⟨b, o + k * 2, none⟩ = some (.int .i64 (wgtJ gs k)) ∧ w.cell? ⟨b, o + k * 2 + 1, none⟩ = some (.int .i64 (wtsJ gs k))) :
    ∀ j u, (flatJ gs)[j]? = some u → w.cell? ((⟨b, o, none⟩ : Addr).add j) = some u := by
  intro j u hj
  have hjl : j < gs.length * 2 := by rw [← flatJ_length]; exact (List.getElem?_eq_some_iff.1 hj).1
  rw [add_lit]
  have h1 := flatJ_at gs (j / 2) (by omega)
  have h2 := hc (j / 2) (by omega)
  rcases Nat.mod_two_eq_zero_or_one j with e | e
  · have ej : j / 2 * 2 = j := by omega
    rw [ej] at h1 h2
    rw [h2.1, ← hj, h1.1]
  · have ej : j / 2 * 2 + 1 = j := by omega
    rw [Nat.add_assoc, ej] at h2
    rw [ej] at h1
    rw [h2.2, ← hj, h1.2]



theorem flatJ_set {os : List Jb} {i : Nat} (hi : i < os.length) (x y : Int) : ((flatJ os).set (i * 2) (.int .i64 x)).set (i * 2 + 1) (.int .i64 y) = flatJ (os.set i (x, y)) := by
  have hw : ∀ k, k < os.length → wgtJ (os.set i (x, y)) k = (if k = i then x else wgtJ os k) ∧ wtsJ (os.set i (x, y)) k = (if k = i then y else wtsJ os k) := fun k hk => by
    unfold wgtJ wtsJ
    rw [List.getD_eq_getElem?_getD, List.getElem?_set]
    by_cases e : i = k
    · subst e; simp [hk]
    · rw [if_neg e, if_neg (fun h => e h.symm), if_neg (fun h => e h.symm), List.getD_eq_getElem?_getD]
      exact ⟨rfl, rfl⟩
  refine List.ext_getElem? fun j => ?_
  by_cases hj : j < os.length * 2
  · have h1 := flatJ_at os (j / 2) (by omega)
    have h2 := flatJ_at (os.set i (x, y)) (j / 2) (by rw [List.length_set]; omega)
    rw [(hw (j / 2) (by omega)).1, (hw (j / 2) (by omega)).2] at h2
    rw [List.getElem?_set, List.getElem?_set]
    rcases Nat.mod_two_eq_zero_or_one j with e | e
    · have ej : j / 2 * 2 = j := by omega
      rw [ej] at h1 h2
      rw [if_neg (by omega), h2.1]
      by_cases e2 : i * 2 = j
      · rw [if_pos e2, if_pos (by rw [flatJ_length]; omega), if_pos (by omega)]
      · rw [if_neg e2, h1.1, if_neg (by omega)]
    · have ej : j / 2 * 2 + 1 = j := by omega
      rw [ej] at h1 h2
      by_cases e2 : i * 2 + 1 = j
      · rw [if_pos e2, if_pos (by rw [List.length_set, flatJ_length]; omega), h2.2, if_pos (by omega)]
      · rw [if_neg e2, if_neg (by omega), h1.2, h2.2, if_neg (by omega)]
  · rw [List.getElem?_eq_none (by simp [flatJ_length]; omega), List.getElem?_eq_none (by rw [flatJ_length, List.length_set]; omega)]
theorem RowJ.put {b g n c : Nat} {w : World} {os : List Jb} (h : RowJ b w (.slice (some ⟨g, 0, none⟩) n c) os) (hn : n = os.length) {i : Nat} (hi : i < os.length) (x y : Int) :
    RowJ b ((w.setCell ⟨g, i * 2, none⟩ (.int .i64 x)).setCell ⟨g, i * 2 + 1, none⟩ (.int .i64 y)) (.slice (some ⟨g, 0, none⟩) n c) (os.set i (x, y)) := by
  subst hn
  unfold RowJ at h ⊢
  rw [List.length_set, ← flatJ_set hi]
  exact (World.ownsRow.stored (World.ownsRow.stored h (i * 2) _).1 (i * 2 + 1) _).1
theorem RowJ.nil (b : Nat) (w : World) : RowJ b w (.slice none 0 0) [] := World.ownsRow_nil _ _ _ _
theorem RowJ.any {b : Nat} {w : World} {v : Value} {gs : List Jb} (h : RowJ b w v gs) : ∃ a c, v = .slice a gs.length c := by
  rcases h.2 with ⟨hv, h0⟩ | ⟨g, cap, cur, hv, _⟩
  · exact ⟨none, 0, by rw [hv, h0]⟩
  · exact ⟨_, _, hv⟩
end Go.Proofs.YtajmnnjafhanaaaDoor
