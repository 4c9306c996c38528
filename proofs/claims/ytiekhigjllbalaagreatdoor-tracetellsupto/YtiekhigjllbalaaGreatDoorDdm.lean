/- Deeds in memory: in a row of their own, read; append of deeds. -/
import Derived.Test.YtiekhigjllbalaaGreatDoorGngd
import Derived.Test.YtiekhigjllbalaaGreatDoorS
import Derived.Maps.AppendAt
import Derived.BigQuiet
namespace Go.Proofs.YtiekhigjllbalaaGreatDoor
open Go.RowKit Go.Deep

/-- A deed's cells. -/
def deedV (s : Deed) : List Value := [.int .i64 s.1, .int .i64 s.2.1, .int .i64 s.2.2.1, .int .i64 s.2.2.2]
/-- Deeds as cells. -/
def flat4 (l : List Deed) : List Value := l.flatMap deedV
theorem flat4_append (a b : List Deed) : flat4 (a ++ b) = flat4 a ++ flat4 b := by simp [flat4]
theorem flat4_one (s : Deed) : flat4 [s] = deedV s := by simp [flat4]
theorem flat4_length (l : List Deed) : (flat4 l).length = l.length * 4 := by
  induction l with
  | nil => rfl
  | cons b r ih =>
    have : flat4 (b :: r) = flat4 [b] ++ flat4 r := flat4_append [b] r
    rw [this, List.length_append, ih, flat4_one]
    simp [deedV]; omega
theorem flat4_at {l : List Deed} {k : Nat} (hk : k < l.length) : ∀ j, j < 4 → (flat4 l)[k * 4 + j]? = (deedV (l.getD k (0, 0, 0, 0)))[j]? := by
  induction l generalizing k with
  | nil => simp at hk
  | cons b r ih =>
    intro j hj
    have e : flat4 (b :: r) = deedV b ++ flat4 r := by rw [← flat4_one]; exact flat4_append [b] r
    have hl : (deedV b).length = 4 := rfl
    rw [e]
    cases k with
    | zero =>
      rw [List.getElem?_append_left (by rw [hl]; omega)]
      simp
    | succ k =>
      rw [List.getElem?_append_right (by rw [hl]; omega), hl]
      rw [show (k + 1) * 4 + j - 4 = k * 4 + j by omega]
      simpa using ih (k := k) (by simp at hk; omega) j hj

/-- Deeds in a row of their own, from block b on. -/
def RowD (b : Nat) (w : World) (v : Value) (l : List Deed) : Prop := w.ownsRow b 34 4 v l.length (flat4 l)
theorem RowD.of_blocks {b : Nat} {w w' : World} {v : Value} {l : List Deed} (h : RowD b w v l) (hk : ∀ k, v.ownBlock = some k → w'.heap[k]? = w.heap[k]?) : RowD b w' v l := by
  rcases h.2 with ⟨rfl, hn⟩ | ⟨g, cap, cur, rfl, hb, hh, hr⟩
  · exact ⟨h.1, Or.inl ⟨rfl, hn⟩⟩
  · exact ⟨h.1, Or.inr ⟨g, cap, cur, rfl, hb, (hk g rfl).trans hh, hr⟩⟩
theorem RowD.mono {b b' : Nat} {w : World} {v : Value} {l : List Deed} (h : RowD b w v l) (hb : b' ≤ b) : RowD b' w v l := by
  rcases h.2 with hn | ⟨g, cap, cur, hv, hg, r⟩
  · exact ⟨h.1, Or.inl hn⟩
  · exact ⟨h.1, Or.inr ⟨g, cap, cur, hv, Nat.le_trans hb hg, r⟩⟩
theorem RowD.low {b : Nat} {w : World} {v : Value} {l : List Deed} (h : RowD b w v l) {k : Nat} (hk : v.ownBlock = some k) : b ≤ k ∧ k < w.heap.size := World.ownsRow.lt h k hk
theorem RowD.shape {b : Nat} {w : World} {v : Value} {l : List Deed} (h : RowD b w v l) : ∃ a c, v = .slice a l.length c := by
  rcases h.2 with ⟨rfl, hn⟩ | ⟨g, cap, cur, rfl, _, _, hc, _⟩
  · exact ⟨none, 0, by rw [hn]⟩
  · exact ⟨_, _, rfl⟩
theorem RowD.later {b : Nat} {w w' : World} {v : Value} {l : List Deed} (h : RowD b w v l) (hb : Below w.heap.size w w') : RowD b w' v l := h.of_blocks (fun _ e => hb.block _ (h.low e).2)
theorem RowD.full {b : Nat} {w : World} {v : Value} {l : List Deed} (h : RowD b w v l) (hz : 0 < l.length) : ∃ g c, v = .slice (some ⟨g, 0, none⟩) l.length c ∧ b ≤ g ∧ g < w.heap.size ∧ l.length ≤ c ∧ ∀ k, k < l.length → ∀ j, j < 4 → w.cell? ⟨g, k * 4 + j, none⟩ = (deedV (l.getD k (0, 0, 0, 0)))[j]? := by
  rcases h.2 with ⟨_, h0⟩ | ⟨g, cap, cur, hv, hb, hh, hc, hm, _⟩
  · omega
  · subst hv
    exact ⟨g, cap, rfl, hb, (Array.getElem?_eq_some_iff.1 hh).1, hc, fun k hk j hj => (World.ownsRow.cellAt h (k * 4 + j) (by omega)).trans (flat4_at hk j hj)⟩
theorem RowD.nil (b : Nat) (w : World) : RowD b w (.slice none 0 0) [] := World.ownsRow_nil _ _ _ _
/-- One deed, new. -/
theorem RowD.one (w : World) (d : Deed) : RowD w.heap.size (w.alloc (.cells #[.int .i64 d.1, .int .i64 d.2.1, .int .i64 d.2.2.1, .int .i64 d.2.2.2] 34)) (.slice (some ⟨w.heap.size, 0, none⟩) 1 1) [d] :=
  ⟨by simp [flat4, deedV], Or.inr ⟨w.heap.size, 1, _, rfl, Nat.le_refl _, blk_alloc_new w _, Nat.le_refl _, by unfold maxLen; omega, by simp, by simp [flat4, deedV]⟩⟩

theorem cell_four_new (w : World) (q : Nat) (hq : q = w.heap.size) (a b c d : Value) (t : TypeId) : ∀ j u, [a, b, c, d][j]? = some u → (w.alloc (.cells #[a, b, c, d] t)).cell? ((⟨q, 0, none⟩ : Addr).add j) = some u := by
  intro j u hu
  subst hq
  rw [Addr.add_lit, Nat.zero_add]
  unfold World.cell?
  dsimp only
  rw [blk_alloc_new]
  show (#[a, b, c, d])[j]? = some u
  simpa using hu
theorem Tryz.infoDeed : (Tryz.prog.info? 34).map (fun i => (i.zero, i.size, i.bytes)) = some (some (.agg #[.int .i64 0, .int .i64 0, .int .i64 0, .int .i64 0]), 4, 32) := by kernel_rfl

theorem append_zeroD (ty : TypeId) (b : Option Addr) (n c : Nat) (a : Option Addr) (c' : Nat) (w : World) (h : n ≤ c) : (Builtin.append_ #[24, 24] ty #[.slice b n c, .slice a 0 c']).run Tryz.prog w = .ok (.slice b n c) w := by
  unfold Builtin.append_
  cases b with
  | none =>
    cases a with
    | none => go_simp
    | some a => go_simp
  | some b =>
    cases a with
    | none => go_simp
    | some a => go_simp
theorem RowD.cap {B : Nat} {w : World} {v : Value} {l : List Deed} (h : RowD B w v l) : ∃ a c, v = .slice a l.length c ∧ l.length ≤ c := by
  rcases h.2 with ⟨rfl, hn⟩ | ⟨g, cap, cur, rfl, _, _, hc, _⟩
  · exact ⟨none, 0, by rw [hn], by omega⟩
  · exact ⟨_, _, rfl, hc⟩
theorem flat4_ones (l : List Deed) : ∀ u ∈ flat4 l, u.oneCell' = true := by
  intro u hu
  obtain ⟨d, _, h⟩ := List.mem_flatMap.1 hu
  simp [deedV] at h
  rcases h with rfl | rfl | rfl | rfl <;> rfl
theorem run_append_deeds (ty : TypeId) {B B' : Nat} {v x : Value} {ds dl : List Deed} {w : World} (hv : RowD B w v ds) (hx : RowD B' w x dl) (hb : ds.length + dl.length ≤ 1000000) (hB : B ≤ w.heap.size) :
    ∃ v' w', (Builtin.append_ #[24, 24] ty #[v, x]).run Tryz.prog w = .ok v' w' ∧ RowD B w' v' (ds ++ dl) ∧ w.grownBy w' v.ownBlock ∧ (v'.ownBlock = v.ownBlock ∨ v'.ownBlock = some w.heap.size) := by
  by_cases hy : dl = []
  · subst hy
    obtain ⟨a, c, rfl, _⟩ := hx.cap
    obtain ⟨b, d, rfl, hd⟩ := hv.cap
    refine ⟨_, w, append_zeroD ty b _ d a c w hd, by rw [List.append_nil]; exact hv, ⟨rfl, rfl, rfl, Nat.le_refl _, fun _ _ _ => rfl⟩, Or.inl rfl⟩
  · have hpos : 0 < dl.length := List.length_pos_iff.2 hy
    rcases hx.2 with ⟨_, h0⟩ | ⟨g, cap, cur, rfl, _, hh, hcap, _, hsz, htk⟩
    · omega
    obtain ⟨i3, hi3, hz0, hz1, hz2⟩ := info_parts Tryz.infoDeed
    have hcl : ∀ j u, (flat4 dl)[j]? = some u → w.cell? ((⟨g, 0, none⟩ : Addr).add j) = some u := fun j u hu => by
      have hj : j < dl.length * 4 := by rw [← flat4_length]; exact (List.getElem?_eq_some_iff.1 hu).1
      have e : (⟨g, 0, none⟩ : Addr).add j = ⟨g, j, none⟩ := by unfold Addr.add; split <;> simp_all
      rw [e, World.ownsRow.cellAt hx j hj]
      exact hu
    obtain ⟨v', w', h1, h2, h3, h4, h5⟩ := run_append_own_at (P := Tryz.prog) w B 24 ty 34 i3 _ 4 32 Tryz.underlying24 hi3 hz0 hz1 hz2 rfl (by decide) v ds.length (flat4 ds) hv ⟨g, 0, none⟩ dl.length cap (flat4 dl) (flat4_length dl) hcl (flat4_ones dl) (by unfold maxLen; omega) (by omega) hB
    refine ⟨v', w', h1, ?_, h3, h5⟩
    show w'.ownsRow B 34 4 v' (ds ++ dl).length (flat4 (ds ++ dl))
    rw [List.length_append, flat4_append]
    exact h2
theorem wpList_append_deeds {ops : Array Oper} {rest : List Oper} {o : Oper} {a : Act} {Q : Exit → Act → World → Prop} {w : World} (hgd : o.guard = none) (s x : Operand) (ho : o.op = .call { callee := .builtin .append, args := #[s, x], argTypes := #[24, 24] })
    (B B' : Nat) (v xv : Value) (ds dl : List Deed) (hs : a.eval s = v) (hx : a.eval x = xv) (hv : RowD B w v ds) (hxv : RowD B' w xv dl) (hb : ds.length + dl.length ≤ 1000000) (hB : B ≤ w.heap.size)
    (h : ∀ v' w', RowD B w' v' (ds ++ dl) → w.grownBy w' v.ownBlock → (v'.ownBlock = v.ownBlock ∨ v'.ownBlock = some w.heap.size) → wpList Tryz.prog ops Q rest (a.put o.dst v') w') : wpList Tryz.prog ops Q (o :: rest) a w := by
  refine wpList_plain hgd fun K hK => ?_
  obtain ⟨v', w', hr, h2, h3, h4⟩ := run_append_deeds o.type hv hxv hb hB
  unfold Oper.wp execOp
  simp only [ho, resolve, invoke, builtin, Sem.run_bind, Sem.run_pure, Result.andThen_ok, List.map_toArray, List.map_cons, List.map_nil, hs, hx, hr]
  exact hK _ _ (h v' w' h2 h3 h4)

/-- A slice value whose elements are these deeds. -/
def DeedsAt (w : World) (v : Value) (ds : List Deed) : Prop :=
  ds.length * 32 ≤ 140737488351232 ∧ ∃ a c, v = .slice a ds.length c ∧ (ds = [] ∨ ∃ b o, a = some ⟨b, o, none⟩ ∧ b < w.heap.size ∧ ∀ k, k < ds.length → ∀ j, j < 4 → w.cell? ⟨b, o + k * 4 + j, none⟩ = (deedV (ds.getD k (0, 0, 0, 0)))[j]?)
theorem RowD.at {b : Nat} {w : World} {v : Value} {ds : List Deed} (h : RowD b w v ds) (hl : ds.length * 32 ≤ 140737488351232) : DeedsAt w v ds := by
  refine ⟨hl, ?_⟩
  by_cases h0 : ds = []
  · obtain ⟨a, c, rfl⟩ := h.shape
    exact ⟨a, c, rfl, Or.inl h0⟩
  · obtain ⟨g, c, rfl, _, hlt, _, hc⟩ := h.full (List.length_pos_iff.2 h0)
    exact ⟨_, c, rfl, Or.inr ⟨g, 0, rfl, hlt, fun k hk j hj => by rw [Nat.zero_add]; exact hc k hk j hj⟩⟩
theorem DeedsAt.later {w w' : World} {v : Value} {ds : List Deed} (h : DeedsAt w v ds) (hb : Below w.heap.size w w') : DeedsAt w' v ds := by
  obtain ⟨hl, a, c, hv, h⟩ := h
  refine ⟨hl, a, c, hv, ?_⟩
  rcases h with h | ⟨b, o, ha, hlt, hc⟩
  · exact Or.inl h
  · exact Or.inr ⟨b, o, ha, Nat.lt_of_lt_of_le hlt hb.size, fun k hk j hj => (hb.cell (p := ⟨b, o + k * 4 + j, none⟩) hlt).trans (hc k hk j hj)⟩
/-- The four numbers of a deed that is read. -/
theorem DeedsAt.four {w : World} {a : Option Addr} {n c : Nat} {ds : List Deed} (h : DeedsAt w (.slice a n c) ds) {k : Nat} (hk : k < ds.length) : ∃ b o, a = some ⟨b, o, none⟩ ∧ b < w.heap.size ∧ w.cell? ⟨b, o + k * 4, none⟩ = some (.int .i64 (ds.getD k (0, 0, 0, 0)).1) ∧ w.cell? ⟨b, o + k * 4 + 1, none⟩ = some (.int .i64 (ds.getD k (0, 0, 0, 0)).2.1) ∧ w.cell? ⟨b, o + k * 4 + 2, none⟩ = some (.int .i64 (ds.getD k (0, 0, 0, 0)).2.2.1) ∧ w.cell? ⟨b, o + k * 4 + 3, none⟩ = some (.int .i64 (ds.getD k (0, 0, 0, 0)).2.2.2) := by
  obtain ⟨_, a2, c2, hv, h⟩ := h
  simp only [Value.slice.injEq] at hv
  obtain ⟨rfl, _, _⟩ := hv
  rcases h with h | ⟨b, o, ha, hlt, hc⟩
  · rw [h] at hk; simp at hk
  · exact ⟨b, o, ha, hlt, hc k hk 0 (by omega), hc k hk 1 (by omega), hc k hk 2 (by omega), hc k hk 3 (by omega)⟩
theorem new_deed (w : World) (a b c d : Int) : (w.alloc (.cells #[.int .i64 a, .int .i64 b, .int .i64 c, .int .i64 d] 34)).cell? ⟨w.heap.size, 0, none⟩ = some (.int .i64 a) ∧ (w.alloc (.cells #[.int .i64 a, .int .i64 b, .int .i64 c, .int .i64 d] 34)).cell? ⟨w.heap.size, 1, none⟩ = some (.int .i64 b) ∧ (w.alloc (.cells #[.int .i64 a, .int .i64 b, .int .i64 c, .int .i64 d] 34)).cell? ⟨w.heap.size, 2, none⟩ = some (.int .i64 c) ∧ (w.alloc (.cells #[.int .i64 a, .int .i64 b, .int .i64 c, .int .i64 d] 34)).cell? ⟨w.heap.size, 3, none⟩ = some (.int .i64 d) := by
  unfold World.cell?
  dsimp only
  rw [blk_alloc_new]
  exact ⟨rfl, rfl, rfl, rfl⟩
end Go.Proofs.YtiekhigjllbalaaGreatDoor
