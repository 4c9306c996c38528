/- Bits in a row of their own; the contracts of greedy.check and greedy.Run. -/
import Derived.Test.YtkcpimbhfmhjgaaPb
import Derived.Test.YtkcpimbhfmhjgaaPln
namespace Go.Proofs.Ytkcpimbhfmhjgaa
open Go.RowKit Go.Deep

/-- Check's error, then that of the hands. -/
def gErr (q hands : Int) : Int := if q = 0 then (if hands < 1 ∨ 6 < hands then 1 else 0) else q

set_option maxHeartbeats 1000000 in
theorem gcheck_any (v : Value) (ts : List (Int × List Int)) (hands : Int) (w : World) (hp : PlanAt w v ts) :
    Calls Try.prog 16 #[v, .int .i64 hands] w fun e w' => (∃ p q, CheckIs ts p q ∧ e = .returned (errV (gErr q hands))) ∧ Below w.heap.size w w' := by
  have hck := check_any v ts w hp
  obtain ⟨hl, a, c, rfl, hp⟩ := hp
  clear hp
  go_enter Try.func16, Try.ntmps16
  go_wp2_with fail
  refine hck.mono ?_
  rintro e w1 ⟨⟨p, q, rfl, hc⟩, hb1⟩
  clear hck
  by_cases hq : q = 0
  · subst hq
    rw [errV_zero]
    by_cases h1 : hands < 1
    · have HE : Hid (errV (gErr 0 hands) = .iface 47 (.int .i64 1)) := by show _ = _; unfold gErr; rw [if_pos rfl, if_pos (Or.inl h1)]; rfl
      go_wp2
      go_ret
      exact ⟨⟨p, 0, hc, by rw [HE.out]; rfl⟩, hb1⟩
    · by_cases h2 : 6 < hands
      · have HE : Hid (errV (gErr 0 hands) = .iface 47 (.int .i64 1)) := by show _ = _; unfold gErr; rw [if_pos rfl, if_pos (Or.inr h2)]; rfl
        go_wp2
        go_ret
        exact ⟨⟨p, 0, hc, by rw [HE.out]; rfl⟩, hb1⟩
      · have HE : Hid (errV (gErr 0 hands) = .nilIface) := by show _ = _; unfold gErr; rw [if_pos rfl, if_neg (by omega)]; rfl
        go_wp2
        go_ret
        exact ⟨⟨p, 0, hc, by rw [HE.out]; rfl⟩, hb1⟩
  · have hev := errV_some hq
    rw [hev]
    have HE : Hid (errV (gErr q hands) = .iface 47 (.int .i64 q)) := by show _ = _; unfold gErr; rw [if_neg hq]; exact hev
    clear hev
    go_wp2
    go_ret
    exact ⟨⟨p, q, hc, by rw [HE.out]; rfl⟩, hb1⟩

/-- Bits as cells. -/
def flat (bs : List (Nat × Nat × Nat)) : List Value := bs.flatMap (fun b => [.int .i64 b.1, .int .i64 b.2.1, .int .i64 b.2.2])
theorem flat_nil : flat [] = [] := rfl
theorem flat_append (a b : List (Nat × Nat × Nat)) : flat (a ++ b) = flat a ++ flat b := by simp [flat]
theorem flat_one (b : Nat × Nat × Nat) : flat [b] = [.int .i64 b.1, .int .i64 b.2.1, .int .i64 b.2.2] := rfl
theorem flat_length (bs : List (Nat × Nat × Nat)) : (flat bs).length = bs.length * 3 := by
  induction bs with
  | nil => rfl
  | cons b r ih =>
    have : flat (b :: r) = flat [b] ++ flat r := flat_append [b] r
    rw [this, List.length_append, ih, flat_one]
    simp; omega
theorem flat_at {bs : List (Nat × Nat × Nat)} {k : Nat} (hk : k < bs.length) : (flat bs)[k * 3]? = some (.int .i64 (bs.getD k (0, 0, 0)).1) ∧ (flat bs)[k * 3 + 1]? = some (.int .i64 (bs.getD k (0, 0, 0)).2.1) ∧ (flat bs)[k * 3 + 2]? = some (.int .i64 (bs.getD k (0, 0, 0)).2.2) := by
  induction bs generalizing k with
  | nil => simp at hk
  | cons b r ih =>
    have e : flat (b :: r) = flat [b] ++ flat r := flat_append [b] r
    rw [e]
    cases k with
    | zero => exact ⟨rfl, rfl, rfl⟩
    | succ k =>
      have hl : (flat [b]).length = 3 := rfl
      rw [List.getElem?_append_right (by rw [hl]; omega), List.getElem?_append_right (by rw [hl]; omega), List.getElem?_append_right (by rw [hl]; omega), hl]
      rw [show (k + 1) * 3 - 3 = k * 3 by omega, show (k + 1) * 3 + 1 - 3 = k * 3 + 1 by omega, show (k + 1) * 3 + 2 - 3 = k * 3 + 2 by omega]
      simpa using ih (k := k) (by simp at hk; omega)

/-- Bits in a row of their own, from block b on. -/
def RowB (b : Nat) (w : World) (v : Value) (bs : List (Nat × Nat × Nat)) : Prop := w.ownsRow b 57 3 v bs.length (flat bs)
theorem RowB.of_blocks {b : Nat} {w w' : World} {v : Value} {bs : List (Nat × Nat × Nat)} (h : RowB b w v bs) (hk : ∀ k, v.ownBlock = some k → w'.heap[k]? = w.heap[k]?) : RowB b w' v bs := by
  rcases h.2 with ⟨rfl, hn⟩ | ⟨g, cap, cur, rfl, hb, hh, hr⟩
  · exact ⟨h.1, Or.inl ⟨rfl, hn⟩⟩
  · exact ⟨h.1, Or.inr ⟨g, cap, cur, rfl, hb, (hk g rfl).trans hh, hr⟩⟩
theorem RowB.mono {b b' : Nat} {w : World} {v : Value} {bs : List (Nat × Nat × Nat)} (h : RowB b w v bs) (hb : b' ≤ b) : RowB b' w v bs := by
  rcases h.2 with hn | ⟨g, cap, cur, hv, hg, r⟩
  · exact ⟨h.1, Or.inl hn⟩
  · exact ⟨h.1, Or.inr ⟨g, cap, cur, hv, Nat.le_trans hb hg, r⟩⟩
theorem RowB.low {b : Nat} {w : World} {v : Value} {bs : List (Nat × Nat × Nat)} (h : RowB b w v bs) {k : Nat} (hk : v.ownBlock = some k) : b ≤ k ∧ k < w.heap.size := World.ownsRow.lt h k hk
theorem RowB.shape {b : Nat} {w : World} {v : Value} {bs : List (Nat × Nat × Nat)} (h : RowB b w v bs) : ∃ a c, v = .slice a bs.length c := by
  rcases h.2 with ⟨rfl, hn⟩ | ⟨g, cap, cur, rfl, _, _, hc, _⟩
  · exact ⟨none, 0, by rw [hn]⟩
  · exact ⟨_, _, rfl⟩
theorem RowB.nil (b : Nat) (w : World) : RowB b w (.slice none 0 0) [] := World.ownsRow_nil _ _ _ _
theorem RowB.later {b : Nat} {w w' : World} {v : Value} {bs : List (Nat × Nat × Nat)} (h : RowB b w v bs) (hb : Below w.heap.size w w') : RowB b w' v bs := h.of_blocks (fun _ e => hb.block _ (h.low e).2)
theorem RowB.alloc {b : Nat} {w : World} {v : Value} {bs : List (Nat × Nat × Nat)} (h : RowB b w v bs) (o : Obj) : RowB b (w.alloc o) v bs := h.of_blocks (fun _ e => Below.heap_alloc _ _ _ (h.low e).2)
theorem RowB.full {b : Nat} {w : World} {v : Value} {bs : List (Nat × Nat × Nat)} (h : RowB b w v bs) (hz : 0 < bs.length) : ∃ g c, v = .slice (some ⟨g, 0, none⟩) bs.length c ∧ b ≤ g ∧ g < w.heap.size ∧ bs.length ≤ c ∧ ∀ k, k < bs.length →
    w.cell? ⟨g, k * 3, none⟩ = some (.int .i64 (bs.getD k (0, 0, 0)).1) ∧ w.cell? ⟨g, k * 3 + 1, none⟩ = some (.int .i64 (bs.getD k (0, 0, 0)).2.1) ∧ w.cell? ⟨g, k * 3 + 2, none⟩ = some (.int .i64 (bs.getD k (0, 0, 0)).2.2) := by
  rcases h.2 with ⟨_, h0⟩ | ⟨g, cap, cur, hv, hb, hh, hc, hm, _⟩
  · omega
  · subst hv
    refine ⟨g, cap, rfl, hb, (Array.getElem?_eq_some_iff.1 hh).1, hc, fun k hk => ?_⟩
    obtain ⟨e1, e2, e3⟩ := flat_at hk
    exact ⟨(World.ownsRow.cellAt h (k * 3) (by omega)).trans e1, (World.ownsRow.cellAt h (k * 3 + 1) (by omega)).trans e2, (World.ownsRow.cellAt h (k * 3 + 2) (by omega)).trans e3⟩
theorem RowB.not_row {C b n : Nat} {w : World} {v : Value} {bs : List (Nat × Nat × Nat)} {t : TypeId} {f : Nat → Value} (h : RowB C w v bs) (hb : v.ownBlock = some b) (h' : w.rowIs b t n f) : t = 57 := by
  rcases h.2 with ⟨rfl, _⟩ | ⟨g, cap, cur, rfl, _, hh, _⟩
  · simp [Value.ownBlock] at hb
  · simp only [Value.ownBlock, Option.some.injEq] at hb
    subst hb
    obtain ⟨c, hb', _⟩ := h'
    rw [hh] at hb'
    simp at hb'
    exact hb'.2.symm
theorem RowB.not_ints {C C' b : Nat} {w : World} {v v' : Value} {bs : List (Nat × Nat × Nat)} {zs : List Int} (h : RowB C w v bs) (hb : v.ownBlock = some b) (h' : RowI C' w v' zs) (hb' : v'.ownBlock = some b) : False := by
  rcases h.2 with ⟨rfl, _⟩ | ⟨g, cap, cur, rfl, _, hh, _⟩
  · simp [Value.ownBlock] at hb
  · simp only [Value.ownBlock, Option.some.injEq] at hb
    subst hb
    rcases h'.2 with ⟨rfl, _⟩ | ⟨g', cap', cur', rfl, _, hh', _⟩
    · simp [Value.ownBlock] at hb'
    · simp only [Value.ownBlock, Option.some.injEq] at hb'
      subst hb'
      rw [hh] at hh'
      simp at hh'
theorem RowI.past {C C' : Nat} {w w' : World} {v v' : Value} {bs : List (Nat × Nat × Nat)} {zs : List Int} (h' : RowI C' w v' zs) (h : RowB C w v bs) (hg : w.grownBy w' v.ownBlock) : RowI C' w' v' zs :=
  h'.of_blocks (fun k hk => hg.block k (h'.low hk).2 (fun e => h.not_ints e.symm h' hk))

/-- What a run has in memory: what is left, and bits; all below N stays as it was. -/
structure GMem (N n : Nat) (w wr : World) (L : Nat → Int) (bv : Value) (bs : List (Nat × Nat × Nat)) : Prop where
  row : wr.rowIs N 3 n (intRow L)
  bits : RowB N wr bv bs
  below : Below N w wr
theorem GMem.later {N n : Nat} {w wr w' : World} {L : Nat → Int} {bv : Value} {bs : List (Nat × Nat × Nat)} (h : GMem N n w wr L bv bs) (hb : Below wr.heap.size wr w') : GMem N n w w' L bv bs :=
  ⟨h.row.of_block (hb.block _ h.row.lt), h.bits.later hb, h.below.trans (hb.mono (Nat.le_of_lt h.row.lt))⟩
theorem GMem.app {N n : Nat} {w wr w' : World} {L : Nat → Int} {bv bv' : Value} {bs : List (Nat × Nat × Nat)} {b : Nat × Nat × Nat} (h : GMem N n w wr L bv bs)
    (ho : w'.ownsRow N 57 3 bv' (bs.length + 1) (flat bs ++ [.int .i64 b.1, .int .i64 b.2.1, .int .i64 b.2.2])) (hg : wr.grownBy w' bv.ownBlock) : GMem N n w w' L bv' (bs ++ [b]) := by
  refine ⟨h.row.of_block (hg.block _ h.row.lt (fun e => absurd (h.bits.not_row e.symm h.row) (by decide))), ?_, h.below.grown hg (Nat.le_of_lt h.row.lt) (fun j e => (h.bits.low e).1)⟩
  show w'.ownsRow N 57 3 bv' (bs ++ [b]).length (flat (bs ++ [b]))
  rw [flat_append, flat_one, List.length_append]
  exact ho
theorem GMem.set {N n : Nat} {w wr : World} {L : Nat → Int} {bv : Value} {bs : List (Nat × Nat × Nat)} (h : GMem N n w wr L bv bs) (x : Nat) (u : Int) : GMem N n w (wr.setCell ⟨N, x, none⟩ (.int .i64 u)) (upd L x u) bv bs :=
  ⟨row_upd h.row, h.bits.of_blocks (fun k hk => Below.heap_setCell wr ⟨N, x, none⟩ _ k (fun e => by
    have e : k = N := e
    subst e
    exact absurd (h.bits.not_row hk h.row) (by decide))), h.below.setCell (p := ⟨N, x, none⟩) (Nat.le_refl _) _⟩
theorem Try.info57 : (Try.prog.info? 57).map (fun i => (i.zero, i.size, i.bytes)) = some (some (.agg #[.int .i64 0, .int .i64 0, .int .i64 0]), 3, 24) := by kernel_rfl
end Go.Proofs.Ytkcpimbhfmhjgaa
