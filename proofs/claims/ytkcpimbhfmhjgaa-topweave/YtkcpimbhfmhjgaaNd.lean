/- The contract of list.check; stays in a row of their own; what a run by an order has in memory. -/
import Derived.Test.YtkcpimbhfmhjgaaNb
import Derived.Test.YtkcpimbhfmhjgaaNc
import Derived.Test.YtkcpimbhfmhjgaaPln
namespace Go.Proofs.Ytkcpimbhfmhjgaa
open Go.RowKit Go.Deep Classical

/-- Check's error, then that of the hands, then that of the order. -/
def lErr (q hands : Int) (each : Bool) : Int := if q = 0 then (if hands < 1 ∨ 6 < hands then 1 else if each = true then 0 else 3) else q
theorem lErr_zero {q hands : Int} {each : Bool} (h : lErr q hands each = 0) : q = 0 ∧ 1 ≤ hands ∧ hands ≤ 6 ∧ each = true := by
  unfold lErr at h
  split at h
  · split at h
    · omega
    · split at h
      · rename_i h1 h2 h3; exact ⟨h1, by omega, by omega, h3⟩
      · omega
  · omega

set_option maxHeartbeats 1000000 in
theorem lcheck_any (v ov : Value) (ts : List (Int × List Int)) (zs : List Int) (hands : Int) (w : World) (hp : PlanAt w v ts) (ho : IntsAt w ov zs) (hwf : ∀ x, x ∈ zs → (Lit.int .i64 x).wf = true) :
    Calls Try.prog 22 #[v, .int .i64 hands, ov] w fun e w' => (∃ p q, CheckIs ts p q ∧ e = .returned (errV (lErr q hands (decide (EachZ ts.length zs))))) ∧ Below w.heap.size w w' := by
  have hck := check_any v ts w hp
  have HO : Hid (∀ wx, Below w.heap.size w wx → IntsAt wx ov zs) := fun wx hx => ho.later hx
  obtain ⟨hl, a, c, rfl, hp⟩ := hp
  obtain ⟨_, oa, oc, rfl, _⟩ := ho
  clear hp
  go_enter Try.func22, Try.ntmps22
  go_wp2_with fail
  refine hck.mono ?_
  rintro e w1 ⟨⟨p, q, rfl, hc⟩, hb1⟩
  clear hck
  by_cases hq : q = 0
  · subst hq
    rw [errV_zero]
    by_cases h1 : hands < 1
    · have HE : Hid (errV (lErr 0 hands (decide (EachZ ts.length zs))) = .iface 47 (.int .i64 1)) := by show _ = _; unfold lErr; rw [if_pos rfl, if_pos (Or.inl h1)]; rfl
      go_wp2
      go_ret
      exact ⟨⟨p, 0, hc, by rw [HE.out]; rfl⟩, hb1⟩
    · by_cases h2 : 6 < hands
      · have HE : Hid (errV (lErr 0 hands (decide (EachZ ts.length zs))) = .iface 47 (.int .i64 1)) := by show _ = _; unfold lErr; rw [if_pos rfl, if_pos (Or.inr h2)]; rfl
        go_wp2
        go_ret
        exact ⟨⟨p, 0, hc, by rw [HE.out]; rfl⟩, hb1⟩
      · have h30 : ts.length ≤ 30 := (hc.ok rfl).2.1
        have hn := names_any _ zs ts.length w1 (HO.out _ hb1) hwf (by omega)
        cases hz : decide (EachZ ts.length zs)
        · rw [hz] at hn
          have HE : Hid (errV (lErr 0 hands (decide (EachZ ts.length zs))) = .iface 47 (.int .i64 3)) := by show _ = _; rw [hz]; unfold lErr; rw [if_pos rfl, if_neg (by omega), if_neg (by decide)]; rfl
          go_wp2_with (go_at_call 42; refine hn.mono ?_; clear hn; rintro e w2 ⟨rfl, hb2⟩)
          go_ret
          exact ⟨⟨p, 0, hc, by rw [HE.out]; rfl⟩, hb1.trans (hb2.mono hb1.size)⟩
        · rw [hz] at hn
          have HE : Hid (errV (lErr 0 hands (decide (EachZ ts.length zs))) = .nilIface) := by show _ = _; rw [hz]; unfold lErr; rw [if_pos rfl, if_neg (by omega), if_pos rfl]; rfl
          go_wp2_with (go_at_call 42; refine hn.mono ?_; clear hn; rintro e w2 ⟨rfl, hb2⟩)
          go_ret
          exact ⟨⟨p, 0, hc, by rw [HE.out]; rfl⟩, hb1.trans (hb2.mono hb1.size)⟩
  · have hev := errV_some hq
    rw [hev]
    have HE : Hid (errV (lErr q hands (decide (EachZ ts.length zs))) = .iface 47 (.int .i64 q)) := by show _ = _; unfold lErr; rw [if_neg hq]; exact hev
    clear hev
    go_wp2
    go_ret
    exact ⟨⟨p, q, hc, by rw [HE.out]; rfl⟩, hb1⟩

/-- A stay's cells. -/
def styV (s : Sty) : List Value := [.int .i64 s.1, .int .i64 s.2.1, .int .i64 s.2.2.1, .int .i64 s.2.2.2]
/-- Stays as cells. -/
def flat4 (l : List Sty) : List Value := l.flatMap styV
theorem flat4_append (a b : List Sty) : flat4 (a ++ b) = flat4 a ++ flat4 b := by simp [flat4]
theorem flat4_one (s : Sty) : flat4 [s] = styV s := by simp [flat4]
theorem flat4_length (l : List Sty) : (flat4 l).length = l.length * 4 := by
  induction l with
  | nil => rfl
  | cons b r ih =>
    have : flat4 (b :: r) = flat4 [b] ++ flat4 r := flat4_append [b] r
    rw [this, List.length_append, ih, flat4_one]
    simp [styV]; omega
theorem flat4_at {l : List Sty} {k : Nat} (hk : k < l.length) : ∀ j, j < 4 → (flat4 l)[k * 4 + j]? = (styV (l.getD k (0, 0, 0, 0)))[j]? := by
  induction l generalizing k with
  | nil => simp at hk
  | cons b r ih =>
    intro j hj
    have e : flat4 (b :: r) = styV b ++ flat4 r := by rw [← flat4_one]; exact flat4_append [b] r
    have hl : (styV b).length = 4 := rfl
    rw [e]
    cases k with
    | zero =>
      rw [List.getElem?_append_left (by rw [hl]; omega)]
      simp
    | succ k =>
      rw [List.getElem?_append_right (by rw [hl]; omega), hl]
      rw [show (k + 1) * 4 + j - 4 = k * 4 + j by omega]
      simpa using ih (k := k) (by simp at hk; omega) j hj

/-- Stays in a row of their own, from block b on. -/
def RowS (b : Nat) (w : World) (v : Value) (l : List Sty) : Prop := w.ownsRow b 63 4 v l.length (flat4 l)
theorem RowS.of_blocks {b : Nat} {w w' : World} {v : Value} {l : List Sty} (h : RowS b w v l) (hk : ∀ k, v.ownBlock = some k → w'.heap[k]? = w.heap[k]?) : RowS b w' v l := by
  rcases h.2 with ⟨rfl, hn⟩ | ⟨g, cap, cur, rfl, hb, hh, hr⟩
  · exact ⟨h.1, Or.inl ⟨rfl, hn⟩⟩
  · exact ⟨h.1, Or.inr ⟨g, cap, cur, rfl, hb, (hk g rfl).trans hh, hr⟩⟩
theorem RowS.mono {b b' : Nat} {w : World} {v : Value} {l : List Sty} (h : RowS b w v l) (hb : b' ≤ b) : RowS b' w v l := by
  rcases h.2 with hn | ⟨g, cap, cur, hv, hg, r⟩
  · exact ⟨h.1, Or.inl hn⟩
  · exact ⟨h.1, Or.inr ⟨g, cap, cur, hv, Nat.le_trans hb hg, r⟩⟩
theorem RowS.low {b : Nat} {w : World} {v : Value} {l : List Sty} (h : RowS b w v l) {k : Nat} (hk : v.ownBlock = some k) : b ≤ k ∧ k < w.heap.size := World.ownsRow.lt h k hk
theorem RowS.shape {b : Nat} {w : World} {v : Value} {l : List Sty} (h : RowS b w v l) : ∃ a c, v = .slice a l.length c := by
  rcases h.2 with ⟨rfl, hn⟩ | ⟨g, cap, cur, rfl, _, _, hc, _⟩
  · exact ⟨none, 0, by rw [hn]⟩
  · exact ⟨_, _, rfl⟩
theorem RowS.later {b : Nat} {w w' : World} {v : Value} {l : List Sty} (h : RowS b w v l) (hb : Below w.heap.size w w') : RowS b w' v l := h.of_blocks (fun _ e => hb.block _ (h.low e).2)
theorem RowS.full {b : Nat} {w : World} {v : Value} {l : List Sty} (h : RowS b w v l) (hz : 0 < l.length) : ∃ g c, v = .slice (some ⟨g, 0, none⟩) l.length c ∧ b ≤ g ∧ g < w.heap.size ∧ l.length ≤ c ∧ ∀ k, k < l.length → ∀ j, j < 4 → w.cell? ⟨g, k * 4 + j, none⟩ = (styV (l.getD k (0, 0, 0, 0)))[j]? := by
  rcases h.2 with ⟨_, h0⟩ | ⟨g, cap, cur, hv, hb, hh, hc, hm, _⟩
  · omega
  · subst hv
    exact ⟨g, cap, rfl, hb, (Array.getElem?_eq_some_iff.1 hh).1, hc, fun k hk j hj => (World.ownsRow.cellAt h (k * 4 + j) (by omega)).trans (flat4_at hk j hj)⟩
theorem RowS.not_row {C b n : Nat} {w : World} {v : Value} {l : List Sty} {t : TypeId} {f : Nat → Value} (h : RowS C w v l) (hb : v.ownBlock = some b) (h' : w.rowIs b t n f) : t = 63 := by
  rcases h.2 with ⟨rfl, _⟩ | ⟨g, cap, cur, rfl, _, hh, _⟩
  · simp [Value.ownBlock] at hb
  · simp only [Value.ownBlock, Option.some.injEq] at hb
    subst hb
    obtain ⟨c, hb', _⟩ := h'
    rw [hh] at hb'
    simp at hb'
    exact hb'.2.symm

/-- What a run has in memory: from when on hands are free, when tasks are done, and stays; all below N stays as it was. -/
structure LMem (N n h : Nat) (w wr : World) (F E : Nat → Int) (sv : Value) (out : List Sty) : Prop where
  free : wr.rowIs (N + 1) 3 h (intRow F)
  ends : wr.rowIs (N + 1 + 1) 3 n (intRow E)
  stays : RowS N wr sv out
  below : Below N w wr
theorem LMem.size {N n h : Nat} {w wr : World} {F E : Nat → Int} {sv : Value} {out : List Sty} (m : LMem N n h w wr F E sv out) : N + 1 + 1 < wr.heap.size := m.ends.lt
theorem LMem.later {N n h : Nat} {w wr w' : World} {F E : Nat → Int} {sv : Value} {out : List Sty} (m : LMem N n h w wr F E sv out) (hb : Below wr.heap.size wr w') : LMem N n h w w' F E sv out :=
  ⟨m.free.of_block (hb.block _ m.free.lt), m.ends.of_block (hb.block _ m.ends.lt), m.stays.later hb, m.below.trans (hb.mono (by have := m.size; omega))⟩
theorem LMem.setF {N n h : Nat} {w wr : World} {F E : Nat → Int} {sv : Value} {out : List Sty} (m : LMem N n h w wr F E sv out) (x : Nat) (u : Int) : LMem N n h w (wr.setCell ⟨N + 1, x, none⟩ (.int .i64 u)) (upd F x u) E sv out :=
  ⟨row_upd m.free, m.ends.of_block (Below.heap_setCell wr ⟨N + 1, x, none⟩ _ _ (by show N + 1 + 1 ≠ N + 1; omega)), m.stays.of_blocks (fun k hk => Below.heap_setCell wr ⟨N + 1, x, none⟩ _ k (fun e => by
    have e : k = N + 1 := e
    subst e
    exact absurd (m.stays.not_row hk m.free) (by decide))), m.below.setCell (p := ⟨N + 1, x, none⟩) (by show N ≤ N + 1; omega) _⟩
theorem LMem.setE {N n h : Nat} {w wr : World} {F E : Nat → Int} {sv : Value} {out : List Sty} (m : LMem N n h w wr F E sv out) (x : Nat) (u : Int) : LMem N n h w (wr.setCell ⟨N + 1 + 1, x, none⟩ (.int .i64 u)) F (upd E x u) sv out :=
  ⟨m.free.of_block (Below.heap_setCell wr ⟨N + 1 + 1, x, none⟩ _ _ (by show N + 1 ≠ N + 1 + 1; omega)), row_upd m.ends, m.stays.of_blocks (fun k hk => Below.heap_setCell wr ⟨N + 1 + 1, x, none⟩ _ k (fun e => by
    have e : k = N + 1 + 1 := e
    subst e
    exact absurd (m.stays.not_row hk m.ends) (by decide))), m.below.setCell (p := ⟨N + 1 + 1, x, none⟩) (by show N ≤ N + 1 + 1; omega) _⟩
theorem LMem.freeIs {N n h : Nat} {w wr : World} {F E : Nat → Int} {sv : Value} {out : List Sty} {x : Nat} (m : LMem N n h w wr F E sv out) (hx : x < h) : wr.cell? ⟨N + 1, x, none⟩ = some (.int .i64 (F x)) := m.free.cell hx
theorem LMem.endIs {N n h : Nat} {w wr : World} {F E : Nat → Int} {sv : Value} {out : List Sty} {x : Nat} (m : LMem N n h w wr F E sv out) (hx : x < n) : wr.cell? ⟨N + 1 + 1, x, none⟩ = some (.int .i64 (E x)) := m.ends.cell hx
theorem LMem.app {N n h : Nat} {w wr w' : World} {F E : Nat → Int} {sv sv' : Value} {out : List Sty} {s : Sty} (m : LMem N n h w wr F E sv out)
    (ho : w'.ownsRow N 63 4 sv' (out.length + 1) (flat4 out ++ styV s)) (hg : wr.grownBy w' sv.ownBlock) : LMem N n h w w' F E sv' (out ++ [s]) := by
  have hs := m.size
  refine ⟨m.free.of_block (hg.block _ m.free.lt (fun e => absurd (m.stays.not_row e.symm m.free) (by decide))), m.ends.of_block (hg.block _ m.ends.lt (fun e => absurd (m.stays.not_row e.symm m.ends) (by decide))), ?_, m.below.grown hg (by omega) (fun j e => (m.stays.low e).1)⟩
  show w'.ownsRow N 63 4 sv' (out ++ [s]).length (flat4 (out ++ [s]))
  rw [flat4_append, flat4_one, List.length_append]
  exact ho
theorem LMem.start (w : World) (n h : Nat) (cur : Array Value) (hs : cur.size = n * 4) (hn : n ≤ 30) :
    LMem w.heap.size n h w (((w.alloc (.cells cur 63)).alloc (.cells (madeCells #[.int .i64 0] h) 3)).alloc (.cells (madeCells #[.int .i64 0] n) 3)) (freeOf []) (doneOf []) (.slice (some ⟨w.heap.size, 0, none⟩) 0 n) [] := by
  have e1 : (w.alloc (.cells cur 63)).heap.size = w.heap.size + 1 := by simp
  have e2 : ((w.alloc (.cells cur 63)).alloc (.cells (madeCells #[.int .i64 0] h) 3)).heap.size = w.heap.size + 1 + 1 := by simp
  have r1 := World.rowIs_made (w.alloc (.cells cur 63)) (.int .i64 0) h 3
  have r2 := World.rowIs_made ((w.alloc (.cells cur 63)).alloc (.cells (madeCells #[.int .i64 0] h) 3)) (.int .i64 0) n 3
  rw [e1] at r1
  rw [e2] at r2
  refine ⟨(r1.alloc _).congr (fun k _ => rfl), r2.congr (fun k _ => rfl), ?_, (((Below.refl _ _).alloc (Nat.le_refl _) _).alloc (by omega) _).alloc (by omega) _⟩
  exact ((World.ownsRow_made w cur n (Nat.le_refl _) (by unfold maxLen; omega) hs).alloc _).alloc _
theorem Try.info63 : (Try.prog.info? 63).map (fun i => (i.zero, i.size, i.bytes)) = some (some (.agg #[.int .i64 0, .int .i64 0, .int .i64 0, .int .i64 0]), 4, 32) := by kernel_rfl
end Go.Proofs.Ytkcpimbhfmhjgaa
