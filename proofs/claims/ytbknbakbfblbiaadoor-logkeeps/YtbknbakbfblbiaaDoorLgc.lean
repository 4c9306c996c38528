/- A join with the set of its blocks; its calls in handy forms. -/
import Derived.Test.YtbknbakbfblbiaaDoorLgb
namespace Go.Proofs.YtbknbakbfblbiaaDoor
open Go.RowKit Go.Deep Go.Maps

/-- A join is as it was, where its blocks, and its lists, are. -/
theorem JnT.of_lists {J M A D C : Nat} {ts : List (Int × List Int)} {S : Nat → Bool} {w w' : World} (h : JnT J M A D C ts S w) (eJ : w'.heap[J]? = w.heap[J]?) (eM : w'.heap[M]? = w.heap[M]?) (eA : w'.heap[A]? = w.heap[A]?) (eD : w'.heap[D]? = w.heap[D]?)
    (hl : ∀ k v b, k < ts.length → w.cell? ⟨A, k, none⟩ = some v → v.ownBlock = some b → b < w.heap.size → w'.heap[b]? = w.heap[b]?) : JnT J M A D C ts S w' := by
  obtain ⟨av, ha⟩ := Jn.aft h
  exact ⟨(Jn.row h).of_block eJ, (Jn.miss h).of_block eM, ⟨av, ha.row.of_block eA, fun k hk => (ha.own k hk).of_blocks (fun b e => hl k (av k) b hk (ha.row.cell hk) e ((ha.own k hk).low e).2)⟩, (Jn.done h).of_block eD, Jn.lt h, Jn.ne h, Jn.le h⟩
/-- A join whose blocks are of this set. -/
def Jo (X : Nat → Prop) (J : Nat) (ts : List (Int × List Int)) (S : Nat → Bool) (w : World) : Prop :=
  ∃ M A D C, JnT J M A D C ts S w ∧ X J ∧ X M ∧ X A ∧ X D ∧ ∀ k v b, k < ts.length → w.cell? ⟨A, k, none⟩ = some v → v.ownBlock = some b → X b
variable {X Y : Nat → Prop} {J : Nat} {ts : List (Int × List Int)} {S : Nat → Bool} {w w' : World}
theorem Jo.kept (h : Jo X J ts S w) (hk : ∀ k, X k → k < w.heap.size → w'.heap[k]? = w.heap[k]?) : Jo X J ts S w' := by
  obtain ⟨M, A, D, C, hj, xJ, xM, xA, xD, xl⟩ := h
  have eA := hk A xA (Jn.ltA hj)
  exact ⟨M, A, D, C, JnT.of_lists hj (hk J xJ (Jn.row hj).lt) (hk M xM (Jn.miss hj).lt) eA (hk D xD (Jn.done hj).lt) (fun k v b hn hv hb hlt => hk b (xl k v b hn hv hb) hlt), xJ, xM, xA, xD,
    fun k v b hn hv hb => xl k v b hn ((World.cell?_of_block (a := ⟨A, k, none⟩) eA).symm.trans hv) hb⟩
theorem Jo.ltJ (h : Jo X J ts S w) : J < w.heap.size := by
  obtain ⟨M, A, D, C, hj, _⟩ := h
  exact (Jn.row hj).lt
theorem Jo.mem (h : Jo X J ts S w) : X J := by
  obtain ⟨M, A, D, C, _, hx, _⟩ := h
  exact hx
theorem Jo.later (h : Jo X J ts S w) (hb : Below w.heap.size w w') : Jo X J ts S w' := h.kept (fun k _ hk => hb.block k hk)

theorem join_new (v : Value) (ts : List (Int × List Int)) (w : World) (hp : PlanAt w v ts) (hc : CheckIs ts 0 0) :
    Calls Tryd.prog 22 #[v] w fun e w' => (∃ J, e = .returned (.tuple #[.pointer (some ⟨J, 0, none⟩), .nilIface]) ∧ Jo (fun b => w.heap.size ≤ b) J ts (fun _ => false) w') ∧ Below w.heap.size w w' := by
  refine (new_good v ts w hp hc).mono ?_
  rintro e w' ⟨J, M, A, D, C, rfl, hj, ⟨l1, l2, l3, l4⟩, hb⟩
  have hlt := Jn.lt hj
  refine ⟨⟨J, rfl, M, A, D, C, hj, l1, l2, l3, l4, fun k v b hk hv hown => ?_⟩, hb⟩
  obtain ⟨av, ha⟩ := Jn.aft hj
  have : v = av k := Option.some.inj (hv.symm.trans (ha.row.cell hk))
  subst this
  have := ((ha.own k hk).low hown).1
  show w.heap.size ≤ b
  omega
theorem join_no (v : Value) (ts : List (Int × List Int)) (w : World) (hp : PlanAt w v ts) {p q : Int} (hc : CheckIs ts p q) (hq : q ≠ 0) :
    Calls Tryd.prog 22 #[v] w fun e w' => e = .returned (.tuple #[.pointer none, errV q]) ∧ Below w.heap.size w w' := new_bad v ts w hp hc hq

theorem join_done (J : Nat) (ts : List (Int × List Int)) (hg : Good ts) (S : Nat → Bool) (i : Int) (w : World) (X : Nat → Prop) (h : Jo X J ts S w) :
    Calls Tryd.prog 24 #[.pointer (some ⟨J, 0, none⟩), .int .i64 i] w fun e w' => (∃ a n c, e = .returned (.tuple #[.slice a n c, errV (doneErr ts S i)])) ∧ Jo X J ts (if doneErr ts S i = 0 then mark S i.toNat else S) w' ∧ Kx X w w' := by
  obtain ⟨M, A, D, C, hj, xJ, xM, xA, xD, xl⟩ := h
  by_cases hr : i < 0 ∨ (ts.length : Int) ≤ i
  · have hd : doneErr ts S i = 1 := by unfold doneErr; rw [if_pos hr]
    rw [hd]
    refine (done_range J M A D C ts S i w hj hr).mono ?_
    rintro e w' ⟨rfl, rfl⟩
    exact ⟨⟨none, 0, 0, rfl⟩, ⟨M, A, D, C, hj, xJ, xM, xA, xD, xl⟩, Kx.refl _ _⟩
  · obtain ⟨n, rfl⟩ := Int.eq_ofNat_of_zero_le (show 0 ≤ i by omega)
    have hn : n < ts.length := by omega
    cases hb : readyB ts S n with
    | false =>
      have hd : doneErr ts S (n : Int) = 6 := by unfold doneErr; rw [if_neg hr, Int.toNat_natCast, hb]; rfl
      rw [hd]
      refine (done_state J M A D C ts S n w hj hn hb).mono ?_
      rintro e w' ⟨rfl, hB⟩
      exact ⟨⟨none, 0, 0, rfl⟩, Jo.later ⟨M, A, D, C, hj, xJ, xM, xA, xD, xl⟩ hB, Below.kx hB⟩
    | true =>
      have hd : doneErr ts S (n : Int) = 0 := by unfold doneErr; rw [if_neg hr, Int.toNat_natCast, hb]; rfl
      rw [hd, if_pos rfl, Int.toNat_natCast]
      refine (done_good J M A D C ts hg S n w hj hn hb).mono ?_
      rintro e w' ⟨⟨v, rfl, hv⟩, hj', hk, hs⟩
      obtain ⟨a, c, rfl⟩ := hv.shape
      refine ⟨⟨a, _, c, by rw [errV_zero]⟩, ⟨M, A, D, C, hj', xJ, xM, xA, xD, fun k v b hn' hv' hb' => ?_⟩, ⟨hk.os, hk.tape, hk.output, hk.size, fun b hb' hx => hk.block b hb' (fun e => ?_)⟩⟩
      · rcases hs k v hv' with e | e
        · subst e; simp [Value.ownBlock] at hb'
        · exact xl k v b hn' e hb'
      · rcases e with rfl | rfl | rfl <;> exact hx (by assumption)
theorem join_ready (J : Nat) (ts : List (Int × List Int)) (S : Nat → Bool) (w : World) (X : Nat → Prop) (h : Jo X J ts S w) :
    Calls Tryd.prog 33 #[.pointer (some ⟨J, 0, none⟩)] w fun e w' => (∃ v, e = .returned v ∧ RowI w.heap.size w' v (intsOf (readyTo ts S ts.length))) ∧ Below w.heap.size w w' := by
  obtain ⟨M, A, D, C, hj, _⟩ := h
  exact ready_any J M A D C ts S w hj

/-- Numbers, and a plan, that lie in no block of a set. -/
def IntsX (X : Nat → Prop) (w : World) (v : Value) (zs : List Int) : Prop :=
  zs.length * 8 ≤ 140737488351232 ∧ ∃ a c, v = .slice a zs.length c ∧ (zs = [] ∨ ∃ b o, a = some ⟨b, o, none⟩ ∧ ¬ X b ∧ b < w.heap.size ∧ ∀ k, k < zs.length → w.cell? ⟨b, o + k, none⟩ = some (.int .i64 (zs.getD k 0)))
def PlanX (X : Nat → Prop) (w : World) (v : Value) (ts : List (Int × List Int)) : Prop :=
  ts.length * 32 ≤ 140737488351232 ∧ ∃ a c, v = .slice a ts.length c ∧ (ts = [] ∨ ∃ b o, a = some ⟨b, o, none⟩ ∧ ¬ X b ∧ b < w.heap.size ∧
    ∀ k, k < ts.length → w.cell? ⟨b, o + k * 2, none⟩ = some (.int .i64 (ts.getD k (0, [])).1) ∧ ∃ nv, w.cell? ⟨b, o + k * 2 + 1, none⟩ = some nv ∧ IntsX X w nv (needsOf ts k))
theorem IntsX.ints {v : Value} {zs : List Int} (h : IntsX X w v zs) : IntsAt w v zs := by
  obtain ⟨h1, a, c, h2, h3⟩ := h
  exact ⟨h1, a, c, h2, h3.imp id (fun ⟨b, o, e, _, hb, hc⟩ => ⟨b, o, e, hb, hc⟩)⟩
theorem PlanX.plan {v : Value} (h : PlanX X w v ts) : PlanAt w v ts := by
  obtain ⟨h1, a, c, h2, h3⟩ := h
  exact ⟨h1, a, c, h2, h3.imp id (fun ⟨b, o, e, _, hb, hc⟩ => ⟨b, o, e, hb, fun k hk => by
    obtain ⟨c1, nv, c2, c3⟩ := hc k hk
    exact ⟨c1, nv, c2, c3.ints⟩⟩)⟩
theorem IntsX.kx {v : Value} {zs : List Int} (h : IntsX X w v zs) (hk : Kx X w w') (hY : ∀ b, Y b → X b ∨ w.heap.size ≤ b) : IntsX Y w' v zs := by
  obtain ⟨h1, a, c, h2, h3⟩ := h
  refine ⟨h1, a, c, h2, h3.imp id (fun ⟨b, o, e, hx, hb, hc⟩ => ⟨b, o, e, fun hy => ?_, Nat.lt_of_lt_of_le hb hk.size, fun k hn => (World.cell?_of_block (a := ⟨b, o + k, none⟩) (hk.block b hb hx)).trans (hc k hn)⟩)⟩
  rcases hY b hy with h | h
  · exact hx h
  · omega
theorem PlanX.kx {v : Value} (h : PlanX X w v ts) (hk : Kx X w w') (hY : ∀ b, Y b → X b ∨ w.heap.size ≤ b) : PlanX Y w' v ts := by
  obtain ⟨h1, a, c, h2, h3⟩ := h
  refine ⟨h1, a, c, h2, h3.imp id (fun ⟨b, o, e, hx, hb, hc⟩ => ⟨b, o, e, fun hy => ?_, Nat.lt_of_lt_of_le hb hk.size, fun k hn => ?_⟩)⟩
  · rcases hY b hy with h | h
    · exact hx h
    · omega
  · obtain ⟨c1, nv, c2, c3⟩ := hc k hn
    exact ⟨(World.cell?_of_block (a := ⟨b, o + k * 2, none⟩) (hk.block b hb hx)).trans c1, nv, (World.cell?_of_block (a := ⟨b, o + k * 2 + 1, none⟩) (hk.block b hb hx)).trans c2, c3.kx hk hY⟩

theorem Kx.weak {Z : Nat → Prop} (h : Kx X w w') (hz : ∀ b, X b → Z b) : Kx Z w w' := ⟨h.os, h.tape, h.output, h.size, fun k hk hx => h.block k hk (fun e => hx (hz k e))⟩

/-- The log's own cells. -/
def logRow (pv dv : Value) (J : Nat) (s : Ls) : Nat → Value := fun k => if k = 0 then pv else if k = 1 then .pointer (some ⟨J, 0, none⟩) else if k = 2 then dv else if k = 3 then .int .i64 s.safe else if k = 4 then .int .i64 s.ahead else .bool s.stopped
/-- A log in block L, with the set X of all blocks that it writes into, and the set XJ of its join's; the join knows those of S as done; its plan lies ahead of T. -/
structure LgM (B T : Nat) (X XJ : Nat → Prop) (L J : Nat) (pv dv : Value) (ts : List (Int × List Int)) (S : Nat → Bool) (s : Ls) (w : World) : Prop where
  row : w.rowIs L 55 6 (logRow pv dv J s)
  jo : Jo XJ J ts S w
  data : RowB B w dv (dataOf s.recs s.half)
  plan : PlanX (fun b => X b ∨ T ≤ b) w pv ts
  top : T ≤ w.heap.size
  xJ : ∀ b, XJ b → X b ∧ b ≠ L ∧ dv.ownBlock ≠ some b
  xL : X L ∧ dv.ownBlock ≠ some L
  xd : ∀ b, dv.ownBlock = some b → X b
  lt : ∀ b, X b → b < w.heap.size ∧ B ≤ b
/-- What of it is always so, too. -/
def Lg (B T : Nat) (X : Nat → Prop) (L : Nat) (ts : List (Int × List Int)) (s : Ls) (w : World) : Prop := (∃ XJ J pv dv, LgM B T X XJ L J pv dv ts (inL s.recs) s w) ∧ s.Ok ts ∧ CheckIs ts 0 0
/-- What a call leaves of it. -/
def LgTo (B T : Nat) (X : Nat → Prop) (L : Nat) (ts : List (Int × List Int)) (s : Ls) (w w' : World) : Prop := ∃ X', Lg B T X' L ts s w' ∧ Kx X w w' ∧ ∀ b, X' b → X b ∨ w.heap.size ≤ b

variable {XJ : Nat → Prop} {B T L : Nat} {pv dv : Value} {s : Ls}
theorem LgM.c0 (h : LgM B T X XJ L J pv dv ts S s w) : w.cell? ⟨L, 0, none⟩ = some pv := h.row.cell (i := 0) (by omega)
theorem LgM.c1 (h : LgM B T X XJ L J pv dv ts S s w) : w.cell? ⟨L, 1, none⟩ = some (.pointer (some ⟨J, 0, none⟩)) := h.row.cell (i := 1) (by omega)
theorem LgM.c2 (h : LgM B T X XJ L J pv dv ts S s w) : w.cell? ⟨L, 2, none⟩ = some dv := h.row.cell (i := 2) (by omega)
theorem LgM.c3 (h : LgM B T X XJ L J pv dv ts S s w) : w.cell? ⟨L, 3, none⟩ = some (.int .i64 s.safe) := h.row.cell (i := 3) (by omega)
theorem LgM.c4 (h : LgM B T X XJ L J pv dv ts S s w) : w.cell? ⟨L, 4, none⟩ = some (.int .i64 s.ahead) := h.row.cell (i := 4) (by omega)
theorem LgM.c5 (h : LgM B T X XJ L J pv dv ts S s w) : w.cell? ⟨L, 5, none⟩ = some (.bool s.stopped) := h.row.cell (i := 5) (by omega)
theorem LgM.ltL (h : LgM B T X XJ L J pv dv ts S s w) : L < w.heap.size := h.row.lt
theorem LgM.leB (h : LgM B T X XJ L J pv dv ts S s w) : B ≤ w.heap.size := by have := h.lt L h.xL.1; omega
theorem LgM.later (h : LgM B T X XJ L J pv dv ts S s w) (hb : Below w.heap.size w w') : LgM B T X XJ L J pv dv ts S s w' :=
  ⟨h.row.of_block (hb.block L h.ltL), h.jo.later hb, h.data.of_blocks (fun k e => hb.block k (h.data.low e).2), h.plan.kx (Below.kx hb) (fun _ hb => Or.inl hb), Nat.le_trans h.top hb.size, h.xJ, h.xL, h.xd, fun b hx => ⟨Nat.lt_of_lt_of_le (h.lt b hx).1 hb.size, (h.lt b hx).2⟩⟩
theorem Lg.later (h : Lg B T X L ts s w) (hb : Below w.heap.size w w') : Lg B T X L ts s w' := by
  obtain ⟨⟨XJ, J, pv, dv, hM⟩, h2⟩ := h
  exact ⟨⟨XJ, J, pv, dv, hM.later hb⟩, h2⟩
theorem Lg.to (h : Lg B T X L ts s w) (hb : Below w.heap.size w w') : LgTo B T X L ts s w w' := ⟨X, h.later hb, Below.kx hb, fun _ h => Or.inl h⟩
/-- A store into the log's own cells. -/
theorem LgM.store {k : Nat} {u : Value} {s' : Ls} (h : LgM B T X XJ L J pv dv ts S s w) (e : ∀ j, j < 6 → (if j = k then u else logRow pv dv J s j) = logRow pv dv J s' j) (ed : dataOf s'.recs s'.half = dataOf s.recs s.half) : LgM B T X XJ L J pv dv ts S s' (w.setCell ⟨L, k, none⟩ u) := by
  have keep : ∀ b, b ≠ L → (w.setCell ⟨L, k, none⟩ u).heap[b]? = w.heap[b]? := fun b hb => Below.heap_setCell _ _ _ _ (by show b ≠ L; exact hb)
  have hk : Kx X w (w.setCell ⟨L, k, none⟩ u) := (Kx.refl X w).set (Or.inl h.xL.1) k u
  have hs : (w.setCell ⟨L, k, none⟩ u).heap.size = w.heap.size := by simp
  refine ⟨(h.row.set k u).congr e, h.jo.kept (fun b hx hl => keep b (h.xJ b hx).2.1), ?_, h.plan.kx (hk.weak (fun _ => Or.inl)) (fun _ hb => Or.inl hb), by rw [hs]; exact h.top, h.xJ, h.xL, h.xd, fun b hx => by rw [hs]; exact h.lt b hx⟩
  rw [ed]; exact h.data.of_blocks (fun b hb => keep b (fun e => h.xL.2 (by rw [← e]; exact hb)))
theorem LgM.storeK (h : LgM B T X XJ L J pv dv ts S s w) (k : Nat) (u : Value) : Kx X w (w.setCell ⟨L, k, none⟩ u) := (Kx.refl X w).set (Or.inl h.xL.1) k u
theorem LgM.fail (h : LgM B T X XJ L J pv dv ts S s w) (n : Int) : LgM B T X XJ L J pv dv ts S (s.fail n) (w.setCell ⟨L, 4, none⟩ (.int .i64 n)) :=
  h.store (fun j hj => by rcases (by omega : j = 0 ∨ j = 1 ∨ j = 2 ∨ j = 3 ∨ j = 4 ∨ j = 5) with rfl | rfl | rfl | rfl | rfl | rfl <;> rfl) rfl
theorem LgM.stop (h : LgM B T X XJ L J pv dv ts S s w) (b : Bool) : LgM B T X XJ L J pv dv ts S { s with stopped := b } (w.setCell ⟨L, 5, none⟩ (.bool b)) :=
  h.store (fun j hj => by rcases (by omega : j = 0 ∨ j = 1 ∨ j = 2 ∨ j = 3 ∨ j = 4 ∨ j = 5) with rfl | rfl | rfl | rfl | rfl | rfl <;> rfl) rfl
theorem LgM.setSafe (h : LgM B T X XJ L J pv dv ts S s w) (n : Nat) : LgM B T X XJ L J pv dv ts S { s with safe := n } (w.setCell ⟨L, 3, none⟩ (.int .i64 n)) :=
  h.store (fun j hj => by rcases (by omega : j = 0 ∨ j = 1 ∨ j = 2 ∨ j = 3 ∨ j = 4 ∨ j = 5) with rfl | rfl | rfl | rfl | rfl | rfl <;> rfl) rfl
/-- Its join is another one, behind a call of it. -/
theorem LgM.join {S' : Nat → Bool} (h : LgM B T X XJ L J pv dv ts S s w) (hj : Jo XJ J ts S' w') (hk : Kx XJ w w') : LgM B T X XJ L J pv dv ts S' s w' ∧ Kx X w w' := by
  have hk2 : Kx X w w' := ⟨hk.os, hk.tape, hk.output, hk.size, fun b hb hx => hk.block b hb (fun e => hx (h.xJ b e).1)⟩
  exact ⟨⟨h.row.of_block (hk.block L h.ltL (fun e => (h.xJ L e).2.1 rfl)), hj, h.data.of_blocks (fun b hb => hk.block b (h.data.low hb).2 (fun e => (h.xJ b e).2.2 hb)), h.plan.kx (hk2.weak (fun _ => Or.inl)) (fun _ hb => Or.inl hb), Nat.le_trans h.top hk.size, h.xJ, h.xL, h.xd, fun b hx => ⟨Nat.lt_of_lt_of_le (h.lt b hx).1 hk.size, (h.lt b hx).2⟩⟩, hk2⟩
/-- Its bytes are others. -/
theorem LgM.setData {dv2 : Value} {s' : Ls} (h : LgM B T X XJ L J pv dv ts S s w) (hd : RowB B w' dv2 (dataOf s'.recs s'.half)) (hk : Kx (fun b => dv.ownBlock = some b) w w') (hn : ∀ b, dv2.ownBlock = some b → dv.ownBlock = some b ∨ w.heap.size ≤ b)
    (e3 : s'.safe = s.safe) (e4 : s'.ahead = s.ahead) (e5 : s'.stopped = s.stopped) :
    LgM B T (fun b => X b ∨ dv2.ownBlock = some b) XJ L J pv dv2 ts S s' (w'.setCell ⟨L, 2, none⟩ dv2) ∧ Kx X w (w'.setCell ⟨L, 2, none⟩ dv2) ∧ ∀ b, (X b ∨ dv2.ownBlock = some b) → X b ∨ w.heap.size ≤ b := by
  have hk2 : Kx X w w' := ⟨hk.os, hk.tape, hk.output, hk.size, fun b hb hx => hk.block b hb (fun e => hx (h.xd b e))⟩
  have hne : ∀ b, dv2.ownBlock = some b → b ≠ L := fun b hb e => by
    subst e
    rcases hn b hb with h1 | h1
    · exact h.xL.2 h1
    · have := h.ltL; omega
  have hL : w'.heap[L]? = w.heap[L]? := hk.block L h.ltL h.xL.2
  have keep : ∀ b, b ≠ L → (w'.setCell ⟨L, 2, none⟩ dv2).heap[b]? = w'.heap[b]? := fun b hb => Below.heap_setCell _ _ _ _ (by show b ≠ L; exact hb)
  have hk3 : Kx X w (w'.setCell ⟨L, 2, none⟩ dv2) := hk2.set (Or.inl h.xL.1) 2 dv2
  have hs : (w'.setCell ⟨L, 2, none⟩ dv2).heap.size = w'.heap.size := by simp
  have hg : ∀ b, (X b ∨ dv2.ownBlock = some b) → X b ∨ w.heap.size ≤ b := fun b hb => hb.elim Or.inl (fun e => (hn b e).imp (h.xd b) id)
  refine ⟨⟨((h.row.of_block hL).set 2 dv2).congr (fun j hj => ?_), h.jo.kept (fun b hx hl => (keep b (h.xJ b hx).2.1).trans (hk.block b hl (h.xJ b hx).2.2)), hd.of_blocks (fun b hb => keep b (hne b hb)), h.plan.kx (hk3.weak (fun _ => Or.inl)) (fun b hb => hb.elim (fun e => (hg b e).imp Or.inl id) (fun e => Or.inl (Or.inr e))), by rw [hs]; exact Nat.le_trans h.top hk.size, fun b hx => ⟨Or.inl (h.xJ b hx).1, (h.xJ b hx).2.1, fun e => ?_⟩, ⟨Or.inl h.xL.1, fun e => hne L e rfl⟩, fun b hb => Or.inr hb, fun b hx => ?_⟩, hk3, hg⟩
  · rcases (by omega : j = 0 ∨ j = 1 ∨ j = 2 ∨ j = 3 ∨ j = 4 ∨ j = 5) with rfl | rfl | rfl | rfl | rfl | rfl
    · rfl
    · rfl
    · rfl
    · show Value.int .i64 s.safe = .int .i64 s'.safe; rw [e3]
    · show Value.int .i64 s.ahead = .int .i64 s'.ahead; rw [e4]
    · show Value.bool s.stopped = .bool s'.stopped; rw [e5]
  · rcases hn b e with h1 | h1
    · exact (h.xJ b hx).2.2 h1
    · have := (h.lt b (h.xJ b hx).1).1; omega
  · rw [hs]
    rcases hx with hx | hx
    · have := h.lt b hx; have := hk.size; omega
    · exact ⟨(hd.low hx).2, (hd.low hx).1⟩
end Go.Proofs.YtbknbakbfblbiaaDoor
