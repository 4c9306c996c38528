/- Plain: how a text of a weave is read, and what it comes to: its tasks, which of them come first and last, its work and span. No word of the program. A reader of weaves in memory: what it holds, and what a call of it keeps. -/
import Derived.Test.YtlfbdjeojgbniaaGreatDoorRcm01
import Derived.Maps.AppendAt
import Derived.Deep.Draws

namespace Go.Proofs.YtlfbdjeojgbniaaGreatDoor

/-- A weave, as it was read. -/
inductive Tree where
  | num (ds : List UInt8)
  | seq (a b : Tree)
  | par (a b : Tree)

def isDig (b : UInt8) : Bool := decide (48 ≤ b.toNat) && decide (b.toNat ≤ 57)
/-- A number is read: digits, the first of them no 0. -/
def numR (s : List UInt8) : Option (Tree × List UInt8) :=
  match s.takeWhile isDig with
  | [] => none
  | d :: ds => if d = 48 then none else some (.num (d :: ds), s.dropWhile isDig)

inductive Kind where
  | link
  | chain
  | chainL (t : Tree)
  | weave
  | weaveL (t : Tree)

/-- What a text is read to: nothing, where its form is wrong; else a weave, and what is left of the text. -/
inductive Gr : Kind → List UInt8 → Option (Tree × List UInt8) → Prop
  | num {s : List UInt8} : s.head? ≠ some 40 → Gr .link s (numR s)
  | opened {s : List UInt8} : Gr .weave s none → Gr .link (40 :: s) none
  | unshut {s s2 : List UInt8} {t : Tree} : Gr .weave s (some (t, s2)) → s2.head? ≠ some 41 → Gr .link (40 :: s) none
  | signs {s s2 : List UInt8} {t : Tree} : Gr .weave s (some (t, 41 :: s2)) → Gr .link (40 :: s) (some (t, s2))
  | chainNo {s : List UInt8} : Gr .link s none → Gr .chain s none
  | chainOf {s s2 : List UInt8} {t : Tree} {r : Option (Tree × List UInt8)} : Gr .link s (some (t, s2)) → Gr (.chainL t) s2 r → Gr .chain s r
  | chainEnd {s : List UInt8} {t : Tree} : s.head? ≠ some 59 → Gr (.chainL t) s (some (t, s))
  | chainBad {s : List UInt8} {t : Tree} : Gr .link s none → Gr (.chainL t) (59 :: s) none
  | chainMore {s s2 : List UInt8} {t t2 : Tree} {r : Option (Tree × List UInt8)} : Gr .link s (some (t2, s2)) → Gr (.chainL (.seq t t2)) s2 r → Gr (.chainL t) (59 :: s) r
  | weaveNo {s : List UInt8} : Gr .chain s none → Gr .weave s none
  | weaveOf {s s2 : List UInt8} {t : Tree} {r : Option (Tree × List UInt8)} : Gr .chain s (some (t, s2)) → Gr (.weaveL t) s2 r → Gr .weave s r
  | weaveEnd {s : List UInt8} {t : Tree} : s.head? ≠ some 124 → Gr (.weaveL t) s (some (t, s))
  | weaveBad {s : List UInt8} {t : Tree} : Gr .chain s none → Gr (.weaveL t) (124 :: s) none
  | weaveMore {s s2 : List UInt8} {t t2 : Tree} {r : Option (Tree × List UInt8)} : Gr .chain s (some (t2, s2)) → Gr (.weaveL (.par t t2)) s2 r → Gr (.weaveL t) (124 :: s) r

/-- It is read in one way. -/
theorem Gr.det {k : Kind} {s : List UInt8} {r r' : Option (Tree × List UInt8)} (h : Gr k s r) (h' : Gr k s r') : r = r' := by
  induction h generalizing r' with
  | num hn =>
    cases h' with
    | num => rfl
    | opened => simp at hn
    | unshut => simp at hn
    | signs => simp at hn
  | opened _ ih =>
    cases h' with
    | num hn => simp at hn
    | opened => rfl
    | unshut => rfl
    | signs g => have := ih g; cases this
  | unshut _ hs ih =>
    cases h' with
    | num hn => simp at hn
    | opened => rfl
    | unshut => rfl
    | signs g => have := ih g; simp at this; obtain ⟨_, rfl⟩ := this; simp at hs
  | signs _ ih =>
    cases h' with
    | num hn => simp at hn
    | opened g => have := ih g; cases this
    | unshut g hs => have := ih g; simp at this; obtain ⟨_, rfl⟩ := this; simp at hs
    | signs g => have := ih g; simp at this; obtain ⟨rfl, rfl⟩ := this; rfl
  | chainNo _ ih =>
    cases h' with
    | chainNo => rfl
    | chainOf g => have := ih g; cases this
  | chainOf _ _ ih1 ih2 =>
    cases h' with
    | chainNo g => have := ih1 g; cases this
    | chainOf g1 g2 => have := ih1 g1; simp at this; obtain ⟨rfl, rfl⟩ := this; exact ih2 g2
  | chainEnd hn =>
    cases h' with
    | chainEnd => rfl
    | chainBad => simp at hn
    | chainMore => simp at hn
  | chainBad _ ih =>
    cases h' with
    | chainEnd hn => simp at hn
    | chainBad => rfl
    | chainMore g => have := ih g; cases this
  | chainMore _ _ ih1 ih2 =>
    cases h' with
    | chainEnd hn => simp at hn
    | chainBad g => have := ih1 g; cases this
    | chainMore g1 g2 => have := ih1 g1; simp at this; obtain ⟨rfl, rfl⟩ := this; exact ih2 g2
  | weaveNo _ ih =>
    cases h' with
    | weaveNo => rfl
    | weaveOf g => have := ih g; cases this
  | weaveOf _ _ ih1 ih2 =>
    cases h' with
    | weaveNo g => have := ih1 g; cases this
    | weaveOf g1 g2 => have := ih1 g1; simp at this; obtain ⟨rfl, rfl⟩ := this; exact ih2 g2
  | weaveEnd hn =>
    cases h' with
    | weaveEnd => rfl
    | weaveBad => simp at hn
    | weaveMore => simp at hn
  | weaveBad _ ih =>
    cases h' with
    | weaveEnd hn => simp at hn
    | weaveBad => rfl
    | weaveMore g => have := ih g; cases this
  | weaveMore _ _ ih1 ih2 =>
    cases h' with
    | weaveEnd hn => simp at hn
    | weaveBad g => have := ih1 g; cases this
    | weaveMore g1 g2 => have := ih1 g1; simp at this; obtain ⟨rfl, rfl⟩ := this; exact ih2 g2

/-- How many tasks. -/
def Tree.count : Tree → Nat
  | .num _ => 1
  | .seq a b => a.count + b.count
  | .par a b => a.count + b.count
/-- Those that come first, numbered from n on. -/
def Tree.first (n : Nat) : Tree → List Nat
  | .num _ => [n]
  | .seq a _ => a.first n
  | .par a b => a.first n ++ b.first (n + a.count)
/-- Those that come last. -/
def Tree.last (n : Nat) : Tree → List Nat
  | .num _ => [n]
  | .seq a b => b.last (n + a.count)
  | .par a b => a.last n ++ b.last (n + a.count)
/-- Its work, and its span, where V tells numbers. -/
def Tree.work (V : List UInt8 → Int) : Tree → Int
  | .num ds => V ds
  | .seq a b => a.work V + b.work V
  | .par a b => a.work V + b.work V
def Tree.span (V : List UInt8 → Int) : Tree → Int
  | .num ds => V ds
  | .seq a b => a.span V + b.span V
  | .par a b => max (a.span V) (b.span V)

/-- The x-th task needs these. -/
def setN (zs : List Int) (ts : List (Int × List Int)) (x : Nat) : List (Int × List Int) := ts.set x ((ts.getD x (0, [])).1, zs)
/-- Each of those needs these. -/
def setAll (fs : List Nat) (zs : List Int) (ts : List (Int × List Int)) : List (Int × List Int) := fs.foldl (setN zs) ts
def ofNats (l : List Nat) : List Int := l.map Int.ofNat
/-- The tasks of a weave, laid behind others. -/
def Tree.lay (V : List UInt8 → Int) : Tree → List (Int × List Int) → List (Int × List Int)
  | .num ds, ts => ts ++ [(V ds, [])]
  | .seq a b, ts => setAll (b.first (ts.length + a.count)) (ofNats (a.last ts.length)) (b.lay V (a.lay V ts))
  | .par a b, ts => b.lay V (a.lay V ts)

theorem setN_length (zs : List Int) (ts : List (Int × List Int)) (x : Nat) : (setN zs ts x).length = ts.length := by simp [setN]
theorem setAll_length (fs : List Nat) (zs : List Int) (ts : List (Int × List Int)) : (setAll fs zs ts).length = ts.length := by
  induction fs generalizing ts with
  | nil => rfl
  | cons f r ih => show (setAll r zs (setN zs ts f)).length = _; rw [ih, setN_length]
theorem Tree.lay_length (V : List UInt8 → Int) (t : Tree) : ∀ ts, (t.lay V ts).length = ts.length + t.count := by
  induction t with
  | num ds => intro ts; simp [Tree.lay, Tree.count]
  | seq a b iha ihb => intro ts; simp only [Tree.lay, Tree.count, setAll_length]; rw [ihb, iha]; omega
  | par a b iha ihb => intro ts; simp only [Tree.lay, Tree.count]; rw [ihb, iha]; omega

theorem setN_getD (zs : List Int) (ts : List (Int × List Int)) (x y : Nat) : (setN zs ts x).getD y (0, []) = if x = y ∧ x < ts.length then ((ts.getD x (0, [])).1, zs) else ts.getD y (0, []) := by
  unfold setN
  simp only [List.getD_eq_getElem?_getD, List.getElem?_set]
  by_cases h : x = y
  · subst h
    by_cases hl : x < ts.length
    · simp [hl]
    · simp [hl]
  · simp [h]
theorem setAll_getD (fs : List Nat) (zs : List Int) (ts : List (Int × List Int)) (y : Nat) (hy : y < ts.length) : (setAll fs zs ts).getD y (0, []) = if y ∈ fs then ((ts.getD y (0, [])).1, zs) else ts.getD y (0, []) := by
  induction fs generalizing ts with
  | nil => simp [setAll]
  | cons f r ih =>
    show (setAll r zs (setN zs ts f)).getD y (0, []) = _
    rw [ih _ (by rw [setN_length]; exact hy)]
    by_cases h2 : f = y
    · have e : (setN zs ts f).getD y (0, []) = ((ts.getD y (0, [])).1, zs) := by rw [setN_getD, if_pos ⟨h2, by omega⟩, h2]
      rw [e, if_pos (show y ∈ f :: r by rw [h2]; exact List.mem_cons_self)]
      split <;> rfl
    · have e : (setN zs ts f).getD y (0, []) = ts.getD y (0, []) := by rw [setN_getD, if_neg (fun h => h2 h.1)]
      rw [e]
      by_cases h1 : y ∈ r
      · rw [if_pos h1, if_pos (List.mem_cons_of_mem _ h1)]
      · rw [if_neg h1, if_neg (fun h => (List.mem_cons.1 h).elim (fun h => h2 h.symm) h1)]

theorem Tree.first_range (t : Tree) : ∀ n x, x ∈ t.first n → n ≤ x ∧ x < n + t.count := by
  induction t with
  | num ds => intro n x h; simp [Tree.first] at h; subst h; simp [Tree.count]
  | seq a b iha _ => intro n x h; have := iha n x h; simp only [Tree.count]; omega
  | par a b iha ihb =>
    intro n x h
    simp only [Tree.first, List.mem_append] at h
    simp only [Tree.count]
    rcases h with h | h
    · have := iha n x h; omega
    · have := ihb _ x h; omega
theorem Tree.last_range (t : Tree) : ∀ n x, x ∈ t.last n → n ≤ x ∧ x < n + t.count := by
  induction t with
  | num ds => intro n x h; simp [Tree.last] at h; subst h; simp [Tree.count]
  | seq a b _ ihb => intro n x h; have := ihb _ x h; simp only [Tree.count]; omega
  | par a b iha ihb =>
    intro n x h
    simp only [Tree.last, List.mem_append] at h
    simp only [Tree.count]
    rcases h with h | h
    · have := iha n x h; omega
    · have := ihb _ x h; omega
theorem Tree.first_len (t : Tree) : ∀ n, (t.first n).length ≤ t.count := by
  induction t with
  | num ds => intro n; simp [Tree.first, Tree.count]
  | seq a b iha _ => intro n; have := iha n; simp only [Tree.first, Tree.count]; omega
  | par a b iha ihb => intro n; have := iha n; have := ihb (n + a.count); simp only [Tree.first, Tree.count, List.length_append]; omega
theorem Tree.last_len (t : Tree) : ∀ n, (t.last n).length ≤ t.count := by
  induction t with
  | num ds => intro n; simp [Tree.last, Tree.count]
  | seq a b _ ihb => intro n; have := ihb (n + a.count); simp only [Tree.last, Tree.count]; omega
  | par a b iha ihb => intro n; have := iha n; have := ihb (n + a.count); simp only [Tree.last, Tree.count, List.length_append]; omega
theorem Tree.last_pos (t : Tree) : ∀ n, 0 < (t.last n).length := by
  induction t with
  | num ds => intro n; simp [Tree.last]
  | seq a b _ ihb => intro n; exact ihb _
  | par a b iha _ => intro n; have := iha n; simp only [Tree.last, List.length_append]; omega
theorem Tree.first_pos (t : Tree) : ∀ n, 0 < (t.first n).length := by
  induction t with
  | num ds => intro n; simp [Tree.first]
  | seq a b iha _ => intro n; exact iha _
  | par a b iha _ => intro n; have := iha n; simp only [Tree.first, List.length_append]; omega
theorem Tree.count_pos (t : Tree) : 0 < t.count := by
  have h1 := t.first_pos 0
  have h2 := t.first_len 0
  omega

/-- What is laid is laid behind what was there. -/
theorem Tree.lay_old (V : List UInt8 → Int) (t : Tree) : ∀ ts y, y < ts.length → (t.lay V ts).getD y (0, []) = ts.getD y (0, []) := by
  induction t with
  | num ds => intro ts y hy; simp [Tree.lay, List.getElem?_append_left hy]
  | seq a b iha ihb =>
    intro ts y hy
    simp only [Tree.lay]
    rw [setAll_getD _ _ _ _ (by rw [b.lay_length, a.lay_length]; omega), if_neg, ihb _ _ (by rw [a.lay_length]; omega), iha _ _ hy]
    intro h
    have := b.first_range _ _ h
    omega
  | par a b iha ihb =>
    intro ts y hy
    simp only [Tree.lay]
    rw [ihb _ _ (by rw [a.lay_length]; omega), iha _ _ hy]

/-- Those that come first need none yet. -/
theorem Tree.first_free (V : List UInt8 → Int) (t : Tree) : ∀ ts x, x ∈ t.first ts.length → needsOf (t.lay V ts) x = [] := by
  induction t with
  | num ds =>
    intro ts x h
    simp [Tree.first] at h
    subst h
    simp [needsOf, Tree.lay]
  | seq a b iha ihb =>
    intro ts x h
    have hr := a.first_range _ _ h
    unfold needsOf
    simp only [Tree.lay]
    rw [setAll_getD _ _ _ _ (by rw [b.lay_length, a.lay_length]; omega), if_neg, b.lay_old V _ _ (by rw [a.lay_length]; omega)]
    · exact iha ts x h
    · intro h2
      have := b.first_range _ _ h2
      omega
  | par a b iha ihb =>
    intro ts x h
    simp only [Tree.first, List.mem_append] at h
    unfold needsOf
    simp only [Tree.lay]
    rcases h with h | h
    · have hr := a.first_range _ _ h
      rw [b.lay_old V _ _ (by rw [a.lay_length]; omega)]
      exact iha ts x h
    · rw [← a.lay_length V ts] at h
      exact ihb _ x h

theorem Tree.work_le {V : List UInt8 → Int} {m : Int} (hV : ∀ ds, 0 ≤ V ds ∧ V ds ≤ m) (t : Tree) : 0 ≤ t.work V ∧ t.work V ≤ m * t.count := by
  induction t with
  | num ds => have := hV ds; simp [Tree.work, Tree.count]; omega
  | seq a b iha ihb => simp only [Tree.work, Tree.count]; rw [Int.natCast_add, Int.mul_add]; omega
  | par a b iha ihb => simp only [Tree.work, Tree.count]; rw [Int.natCast_add, Int.mul_add]; omega
theorem Tree.span_le {V : List UInt8 → Int} {m : Int} (hV : ∀ ds, 0 ≤ V ds ∧ V ds ≤ m) (t : Tree) : 0 ≤ t.span V ∧ t.span V ≤ t.work V := by
  induction t with
  | num ds => have := hV ds; simp [Tree.work, Tree.span]; omega
  | seq a b iha ihb => simp only [Tree.work, Tree.span]; omega
  | par a b iha ihb => simp only [Tree.work, Tree.span]; omega
end Go.Proofs.YtlfbdjeojgbniaaGreatDoor

namespace Go.Proofs.YtlfbdjeojgbniaaGreatDoor
open Go.RowKit Go.Deep

/-- Numbers in a row of their own, from block b on. -/
def RowW (b : Nat) (w : World) (v : Value) (zs : List Int) : Prop := w.ownsRow b 3 1 v zs.length (zs.map (Value.int .i64))
/-- Tasks in a row of their own, from block b on; what they need lies in blocks that A allows. -/
def RowT (b : Nat) (A : Nat → Prop) (w : World) (v : Value) (ts : List (Int × List Int)) : Prop :=
  ∃ xs, w.ownsRow b 94 2 v ts.length xs ∧ ∀ j, j < ts.length → xs[j * 2]? = some (.int .i64 (ts.getD j (0, [])).1) ∧ ∃ nv, xs[j * 2 + 1]? = some nv ∧ RowW b w nv (needsOf ts j) ∧ ∀ k, nv.ownBlock = some k → A k
/-- The reader lies in block R: its text, its place, its tasks. -/
def Rd (R : Nat) (l : List UInt8) (i : Nat) (ts : List (Int × List Int)) (A : Nat → Prop) (w : World) : Prop :=
  ∃ tv, w.heap[R]? = some (.cells #[.string ⟨l.toArray⟩, .int .i64 i, tv] 234 (0, 0)) ∧ RowT (R + 1) A w tv ts

/-- What is kept by whatever reads: all but the reader's block, rows of tasks behind it, and new blocks. -/
structure Kp (R : Nat) (w w' : World) : Prop where
  os : w'.os = w.os
  tape : w'.tape = w.tape
  output : w'.output = w.output
  size : w.heap.size ≤ w'.heap.size
  block : ∀ k, k < w.heap.size → k ≠ R → ¬ (R < k ∧ ∃ cs fr, w.heap[k]? = some (.cells cs 94 fr)) → w'.heap[k]? = w.heap[k]?

theorem Kp.refl (R : Nat) (w : World) : Kp R w w := ⟨rfl, rfl, rfl, Nat.le_refl _, fun _ _ _ _ => rfl⟩
theorem Kp.trans {R : Nat} {a b c : World} (h : Kp R a b) (k : Kp R b c) : Kp R a c :=
  ⟨k.os.trans h.os, k.tape.trans h.tape, k.output.trans h.output, Nat.le_trans h.size k.size, fun i hi hR hT => by
    have e := h.block i hi hR hT
    exact (k.block i (Nat.lt_of_lt_of_le hi h.size) hR (by rw [e]; exact hT)).trans e⟩
theorem Kp.below {R : Nat} {w w' : World} (h : Kp R w w') (hR : R ≤ w.heap.size) : Below R w w' :=
  ⟨h.os, h.tape, h.output, h.size, fun k hk => h.block k (by omega) (by omega) (fun hc => by omega)⟩
theorem Kp.grown {R : Nat} {w0 w w' : World} {row : Option Nat} (h : Kp R w0 w) (hg : w.grownBy w' row)
    (hr : ∀ k, row = some k → k = R ∨ w0.heap.size ≤ k ∨ (R < k ∧ ∃ cs fr, w.heap[k]? = some (.cells cs 94 fr))) : Kp R w0 w' :=
  ⟨hg.os.trans h.os, hg.tape.trans h.tape, hg.output.trans h.output, Nat.le_trans h.size hg.size, fun i hi hR hT => by
    have e := h.block i hi hR hT
    refine (hg.block i (Nat.lt_of_lt_of_le hi h.size) (fun hc => ?_)).trans e
    rcases hr i hc.symm with h1 | h1 | ⟨h1, h2⟩
    · exact hR h1
    · omega
    · rw [e] at h2; exact hT ⟨h1, h2⟩⟩
theorem Kp.alloc {R : Nat} {w0 w : World} (h : Kp R w0 w) (o : Obj) : Kp R w0 (w.alloc o) := h.grown (World.grownBy_alloc w o none) (fun k e => by cases e)
theorem grown_setCell (w : World) (p : Addr) (u : Value) : w.grownBy (w.setCell p u) (some p.block) := ⟨rfl, rfl, rfl, by simp, fun k _ hk => Below.heap_setCell _ _ _ _ (fun e => hk (by rw [e]))⟩
theorem Kp.setR {R : Nat} {w0 w : World} (h : Kp R w0 w) (j : Nat) (u : Value) : Kp R w0 (w.setCell ⟨R, j, none⟩ u) := h.grown (grown_setCell w ⟨R, j, none⟩ u) (fun k e => by cases e; exact Or.inl rfl)
theorem Kp.setNew {R : Nat} {w0 w : World} (h : Kp R w0 w) {b : Nat} (hb : w0.heap.size ≤ b) (j : Nat) (u : Value) : Kp R w0 (w.setCell ⟨b, j, none⟩ u) := h.grown (grown_setCell w ⟨b, j, none⟩ u) (fun k e => by cases e; exact Or.inr (Or.inl hb))
theorem Kp.drewN {R : Nat} {w0 w : World} (h : Kp R w0 w) (n : Nat) : Kp R w0 (w.drewN n) := ⟨h.os, h.tape, h.output, h.size, h.block⟩
theorem Kp.drew {R : Nat} {w0 w : World} (h : Kp R w0 w) : Kp R w0 w.drew := ⟨h.os, h.tape, h.output, h.size, h.block⟩
theorem Kp.of_below {R : Nat} {w0 w w' : World} (h : Kp R w0 w) (hb : Below w.heap.size w w') : Kp R w0 w' :=
  h.grown (row := none) ⟨hb.os, hb.tape, hb.output, hb.size, fun k hk _ => hb.block k hk⟩ (fun k e => by cases e)
/-- A block that is neither the reader nor a row of tasks. -/
theorem Kp.other {R : Nat} {w w' : World} (h : Kp R w w') {k : Nat} {cs : Array Value} {t : TypeId} {fr : Nat × Nat} (hk : w.heap[k]? = some (.cells cs t fr)) (hR : k ≠ R) (ht : t ≠ 94) : w'.heap[k]? = some (.cells cs t fr) := by
  refine (h.block k (lt_of_block hk) hR (fun ⟨_, c, f, e⟩ => ?_)).trans hk
  rw [hk] at e
  simp only [Option.some.injEq, Obj.cells.injEq] at e
  exact ht e.2.1

theorem Rd.typed {R i : Nat} {l : List UInt8} {ts : List (Int × List Int)} {A : Nat → Prop} {w : World} (h : Rd R l i ts A w) : ∃ cs, w.heap[R]? = some (.cells cs 234 (0, 0)) := by
  obtain ⟨tv, h, _⟩ := h
  exact ⟨_, h⟩
theorem Rd.lt {R i : Nat} {l : List UInt8} {ts : List (Int × List Int)} {A : Nat → Prop} {w : World} (h : Rd R l i ts A w) : R < w.heap.size := by
  obtain ⟨cs, h⟩ := h.typed
  exact lt_of_block h

theorem RowW.block {b : Nat} {w : World} {v : Value} {zs : List Int} (h : RowW b w v zs) {k : Nat} (hk : v.ownBlock = some k) : ∃ cs, w.heap[k]? = some (.cells cs 3 (0, 0)) := by
  rcases h.2 with ⟨rfl, _⟩ | ⟨g, cap, cur, rfl, _, hh, _⟩
  · simp [Value.ownBlock] at hk
  · simp only [Value.ownBlock, Option.some.injEq] at hk
    subst hk
    exact ⟨cur, hh⟩
theorem RowW.of_blocks {b : Nat} {w w' : World} {v : Value} {zs : List Int} (h : RowW b w v zs) (hk : ∀ k, v.ownBlock = some k → w'.heap[k]? = w.heap[k]?) : RowW b w' v zs := by
  rcases h.2 with ⟨rfl, hn⟩ | ⟨g, cap, cur, rfl, hb, hh, hr⟩
  · exact ⟨h.1, Or.inl ⟨rfl, hn⟩⟩
  · exact ⟨h.1, Or.inr ⟨g, cap, cur, rfl, hb, (hk g rfl).trans hh, hr⟩⟩
theorem RowW.kp {R b : Nat} {w w' : World} {v : Value} {zs : List Int} {cs : Array Value} (h : RowW b w v zs) (hR : w.heap[R]? = some (.cells cs 234 (0, 0))) (hk : Kp R w w') : RowW b w' v zs := by
  refine h.of_blocks fun k e => ?_
  obtain ⟨c, hc⟩ := h.block e
  exact (hk.other hc (fun e => by rw [e, hR] at hc; simp at hc) (by decide)).trans hc.symm
theorem RowW.mono {b b' : Nat} {w : World} {v : Value} {zs : List Int} (h : RowW b w v zs) (hb : b' ≤ b) : RowW b' w v zs := by
  rcases h.2 with hn | ⟨g, cap, cur, hv, hg, r⟩
  · exact ⟨h.1, Or.inl hn⟩
  · exact ⟨h.1, Or.inr ⟨g, cap, cur, hv, Nat.le_trans hb hg, r⟩⟩
theorem RowW.low {b : Nat} {w : World} {v : Value} {zs : List Int} (h : RowW b w v zs) {k : Nat} (hk : v.ownBlock = some k) : b ≤ k ∧ k < w.heap.size := World.ownsRow.lt h k hk
theorem RowW.shape {b : Nat} {w : World} {v : Value} {zs : List Int} (h : RowW b w v zs) : ∃ a c, v = .slice a zs.length c := by
  rcases h.2 with ⟨rfl, hn⟩ | ⟨g, cap, cur, rfl, _⟩
  · exact ⟨none, 0, by rw [hn]⟩
  · exact ⟨_, _, rfl⟩
theorem RowW.ints {b : Nat} {w : World} {v : Value} {zs : List Int} (h : RowW b w v zs) (hl : zs.length * 8 ≤ 140737488351232) : IntsAt w v zs := by
  refine ⟨hl, ?_⟩
  rcases h.2 with ⟨hv, h0⟩ | ⟨g, cap, cur, hv, _, hh, _⟩
  · exact ⟨none, 0, by rw [hv, h0], Or.inl (List.eq_nil_of_length_eq_zero h0)⟩
  · subst hv
    refine ⟨_, _, rfl, Or.inr ⟨g, 0, rfl, lt_of_block hh, fun k hk => ?_⟩⟩
    have e := World.ownsRow.cellAt h k (by omega)
    rw [Nat.zero_add, e]
    simp [hk]
theorem RowW.lit (w : World) (b : Nat) (hb : b ≤ w.heap.size) (x : Int) : RowW b (w.alloc (.cells #[.int .i64 x] 3)) (.slice (some ⟨w.heap.size, 0, none⟩) 1 1) [x] := by
  have h := World.ownsRow_lit (base := b) (e := 3) (size := 1) w #[.int .i64 x] 1 hb (by unfold maxLen; omega) rfl
  exact h

theorem RowT.of_blocks {b : Nat} {A : Nat → Prop} {w w' : World} {v : Value} {ts : List (Int × List Int)} (h : RowT b A w v ts) (hk : ∀ k, b ≤ k → k < w.heap.size → (A k ∨ v.ownBlock = some k) → w'.heap[k]? = w.heap[k]?) : RowT b A w' v ts := by
  obtain ⟨xs, ho, hx⟩ := h
  refine ⟨xs, ?_, fun j hj => ?_⟩
  · rcases ho.2 with ⟨rfl, hn⟩ | ⟨g, cap, cur, rfl, hb, hh, hr⟩
    · exact ⟨ho.1, Or.inl ⟨rfl, hn⟩⟩
    · exact ⟨ho.1, Or.inr ⟨g, cap, cur, rfl, hb, (hk g hb (lt_of_block hh) (Or.inr rfl)).trans hh, hr⟩⟩
  · obtain ⟨h1, nv, h2, h3, h4⟩ := hx j hj
    exact ⟨h1, nv, h2, h3.of_blocks (fun k e => hk k (h3.low e).1 (h3.low e).2 (Or.inl (h4 k e))), h4⟩
theorem RowT.allow {b : Nat} {A A' : Nat → Prop} {w : World} {v : Value} {ts : List (Int × List Int)} (h : RowT b A w v ts) (hA : ∀ k, A k → k < w.heap.size → A' k) : RowT b A' w v ts := by
  obtain ⟨xs, ho, hx⟩ := h
  refine ⟨xs, ho, fun j hj => ?_⟩
  obtain ⟨h1, nv, h2, h3, h4⟩ := hx j hj
  exact ⟨h1, nv, h2, h3, fun k e => hA k (h4 k e) (h3.low e).2⟩
theorem RowT.shape {b : Nat} {A : Nat → Prop} {w : World} {v : Value} {ts : List (Int × List Int)} (h : RowT b A w v ts) : ∃ a c, v = .slice a ts.length c := by
  obtain ⟨xs, ho, _⟩ := h
  rcases ho.2 with ⟨rfl, hn⟩ | ⟨g, cap, cur, rfl, _⟩
  · exact ⟨none, 0, by rw [hn]⟩
  · exact ⟨_, _, rfl⟩
theorem RowT.nil (b : Nat) (A : Nat → Prop) (w : World) : RowT b A w (.slice none 0 0) [] := ⟨[], World.ownsRow_nil _ _ _ _, fun j hj => by simp at hj⟩
theorem RowT.append {b : Nat} {A : Nat → Prop} {w w' : World} {v v' : Value} {ts : List (Int × List Int)} {xs : List Value} {wk : Int}
    (ho : w.ownsRow b 94 2 v ts.length xs) (hx : ∀ j, j < ts.length → xs[j * 2]? = some (.int .i64 (ts.getD j (0, [])).1) ∧ ∃ nv, xs[j * 2 + 1]? = some nv ∧ RowW b w nv (needsOf ts j) ∧ ∀ k, nv.ownBlock = some k → A k)
    (ho' : w'.ownsRow b 94 2 v' (ts.length + 1) (xs ++ [.int .i64 wk, .slice none 0 0])) (hg : w.grownBy w' v.ownBlock) : RowT b A w' v' (ts ++ [(wk, [])]) := by
  have hl : xs.length = ts.length * 2 := ho.1
  have kept : ∀ {nv : Value} {zs : List Int}, RowW b w nv zs → RowW b w' nv zs := fun {nv zs} hn => hn.of_blocks fun k e => by
    refine hg.block k (hn.low e).2 (fun hc => ?_)
    obtain ⟨cs, hcs⟩ := hn.block e
    rcases ho.2 with ⟨hv, _⟩ | ⟨g, cap, cur, hv, _, hh, _⟩
    · subst hv; simp [Value.ownBlock] at hc
    · subst hv
      simp only [Value.ownBlock, Option.some.injEq] at hc
      subst hc
      rw [hcs] at hh
      simp at hh
  refine ⟨xs ++ [.int .i64 wk, .slice none 0 0], by simpa using ho', fun j hj => ?_⟩
  simp at hj
  by_cases e : j = ts.length
  · subst e
    unfold needsOf
    rw [getD_snoc_at]
    refine ⟨by rw [← hl]; simp, .slice none 0 0, by rw [← hl]; simp, World.ownsRow_nil _ _ _ _, fun k e => by simp [Value.ownBlock] at e⟩
  · have hlt : j < ts.length := by omega
    obtain ⟨h1, nv2, h2, h3, h4⟩ := hx j hlt
    unfold needsOf at h3 ⊢
    rw [getD_snoc _ _ _ _ hlt]
    exact ⟨by rw [List.getElem?_append_left (by omega)]; exact h1, nv2, by rw [List.getElem?_append_left (by omega)]; exact h2, kept h3, h4⟩
/-- What the x-th needs is stored. -/
theorem RowT.set {b : Nat} {A : Nat → Prop} {w : World} {g cap x : Nat} {nv : Value} {ts : List (Int × List Int)} {zs : List Int} (h : RowT b A w (.slice (some ⟨g, 0, none⟩) ts.length cap) ts) (hx : x < ts.length) (hn : RowW b w nv zs) (hA : ∀ k, nv.ownBlock = some k → A k) :
    RowT b A (w.setCell ⟨g, x * 2 + 1, none⟩ nv) (.slice (some ⟨g, 0, none⟩) ts.length cap) (setN zs ts x) := by
  obtain ⟨xs, ho, hxs⟩ := h
  obtain ⟨ho', hg⟩ := ho.stored (x * 2 + 1) nv
  have hlx : xs.length = ts.length * 2 := ho.1
  have kept : ∀ {mv : Value} {zs : List Int}, RowW b w mv zs → RowW b (w.setCell ⟨g, x * 2 + 1, none⟩ nv) mv zs := fun {mv zs} hn => by
    refine hn.of_blocks fun k e => ?_
    refine hg.block k (hn.low e).2 (fun hc => ?_)
    obtain ⟨cs, hcs⟩ := hn.block e
    rcases ho.2 with ⟨hv, _⟩ | ⟨g', cap', cur, hv, _, hh, _⟩
    · cases hv
    · simp only [Value.slice.injEq, Option.some.injEq, Addr.mk.injEq, and_true, true_and] at hv
      obtain ⟨rfl, _⟩ := hv
      rw [← Option.some.inj hc, hcs] at hh
      simp at hh
  refine ⟨xs.set (x * 2 + 1) nv, by rw [setN_length]; exact ho', fun j hj => ?_⟩
  rw [setN_length] at hj
  obtain ⟨h1, nv2, h2, h3, h4⟩ := hxs j hj
  unfold needsOf
  rw [setN_getD]
  by_cases e : x = j
  · subst e
    rw [if_pos ⟨rfl, hx⟩]
    exact ⟨by rw [List.getElem?_set_ne (by omega)]; exact h1, nv, by simp [List.getElem?_set]; omega, kept hn, hA⟩
  · rw [if_neg (fun h => e h.1)]
    exact ⟨by rw [List.getElem?_set_ne (by omega)]; exact h1, nv2, by rw [List.getElem?_set_ne (by omega)]; exact h2, kept h3, h4⟩
theorem RowT.planAt {b : Nat} {A : Nat → Prop} {w : World} {v : Value} {ts : List (Int × List Int)} (h : RowT b A w v ts) (hl : ts.length * 32 ≤ 140737488351232) (hn : ∀ j, j < ts.length → (needsOf ts j).length * 8 ≤ 140737488351232) : PlanAt w v ts := by
  obtain ⟨xs, ho, hx⟩ := h
  refine ⟨hl, ?_⟩
  rcases ho.2 with ⟨hv, h0⟩ | ⟨g, cap, cur, hv, _, hh, _⟩
  · exact ⟨none, 0, by rw [hv, h0], Or.inl (List.eq_nil_of_length_eq_zero h0)⟩
  · subst hv
    refine ⟨_, _, rfl, Or.inr ⟨g, 0, rfl, lt_of_block hh, fun k hk => ?_⟩⟩
    obtain ⟨h1, nv, h2, h3, _⟩ := hx k hk
    have e1 := ho.cellAt (k * 2) (by omega)
    have e2 := ho.cellAt (k * 2 + 1) (by omega)
    rw [Nat.zero_add]
    exact ⟨by rw [e1]; exact h1, nv, by rw [e2]; exact h2, h3.ints (hn k hk)⟩

theorem Rd.of_heap {R i : Nat} {l : List UInt8} {ts : List (Int × List Int)} {A : Nat → Prop} {w w' : World} (h : Rd R l i ts A w) (e : ∀ k, k < w.heap.size → w'.heap[k]? = w.heap[k]?) : Rd R l i ts A w' := by
  obtain ⟨tv, h1, h2⟩ := h
  exact ⟨tv, (e R (lt_of_block h1)).trans h1, h2.of_blocks (fun k _ hk _ => e k hk)⟩
theorem Rd.later {R i : Nat} {l : List UInt8} {ts : List (Int × List Int)} {A : Nat → Prop} {w w' : World} (h : Rd R l i ts A w) (hb : Below w.heap.size w w') : Rd R l i ts A w' := h.of_heap hb.block
theorem Rd.alloc {R i : Nat} {l : List UInt8} {ts : List (Int × List Int)} {A : Nat → Prop} {w : World} (h : Rd R l i ts A w) (o : Obj) : Rd R l i ts A (w.alloc o) := h.of_heap (fun _ hk => Below.heap_alloc _ _ _ hk)
theorem Rd.drewN {R i : Nat} {l : List UInt8} {ts : List (Int × List Int)} {A : Nat → Prop} {w : World} (h : Rd R l i ts A w) (n : Nat) : Rd R l i ts A (w.drewN n) := h.of_heap (fun _ _ => rfl)
theorem Rd.allow {R i : Nat} {l : List UInt8} {ts : List (Int × List Int)} {A A' : Nat → Prop} {w : World} (h : Rd R l i ts A w) (hA : ∀ k, A k → k < w.heap.size → A' k) : Rd R l i ts A' w := by
  obtain ⟨tv, h1, h2⟩ := h
  exact ⟨tv, h1, h2.allow hA⟩
theorem Rd.cells {R i : Nat} {l : List UInt8} {ts : List (Int × List Int)} {A : Nat → Prop} {w : World} (h : Rd R l i ts A w) :
    w.cell? ⟨R, 0, none⟩ = some (.string ⟨l.toArray⟩) ∧ w.cell? ⟨R, 1, none⟩ = some (.int .i64 i) ∧ (∃ tv, w.cell? ⟨R, 2, none⟩ = some tv ∧ RowT (R + 1) A w tv ts) ∧ ∀ j, w.frozen? ⟨R, j, none⟩ = false := by
  obtain ⟨tv, h1, h2⟩ := h
  exact ⟨by simp [World.cell?, h1], by simp [World.cell?, h1], ⟨tv, by simp [World.cell?, h1], h2⟩, fun j => by simp [World.frozen?, h1]⟩
theorem Rd.place {R i : Nat} {l : List UInt8} {ts : List (Int × List Int)} {A : Nat → Prop} {w : World} (h : Rd R l i ts A w) (k : Nat) : Rd R l k ts A (w.setCell ⟨R, 1, none⟩ (.int .i64 k)) := by
  obtain ⟨tv, h1, h2⟩ := h
  refine ⟨tv, ?_, h2.of_blocks (fun k hk _ _ => Below.heap_setCell _ _ _ _ (by show k ≠ R; omega))⟩
  have := heap_setCell_same w R 1 _ 234 (.int .i64 k) h1
  simpa using this
theorem Rd.tasks {R i : Nat} {l : List UInt8} {ts ts' : List (Int × List Int)} {A A' : Nat → Prop} {w : World} {tv' : Value} (h : Rd R l i ts A w) (ht : RowT (R + 1) A' w tv' ts') : Rd R l i ts' A' (w.setCell ⟨R, 2, none⟩ tv') := by
  obtain ⟨tv, h1, h2⟩ := h
  refine ⟨tv', ?_, ht.of_blocks (fun k hk _ _ => Below.heap_setCell _ _ _ _ (by show k ≠ R; omega))⟩
  have := heap_setCell_same w R 2 _ 234 tv' h1
  simpa using this
end Go.Proofs.YtlfbdjeojgbniaaGreatDoor
