/- Plain: how a text of a weave is read, and what it comes to: its tasks, which of them come first and last, its work and span. No word of the program. -/
import Derived.Test.YtkcpimbhfmhjgaaPln
namespace Go.Proofs.Ytkcpimbhfmhjgaa

/-- A weave, as it was read. -/
inductive Tree where
  | num (ds : List UInt8)
  | seq (a b : Tree)
  | par (a b : Tree)

def isDig (b : UInt8) : Bool := decide (48 ≤ b.toNat) && decide (b.toNat ≤ 57)
/-- A number is read: digits, the first of them no 0. -/
def numR (s : List UInt8) : Option (Tree × List UInt8) :=
  match s.takeWhile isDig with
  | [] => none
  | d :: ds => if d = 48 then none else some (.num (d :: ds), s.dropWhile isDig)

inductive Kind where
  | link
  | chain
  | chainL (t : Tree)
  | weave
  | weaveL (t : Tree)

/-- What a text is read to: nothing, where its form is wrong; else a weave, and what is left of the text. -/
inductive Gr : Kind → List UInt8 → Option (Tree × List UInt8) → Prop
  | num {s : List UInt8} : s.head? ≠ some 40 → Gr .link s (numR s)
  | opened {s : List UInt8} : Gr .weave s none → Gr .link (40 :: s) none
  | unshut {s s2 : List UInt8} {t : Tree} : Gr .weave s (some (t, s2)) → s2.head? ≠ some 41 → Gr .link (40 :: s) none
  | signs {s s2 : List UInt8} {t : Tree} : Gr .weave s (some (t, 41 :: s2)) → Gr .link (40 :: s) (some (t, s2))
  | chainNo {s : List UInt8} : Gr .link s none → Gr .chain s none
  | chainOf {s s2 : List UInt8} {t : Tree} {r : Option (Tree × List UInt8)} : Gr .link s (some (t, s2)) → Gr (.chainL t) s2 r → Gr .chain s r
  | chainEnd {s : List UInt8} {t : Tree} : s.head? ≠ some 59 → Gr (.chainL t) s (some (t, s))
  | chainBad {s : List UInt8} {t : Tree} : Gr .link s none → Gr (.chainL t) (59 :: s) none
  | chainMore {s s2 : List UInt8} {t t2 : Tree} {r : Option (Tree × List UInt8)} : Gr .link s (some (t2, s2)) → Gr (.chainL (.seq t t2)) s2 r → Gr (.chainL t) (59 :: s) r
  | weaveNo {s : List UInt8} : Gr .chain s none → Gr .weave s none
  | weaveOf {s s2 : List UInt8} {t : Tree} {r : Option (Tree × List UInt8)} : Gr .chain s (some (t, s2)) → Gr (.weaveL t) s2 r → Gr .weave s r
  | weaveEnd {s : List UInt8} {t : Tree} : s.head? ≠ some 124 → Gr (.weaveL t) s (some (t, s))
  | weaveBad {s : List UInt8} {t : Tree} : Gr .chain s none → Gr (.weaveL t) (124 :: s) none
  | weaveMore {s s2 : List UInt8} {t t2 : Tree} {r : Option (Tree × List UInt8)} : Gr .chain s (some (t2, s2)) → Gr (.weaveL (.par t t2)) s2 r → Gr (.weaveL t) (124 :: s) r

/-- It is read in one way. -/
theorem Gr.det {k : Kind} {s : List UInt8} {r r' : Option (Tree × List UInt8)} (h : Gr k s r) (h' : Gr k s r') : r = r' := by
  induction h generalizing r' with
  | num hn =>
    cases h' with
    | num => rfl
    | opened => simp at hn
    | unshut => simp at hn
    | signs => simp at hn
  | opened _ ih =>
    cases h' with
    | num hn => simp at hn
    | opened => rfl
    | unshut => rfl
    | signs g => have := ih g; cases this
  | unshut _ hs ih =>
    cases h' with
    | num hn => simp at hn
    | opened => rfl
    | unshut => rfl
    | signs g => have := ih g; simp at this; obtain ⟨_, rfl⟩ := this; simp at hs
  | signs _ ih =>
    cases h' with
    | num hn => simp at hn
    | opened g => have := ih g; cases this
    | unshut g hs => have := ih g; simp at this; obtain ⟨_, rfl⟩ := this; simp at hs
    | signs g => have := ih g; simp at this; obtain ⟨rfl, rfl⟩ := this; rfl
  | chainNo _ ih =>
    cases h' with
    | chainNo => rfl
    | chainOf g => have := ih g; cases this
  | chainOf _ _ ih1 ih2 =>
    cases h' with
    | chainNo g => have := ih1 g; cases this
    | chainOf g1 g2 => have := ih1 g1; simp at this; obtain ⟨rfl, rfl⟩ := this; exact ih2 g2
  | chainEnd hn =>
    cases h' with
    | chainEnd => rfl
    | chainBad => simp at hn
    | chainMore => simp at hn
  | chainBad _ ih =>
    cases h' with
    | chainEnd hn => simp at hn
    | chainBad => rfl
    | chainMore g => have := ih g; cases this
  | chainMore _ _ ih1 ih2 =>
    cases h' with
    | chainEnd hn => simp at hn
    | chainBad g => have := ih1 g; cases this
    | chainMore g1 g2 => have := ih1 g1; simp at this; obtain ⟨rfl, rfl⟩ := this; exact ih2 g2
  | weaveNo _ ih =>
    cases h' with
    | weaveNo => rfl
    | weaveOf g => have := ih g; cases this
  | weaveOf _ _ ih1 ih2 =>
    cases h' with
    | weaveNo g => have := ih1 g; cases this
    | weaveOf g1 g2 => have := ih1 g1; simp at this; obtain ⟨rfl, rfl⟩ := this; exact ih2 g2
  | weaveEnd hn =>
    cases h' with
    | weaveEnd => rfl
    | weaveBad => simp at hn
    | weaveMore => simp at hn
  | weaveBad _ ih =>
    cases h' with
    | weaveEnd hn => simp at hn
    | weaveBad => rfl
    | weaveMore g => have := ih g; cases this
  | weaveMore _ _ ih1 ih2 =>
    cases h' with
    | weaveEnd hn => simp at hn
    | weaveBad g => have := ih1 g; cases this
    | weaveMore g1 g2 => have := ih1 g1; simp at this; obtain ⟨rfl, rfl⟩ := this; exact ih2 g2

/-- How many tasks. -/
def Tree.count : Tree → Nat
  | .num _ => 1
  | .seq a b => a.count + b.count
  | .par a b => a.count + b.count
/-- Those that come first, numbered from n on. -/
def Tree.first (n : Nat) : Tree → List Nat
  | .num _ => [n]
  | .seq a _ => a.first n
  | .par a b => a.first n ++ b.first (n + a.count)
/-- Those that come last. -/
def Tree.last (n : Nat) : Tree → List Nat
  | .num _ => [n]
  | .seq a b => b.last (n + a.count)
  | .par a b => a.last n ++ b.last (n + a.count)
/-- Its work, and its span, where V tells numbers. -/
def Tree.work (V : List UInt8 → Int) : Tree → Int
  | .num ds => V ds
  | .seq a b => a.work V + b.work V
  | .par a b => a.work V + b.work V
def Tree.span (V : List UInt8 → Int) : Tree → Int
  | .num ds => V ds
  | .seq a b => a.span V + b.span V
  | .par a b => max (a.span V) (b.span V)

/-- The x-th task needs these. -/
def setN (zs : List Int) (ts : List (Int × List Int)) (x : Nat) : List (Int × List Int) := ts.set x ((ts.getD x (0, [])).1, zs)
/-- Each of those needs these. -/
def setAll (fs : List Nat) (zs : List Int) (ts : List (Int × List Int)) : List (Int × List Int) := fs.foldl (setN zs) ts
def ofNats (l : List Nat) : List Int := l.map Int.ofNat
/-- The tasks of a weave, laid behind others. -/
def Tree.lay (V : List UInt8 → Int) : Tree → List (Int × List Int) → List (Int × List Int)
  | .num ds, ts => ts ++ [(V ds, [])]
  | .seq a b, ts => setAll (b.first (ts.length + a.count)) (ofNats (a.last ts.length)) (b.lay V (a.lay V ts))
  | .par a b, ts => b.lay V (a.lay V ts)

theorem setN_length (zs : List Int) (ts : List (Int × List Int)) (x : Nat) : (setN zs ts x).length = ts.length := by simp [setN]
theorem setAll_length (fs : List Nat) (zs : List Int) (ts : List (Int × List Int)) : (setAll fs zs ts).length = ts.length := by
  induction fs generalizing ts with
  | nil => rfl
  | cons f r ih => show (setAll r zs (setN zs ts f)).length = _; rw [ih, setN_length]
theorem Tree.lay_length (V : List UInt8 → Int) (t : Tree) : ∀ ts, (t.lay V ts).length = ts.length + t.count := by
  induction t with
  | num ds => intro ts; simp [Tree.lay, Tree.count]
  | seq a b iha ihb => intro ts; simp only [Tree.lay, Tree.count, setAll_length]; rw [ihb, iha]; omega
  | par a b iha ihb => intro ts; simp only [Tree.lay, Tree.count]; rw [ihb, iha]; omega

theorem setN_getD (zs : List Int) (ts : List (Int × List Int)) (x y : Nat) : (setN zs ts x).getD y (0, []) = if x = y ∧ x < ts.length then ((ts.getD x (0, [])).1, zs) else ts.getD y (0, []) := by
  unfold setN
  simp only [List.getD_eq_getElem?_getD, List.getElem?_set]
  by_cases h : x = y
  · subst h
    by_cases hl : x < ts.length
    · simp [hl]
    · simp [hl]
  · simp [h]
theorem setAll_getD (fs : List Nat) (zs : List Int) (ts : List (Int × List Int)) (y : Nat) (hy : y < ts.length) : (setAll fs zs ts).getD y (0, []) = if y ∈ fs then ((ts.getD y (0, [])).1, zs) else ts.getD y (0, []) := by
  induction fs generalizing ts with
  | nil => simp [setAll]
  | cons f r ih =>
    show (setAll r zs (setN zs ts f)).getD y (0, []) = _
    rw [ih _ (by rw [setN_length]; exact hy)]
    by_cases h2 : f = y
    · have e : (setN zs ts f).getD y (0, []) = ((ts.getD y (0, [])).1, zs) := by rw [setN_getD, if_pos ⟨h2, by omega⟩, h2]
      rw [e, if_pos (show y ∈ f :: r by rw [h2]; exact List.mem_cons_self)]
      split <;> rfl
    · have e : (setN zs ts f).getD y (0, []) = ts.getD y (0, []) := by rw [setN_getD, if_neg (fun h => h2 h.1)]
      rw [e]
      by_cases h1 : y ∈ r
      · rw [if_pos h1, if_pos (List.mem_cons_of_mem _ h1)]
      · rw [if_neg h1, if_neg (fun h => (List.mem_cons.1 h).elim (fun h => h2 h.symm) h1)]

theorem Tree.first_range (t : Tree) : ∀ n x, x ∈ t.first n → n ≤ x ∧ x < n + t.count := by
  induction t with
  | num ds => intro n x h; simp [Tree.first] at h; subst h; simp [Tree.count]
  | seq a b iha _ => intro n x h; have := iha n x h; simp only [Tree.count]; omega
  | par a b iha ihb =>
    intro n x h
    simp only [Tree.first, List.mem_append] at h
    simp only [Tree.count]
    rcases h with h | h
    · have := iha n x h; omega
    · have := ihb _ x h; omega
theorem Tree.last_range (t : Tree) : ∀ n x, x ∈ t.last n → n ≤ x ∧ x < n + t.count := by
  induction t with
  | num ds => intro n x h; simp [Tree.last] at h; subst h; simp [Tree.count]
  | seq a b _ ihb => intro n x h; have := ihb _ x h; simp only [Tree.count]; omega
  | par a b iha ihb =>
    intro n x h
    simp only [Tree.last, List.mem_append] at h
    simp only [Tree.count]
    rcases h with h | h
    · have := iha n x h; omega
    · have := ihb _ x h; omega
theorem Tree.first_len (t : Tree) : ∀ n, (t.first n).length ≤ t.count := by
  induction t with
  | num ds => intro n; simp [Tree.first, Tree.count]
  | seq a b iha _ => intro n; have := iha n; simp only [Tree.first, Tree.count]; omega
  | par a b iha ihb => intro n; have := iha n; have := ihb (n + a.count); simp only [Tree.first, Tree.count, List.length_append]; omega
theorem Tree.last_len (t : Tree) : ∀ n, (t.last n).length ≤ t.count := by
  induction t with
  | num ds => intro n; simp [Tree.last, Tree.count]
  | seq a b _ ihb => intro n; have := ihb (n + a.count); simp only [Tree.last, Tree.count]; omega
  | par a b iha ihb => intro n; have := iha n; have := ihb (n + a.count); simp only [Tree.last, Tree.count, List.length_append]; omega
theorem Tree.last_pos (t : Tree) : ∀ n, 0 < (t.last n).length := by
  induction t with
  | num ds => intro n; simp [Tree.last]
  | seq a b _ ihb => intro n; exact ihb _
  | par a b iha _ => intro n; have := iha n; simp only [Tree.last, List.length_append]; omega
theorem Tree.first_pos (t : Tree) : ∀ n, 0 < (t.first n).length := by
  induction t with
  | num ds => intro n; simp [Tree.first]
  | seq a b iha _ => intro n; exact iha _
  | par a b iha _ => intro n; have := iha n; simp only [Tree.first, List.length_append]; omega
theorem Tree.count_pos (t : Tree) : 0 < t.count := by
  have h1 := t.first_pos 0
  have h2 := t.first_len 0
  omega

/-- What is laid is laid behind what was there. -/
theorem Tree.lay_old (V : List UInt8 → Int) (t : Tree) : ∀ ts y, y < ts.length → (t.lay V ts).getD y (0, []) = ts.getD y (0, []) := by
  induction t with
  | num ds => intro ts y hy; simp [Tree.lay, List.getElem?_append_left hy]
  | seq a b iha ihb =>
    intro ts y hy
    simp only [Tree.lay]
    rw [setAll_getD _ _ _ _ (by rw [b.lay_length, a.lay_length]; omega), if_neg, ihb _ _ (by rw [a.lay_length]; omega), iha _ _ hy]
    intro h
    have := b.first_range _ _ h
    omega
  | par a b iha ihb =>
    intro ts y hy
    simp only [Tree.lay]
    rw [ihb _ _ (by rw [a.lay_length]; omega), iha _ _ hy]

/-- Those that come first need none yet. -/
theorem Tree.first_free (V : List UInt8 → Int) (t : Tree) : ∀ ts x, x ∈ t.first ts.length → needsOf (t.lay V ts) x = [] := by
  induction t with
  | num ds =>
    intro ts x h
    simp [Tree.first] at h
    subst h
    simp [needsOf, Tree.lay]
  | seq a b iha ihb =>
    intro ts x h
    have hr := a.first_range _ _ h
    unfold needsOf
    simp only [Tree.lay]
    rw [setAll_getD _ _ _ _ (by rw [b.lay_length, a.lay_length]; omega), if_neg, b.lay_old V _ _ (by rw [a.lay_length]; omega)]
    · exact iha ts x h
    · intro h2
      have := b.first_range _ _ h2
      omega
  | par a b iha ihb =>
    intro ts x h
    simp only [Tree.first, List.mem_append] at h
    unfold needsOf
    simp only [Tree.lay]
    rcases h with h | h
    · have hr := a.first_range _ _ h
      rw [b.lay_old V _ _ (by rw [a.lay_length]; omega)]
      exact iha ts x h
    · rw [← a.lay_length V ts] at h
      exact ihb _ x h

theorem Tree.work_le {V : List UInt8 → Int} {m : Int} (hV : ∀ ds, 0 ≤ V ds ∧ V ds ≤ m) (t : Tree) : 0 ≤ t.work V ∧ t.work V ≤ m * t.count := by
  induction t with
  | num ds => have := hV ds; simp [Tree.work, Tree.count]; omega
  | seq a b iha ihb => simp only [Tree.work, Tree.count]; rw [Int.natCast_add, Int.mul_add]; omega
  | par a b iha ihb => simp only [Tree.work, Tree.count]; rw [Int.natCast_add, Int.mul_add]; omega
theorem Tree.span_le {V : List UInt8 → Int} {m : Int} (hV : ∀ ds, 0 ≤ V ds ∧ V ds ≤ m) (t : Tree) : 0 ≤ t.span V ∧ t.span V ≤ t.work V := by
  induction t with
  | num ds => have := hV ds; simp [Tree.work, Tree.span]; omega
  | seq a b iha ihb => simp only [Tree.work, Tree.span]; omega
  | par a b iha ihb => simp only [Tree.work, Tree.span]; omega
end Go.Proofs.Ytkcpimbhfmhjgaa
