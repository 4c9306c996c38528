/- Plain: a desk, what a line of a session answers, and what all lines do. No word of the program. Plain: what the plan of a weave is: its works, what its tasks need; it is right; its work and span are those of the text. No word of the program. Plain: numbers of a weave are right; weaves one behind the other, and beside each other. -/
import Derived.Test.YtlfbdjeojgbniaaGreatDoorRcm09
import Derived.Test.YtlfbdjeojgbniaaGreatDoorRcm12
import Derived.Test.YtlfbdjeojgbniaaGreatDoorRcm15
import Derived.Test.YtlfbdjeojgbniaaGreatDoorRcm02
import Derived.Test.YtlfbdjeojgbniaaGreatDoorRcm06

namespace Go.Proofs.YtlfbdjeojgbniaaGreatDoor
open Go.RowKit Go.Deep

def showT : List UInt8 := [115, 104, 111, 119]
def leftT : List UInt8 := [108, 101, 102, 116]
def weaveT : List UInt8 := [119, 101, 97, 118, 101]
def planT : List UInt8 := [112, 108, 97, 110]
def greedyT : List UInt8 := [103, 114, 101, 101, 100, 121]
def gangT : List UInt8 := [103, 97, 110, 103]
def stepT : List UInt8 := [115, 116, 101, 112]
def okT : List UInt8 := [111, 107]
def badT : List UInt8 := [98, 97, 100]
def longT : List UInt8 := [116, 111, 111, 32, 108, 111, 110, 103, 10]
/-- An error's name. -/
def nameT (e : Int) : List UInt8 :=
  [69, 114, 114] ++ (if e = 1 then [82, 97, 110, 103, 101] else if e = 2 then [83, 121, 110, 116, 97, 120] else if e = 3 then [83, 104, 97, 112, 101] else if e = 4 then [70, 117, 108, 108] else if e = 5 then [78, 111, 110, 101] else if e = 6 then [83, 116, 97, 116, 101] else if e = 7 then [67, 108, 97, 115, 104] else [67, 121, 99, 108, 101])
/-- Two numbers, a blank between. -/
def twoT (a b : Int) : List UInt8 := digs a ++ 32 :: digs b
/-- A plan; and a gang of a plan, of so many hands. -/
structure Desk where
  ts : List (Int × List Int)
  gang : Option (List (Int × List Int) × Nat × Gs)
def Desk.new : Desk := ⟨[], none⟩
/-- How long, and the bound. -/
def GreedyIs (d : Desk) (n : Nat) (d' : Desk) (out : List UInt8) : Prop :=
  d' = d ∧ ((¬ (1 ≤ n ∧ n ≤ 6) ∧ out = nameT 1) ∨ ((1 ≤ n ∧ n ≤ 6) ∧ ∃ s ord, Stops d.ts n s ∧ OrdIs d.ts ord ∧ out = twoT (s : Int) ((workTo d.ts d.ts.length + ((n : Int) - 1) * maxTo (tailsOf d.ts ord) d.ts.length) / (n : Int))))
def GangIs (d : Desk) (n : Nat) (d' : Desk) (out : List UInt8) : Prop :=
  if 1 ≤ n ∧ n ≤ 6 then d' = { d with gang := some (d.ts, n, gnew d.ts) } ∧ out = okT else d' = d ∧ out = nameT 1
/-- Deeds in a row. -/
def rowT (ds : List Deed) : List UInt8 := if ds = [] then [45] else ds.flatMap (fun x => deedText x ++ [59])
def StepIs (d : Desk) (h k : Nat) (d' : Desk) (out : List UInt8) : Prop :=
  match d.gang with
  | none => d' = d ∧ out = nameT 6
  | some (t, hands, g) => if hands ≤ h then d' = d ∧ out = nameT 1 else d' = { d with gang := some (t, hands, gstep t 4 hands g h k) } ∧ out = rowT (gdeeds t hands g h k)
def NumsIs (d : Desk) (w : List UInt8) (ns : List Nat) (d' : Desk) (out : List UInt8) : Prop :=
  if w = greedyT ∧ ns.length = 1 then GreedyIs d (ns.getD 0 0) d' out
  else if w = gangT ∧ ns.length = 1 then GangIs d (ns.getD 0 0) d' out
  else if w = stepT ∧ ns.length = 2 then StepIs d (ns.getD 0 0) (ns.getD 1 0) d' out
  else d' = d ∧ out = badT
def WeaveIs (d : Desk) (rest : List UInt8) (d' : Desk) (out : List UInt8) : Prop :=
  (∃ q, q ≠ 0 ∧ WeaveErr rest q ∧ d' = d ∧ out = nameT q) ∨ (∃ t, WeaveOk rest t ∧ d' = { d with ts := t.lay V1 [] } ∧ out = twoT (t.work V1) (t.span V1))
def PlanIs (d : Desk) (rest : List UInt8) (d' : Desk) (out : List UInt8) : Prop :=
  (tasksOf rest = none ∧ d' = d ∧ out = nameT 2) ∨ (∃ ts p q, tasksOf rest = some ts ∧ CheckIs ts p q ∧ ((q ≠ 0 ∧ d' = d ∧ out = nameT q) ∨ (q = 0 ∧ d' = { d with ts := ts } ∧ out = okT)))
def WordIs (d : Desk) (w rest : List UInt8) (d' : Desk) (out : List UInt8) : Prop :=
  if w = weaveT then WeaveIs d rest d' out
  else if w = planT then PlanIs d rest d' out
  else match allOf numOf (splitC 32 rest) with
    | none => d' = d ∧ out = badT
    | some ns => NumsIs d w ns d' out
def LeftIs (d : Desk) (out : List UInt8) : Prop :=
  match d.gang with
  | none => out = nameT 6
  | some (t, _, g) => out = digs ((unseen g.S t.length : Nat) : Int)
/-- What a line answers. -/
def LineIs (d : Desk) (l : List UInt8) (d' : Desk) (out : List UInt8) : Prop :=
  if l = showT then d' = d ∧ out = planText d.ts
  else if l = leftT then d' = d ∧ LeftIs d out
  else if (32 : UInt8) ∉ l then d' = d ∧ out = badT
  else WordIs d (cutB 32 l).1 (cutB 32 l).2.1 d' out
/-- What lines answer, one behind the other. -/
def RunIs : Desk → List (List UInt8) → Desk → List UInt8 → Prop
  | d, [], d', out => d' = d ∧ out = []
  | d, l :: r, d', out => ∃ d1 o o2, LineIs d l d1 o ∧ RunIs d1 r d' o2 ∧ out = o ++ 10 :: o2
/-- A text's lines: a last piece that is empty is none. -/
def linesT (t : List UInt8) : List (List UInt8) := if (splitC 10 t).getLast? = some [] then (splitC 10 t).dropLast else splitC 10 t
/-- What a session answers. -/
def SessionIs (t : List UInt8) (out : List UInt8) : Prop := if 3000 < t.length then out = longT else ∃ d, RunIs Desk.new (linesT t) d out

/-- Plans are right, and gangs are as they may be. -/
structure Desk.Ok (d : Desk) : Prop where
  pl : CheckIs d.ts 0 0
  gg : ∀ t hands g, d.gang = some (t, hands, g) → CheckIs t 0 0 ∧ 1 ≤ hands ∧ hands ≤ 6 ∧ Inv t 4 hands g
theorem check_nil : CheckIs [] 0 0 := CheckIs.none (by simp) (fun j hj => by simp at hj) (fun j hj => by simp at hj)
theorem Desk.Ok.new : Desk.new.Ok := ⟨check_nil, fun t hands g h => by cases h⟩
theorem weaveErr_det {l : List UInt8} {q q' : Int} (h : WeaveErr l q) (h' : WeaveErr l q') : q = q' := by
  rcases h with ⟨h1, rfl⟩ | ⟨h1, h2, rfl⟩ | ⟨t, h1, h2, h3, rfl⟩
  · rcases h' with ⟨g1, rfl⟩ | ⟨g1, g2, rfl⟩ | ⟨t', g1, g2, g3, rfl⟩
    · rfl
    · omega
    · omega
  · rcases h' with ⟨g1, rfl⟩ | ⟨g1, g2, rfl⟩ | ⟨t', g1, g2, g3, rfl⟩
    · omega
    · rfl
    · exact (h2.not t' g2).elim
  · rcases h' with ⟨g1, rfl⟩ | ⟨g1, g2, rfl⟩ | ⟨t', g1, g2, g3, rfl⟩
    · omega
    · exact (g2.not t h2).elim
    · obtain rfl := h2.det g2
      rfl
theorem WeaveIs.det {d d1 d2 : Desk} {r o1 o2 : List UInt8} (h : WeaveIs d r d1 o1) (h' : WeaveIs d r d2 o2) : d1 = d2 ∧ o1 = o2 := by
  rcases h with ⟨q, hq, he, rfl, rfl⟩ | ⟨t, ht, rfl, rfl⟩
  · rcases h' with ⟨q', hq', he', rfl, rfl⟩ | ⟨t', ht', rfl, rfl⟩
    · rw [weaveErr_det he he']; exact ⟨rfl, rfl⟩
    · exact (he.not_ok hq ht').elim
  · rcases h' with ⟨q', hq', he', rfl, rfl⟩ | ⟨t', ht', rfl, rfl⟩
    · exact (he'.not_ok hq' ht).elim
    · rw [ht.det ht']; exact ⟨rfl, rfl⟩
theorem PlanIs.det {d d1 d2 : Desk} {r o1 o2 : List UInt8} (h : PlanIs d r d1 o1) (h' : PlanIs d r d2 o2) : d1 = d2 ∧ o1 = o2 := by
  rcases h with ⟨h1, rfl, rfl⟩ | ⟨ts, p, q, h1, hc, hx⟩
  · rcases h' with ⟨g1, rfl, rfl⟩ | ⟨ts', p', q', g1, gc, gx⟩
    · exact ⟨rfl, rfl⟩
    · rw [h1] at g1; cases g1
  · rcases h' with ⟨g1, rfl, rfl⟩ | ⟨ts', p', q', g1, gc, gx⟩
    · rw [g1] at h1; cases h1
    · obtain rfl : ts = ts' := Option.some.inj (h1.symm.trans g1)
      obtain ⟨rfl, rfl⟩ := hc.det gc
      rcases hx with ⟨h2, rfl, rfl⟩ | ⟨h2, rfl, rfl⟩
      · rcases gx with ⟨g2, rfl, rfl⟩ | ⟨g2, rfl, rfl⟩
        · exact ⟨rfl, rfl⟩
        · exact absurd g2 h2
      · rcases gx with ⟨g2, rfl, rfl⟩ | ⟨g2, rfl, rfl⟩
        · exact absurd h2 g2
        · exact ⟨rfl, rfl⟩
/-- The span hangs on the plan alone. -/
theorem span_det {ts : List (Int × List Int)} {a b : List Nat} (hc : CheckIs ts 0 0) (h : OrdIs ts a) (h' : OrdIs ts b) : maxTo (tailsOf ts a) ts.length = maxTo (tailsOf ts b) ts.length := by
  rw [h.det h' hc]
theorem GreedyIs.det {d d1 d2 : Desk} {n : Nat} {o1 o2 : List UInt8} (hok : d.Ok) (h : GreedyIs d n d1 o1) (h' : GreedyIs d n d2 o2) : d1 = d2 ∧ o1 = o2 := by
  obtain ⟨rfl, h⟩ := h
  obtain ⟨rfl, h'⟩ := h'
  refine ⟨rfl, ?_⟩
  rcases h with ⟨h1, rfl⟩ | ⟨h1, s, ord, hs, ho, rfl⟩
  · rcases h' with ⟨g1, rfl⟩ | ⟨g1, s', ord', gs, go, rfl⟩
    · rfl
    · exact absurd g1 h1
  · rcases h' with ⟨g1, rfl⟩ | ⟨g1, s', ord', gs, go, rfl⟩
    · exact absurd h1 g1
    · rw [hs.det gs, span_det hok.pl ho go]
theorem LineIs.det {d d1 d2 : Desk} {l o1 o2 : List UInt8} (hok : d.Ok) (h : LineIs d l d1 o1) (h' : LineIs d l d2 o2) : d1 = d2 ∧ o1 = o2 := by
  unfold LineIs at h h'
  by_cases e1 : l = showT
  · rw [if_pos e1] at h h'
    exact ⟨h.1.trans h'.1.symm, h.2.trans h'.2.symm⟩
  rw [if_neg e1] at h h'
  by_cases e2 : l = leftT
  · rw [if_pos e2] at h h'
    refine ⟨h.1.trans h'.1.symm, ?_⟩
    obtain ⟨-, h⟩ := h
    obtain ⟨-, h'⟩ := h'
    unfold LeftIs at h h'
    revert h h'
    cases d.gang with
    | none => exact fun h h' => h.trans h'.symm
    | some x => exact fun h h' => h.trans h'.symm
  rw [if_neg e2] at h h'
  by_cases e3 : (32 : UInt8) ∉ l
  · rw [if_pos e3] at h h'
    exact ⟨h.1.trans h'.1.symm, h.2.trans h'.2.symm⟩
  rw [if_neg e3] at h h'
  unfold WordIs at h h'
  by_cases e4 : (cutB 32 l).1 = weaveT
  · rw [if_pos e4] at h h'; exact h.det h'
  rw [if_neg e4] at h h'
  by_cases e5 : (cutB 32 l).1 = planT
  · rw [if_pos e5] at h h'; exact h.det h'
  rw [if_neg e5] at h h'
  revert h h'
  cases allOf numOf (splitC 32 (cutB 32 l).2.1) with
  | none => exact fun h h' => ⟨h.1.trans h'.1.symm, h.2.trans h'.2.symm⟩
  | some ns =>
    intro h h'
    have h : NumsIs d (cutB 32 l).1 ns d1 o1 := h
    have h' : NumsIs d (cutB 32 l).1 ns d2 o2 := h'
    unfold NumsIs at h h'
    by_cases e6 : (cutB 32 l).1 = greedyT ∧ ns.length = 1
    · rw [if_pos e6] at h h'; exact h.det hok h'
    rw [if_neg e6] at h h'
    by_cases e7 : (cutB 32 l).1 = gangT ∧ ns.length = 1
    · rw [if_pos e7] at h h'
      unfold GangIs at h h'
      by_cases e8 : 1 ≤ ns.getD 0 0 ∧ ns.getD 0 0 ≤ 6
      · rw [if_pos e8] at h h'; exact ⟨h.1.trans h'.1.symm, h.2.trans h'.2.symm⟩
      · rw [if_neg e8] at h h'; exact ⟨h.1.trans h'.1.symm, h.2.trans h'.2.symm⟩
    rw [if_neg e7] at h h'
    by_cases e8 : (cutB 32 l).1 = stepT ∧ ns.length = 2
    · rw [if_pos e8] at h h'
      unfold StepIs at h h'
      revert h h'
      cases d.gang with
      | none => exact fun h h' => ⟨h.1.trans h'.1.symm, h.2.trans h'.2.symm⟩
      | some x =>
        obtain ⟨t, hands, g⟩ := x
        intro h h'
        dsimp only at h h'
        by_cases e9 : hands ≤ ns.getD 0 0
        · rw [if_pos e9] at h h'; exact ⟨h.1.trans h'.1.symm, h.2.trans h'.2.symm⟩
        · rw [if_neg e9] at h h'; exact ⟨h.1.trans h'.1.symm, h.2.trans h'.2.symm⟩
    rw [if_neg e8] at h h'
    exact ⟨h.1.trans h'.1.symm, h.2.trans h'.2.symm⟩
end Go.Proofs.YtlfbdjeojgbniaaGreatDoor

namespace Go.Proofs.YtlfbdjeojgbniaaGreatDoor

/-- The numbers of a weave, as they stand in the text. -/
def Tree.leaves : Tree → List (List UInt8)
  | .num ds => [ds]
  | .seq a b => a.leaves ++ b.leaves
  | .par a b => a.leaves ++ b.leaves
theorem Tree.leaves_length (t : Tree) : t.leaves.length = t.count := by
  induction t with
  | num ds => rfl
  | seq a b iha ihb => simp [Tree.leaves, Tree.count, iha, ihb]
  | par a b iha ihb => simp [Tree.leaves, Tree.count, iha, ihb]
def sumL : List Int → Int
  | [] => 0
  | x :: r => x + sumL r
theorem sumL_append (a b : List Int) : sumL (a ++ b) = sumL a + sumL b := by
  induction a with
  | nil => simp [sumL]
  | cons x r ih => simp [sumL, ih]; omega
theorem Tree.work_sum (V : List UInt8 → Int) (t : Tree) : t.work V = sumL (t.leaves.map V) := by
  induction t with
  | num ds => simp [Tree.work, Tree.leaves, sumL]
  | seq a b iha ihb => simp [Tree.work, Tree.leaves, sumL_append, iha, ihb]
  | par a b iha ihb => simp [Tree.work, Tree.leaves, sumL_append, iha, ihb]

def worksOf (ts : List (Int × List Int)) : List Int := ts.map (·.1)
theorem setN_works (zs : List Int) (ts : List (Int × List Int)) (x : Nat) : worksOf (setN zs ts x) = worksOf ts := by
  apply List.ext_getElem?
  intro i
  unfold worksOf setN
  rw [List.getElem?_map, List.getElem?_map, List.getElem?_set]
  by_cases h : x = i
  · subst h
    by_cases hl : x < ts.length
    · simp [hl]
    · simp [hl]
  · simp [h]
theorem setAll_works (fs : List Nat) (zs : List Int) (ts : List (Int × List Int)) : worksOf (setAll fs zs ts) = worksOf ts := by
  induction fs generalizing ts with
  | nil => rfl
  | cons f r ih => show worksOf (setAll r zs (setN zs ts f)) = _; rw [ih, setN_works]
theorem Tree.lay_works (V : List UInt8 → Int) (t : Tree) : ∀ ts, worksOf (t.lay V ts) = worksOf ts ++ t.leaves.map V := by
  induction t with
  | num ds => intro ts; simp [Tree.lay, worksOf, Tree.leaves]
  | seq a b iha ihb => intro ts; simp only [Tree.lay, Tree.leaves, setAll_works]; rw [ihb, iha]; simp
  | par a b iha ihb => intro ts; simp only [Tree.lay, Tree.leaves]; rw [ihb, iha]; simp
theorem wkOf_works (ts : List (Int × List Int)) (x : Nat) : wkOf ts x = (worksOf ts).getD x 0 := by
  unfold wkOf worksOf
  simp only [List.getD_eq_getElem?_getD, List.getElem?_map]
  cases ts[x]? <;> rfl
theorem workTo_works (ts : List (Int × List Int)) : workTo ts ts.length = sumL (worksOf ts) := by
  have key : ∀ k, k ≤ ts.length → workTo ts k = sumL ((worksOf ts).take k) := by
    intro k
    induction k with
    | zero => intro _; simp [workTo, sumL]
    | succ k ih =>
      intro hk
      have hl : k < (worksOf ts).length := by simp [worksOf]; omega
      unfold workTo
      rw [ih (by omega), List.take_succ_eq_append_getElem hl, sumL_append, wkOf_works, List.getD_eq_getElem?_getD, List.getElem?_eq_getElem hl]
      simp [sumL]
  rw [key _ (Nat.le_refl _), List.take_of_length_le (by simp [worksOf])]
theorem Tree.lay_work (V : List UInt8 → Int) (t : Tree) : workTo (t.lay V []) (t.lay V []).length = t.work V := by
  rw [workTo_works, t.lay_works, t.work_sum]
  simp [worksOf]

/-- What the x-th task needs, in a weave that is laid from n on. -/
def nds (n : Nat) : Tree → Nat → List Int
  | .num _, _ => []
  | .seq a b, x => if x < n + a.count then nds n a x else if x ∈ b.first (n + a.count) then ofNats (a.last n) else nds (n + a.count) b x
  | .par a b, x => if x < n + a.count then nds n a x else nds (n + a.count) b x
theorem Tree.lay_nds (V : List UInt8 → Int) (t : Tree) : ∀ ts x, ts.length ≤ x → x < ts.length + t.count → needsOf (t.lay V ts) x = nds ts.length t x := by
  induction t with
  | num ds =>
    intro ts x h1 h2
    simp only [Tree.count] at h2
    obtain rfl : x = ts.length := by omega
    simp [needsOf, Tree.lay, nds]
  | seq a b iha ihb =>
    intro ts x h1 h2
    simp only [Tree.count] at h2
    unfold needsOf
    simp only [Tree.lay, nds]
    rw [setAll_getD _ _ _ _ (by rw [b.lay_length, a.lay_length]; omega)]
    by_cases hx : x < ts.length + a.count
    · rw [if_pos hx, if_neg (fun h => by have := b.first_range _ _ h; omega), b.lay_old V _ _ (by rw [a.lay_length]; omega)]
      exact iha ts x h1 hx
    · rw [if_neg hx]
      split
      · rfl
      · have := ihb (a.lay V ts) x (by rw [a.lay_length]; omega) (by rw [a.lay_length]; omega)
        rw [a.lay_length] at this
        exact this
  | par a b iha ihb =>
    intro ts x h1 h2
    simp only [Tree.count] at h2
    unfold needsOf
    simp only [Tree.lay, nds]
    by_cases hx : x < ts.length + a.count
    · rw [if_pos hx, b.lay_old V _ _ (by rw [a.lay_length]; omega)]
      exact iha ts x h1 hx
    · rw [if_neg hx]
      have := ihb (a.lay V ts) x (by rw [a.lay_length]; omega) (by rw [a.lay_length]; omega)
      rw [a.lay_length] at this
      exact this

theorem mem_ofNats {l : List Nat} {y : Int} : y ∈ ofNats l ↔ ∃ k, k ∈ l ∧ y = (k : Nat) := by
  simp only [ofNats, List.mem_map]
  constructor
  · rintro ⟨k, hk, rfl⟩; exact ⟨k, hk, rfl⟩
  · rintro ⟨k, hk, rfl⟩; exact ⟨k, hk, rfl⟩
/-- Tasks need such as stand ahead of them, in the weave itself, and none that comes last. -/
theorem nds_range (t : Tree) : ∀ n x y, n ≤ x → x < n + t.count → y ∈ nds n t x → ∃ k : Nat, y = k ∧ n ≤ k ∧ k < x ∧ k ∉ t.last n := by
  induction t with
  | num ds => intro n x y _ _ h; simp [nds] at h
  | seq a b iha ihb =>
    intro n x y h1 h2 h
    simp only [Tree.count] at h2
    simp only [nds] at h
    simp only [Tree.last]
    by_cases hx : x < n + a.count
    · rw [if_pos hx] at h
      obtain ⟨k, rfl, g1, g2, _⟩ := iha n x y h1 hx h
      exact ⟨k, rfl, g1, g2, fun hl => by have := b.last_range _ _ hl; omega⟩
    · rw [if_neg hx] at h
      by_cases hf : x ∈ b.first (n + a.count)
      · rw [if_pos hf] at h
        obtain ⟨k, hk, rfl⟩ := mem_ofNats.1 h
        have := a.last_range _ _ hk
        exact ⟨k, rfl, by omega, by omega, fun hl => by have := b.last_range _ _ hl; omega⟩
      · rw [if_neg hf] at h
        obtain ⟨k, rfl, g1, g2, g3⟩ := ihb _ x y (by omega) (by omega) h
        exact ⟨k, rfl, by omega, g2, g3⟩
  | par a b iha ihb =>
    intro n x y h1 h2 h
    simp only [Tree.count] at h2
    simp only [nds] at h
    simp only [Tree.last, List.mem_append, not_or]
    by_cases hx : x < n + a.count
    · rw [if_pos hx] at h
      obtain ⟨k, rfl, g1, g2, g3⟩ := iha n x y h1 hx h
      exact ⟨k, rfl, g1, g2, g3, fun hl => by have := b.last_range _ _ hl; omega⟩
    · rw [if_neg hx] at h
      obtain ⟨k, rfl, g1, g2, g3⟩ := ihb _ x y (by omega) (by omega) h
      exact ⟨k, rfl, by omega, g2, fun hl => by have := a.last_range _ _ hl; omega, g3⟩

/-- Each number is above the one ahead of it. -/
theorem rising_append {a b : List Int} (ha : rising a = true) (hb : rising b = true) (h : ∀ x, x ∈ a → ∀ y, y ∈ b → x < y) : rising (a ++ b) = true := by
  induction a with
  | nil => exact hb
  | cons x r ih =>
    cases r with
    | nil =>
      cases b with
      | nil => exact ha
      | cons y s =>
        simp only [List.cons_append, List.nil_append, rising, Bool.and_eq_true, decide_eq_true_eq]
        exact ⟨h x (by simp) y (by simp), hb⟩
    | cons z r =>
      simp only [rising, Bool.and_eq_true, decide_eq_true_eq] at ha
      have := ih ha.2 (fun u hu => h u (by simp at hu ⊢; exact Or.inr hu))
      simp only [List.cons_append, rising, Bool.and_eq_true, decide_eq_true_eq]
      exact ⟨ha.1, this⟩
theorem Tree.last_rising (t : Tree) : ∀ n, rising (ofNats (t.last n)) = true := by
  induction t with
  | num ds => intro n; rfl
  | seq a b _ ihb => intro n; exact ihb _
  | par a b iha ihb =>
    intro n
    simp only [Tree.last, ofNats, List.map_append]
    refine rising_append (iha n) (ihb _) (fun x hx y hy => ?_)
    obtain ⟨k, hk, rfl⟩ := mem_ofNats.1 hx
    obtain ⟨j, hj, rfl⟩ := mem_ofNats.1 hy
    have := a.last_range _ _ hk
    have := b.last_range _ _ hj
    omega
theorem nds_rising (t : Tree) : ∀ n x, rising (nds n t x) = true := by
  induction t with
  | num ds => intro n x; rfl
  | seq a b iha ihb =>
    intro n x
    simp only [nds]
    split
    · exact iha n x
    · split
      · exact a.last_rising n
      · exact ihb _ x
  | par a b iha ihb =>
    intro n x
    simp only [nds]
    split
    · exact iha n x
    · exact ihb _ x

/-- The plan of a weave whose numbers are right is right. -/
theorem Tree.check (V : List UInt8 → Int) (t : Tree) (hc : t.count ≤ 30) (hv : ∀ ds, ds ∈ t.leaves → 1 ≤ V ds ∧ V ds ≤ 20) : CheckIs (t.lay V []) 0 0 := by
  have hlen : (t.lay V []).length = t.count := by rw [t.lay_length]; simp
  have hnd : ∀ x, x < t.count → needsOf (t.lay V []) x = nds 0 t x := fun x hx => t.lay_nds V [] x (Nat.zero_le _) (by simpa using hx)
  have hwk : ∀ x, x < t.count → 1 ≤ wkOf (t.lay V []) x ∧ wkOf (t.lay V []) x ≤ 20 := fun x hx => by
    rw [wkOf_works, t.lay_works]
    have hl : x < t.leaves.length := by rw [t.leaves_length]; exact hx
    simp only [worksOf, List.map_nil, List.nil_append, List.getD_eq_getElem?_getD, List.getElem?_map, List.getElem?_eq_getElem hl, Option.map_some, Option.getD_some]
    exact hv _ (List.getElem_mem hl)
  refine CheckIs.none (by omega) (fun j hj => ?_) (fun j hj hr => ?_)
  · rw [hlen] at hj
    unfold errOf taskErr
    have := hwk j hj
    unfold wkOf at this
    rw [if_neg (by omega), hnd j hj]
    have hany : ((nds 0 t j).any fun n => !inRange n ((t.lay V []).length : Nat)) = false := by
      rw [List.any_eq_false]
      intro y hy
      obtain ⟨k, rfl, _, g2, _⟩ := nds_range t 0 j y (Nat.zero_le _) (by omega) hy
      simp [inRange]; omega
    rw [hany]
    simp [nds_rising]
  · have key : ∀ {x y}, x < t.count → Reach (t.lay V []) x y → y < x := by
      intro x y hx hr
      have hn : ∀ {a b}, a < t.count → Need (t.lay V []) a b → b < a := fun {a b} ha hn => by
        unfold Need at hn
        rw [hnd a ha] at hn
        obtain ⟨k, e, _, g2, _⟩ := nds_range t 0 a _ (Nat.zero_le _) (by omega) hn
        omega
      induction hr using Reach.ind with
      | one h => exact hn hx h
      | more _ h ih => have := hn (by omega) h; omega
    have := key (by omega) hr
    omega

/-- A part of a plan is a weave: what comes first in it needs E, the others what the weave says; who is no part of it needs none of it but what comes last. -/
structure Emb (V : List UInt8 → Int) (L : List (Int × List Int)) (n : Nat) (u : Tree) (E : List Int) : Prop where
  nd : ∀ x, n ≤ x → x < n + u.count → needsOf L x = if x ∈ u.first n then E else nds n u x
  wk : ∀ j, j < u.count → wkOf L (n + j) = (u.leaves.map V).getD j 0
  out : ∀ k x, (k < n ∨ n + u.count ≤ k) → n ≤ x → x < n + u.count → Need L k x → x ∈ u.last n
  lo : ∀ y, y ∈ E → y < n
  len : n + u.count ≤ L.length

theorem getD_app_left (a b : List Int) {j : Nat} (h : j < a.length) : (a ++ b).getD j 0 = a.getD j 0 := by simp [List.getElem?_append_left h]
theorem getD_app_right (a b : List Int) (j : Nat) : (a ++ b).getD (a.length + j) 0 = b.getD j 0 := by simp [List.getElem?_append_right]

/-- Whoever is a part of it needs E, or what is in it. -/
theorem Emb.inside {V : List UInt8 → Int} {L : List (Int × List Int)} {n : Nat} {u : Tree} {E : List Int} (h : Emb V L n u E) {k y : Nat} (h1 : n ≤ k) (h2 : k < n + u.count) (hn : Need L k y) : y < n ∨ (n ≤ y ∧ y < k ∧ y ∉ u.last n) := by
  unfold Need at hn
  rw [h.nd k h1 h2] at hn
  split at hn
  · have := h.lo _ hn; exact Or.inl (by omega)
  · obtain ⟨j, e, g1, g2, g3⟩ := nds_range u n k _ h1 h2 hn
    obtain rfl : y = j := by omega
    exact Or.inr ⟨g1, g2, g3⟩

theorem Emb.seqA {V : List UInt8 → Int} {L : List (Int × List Int)} {n : Nat} {a b : Tree} {E : List Int} (h : Emb V L n (.seq a b) E) : Emb V L n a E where
  nd := fun x h1 h2 => by
    rw [h.nd x h1 (by simp only [Tree.count]; omega)]
    simp only [Tree.first, nds]
    by_cases hf : x ∈ a.first n
    · simp [hf]
    · simp [hf, h2]
  wk := fun j hj => by
    rw [h.wk j (by simp only [Tree.count]; omega)]
    simp only [Tree.leaves, List.map_append]
    rw [getD_app_left _ _ (by rw [List.length_map, a.leaves_length]; exact hj)]
  out := fun k x hk h1 h2 hn => by
    have hc : (Tree.seq a b).count = a.count + b.count := rfl
    by_cases hkb : n + a.count ≤ k ∧ k < n + a.count + b.count
    · unfold Need at hn
      rw [h.nd k (by omega) (by omega)] at hn
      rw [if_neg (fun hf => by have := a.first_range n k hf; omega)] at hn
      simp only [nds] at hn
      rw [if_neg (by omega)] at hn
      split at hn
      · obtain ⟨j, hj, e⟩ := mem_ofNats.1 hn
        obtain rfl : x = j := by omega
        exact hj
      · obtain ⟨j, e, g1, _⟩ := nds_range b (n + a.count) k _ (by omega) (by omega) hn
        omega
    · have := h.out k x (by omega) h1 (by omega) hn
      have := b.last_range _ _ this
      omega
  lo := h.lo
  len := by have := h.len; simp only [Tree.count] at this; omega
theorem Emb.seqB {V : List UInt8 → Int} {L : List (Int × List Int)} {n : Nat} {a b : Tree} {E : List Int} (h : Emb V L n (.seq a b) E) : Emb V L (n + a.count) b (ofNats (a.last n)) where
  nd := fun x h1 h2 => by
    rw [h.nd x (by omega) (by simp only [Tree.count]; omega), if_neg (fun hf => by have := a.first_range n x hf; omega)]
    simp only [nds]
    rw [if_neg (by omega)]
  wk := fun j hj => by
    have := h.wk (a.count + j) (by simp only [Tree.count]; omega)
    rw [← Nat.add_assoc] at this
    rw [this]
    simp only [Tree.leaves, List.map_append]
    have := getD_app_right (a.leaves.map V) (b.leaves.map V) j
    rw [List.length_map, a.leaves_length] at this
    exact this
  out := fun k x hk h1 h2 hn => by
    have hc : (Tree.seq a b).count = a.count + b.count := rfl
    by_cases hka : n ≤ k ∧ k < n + a.count
    · rcases h.seqA.inside hka.1 hka.2 hn with g | ⟨g1, g2, _⟩
      · omega
      · omega
    · exact h.out k x (by omega) (by omega) (by omega) hn
  lo := fun y hy => by
    obtain ⟨k, hk, rfl⟩ := mem_ofNats.1 hy
    have := a.last_range _ _ hk
    omega
  len := by have := h.len; simp only [Tree.count] at this; omega
theorem Emb.parA {V : List UInt8 → Int} {L : List (Int × List Int)} {n : Nat} {a b : Tree} {E : List Int} (h : Emb V L n (.par a b) E) : Emb V L n a E where
  nd := fun x h1 h2 => by
    rw [h.nd x h1 (by simp only [Tree.count]; omega)]
    simp only [Tree.first, nds, List.mem_append]
    rw [if_pos h2]
    by_cases hf : x ∈ a.first n
    · rw [if_pos (Or.inl hf), if_pos hf]
    · rw [if_neg (fun hc => hc.elim hf (fun hb => by have := b.first_range _ _ hb; omega)), if_neg hf]
  wk := fun j hj => by
    rw [h.wk j (by simp only [Tree.count]; omega)]
    simp only [Tree.leaves, List.map_append]
    rw [getD_app_left _ _ (by rw [List.length_map, a.leaves_length]; exact hj)]
  out := fun k x hk h1 h2 hn => by
    have hc : (Tree.par a b).count = a.count + b.count := rfl
    by_cases hkb : n + a.count ≤ k ∧ k < n + a.count + b.count
    · unfold Need at hn
      rw [h.nd k (by omega) (by omega)] at hn
      split at hn
      · have := h.lo _ hn; omega
      · simp only [nds] at hn
        rw [if_neg (by omega)] at hn
        obtain ⟨j, e, g1, _⟩ := nds_range b (n + a.count) k _ (by omega) (by omega) hn
        omega
    · have := h.out k x (by omega) h1 (by omega) hn
      simp only [Tree.last, List.mem_append] at this
      rcases this with g | g
      · exact g
      · have := b.last_range _ _ g; omega
  lo := h.lo
  len := by have := h.len; simp only [Tree.count] at this; omega
theorem Emb.parB {V : List UInt8 → Int} {L : List (Int × List Int)} {n : Nat} {a b : Tree} {E : List Int} (h : Emb V L n (.par a b) E) : Emb V L (n + a.count) b E where
  nd := fun x h1 h2 => by
    rw [h.nd x (by omega) (by simp only [Tree.count]; omega)]
    simp only [Tree.first, nds, List.mem_append]
    rw [if_neg (show ¬ x < n + a.count by omega)]
    by_cases hf : x ∈ b.first (n + a.count)
    · rw [if_pos (Or.inr hf), if_pos hf]
    · rw [if_neg (fun hc => hc.elim (fun ha => by have := a.first_range _ _ ha; omega) hf), if_neg hf]
  wk := fun j hj => by
    have := h.wk (a.count + j) (by simp only [Tree.count]; omega)
    rw [← Nat.add_assoc] at this
    rw [this]
    simp only [Tree.leaves, List.map_append]
    have := getD_app_right (a.leaves.map V) (b.leaves.map V) j
    rw [List.length_map, a.leaves_length] at this
    exact this
  out := fun k x hk h1 h2 hn => by
    have hc : (Tree.par a b).count = a.count + b.count := rfl
    by_cases hka : n ≤ k ∧ k < n + a.count
    · rcases h.parA.inside hka.1 hka.2 hn with g | ⟨g1, g2, _⟩
      · omega
      · omega
    · have := h.out k x (by omega) (by omega) (by omega) hn
      simp only [Tree.last, List.mem_append] at this
      rcases this with g | g
      · have := a.last_range _ _ g; omega
      · exact g
  lo := fun y hy => by have := h.lo y hy; omega
  len := by have := h.len; simp only [Tree.count] at this; omega

/-- Tails in a part of a plan that is a weave: behind what comes last the longest way is C. -/
theorem Emb.tails {V : List UInt8 → Int} {L : List (Int × List Int)} {R T : Nat → Int} (hd : Deep L R T) : ∀ (u : Tree) (n : Nat) (E : List Int) (C : Int), Emb V L n u E → 0 ≤ C → (∀ ds, ds ∈ u.leaves → 1 ≤ V ds) →
    (∀ x, x ∈ u.last n → (∀ k, Need L k x → T k ≤ C) ∧ (C = 0 ∨ ∃ k, k < L.length ∧ Need L k x ∧ T k = C)) →
    (∀ x, n ≤ x → x < n + u.count → T x ≤ u.span V + C) ∧ (∃ x, x ∈ u.first n ∧ T x = u.span V + C) := by
  intro u
  induction u with
  | num ds =>
    intro n E C h hC hv hl
    obtain ⟨h1, h2⟩ := hl n (by simp [Tree.last])
    have hlt : n < L.length := by have := h.len; simp only [Tree.count] at this; omega
    have hw : wkOf L n = V ds := by have := h.wk 0 (by simp [Tree.count]); simpa [Tree.leaves] using this
    have he : T n = V ds + C := by
      have hle : T n ≤ V ds + C := by
        rcases hd.teq n hlt with e | ⟨k, _, hn, e⟩
        · omega
        · have := h1 k hn; omega
      have hge : V ds + C ≤ T n := by
        rcases h2 with rfl | ⟨k, hk, hn, e⟩
        · have := hd.twk n hlt; omega
        · have := hd.tup k hk n hn; omega
      omega
    refine ⟨fun x g1 g2 => ?_, n, by simp [Tree.first], by simp only [Tree.span]; exact he⟩
    simp only [Tree.count] at g2
    obtain rfl : x = n := by omega
    simp only [Tree.span]; omega
  | seq a b iha ihb =>
    intro n E C h hC hv hl
    have hb := ihb (n + a.count) _ C h.seqB hC (fun ds hds => hv ds (by simp [Tree.leaves, hds])) hl
    obtain ⟨hb1, m, hm, hmT⟩ := hb
    have hmr := b.first_range _ _ hm
    have hsb : 0 ≤ b.span V + C := by rw [← hmT]; exact (hd.tlow m).1
    have ha := iha n E (b.span V + C) h.seqA hsb (fun ds hds => hv ds (by simp [Tree.leaves, hds])) (fun x hx => by
      have hxr := a.last_range _ _ hx
      have hlen := h.len
      simp only [Tree.count] at hlen
      refine ⟨fun k hn => ?_, Or.inr ⟨m, by omega, ?_, hmT⟩⟩
      · by_cases hkb : n + a.count ≤ k ∧ k < n + a.count + b.count
        · exact hb1 k hkb.1 hkb.2
        · by_cases hka : n ≤ k ∧ k < n + a.count
          · rcases h.seqA.inside hka.1 hka.2 hn with g | ⟨_, _, g⟩
            · omega
            · exact absurd hx g
          · have := h.out k x (by simp only [Tree.count]; omega) (by omega) (by simp only [Tree.count]; omega) hn
            have := b.last_range _ _ this
            omega
      · unfold Need
        rw [h.seqB.nd m hmr.1 hmr.2, if_pos hm]
        exact mem_ofNats.2 ⟨x, hx, rfl⟩)
    obtain ⟨ha1, q, hq, hqT⟩ := ha
    refine ⟨fun x g1 g2 => ?_, q, hq, by simp only [Tree.span]; omega⟩
    simp only [Tree.count] at g2
    simp only [Tree.span]
    by_cases hx : x < n + a.count
    · have := ha1 x g1 hx; omega
    · have := hb1 x (by omega) (by omega)
      have hsa : 0 ≤ a.span V := by
        have hp : ∀ (v : Tree), (∀ ds, ds ∈ v.leaves → 1 ≤ V ds) → 0 ≤ v.span V := by
          intro v
          induction v with
          | num ds => intro h; have := h ds (by simp [Tree.leaves]); simp only [Tree.span]; omega
          | seq a b iha ihb => intro h; have := iha (fun ds hds => h ds (by simp [Tree.leaves, hds])); have := ihb (fun ds hds => h ds (by simp [Tree.leaves, hds])); simp only [Tree.span]; omega
          | par a b iha ihb => intro h; have := iha (fun ds hds => h ds (by simp [Tree.leaves, hds])); simp only [Tree.span]; omega
        exact hp a (fun ds hds => hv ds (by simp [Tree.leaves, hds]))
      omega
  | par a b iha ihb =>
    intro n E C h hC hv hl
    obtain ⟨ha1, p, hp, hpT⟩ := iha n E C h.parA hC (fun ds hds => hv ds (by simp [Tree.leaves, hds])) (fun x hx => hl x (by simp [Tree.last, hx]))
    obtain ⟨hb1, q, hq, hqT⟩ := ihb (n + a.count) E C h.parB hC (fun ds hds => hv ds (by simp [Tree.leaves, hds])) (fun x hx => hl x (by simp [Tree.last, hx]))
    refine ⟨fun x g1 g2 => ?_, ?_⟩
    · simp only [Tree.count] at g2
      simp only [Tree.span]
      by_cases hx : x < n + a.count
      · have := ha1 x g1 hx; omega
      · have := hb1 x (by omega) (by omega); omega
    · simp only [Tree.span, Tree.first, List.mem_append]
      by_cases hc : a.span V ≤ b.span V
      · exact ⟨q, Or.inr hq, by omega⟩
      · exact ⟨p, Or.inl hp, by omega⟩

/-- How long a weave is at least: as its text says. -/
theorem Tree.lay_span (V : List UInt8 → Int) (t : Tree) {R T : Nat → Int} (hd : Deep (t.lay V []) R T) (hv : ∀ ds, ds ∈ t.leaves → 1 ≤ V ds) : maxTo T (t.lay V []).length = t.span V := by
  have hlen : (t.lay V []).length = t.count := by rw [t.lay_length]; simp
  have hE : Emb V (t.lay V []) 0 t [] := {
    nd := fun x h1 h2 => by
      have e := t.lay_nds V [] x (Nat.zero_le _) (by simpa using h2)
      split
      · rename_i hf; exact t.first_free V [] x hf
      · exact e
    wk := fun j hj => by
      rw [Nat.zero_add, wkOf_works, t.lay_works]
      simp [worksOf]
    out := fun k x hk h1 h2 hn => by
      unfold Need needsOf at hn
      rw [List.getD_eq_getElem?_getD, List.getElem?_eq_none (by omega)] at hn
      simp at hn
    lo := fun y hy => by simp at hy
    len := by omega }
  obtain ⟨h1, m, hm, hmT⟩ := Emb.tails hd t 0 [] 0 hE (Int.le_refl _) hv (fun x hx => ⟨fun k hn => by
    by_cases hk : k < t.count
    · rcases hE.inside (Nat.zero_le _) (by omega) hn with g | ⟨_, _, g⟩
      · omega
      · exact absurd hx g
    · unfold Need needsOf at hn
      rw [List.getD_eq_getElem?_getD, List.getElem?_eq_none (by omega)] at hn
      simp at hn, Or.inl rfl⟩)
  have hmr := t.first_range _ _ hm
  have hle := maxTo_le T (t.lay V []).length (t.span V) (by have := (hd.tlow m).1; omega) (fun x hx => by have := h1 x (Nat.zero_le _) (by omega); omega)
  have hge := le_maxTo T (n := (t.lay V []).length) (x := m) (by omega)
  omega
end Go.Proofs.YtlfbdjeojgbniaaGreatDoor

namespace Go.Proofs.YtlfbdjeojgbniaaGreatDoor

def Digits (ds : List UInt8) : Prop := ∃ d r, ds = d :: r ∧ isDig d = true ∧ d ≠ 48
theorem Digits.pos {ds : List UInt8} (h : Digits ds) : 1 ≤ V1 ds := by
  obtain ⟨d, r, rfl, h1, h2⟩ := h
  have key : ∀ (r : List UInt8) (n : Nat), 1 ≤ n → 1 ≤ r.foldl cap1 n := by
    intro r
    induction r with
    | nil => intro n hn; exact hn
    | cons x r ih => intro n hn; exact ih _ (by unfold cap1; omega)
  have hd : 49 ≤ d.toNat := by
    simp [isDig] at h1
    have : d.toNat ≠ 48 := fun e => h2 (UInt8.toNat_inj.1 e)
    omega
  have := key r (cap1 0 d) (by unfold cap1; omega)
  unfold V1
  show 1 ≤ ((r.foldl cap1 (cap1 0 d) : Nat) : Int)
  omega

/-- What was read so far is right. -/
def accOk : Kind → Prop
  | .chainL t => ∀ ds, ds ∈ t.leaves → Digits ds
  | .weaveL t => ∀ ds, ds ∈ t.leaves → Digits ds
  | _ => True
theorem Gr.leaves {k : Kind} {s : List UInt8} {r : Option (Tree × List UInt8)} (h : Gr k s r) : accOk k → ∀ t s2, r = some (t, s2) → ∀ ds, ds ∈ t.leaves → Digits ds := by
  induction h with
  | num _ =>
    rename_i s _
    intro _ t s2 h ds hd
    obtain ⟨d, r, e1, e2, rfl, _⟩ := numR_shape h
    simp [Tree.leaves] at hd
    subst hd
    have := (takeWhile_parts s).2.1 d (by rw [e1]; simp)
    exact ⟨d, r, rfl, this, e2⟩
  | opened _ _ => intro _ t s2 h; cases h
  | unshut _ _ _ => intro _ t s2 h; cases h
  | signs _ ih => intro _ t s2 h; simp at h; obtain ⟨rfl, _⟩ := h; exact ih trivial _ _ rfl
  | chainNo _ _ => intro _ t s2 h; cases h
  | chainOf _ _ ih1 ih2 => intro _ t s2 h; exact ih2 (ih1 trivial _ _ rfl) t s2 h
  | chainEnd _ => intro ha t s2 h; simp at h; rw [← h.1]; exact ha
  | chainBad _ _ => intro _ t s2 h; cases h
  | chainMore _ _ ih1 ih2 =>
    intro ha t s2 h
    refine ih2 (fun ds hd => ?_) t s2 h
    simp only [Tree.leaves, List.mem_append] at hd
    exact hd.elim (ha ds) (ih1 trivial _ _ rfl ds)
  | weaveNo _ _ => intro _ t s2 h; cases h
  | weaveOf _ _ ih1 ih2 => intro _ t s2 h; exact ih2 (ih1 trivial _ _ rfl) t s2 h
  | weaveEnd _ => intro ha t s2 h; simp at h; rw [← h.1]; exact ha
  | weaveBad _ _ => intro _ t s2 h; cases h
  | weaveMore _ _ ih1 ih2 =>
    intro ha t s2 h
    refine ih2 (fun ds hd => ?_) t s2 h
    simp only [Tree.leaves, List.mem_append] at hd
    exact hd.elim (ha ds) (ih1 trivial _ _ rfl ds)
theorem Whole.pos {l : List UInt8} {t : Tree} (h : Whole l t) {ds : List UInt8} (hd : ds ∈ t.leaves) : 1 ≤ V1 ds := (h.leaves trivial t [] rfl ds hd).pos

theorem big_leaves (t : Tree) : big (t.lay V1 []) = t.leaves.any fun ds => decide (20 < V1 ds) := by
  have h1 : big (t.lay V1 []) = (worksOf (t.lay V1 [])).any fun n => decide (20 < n) := by
    unfold big worksOf
    rw [List.any_map]
    rfl
  rw [h1, t.lay_works]
  simp only [worksOf, List.map_nil, List.nil_append, List.any_map]
  rfl
theorem boundErr_zero {t : Tree} : boundErr (t.lay V1 []) = 0 ↔ t.count ≤ 30 ∧ ∀ ds, ds ∈ t.leaves → V1 ds ≤ 20 := by
  have hlen : (t.lay V1 []).length = t.count := by rw [t.lay_length]; simp
  unfold boundErr
  rw [big_leaves, hlen]
  cases hb : t.leaves.any fun ds => decide (20 < V1 ds) with
  | true =>
    simp only [if_true]
    rw [List.any_eq_true] at hb
    obtain ⟨ds, h1, h2⟩ := hb
    constructor
    · intro h; omega
    · intro ⟨_, h⟩
      have := h ds h1
      simp at h2; omega
  | false =>
    simp only [Bool.false_eq_true, if_false]
    rw [List.any_eq_false] at hb
    constructor
    · intro h
      split at h
      · omega
      · exact ⟨by omega, fun ds hd => by have := hb ds hd; simp at this; omega⟩
    · intro ⟨h, _⟩
      rw [if_neg (by omega)]
theorem boundErr_four {t : Tree} (h : boundErr (t.lay V1 []) ≠ 0) (hv : ∀ ds, ds ∈ t.leaves → V1 ds ≤ 20) : boundErr (t.lay V1 []) = 4 := by
  have hb : big (t.lay V1 []) = false := by
    rw [big_leaves, List.any_eq_false]
    intro ds hd
    have := hv ds hd
    simp; omega
  unfold boundErr at h ⊢
  rw [hb] at h ⊢
  simp only [Bool.false_eq_true, if_false] at h ⊢
  split
  · rfl
  · rename_i hc
    rw [if_neg hc] at h
    exact absurd rfl h
theorem WeaveOk.facts {l : List UInt8} {t : Tree} (h : WeaveOk l t) : t.count ≤ 30 ∧ ∀ ds, ds ∈ t.leaves → 1 ≤ V1 ds ∧ V1 ds ≤ 20 := by
  obtain ⟨h1, h2⟩ := boundErr_zero.1 h.2.2
  exact ⟨h1, fun ds hd => ⟨h.2.1.pos hd, h2 ds hd⟩⟩
theorem WeaveOk.check {l : List UInt8} {t : Tree} (h : WeaveOk l t) : CheckIs (t.lay V1 []) 0 0 := t.check V1 h.facts.1 h.facts.2

/-- One behind the other, in signs. -/
def behindText (a b : List UInt8) : List UInt8 := 40 :: (a ++ 41 :: 59 :: 40 :: (b ++ [41]))
theorem whole_behind {a b : List UInt8} {ta tb : Tree} (ha : Whole a ta) (hb : Whole b tb) : Whole (behindText a b) (.seq ta tb) :=
  Gr.weaveOf (Gr.chainOf (ha.signs (59 :: 40 :: (b ++ [41]))) (Gr.chainMore (hb.signs []) (Gr.chainEnd (by simp)))) (Gr.weaveEnd (by simp))

/-- A weave goes on. -/
theorem Gr.goesOn {k : Kind} {s : List UInt8} {r : Option (Tree × List UInt8)} (h : Gr k s r) (y : List UInt8) (q : Option (Tree × List UInt8)) : ∀ t0, k = .weaveL t0 → ∀ t, r = some (t, []) → Gr (.weaveL t) (124 :: y) q → Gr (.weaveL t0) (s ++ 124 :: y) q := by
  induction h with
  | weaveEnd _ =>
    intro t0 hk t hr hq
    cases hk
    simp at hr
    obtain ⟨rfl, rfl⟩ := hr
    exact hq
  | weaveMore h1 _ _ ih2 =>
    intro t0 hk t hr hq
    cases hk
    have := Gr.ext h1 124 y _ _ rfl (Or.inr ⟨by decide, by decide⟩)
    exact Gr.weaveMore this (ih2 _ rfl t hr hq)
  | weaveBad _ _ => intro _ _ _ hr; cases hr
  | num _ => intro _ hk; cases hk
  | opened _ _ => intro _ hk; cases hk
  | unshut _ _ _ => intro _ hk; cases hk
  | signs _ _ => intro _ hk; cases hk
  | chainNo _ _ => intro _ hk; cases hk
  | chainOf _ _ _ _ => intro _ hk; cases hk
  | chainEnd _ => intro _ hk; cases hk
  | chainBad _ _ => intro _ hk; cases hk
  | chainMore _ _ _ _ => intro _ hk; cases hk
  | weaveNo _ _ => intro _ hk; cases hk
  | weaveOf _ _ _ _ => intro _ hk; cases hk

/-- What a weave comes to, beside another one. -/
structure Sum (ta tb T : Tree) : Prop where
  work : T.work V1 = ta.work V1 + tb.work V1
  span : T.span V1 = max (ta.span V1) (tb.span V1)
  leaves : T.leaves = ta.leaves ++ tb.leaves
theorem Gr.beside {k : Kind} {s : List UInt8} {r : Option (Tree × List UInt8)} (h : Gr k s r) (ta : Tree) : ∀ t1 t1', k = .weaveL t1 → Sum ta t1 t1' → ∀ tb s2, r = some (tb, s2) → ∃ T, Gr (.weaveL t1') s (some (T, s2)) ∧ Sum ta tb T := by
  induction h with
  | weaveEnd hn =>
    intro t1 t1' hk hs tb s2 hr
    cases hk
    simp at hr
    obtain ⟨rfl, rfl⟩ := hr
    exact ⟨t1', Gr.weaveEnd hn, hs⟩
  | weaveMore h1 _ _ ih2 =>
    rename_i s' s2' t' t2' r' _ _
    intro t1 t1' hk hs tb s2 hr
    cases hk
    obtain ⟨T, g1, g2⟩ := ih2 (.par t' t2') (.par t1' t2') rfl ⟨by simp only [Tree.work, hs.work]; omega, by simp only [Tree.span, hs.span]; omega, by simp only [Tree.leaves, hs.leaves, List.append_assoc]⟩ tb s2 hr
    exact ⟨T, Gr.weaveMore h1 g1, g2⟩
  | weaveBad _ _ => intro _ _ _ _ _ _ hr; cases hr
  | num _ => intro _ _ hk; cases hk
  | opened _ _ => intro _ _ hk; cases hk
  | unshut _ _ _ => intro _ _ hk; cases hk
  | signs _ _ => intro _ _ hk; cases hk
  | chainNo _ _ => intro _ _ hk; cases hk
  | chainOf _ _ _ _ => intro _ _ hk; cases hk
  | chainEnd _ => intro _ _ hk; cases hk
  | chainBad _ _ => intro _ _ hk; cases hk
  | chainMore _ _ _ _ => intro _ _ hk; cases hk
  | weaveNo _ _ => intro _ _ hk; cases hk
  | weaveOf _ _ _ _ => intro _ _ hk; cases hk
theorem whole_beside {a b : List UInt8} {ta tb : Tree} (ha : Whole a ta) (hb : Whole b tb) : ∃ T, Whole (a ++ 124 :: b) T ∧ Sum ta tb T := by
  cases ha with
  | weaveOf a1 a2 =>
    cases hb with
    | weaveOf b1 b2 =>
      obtain ⟨T, g1, g2⟩ := Gr.beside b2 ta _ (.par ta _) rfl ⟨rfl, rfl, rfl⟩ tb [] rfl
      refine ⟨T, ?_, g2⟩
      exact Gr.weaveOf (Gr.ext a1 124 b _ _ rfl (Or.inr ⟨by decide, by decide⟩)) (Gr.goesOn a2 b _ _ rfl _ rfl (Gr.weaveMore b1 g1))

/-- The weave "2;(3|4);1". -/
def factT : Tree := .seq (.seq (.num [50]) (.par (.num [51]) (.num [52]))) (.num [49])
theorem fact_ok : WeaveOk [50, 59, 40, 51, 124, 52, 41, 59, 49] factT := by
  refine ⟨by decide, ?_, by decide⟩
  have h3 : Whole [51, 124, 52] (.par (.num [51]) (.num [52])) :=
    Gr.weaveOf (Gr.chainOf (Gr.num (s := [51, 124, 52]) (by decide)) (Gr.chainEnd (by decide))) (Gr.weaveMore (Gr.chainOf (Gr.num (s := [52]) (by decide)) (Gr.chainEnd (by decide))) (Gr.weaveEnd (by decide)))
  exact Gr.weaveOf (Gr.chainOf (Gr.num (s := [50, 59, 40, 51, 124, 52, 41, 59, 49]) (by decide)) (Gr.chainMore (h3.signs [59, 49]) (Gr.chainMore (Gr.num (s := [49]) (by decide)) (Gr.chainEnd (by decide))))) (Gr.weaveEnd (by decide))
theorem fact_lay : factT.lay V1 [] = [(2, []), (3, [0]), (4, [0]), (1, [1, 2])] := by rfl
end Go.Proofs.YtlfbdjeojgbniaaGreatDoor
