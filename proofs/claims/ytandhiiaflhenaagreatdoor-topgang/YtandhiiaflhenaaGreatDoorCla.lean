/- Plain: cells and ops, what an op comes to; along an order; in whatever order, to the same. No word of the program. -/
import Derived.Test.YtandhiiaflhenaaGreatDoorOrdr
namespace Go.Proofs.YtandhiiaflhenaaGreatDoor

/-- A cell: its number, whether it is a fault. -/
abbrev Cl := Int × Bool
/-- An op: what it does, its number. -/
abbrev Opn := Int × Int
def fitsC (n : Int) : Bool := decide (-1000000000 ≤ n) && decide (n ≤ 1000000000)
theorem fitsC_iff {n : Int} : fitsC n = true ↔ -1000000000 ≤ n ∧ n ≤ 1000000000 := by unfold fitsC; simp
theorem fitsC_not {n : Int} : fitsC n = false ↔ n < -1000000000 ∨ 1000000000 < n := by
  unfold fitsC
  rw [Bool.and_eq_false_iff]
  simp
def cellErr (c : Cl) : Int := if fitsC c.1 = true ∧ (c.2 = true → c.1 = 0) then 0 else 1
theorem cellErr_zero {c : Cl} : cellErr c = 0 ↔ fitsC c.1 = true ∧ (c.2 = true → c.1 = 0) := by
  unfold cellErr
  split
  · rename_i h
    exact ⟨fun _ => h, fun _ => rfl⟩
  · rename_i h
    constructor
    · intro e; omega
    · intro e; exact absurd e h
def opErr (o : Opn) : Int := if 1 ≤ o.1 ∧ o.1 ≤ 5 ∧ fitsC o.2 = true then 0 else 1
theorem opErr_zero {o : Opn} : opErr o = 0 ↔ 1 ≤ o.1 ∧ o.1 ≤ 5 ∧ fitsC o.2 = true := by
  unfold opErr
  split
  · rename_i h; simp [h]
  · rename_i h
    constructor
    · intro e; omega
    · intro e; exact absurd e h
/-- The first fault of a list of things. -/
def firstBad {α : Type} (f : α → Int) : List α → Int
  | [] => 0
  | a :: r => if f a = 0 then firstBad f r else f a
theorem firstBad_zero {α : Type} {f : α → Int} {l : List α} : firstBad f l = 0 ↔ ∀ x, x ∈ l → f x = 0 := by
  induction l with
  | nil => simp [firstBad]
  | cons a r ih =>
    unfold firstBad
    by_cases h : f a = 0
    · rw [if_pos h, ih]
      simp [h]
    · rw [if_neg h]
      constructor
      · intro e; exact absurd e h
      · intro e; exact absurd (e a (List.mem_cons_self ..)) h
theorem firstBad_append {α : Type} (f : α → Int) (l m : List α) : firstBad f (l ++ m) = if firstBad f l = 0 then firstBad f m else firstBad f l := by
  induction l with
  | nil => rfl
  | cons a r ih =>
    rw [List.cons_append, firstBad, firstBad, ih]
    by_cases h : f a = 0
    · rw [if_pos h, if_pos h]
    · rw [if_neg h, if_neg h, if_neg h]

/-- One step of an op. -/
def stepC (w a b : Int) : Int := if w = 2 then (if a < b then b else a) else if w = 3 then a * b else a + b
theorem stepC_bound {w a b : Int} (ha : fitsC a = true) (hb : fitsC b = true) : -1000000000000000000 ≤ stepC w a b ∧ stepC w a b ≤ 1000000000000000000 := by
  obtain ⟨a1, a2⟩ := fitsC_iff.1 ha
  obtain ⟨b1, b2⟩ := fitsC_iff.1 hb
  unfold stepC
  split
  · split <;> omega
  · split
    · have h1 : (a * b).natAbs ≤ 1000000000 * 1000000000 := by
        rw [Int.natAbs_mul]
        exact Nat.mul_le_mul (by omega) (by omega)
      omega
    · omega
/-- Step by step; none: a fault. -/
def foldC (w : Int) : Int → List Cl → Option Int
  | n, [] => some n
  | n, c :: r => if c.2 = true then none else if fitsC (stepC w n c.1) = true then foldC w (stepC w n c.1) r else none
theorem foldC_append (w : Int) (l m : List Cl) : ∀ n, foldC w n (l ++ m) = (foldC w n l).bind (fun k => foldC w k m) := by
  induction l with
  | nil => intro n; rfl
  | cons c r ih =>
    intro n
    rw [List.cons_append, foldC, foldC]
    split
    · rfl
    · split
      · exact ih _
      · rfl
theorem foldC_fits {w : Int} {l : List Cl} : ∀ {n m : Int}, fitsC n = true → foldC w n l = some m → fitsC m = true := by
  induction l with
  | nil => intro n m hn h; rw [foldC] at h; rw [← Option.some.inj h]; exact hn
  | cons c r ih =>
    intro n m hn h
    rw [foldC] at h
    split at h
    · cases h
    · split at h
      · rename_i h2; exact ih h2 h
      · cases h
/-- The first that is no fault. -/
def firstC (n : Int) : List Cl → Cl
  | [] => (n, false)
  | c :: r => if c.2 = true then firstC n r else c
/-- What is told behind the last step. -/
def endC (w n : Int) : Option Int → Cl
  | none => (0, true)
  | some m => if w = 4 then (if m = 0 then (0, true) else (n.tdiv m, false)) else (m, false)
/-- What an op comes to. -/
def doC (o : Opn) (l : List Cl) : Cl := if o.1 = 5 then firstC o.2 l else endC o.1 o.2 (foldC o.1 (if o.1 = 4 then 0 else o.2) l)
theorem tdiv_fits {n m : Int} (hn : fitsC n = true) : fitsC (n.tdiv m) = true := by
  obtain ⟨h1, h2⟩ := fitsC_iff.1 hn
  have h : (n.tdiv m).natAbs ≤ n.natAbs := by rw [Int.natAbs_tdiv]; exact Nat.div_le_self _ _
  exact fitsC_iff.2 (by omega)
theorem firstC_right {n : Int} {l : List Cl} (hn : fitsC n = true) (hl : ∀ c, c ∈ l → cellErr c = 0) : cellErr (firstC n l) = 0 := by
  induction l with
  | nil => exact cellErr_zero.2 ⟨hn, fun h => by cases h⟩
  | cons c r ih =>
    rw [firstC]
    split
    · exact ih (fun x hx => hl x (List.mem_cons_of_mem _ hx))
    · exact hl c (List.mem_cons_self ..)
/-- What an op that is right comes to, of cells that are, is right. -/
theorem doC_right {o : Opn} {l : List Cl} (ho : opErr o = 0) (hl : ∀ c, c ∈ l → cellErr c = 0) : cellErr (doC o l) = 0 := by
  obtain ⟨h1, h5, hf⟩ := opErr_zero.1 ho
  unfold doC
  split
  · exact firstC_right hf hl
  · have h0 : fitsC (if o.1 = 4 then 0 else o.2) = true := by
      split
      · rfl
      · exact hf
    cases hx : foldC o.1 (if o.1 = 4 then 0 else o.2) l with
    | none => exact cellErr_zero.2 ⟨rfl, fun _ => rfl⟩
    | some m =>
      have hm := foldC_fits h0 hx
      unfold endC
      dsimp only
      split
      · split
        · exact cellErr_zero.2 ⟨rfl, fun _ => rfl⟩
        · exact cellErr_zero.2 ⟨tdiv_fits hf, fun h => by cases h⟩
      · exact cellErr_zero.2 ⟨hm, fun h => by cases h⟩
/-- The document divides by sizes and signs. -/
theorem tdiv_sizes (n m : Int) : n.tdiv m = if (decide (n < 0) != decide (m < 0)) = true then -((n.natAbs / m.natAbs : Nat) : Int) else ((n.natAbs / m.natAbs : Nat) : Int) := by
  have hpos : ∀ a b : Nat, ((a : Int)).tdiv (b : Int) = ((a / b : Nat) : Int) := fun a b => (Int.ofNat_tdiv a b).symm
  obtain ⟨b, hb⟩ : ∃ b : Nat, b = m.natAbs := ⟨_, rfl⟩
  obtain ⟨a, ha⟩ : ∃ a : Nat, a = n.natAbs := ⟨_, rfl⟩
  rw [← ha, ← hb]
  by_cases h1 : n < 0
  · obtain rfl : n = -(a : Int) := by omega
    by_cases h2 : m < 0
    · obtain rfl : m = -(b : Int) := by omega
      rw [Int.neg_tdiv, Int.tdiv_neg, hpos, show decide (-(a : Int) < 0) = true from decide_eq_true h1, show decide (-(b : Int) < 0) = true from decide_eq_true h2]
      simp
    · obtain rfl : m = (b : Int) := by omega
      rw [Int.neg_tdiv, hpos, show decide (-(a : Int) < 0) = true from decide_eq_true h1, show decide ((b : Int) < 0) = false from decide_eq_false h2]
      simp
  · obtain rfl : n = (a : Int) := by omega
    by_cases h2 : m < 0
    · obtain rfl : m = -(b : Int) := by omega
      rw [Int.tdiv_neg, hpos, show decide ((a : Int) < 0) = false from decide_eq_false h1, show decide (-(b : Int) < 0) = true from decide_eq_true h2]
      simp
    · obtain rfl : m = (b : Int) := by omega
      rw [hpos, show decide ((a : Int) < 0) = false from decide_eq_false h1, show decide ((b : Int) < 0) = false from decide_eq_false h2]
      simp

/-- What all tasks come to, of each other. -/
def Sol (ts : List (Int × List Int)) (op : Nat → Opn) (F : Nat → Cl) : Prop := ∀ i, i < ts.length → F i = doC (op i) ((needsOf ts i).map (fun y => F y.toNat))
/-- There is one such alone. -/
theorem Sol.same {ts : List (Int × List Int)} {op : Nat → Opn} {F G : Nat → Cl} (hr : InRange ts) (hno : ∀ j, j < ts.length → ¬ Reach ts j j) (hF : Sol ts op F) (hG : Sol ts op G) : ∀ i, i < ts.length → F i = G i := by
  have h := no_ring_empty ts hno (fun x => x < ts.length ∧ F x ≠ G x) (fun x ⟨hx, hne⟩ => by
    refine ⟨hx, ?_⟩
    apply Classical.byContradiction
    intro hall
    refine hne ?_
    rw [hF x hx, hG x hx]
    congr 1
    refine List.map_congr_left fun y hy => ?_
    have hy2 := hr x hx y hy
    apply Classical.byContradiction
    intro h2
    refine hall ⟨y.toNat, ?_, by omega, h2⟩
    unfold Need
    rw [Int.toNat_of_nonneg hy2.1]
    exact hy)
  intro i hi
  apply Classical.byContradiction
  intro hne
  exact h i ⟨hi, hne⟩
/-- Task by task along an order. -/
def putC (F : Nat → Cl) (i : Nat) (c : Cl) : Nat → Cl := fun k => if k = i then c else F k
def alongC (ts : List (Int × List Int)) (op : Nat → Opn) : List Nat → Nat → Cl := fun ord => ord.foldl (fun F i => putC F i (doC (op i) ((needsOf ts i).map (fun y => F y.toNat)))) (fun _ => (0, false))
theorem alongC_snoc (ts : List (Int × List Int)) (op : Nat → Opn) (l : List Nat) (i : Nat) : alongC ts op (l ++ [i]) = putC (alongC ts op l) i (doC (op i) ((needsOf ts i).map (fun y => alongC ts op l y.toNat))) := by
  unfold alongC
  rw [List.foldl_append]
  rfl
/-- In this order nobody stands before whom it needs. -/
def Behind (ts : List (Int × List Int)) (ord : List Nat) : Prop := ∀ m, m < ord.length → ∀ y, Need ts (ord.getD m 0) y → y ∈ ord.take m
theorem Behind.init {ts : List (Int × List Int)} {l : List Nat} {i : Nat} (h : Behind ts (l ++ [i])) : Behind ts l ∧ ∀ y, Need ts i y → y ∈ l := by
  constructor
  · intro m hm y hy
    have := h m (by simp; omega) y (by rw [List.getD_eq_getElem?_getD, List.getElem?_append_left hm, ← List.getD_eq_getElem?_getD]; exact hy)
    rw [List.take_append_of_le_length (by omega)] at this
    exact this
  · intro y hy
    have := h l.length (by simp) y (by simpa using hy)
    simpa using this
/-- Along an order all that it names come to what they come to. -/
theorem alongC_at {ts : List (Int × List Int)} {op : Nat → Opn} : ∀ {ord : List Nat}, ord.Nodup → Behind ts ord → InRange ts → (∀ x, x ∈ ord → x < ts.length) → ∀ i, i ∈ ord → alongC ts op ord i = doC (op i) ((needsOf ts i).map (fun y => alongC ts op ord y.toNat)) := by
  intro ord
  generalize hn : ord.length = n
  induction n generalizing ord with
  | zero =>
    intro _ _ _ _ i hi
    rw [List.eq_nil_of_length_eq_zero hn] at hi
    simp at hi
  | succ n ih =>
    intro hd hb hr hx i hi
    obtain ⟨l, a, rfl⟩ : ∃ l a, ord = l ++ [a] := ⟨ord.dropLast, ord.getLast (by intro e; rw [e] at hn; simp at hn), (List.dropLast_concat_getLast _).symm⟩
    have hl : l.length = n := by simpa using hn
    obtain ⟨hb1, hb2⟩ := hb.init
    have hd2 := List.nodup_append.1 hd
    have hal : ¬ a ∈ l := fun h => hd2.2.2 a h a (List.mem_singleton.2 rfl) rfl
    have hkeep : ∀ x, x ∈ l → alongC ts op (l ++ [a]) x = alongC ts op l x := fun x hxl => by
      rw [alongC_snoc]
      unfold putC
      rw [if_neg]
      intro e
      rw [e] at hxl
      exact hal hxl
    have hneed : ∀ k, k < ts.length → (∀ y, Need ts k y → y ∈ l) → (needsOf ts k).map (fun y => alongC ts op (l ++ [a]) y.toNat) = (needsOf ts k).map (fun y => alongC ts op l y.toNat) := fun k hk hy => by
      refine List.map_congr_left fun y hym => hkeep _ (hy _ ?_)
      have := hr k hk y hym
      unfold Need
      rw [Int.toNat_of_nonneg this.1]
      exact hym
    have hlx : ∀ x, x ∈ l → x < ts.length := fun x h => hx x (List.mem_append.2 (Or.inl h))
    by_cases e : i = a
    · subst e
      rw [hneed i (hx i hi) hb2, alongC_snoc]
      unfold putC
      rw [if_pos rfl]
    · have hil : i ∈ l := by
        rcases List.mem_append.1 hi with h | h
        · exact h
        · exact absurd (List.mem_singleton.1 h) e
      have hyl : ∀ y, Need ts i y → y ∈ l := by
        obtain ⟨j, hj, he⟩ := List.getElem_of_mem hil
        intro y hy
        have := hb1 j hj y (by rw [List.getD_eq_getElem?_getD, List.getElem?_eq_getElem hj]; show Need ts l[j] y; rw [he]; exact hy)
        exact List.mem_of_mem_take this
      rw [hkeep i hil, hneed i (hx i hi) hyl]
      exact ih hl hd2.1 hb1 hr hlx i hil
theorem alongC_sol {ts : List (Int × List Int)} {op : Nat → Opn} {ord : List Nat} (hd : ord.Nodup) (hb : Behind ts ord) (hr : InRange ts) (hx : ∀ x, x ∈ ord → x < ts.length) (hall : ∀ x, x < ts.length → x ∈ ord) : Sol ts op (alongC ts op ord) := fun i hi => alongC_at hd hb hr hx i (hall i hi)
/-- In whatever order, to the same. -/
theorem alongC_same {ts : List (Int × List Int)} {op : Nat → Opn} {o1 o2 : List Nat} (hr : InRange ts) (hno : ∀ j, j < ts.length → ¬ Reach ts j j) (hd1 : o1.Nodup) (hb1 : Behind ts o1) (hx1 : ∀ x, x ∈ o1 → x < ts.length) (ha1 : ∀ x, x < ts.length → x ∈ o1) (hd2 : o2.Nodup) (hb2 : Behind ts o2) (hx2 : ∀ x, x ∈ o2 → x < ts.length) (ha2 : ∀ x, x < ts.length → x ∈ o2) : ∀ i, i < ts.length → alongC ts op o1 i = alongC ts op o2 i :=
  (alongC_sol hd1 hb1 hr hx1 ha1).same hr hno (alongC_sol hd2 hb2 hr hx2 ha2)
/-- All that they come to is right. -/
theorem Sol.right {ts : List (Int × List Int)} {op : Nat → Opn} {F : Nat → Cl} (hr : InRange ts) (hno : ∀ j, j < ts.length → ¬ Reach ts j j) (hF : Sol ts op F) (ho : ∀ i, i < ts.length → opErr (op i) = 0) : ∀ i, i < ts.length → cellErr (F i) = 0 := by
  have h := no_ring_empty ts hno (fun x => x < ts.length ∧ cellErr (F x) ≠ 0) (fun x ⟨hx, hne⟩ => by
    refine ⟨hx, ?_⟩
    apply Classical.byContradiction
    intro hall
    refine hne ?_
    rw [hF x hx]
    refine doC_right (ho x hx) (fun c hc => ?_)
    obtain ⟨y, hy, rfl⟩ := List.mem_map.1 hc
    have hy2 := hr x hx y hy
    apply Classical.byContradiction
    intro h2
    refine hall ⟨y.toNat, ?_, by omega, h2⟩
    unfold Need
    rw [Int.toNat_of_nonneg hy2.1]
    exact hy)
  intro i hi
  apply Classical.byContradiction
  intro hne
  exact h i ⟨hi, hne⟩
/-- A fault goes on, but not past who asks for the first. -/
theorem doC_fault {o : Opn} (ho : o.1 ≠ 5) : doC o [(0, true)] = (0, true) := by
  unfold doC
  rw [if_neg ho]
  rfl
theorem doC_first (n : Int) : doC (5, n) [(0, true)] = (n, false) := rfl
/-- To divide by nothing is a fault. -/
theorem doC_split (n : Int) : doC (4, n) [] = (0, true) := rfl
/-- Along a chain behind a fault all are faults. -/
theorem chain_faults {n : Nat} {op : Nat → Opn} {F : Nat → Cl} (hF : Sol (chainTs 1 n) op F) (h0 : op 0 = (4, 5)) (h5 : ∀ k, k + 1 < n → (op k).1 ≠ 5) : ∀ k, k + 1 < n → F k = (0, true) := by
  intro k
  induction k with
  | zero =>
    intro hk
    rw [hF 0 (by rw [chainTs_length]; omega), h0]
    unfold needsOf
    rw [chainTs_getD 1 n 0 (by omega)]
    rfl
  | succ k ih =>
    intro hk
    rw [hF (k + 1) (by rw [chainTs_length]; omega)]
    unfold needsOf
    rw [chainTs_getD 1 n (k + 1) (by omega), if_neg (by omega), List.map_singleton]
    have e : (((k + 1 : Nat) : Int) - 1).toNat = k := by omega
    rw [e, ih (by omega)]
    exact doC_fault (h5 (k + 1) hk)
theorem chain_last {n : Nat} {op : Nat → Opn} {F : Nat → Cl} (hF : Sol (chainTs 1 (n + 2)) op F) (h0 : op 0 = (4, 5)) (h5 : ∀ k, k + 1 < n + 2 → (op k).1 ≠ 5) : F (n + 1) = doC (op (n + 1)) [(0, true)] := by
  rw [hF (n + 1) (by rw [chainTs_length]; omega)]
  unfold needsOf
  rw [chainTs_getD 1 (n + 2) (n + 1) (by omega), if_neg (by omega), List.map_singleton]
  have e : (((n + 1 : Nat) : Int) - 1).toNat = n := by omega
  rw [e, chain_faults hF h0 h5 n (by omega)]
end Go.Proofs.YtandhiiaflhenaaGreatDoor
