/- Plain: tasks as lists, who needs whom, and what a search from a task sees. No word of the program. -/
namespace Go.Proofs.YtilpjhhjlokfcaaDoor

/-- What the x-th task needs. -/
def needsOf (ts : List (Int × List Int)) (x : Nat) : List Int := (ts.getD x (0, [])).2
def Need (ts : List (Int × List Int)) (x y : Nat) : Prop := (y : Int) ∈ needsOf ts x
/-- y is needed by x, or by what x needs, and so on: over so many tasks between. -/
def ReachN (ts : List (Int × List Int)) : Nat → Nat → Nat → Prop
  | 0, x, y => Need ts x y
  | n + 1, x, z => ∃ y, ReachN ts n x y ∧ Need ts y z
def Reach (ts : List (Int × List Int)) (x y : Nat) : Prop := ∃ n, ReachN ts n x y
theorem Reach.one {ts : List (Int × List Int)} {x y : Nat} (h : Need ts x y) : Reach ts x y := ⟨0, h⟩
theorem Reach.more {ts : List (Int × List Int)} {x y z : Nat} (h : Reach ts x y) (hn : Need ts y z) : Reach ts x z := by
  obtain ⟨n, hr⟩ := h
  exact ⟨n + 1, y, hr, hn⟩
theorem Reach.ind {ts : List (Int × List Int)} {x : Nat} {motive : ∀ y, Reach ts x y → Prop} (one : ∀ {y : Nat} (h : Need ts x y), motive y (Reach.one h))
    (more : ∀ {y z : Nat} (h : Reach ts x y) (hn : Need ts y z), motive y h → motive z (Reach.more h hn)) {y : Nat} (h : Reach ts x y) : motive y h := by
  obtain ⟨n, hr⟩ := h
  induction n generalizing y with
  | zero => exact one hr
  | succ n ih =>
    obtain ⟨u, hu, hn⟩ := hr
    exact more ⟨n, hu⟩ hn (ih hu)

/-- All that tasks need are tasks. -/
def InRange (ts : List (Int × List Int)) : Prop := ∀ x, x < ts.length → ∀ y, y ∈ needsOf ts x → 0 ≤ y ∧ y < ts.length

def mark (S : Nat → Bool) (y : Nat) : Nat → Bool := fun x => if x = y then true else S x
def unseen (S : Nat → Bool) : Nat → Nat
  | 0 => 0
  | n + 1 => unseen S n + if S n then 0 else 1

theorem unseen_le (S : Nat → Bool) (n : Nat) : unseen S n ≤ n := by
  induction n with
  | zero => exact Nat.le_refl _
  | succ n ih => unfold unseen; split <;> omega

theorem unseen_past (S : Nat → Bool) (n y : Nat) (h : n ≤ y) : unseen (mark S y) n = unseen S n := by
  induction n with
  | zero => rfl
  | succ n ih =>
    unfold unseen
    rw [ih (by omega), show mark S y n = S n by unfold mark; rw [if_neg (by omega)]]

theorem unseen_mark (S : Nat → Bool) (n y : Nat) (hy : y < n) (h : S y = false) : unseen (mark S y) n + 1 = unseen S n := by
  induction n with
  | zero => omega
  | succ n ih =>
    unfold unseen
    by_cases e : n = y
    · subst e
      rw [unseen_past S n n (Nat.le_refl _), show mark S n n = true by simp [mark], h]
      simp
    · have := ih (by omega)
      rw [show mark S y n = S n by unfold mark; rw [if_neg e]]
      omega

/-- A search from i: what was seen, what is still to be looked at. -/
structure Dfs (ts : List (Int × List Int)) (i : Nat) (S : Nat → Bool) (st : List Nat) : Prop where
  lt : ∀ x, x ∈ st → x < ts.length
  seen : ∀ x, S x = true → x < ts.length ∧ Reach ts i x
  stk : ∀ x, x ∈ st → x = i ∨ S x = true
  closed : ∀ x, (x = i ∨ S x = true) → x ∉ st → ∀ y, Need ts x y → S y = true

/-- While the needs of x are gone over: k of them are done. -/
structure DfsIn (ts : List (Int × List Int)) (i x k : Nat) (S : Nat → Bool) (st : List Nat) : Prop where
  xlt : x < ts.length
  own : x = i ∨ S x = true
  lt : ∀ x, x ∈ st → x < ts.length
  seen : ∀ x, S x = true → x < ts.length ∧ Reach ts i x
  stk : ∀ x, x ∈ st → x = i ∨ S x = true
  closed : ∀ z, z ≠ x → (z = i ∨ S z = true) → z ∉ st → ∀ y, Need ts z y → S y = true
  done : ∀ j, j < k → S ((needsOf ts x).getD j 0).toNat = true

theorem Dfs.start (ts : List (Int × List Int)) (i : Nat) (h : i < ts.length) : Dfs ts i (fun _ => false) [i] := {
  lt := fun x hx => by rw [List.mem_singleton.1 hx]; exact h
  seen := fun x hx => by simp at hx
  stk := fun x hx => Or.inl (List.mem_singleton.1 hx)
  closed := fun x hx hn => by rcases hx with rfl | hx <;> simp_all
  }

theorem Dfs.pop {ts : List (Int × List Int)} {i : Nat} {S : Nat → Bool} {st : List Nat} {x : Nat} (h : Dfs ts i S (st ++ [x])) : DfsIn ts i x 0 S st := {
  xlt := h.lt x (by simp)
  own := h.stk x (by simp)
  lt := fun y hy => h.lt y (by simp [hy])
  seen := h.seen
  stk := fun y hy => h.stk y (by simp [hy])
  closed := fun z hz ho hn => h.closed z ho (by simp [hn, hz])
  done := fun j hj => by omega
  }

theorem need_at {ts : List (Int × List Int)} {x k : Nat} (hr : InRange ts) (hx : x < ts.length) (hk : k < (needsOf ts x).length) :
    ((needsOf ts x).getD k 0).toNat < ts.length ∧ Need ts x ((needsOf ts x).getD k 0).toNat ∧ 0 ≤ (needsOf ts x).getD k 0 := by
  have he : (needsOf ts x).getD k 0 = (needsOf ts x)[k] := by rw [List.getD_eq_getElem?_getD, List.getElem?_eq_getElem hk]; rfl
  have hm : (needsOf ts x)[k] ∈ needsOf ts x := List.getElem_mem hk
  have hb := hr x hx _ hm
  rw [he]
  exact ⟨by omega, by unfold Need; rw [Int.toNat_of_nonneg hb.1]; exact hm, hb.1⟩

theorem DfsIn.skip {ts : List (Int × List Int)} {i x k : Nat} {S : Nat → Bool} {st : List Nat} (h : DfsIn ts i x k S st) (hy : S ((needsOf ts x).getD k 0).toNat = true) : DfsIn ts i x (k + 1) S st :=
  ⟨h.xlt, h.own, h.lt, h.seen, h.stk, h.closed, fun j hj => by
    by_cases e : j = k
    · subst e; exact hy
    · exact h.done j (by omega)⟩

theorem DfsIn.push {ts : List (Int × List Int)} {i x k : Nat} {S : Nat → Bool} {st : List Nat} (hr : InRange ts) (h : DfsIn ts i x k S st) (hk : k < (needsOf ts x).length) :
    DfsIn ts i x (k + 1) (mark S ((needsOf ts x).getD k 0).toNat) (st ++ [((needsOf ts x).getD k 0).toNat]) := by
  obtain ⟨hlt, hneed, _⟩ := need_at hr h.xlt hk
  generalize hyy : ((needsOf ts x).getD k 0).toNat = y at *
  have mono : ∀ z, S z = true → mark S y z = true := fun z hz => by unfold mark; split <;> simp [hz]
  have hself : mark S y y = true := by simp [mark]
  refine ⟨h.xlt, h.own.imp id (mono _), ?_, ?_, ?_, ?_, ?_⟩
  · intro z hz
    rcases List.mem_append.1 hz with hz | hz
    · exact h.lt z hz
    · rw [List.mem_singleton.1 hz]; exact hlt
  · intro z hz
    by_cases e : z = y
    · subst e
      refine ⟨hlt, ?_⟩
      rcases h.own with ho | ho
      · subst ho; exact Reach.one hneed
      · exact Reach.more (h.seen _ ho).2 hneed
    · refine h.seen z ?_
      unfold mark at hz
      rwa [if_neg e] at hz
  · intro z hz
    rcases List.mem_append.1 hz with hz | hz
    · exact (h.stk z hz).imp id (mono _)
    · rw [List.mem_singleton.1 hz]; exact Or.inr hself
  · intro z hzx ho hn y' hy'
    simp only [List.mem_append, List.mem_singleton, not_or] at hn
    refine mono _ (h.closed z hzx (ho.imp id fun hz => ?_) hn.1 y' hy')
    unfold mark at hz
    rwa [if_neg hn.2] at hz
  · intro j hj
    by_cases e : j = k
    · subst e; rw [hyy]; exact hself
    · exact mono _ (h.done j (by omega))

theorem DfsIn.finish {ts : List (Int × List Int)} {i x : Nat} {S : Nat → Bool} {st : List Nat} (h : DfsIn ts i x (needsOf ts x).length S st) : Dfs ts i S st := {
  lt := h.lt
  seen := h.seen
  stk := h.stk
  closed := fun z ho hn y hy => by
    by_cases e : z = x
    · subst e
      obtain ⟨j, hj, he⟩ := List.getElem_of_mem hy
      have hd := h.done j hj
      rw [List.getD_eq_getElem?_getD, List.getElem?_eq_getElem hj] at hd
      simp only [Option.getD_some, he, Int.toNat_natCast] at hd
      exact hd
    · exact h.closed z e ho hn y hy
  }

theorem Dfs.ends {ts : List (Int × List Int)} {i : Nat} {S : Nat → Bool} (h : Dfs ts i S []) (x : Nat) : S x = true ↔ Reach ts i x := by
  constructor
  · exact fun hx => (h.seen x hx).2
  · intro hx
    induction hx using Reach.ind with
    | one hn => exact h.closed _ (Or.inl rfl) (by simp) _ hn
    | more _ hn ih => exact h.closed _ (Or.inr ih) (by simp) _ hn
end Go.Proofs.YtilpjhhjlokfcaaDoor
