/- Plain: the order in which the greatest is first, of equal ones the least number. No word of the program. -/
namespace Go.Proofs.YtlfebnaghoeddaaDoor

/-- Ahead of another one: greater, or as great and of a lesser number. -/
def urgB (T : Nat → Int) (i k : Nat) : Prop := T k < T i ∨ (T i = T k ∧ i < k)
structure UrgIs (T : Nat → Int) (n : Nat) (l : List Nat) : Prop where
  perm : l.Perm (List.range n)
  falls : l.Pairwise (urgB T)
theorem UrgIs.length {T : Nat → Int} {n : Nat} {l : List Nat} (h : UrgIs T n l) : l.length = n := by rw [h.perm.length_eq, List.length_range]
theorem UrgIs.lt {T : Nat → Int} {n x : Nat} {l : List Nat} (h : UrgIs T n l) (hx : x ∈ l) : x < n := List.mem_range.1 (h.perm.mem_iff.1 hx)
theorem UrgIs.nodup {T : Nat → Int} {n : Nat} {l : List Nat} (h : UrgIs T n l) : l.Nodup := h.perm.nodup_iff.2 List.nodup_range
theorem UrgIs.det {T : Nat → Int} {n : Nat} {l l' : List Nat} (h : UrgIs T n l) (h' : UrgIs T n l') : l = l' :=
  List.Perm.eq_of_pairwise (fun a b _ _ h1 h2 => by unfold urgB at h1 h2; omega) h.falls h'.falls (h.perm.trans h'.perm.symm)
theorem UrgIs.none (T : Nat → Int) : UrgIs T 0 [] := ⟨List.Perm.nil, List.Pairwise.nil⟩

/-- What the program's closure tells of two. -/
def cmpU (T : Nat → Int) (i k : Nat) : Int := if T i = T k then (i : Int) - k else T k - T i
theorem cmpU_neg (T : Nat → Int) (i k : Nat) : cmpU T i k < 0 ↔ urgB T i k := by
  unfold cmpU urgB
  split <;> omega
/-- What a sort by it leaves. -/
theorem urg_of_sorted {T : Nat → Int} {n : Nat} {d : List (Fin n)} (hp : d.Perm (List.finRange n)) (hs : ∀ i j (hi : i < d.length) (hj : j < d.length), i < j → ¬ cmpU T d[j].val d[i].val < 0) : UrgIs T n (d.map Fin.val) := by
  have hperm : (d.map Fin.val).Perm (List.range n) := by
    have h1 := hp.map Fin.val
    have h2 : (List.finRange n).map Fin.val = List.range n := by
      apply List.ext_getElem
      · simp
      · intro i h1 h2; simp
    rwa [h2] at h1
  refine ⟨hperm, ?_⟩
  rw [List.pairwise_iff_getElem]
  intro i j hi hj hij
  have hnd : (d.map Fin.val).Nodup := hperm.nodup_iff.2 List.nodup_range
  have hne := List.pairwise_iff_getElem.1 hnd i j hi hj hij
  have := hs i j (by simpa using hi) (by simpa using hj) hij
  rw [cmpU_neg] at this
  simp only [List.getElem_map] at hne ⊢
  unfold urgB at this ⊢
  omega
/-- Taken one by one: behind all that are not less. -/
def insU (T : Nat → Int) (i : Nat) (l : List Nat) : List Nat := l.takeWhile (fun x => decide (T i ≤ T x)) ++ i :: l.dropWhile (fun x => decide (T i ≤ T x))
def urgTo (T : Nat → Int) : Nat → List Nat
  | 0 => []
  | n + 1 => insU T n (urgTo T n)
theorem insU_ok {T : Nat → Int} {n : Nat} {l : List Nat} (h : UrgIs T n l) : UrgIs T (n + 1) (insU T n l) := by
  have hcut : l.takeWhile (fun x => decide (T n ≤ T x)) ++ l.dropWhile (fun x => decide (T n ≤ T x)) = l := List.takeWhile_append_dropWhile
  refine ⟨?_, ?_⟩
  · unfold insU
    refine List.perm_middle.trans ?_
    rw [hcut, List.range_succ]
    exact (List.Perm.cons _ h.perm).trans (List.perm_append_comm (l₁ := [n]))
  · have hf := h.falls
    rw [← hcut, List.pairwise_append] at hf
    unfold insU
    rw [List.pairwise_append, List.pairwise_cons]
    have hall : ∀ x, x ∈ l.takeWhile (fun x => decide (T n ≤ T x)) → T n ≤ T x ∧ x < n := fun x hx => by
      have h1 := List.all_eq_true.1 (List.all_takeWhile (p := fun x => decide (T n ≤ T x)) (l := l)) x hx
      have h2 := h.lt (List.takeWhile_sublist _ |>.mem hx)
      exact ⟨by simpa using h1, h2⟩
    have hrest : ∀ x, x ∈ l.dropWhile (fun x => decide (T n ≤ T x)) → T x < T n := fun x hx => by
      cases hd : l.dropWhile (fun x => decide (T n ≤ T x)) with
      | nil => rw [hd] at hx; cases hx
      | cons a r =>
        have ha : T a < T n := by
          have h3 := List.head_dropWhile_not (fun x => decide (T n ≤ T x)) (l := l) (by rw [hd]; simp)
          simp only [hd, List.head_cons] at h3
          simpa using h3
        rw [hd] at hx
        rcases List.mem_cons.1 hx with rfl | hx
        · exact ha
        · have h4 := hf.2.1
          rw [hd, List.pairwise_cons] at h4
          have := h4.1 x hx
          unfold urgB at this
          omega
    refine ⟨hf.1, ⟨fun x hx => Or.inl (hrest x hx), hf.2.1⟩, fun a ha b hb => ?_⟩
    have h1 := hall a ha
    rcases List.mem_cons.1 hb with rfl | hb
    · unfold urgB; omega
    · have := hrest b hb
      unfold urgB; omega
theorem urgTo_is (T : Nat → Int) (n : Nat) : UrgIs T n (urgTo T n) := by
  induction n with
  | zero => exact UrgIs.none T
  | succ n ih => exact insU_ok ih
end Go.Proofs.YtlfebnaghoeddaaDoor
