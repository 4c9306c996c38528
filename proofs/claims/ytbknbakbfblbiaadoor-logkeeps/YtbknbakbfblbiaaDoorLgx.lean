/- Plain: of each plan something is told; how many are done; a log behind which nothing is left. -/
import Derived.Test.YtbknbakbfblbiaaDoorLga
namespace Go.Proofs.YtbknbakbfblbiaaDoor

theorem leastL (P : Nat → Prop) : ∀ n, P n → ∃ k, P k ∧ ∀ j, j < k → ¬ P j := by
  intro n
  induction n using Nat.strongRecOn with
  | _ n ih =>
    intro hn
    by_cases h : ∃ j, j < n ∧ P j
    · obtain ⟨j, hj, hp⟩ := h
      exact ih j hj hp
    · exact ⟨n, hn, fun j hj hp => h ⟨j, hj, hp⟩⟩
theorem chk_exists (ts : List (Int × List Int)) : ∃ p q, CheckIs ts p q := by
  by_cases h30 : 30 < ts.length
  · exact ⟨_, _, CheckIs.full h30⟩
  by_cases he : ∃ k, k < ts.length ∧ errOf ts k ≠ 0
  · obtain ⟨k0, h0⟩ := he
    obtain ⟨k, ⟨h1, h2⟩, h3⟩ := leastL (fun k => k < ts.length ∧ errOf ts k ≠ 0) k0 h0
    refine ⟨_, _, CheckIs.task k (by omega) h1 (fun j hj => ?_) h2⟩
    by_cases e : errOf ts j = 0
    · exact e
    · exact absurd ⟨by omega, e⟩ (h3 j hj)
  have hall : ∀ j, j < ts.length → errOf ts j = 0 := fun j hj => by
    by_cases e : errOf ts j = 0
    · exact e
    · exact absurd ⟨j, hj, e⟩ he
  by_cases hr : ∃ k, k < ts.length ∧ Reach ts k k
  · obtain ⟨k0, h0⟩ := hr
    obtain ⟨k, ⟨h1, h2⟩, h3⟩ := leastL (fun k => k < ts.length ∧ Reach ts k k) k0 h0
    exact ⟨_, _, CheckIs.ring k (by omega) hall h1 (fun j hj e => h3 j hj ⟨by omega, e⟩) h2⟩
  · exact ⟨_, _, CheckIs.none (by omega) hall (fun j hj e => hr ⟨j, hj, e⟩)⟩

theorem all_len : ∀ (n : Nat) (l : List Nat), (∀ k, k < n → k ∈ l) → n ≤ l.length := by
  intro n
  induction n with
  | zero => intro l _; omega
  | succ n ih =>
    intro l h
    have h1 := ih (l.erase n) (fun k hk => (List.mem_erase_of_ne (by omega)).2 (h k (by omega)))
    have h2 := h n (by omega)
    rw [List.length_erase_of_mem h2] at h1
    have := List.length_pos_of_mem h2
    omega
theorem unseen_over (S : Nat → Bool) : ∀ n, unseen S n = 0 → ∀ k, k < n → S k = true := by
  intro n
  induction n with
  | zero => intro _ k hk; omega
  | succ n ih =>
    intro h k hk
    unfold unseen at h
    cases hS : S n with
    | false => rw [hS] at h; simp at h
    | true =>
      rw [hS] at h
      simp at h
      by_cases e : k = n
      · rw [e]; exact hS
      · exact ih h k (by omega)
variable {ts : List (Int × List Int)} {l : List Nat} {s : Ls}
/-- Nothing is ready only when all is done. -/
theorem SeqOk.stuck (hg : Good ts) (h : readyTo ts (inL l) ts.length = []) : ts.length ≤ l.length := by
  by_cases hu : unseen (inL l) ts.length = 0
  · refine all_len _ _ (fun k hk => ?_)
    have := unseen_over _ _ hu k hk
    simpa [inL] using this
  · exact absurd h (ready_some hg hu)
theorem SeqOk.full (h : SeqOk ts l) (hl : l.length = ts.length) : ∀ k, k < ts.length → k ∈ l := by
  have key : ∀ (n : Nat) (m : List Nat), m.Nodup → (∀ x, x ∈ m → x < n) → m.length = n → ∀ k, k < n → k ∈ m := by
    intro n
    induction n with
    | zero => intro _ _ _ _ k hk; omega
    | succ n ih =>
      intro m hd hx hl k hk
      have hn : n ∈ m := by
        by_cases e : n ∈ m
        · exact e
        · have := nodup_bound n m hd (fun x hxm => by have := hx x hxm; have : x ≠ n := fun e2 => e (e2 ▸ hxm); omega)
          omega
      by_cases e : k = n
      · rw [e]; exact hn
      · have := ih (m.erase n) (hd.erase n) (fun x hxm => by
            have h2 := hx x (List.mem_of_mem_erase hxm)
            have h3 := (hd.mem_erase_iff.1 hxm).1
            omega) (by rw [List.length_erase_of_mem hn]; omega) k (by omega)
        exact List.mem_of_mem_erase this
  exact key _ _ h.nodup (fun x hx => h.lt hx) hl
theorem ready_last {S : Nat → Bool} {n : Nat} (h : 0 < (readyTo ts S n).length) : ∃ y, (readyTo ts S n).getD ((readyTo ts S n).length - 1) 0 = y ∧ y < n ∧ readyB ts S y = true := by
  have hm : (readyTo ts S n).getD ((readyTo ts S n).length - 1) 0 ∈ readyTo ts S n := by
    rw [List.getD_eq_getElem?_getD, List.getElem?_eq_getElem (by omega)]; exact List.getElem_mem (by omega)
  obtain ⟨h1, h2⟩ := mem_readyTo.1 hm
  exact ⟨_, rfl, h1, h2⟩
theorem doneErr_ready {S : Nat → Bool} {y : Nat} (hy : y < ts.length) (h : readyB ts S y = true) : doneErr ts S (y : Int) = 0 := by
  unfold doneErr
  rw [if_neg (by omega), Int.toNat_natCast, h]; rfl

/-- A log that goes on, with so much done by the i-th round. -/
structure Goes (n i : Nat) (s : Ls) : Prop where
  run : s.stopped = false
  ahead : s.ahead = -1
  far : min n (i - (2 * n + 1)) ≤ s.recs.length
theorem Goes.start (n : Nat) : Goes n 0 Ls.new := ⟨rfl, rfl, by simp⟩
theorem Goes.done {n i : Nat} (h : Goes n i s) {y : Nat} (hd : doneErr ts (inL s.recs) (y : Int) = 0) : s.doneE ts y = 0 ∧ Goes n (i + 1) (s.done ts y) := by
  have ha : ¬ s.ahead = 0 := by rw [h.ahead]; omega
  have e : s.done ts y = { s with recs := s.recs ++ [y], ahead := -1 } := by
    unfold Ls.done
    rw [h.run, hd, Ls.tick_run h.run ha, h.ahead]
    simp
    exact h.run
  refine ⟨by unfold Ls.doneE; rw [h.run, hd]; simp [ha], ?_⟩
  rw [e]
  refine ⟨h.run, rfl, ?_⟩
  have := h.far
  simp only [List.length_append, List.length_singleton]
  omega
theorem Goes.none {i : Nat} (h : Goes ts.length i s) (hg : Good ts) (hr : readyTo ts (inL s.recs) ts.length = []) : Goes ts.length (i + 1) s :=
  ⟨h.run, h.ahead, by have := SeqOk.stuck hg hr; omega⟩
theorem Goes.sync {n i : Nat} (h : Goes n i s) : s.syncE = 0 ∧ Goes n i s.sync := by
  have ha : ¬ s.ahead = 0 := by rw [h.ahead]; omega
  unfold Ls.syncE Ls.sync
  rw [h.run]
  refine ⟨by simp [ha], ?_⟩
  simp only [Bool.false_eq_true, if_false, ha]
  rw [Ls.tick_run h.run ha]
  exact ⟨h.run, by dsimp only; rw [if_neg (by rw [h.ahead]; omega), h.ahead], h.far⟩
theorem Goes.crash {n i : Nat} (hi : i ≤ 2 * n + 1) (keep : Int) : Goes n i (s.crash keep) := ⟨rfl, rfl, by omega⟩
end Go.Proofs.YtbknbakbfblbiaaDoor
