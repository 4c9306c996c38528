/- What PlanBack asks, call by call. -/
import Derived.Test.YtfmmfapfgpckfaaGreatDoorW
namespace Go.Proofs.YtfmmfapfgpckfaaGreatDoor
open Go.RowKit Go.Deep

theorem CheckIs.det {ts : List (Int × List Int)} {p q p' q' : Int} (h : CheckIs ts p q) (h' : CheckIs ts p' q') : p = p' ∧ q = q' := by
  cases h using CheckIs.elim with
  | full hf =>
    cases h' using CheckIs.elim with
    | full => exact ⟨rfl, rfl⟩
    | task k hk => omega
    | ring k hk => omega
    | none hk => omega
  | task k h30 hk hz hne =>
    cases h' using CheckIs.elim with
    | full => omega
    | task k2 _ hk2 hz2 hne2 =>
      have : k = k2 := by
        rcases Nat.lt_trichotomy k k2 with h | h | h
        · exact absurd (hz2 k h) hne
        · exact h
        · exact absurd (hz k2 h) hne2
      subst this; exact ⟨rfl, rfl⟩
    | ring k2 _ hall => exact absurd (hall k hk) hne
    | none _ hall => exact absurd (hall k hk) hne
  | ring k h30 hall hk hf hr =>
    cases h' using CheckIs.elim with
    | full => omega
    | task k2 _ hk2 _ hne2 => exact absurd (hall k2 hk2) hne2
    | ring k2 _ _ hk2 hf2 hr2 =>
      have : k = k2 := by
        rcases Nat.lt_trichotomy k k2 with h | h | h
        · exact absurd hr (hf2 k h)
        · exact h
        · exact absurd hr2 (hf k2 h)
      subst this; exact ⟨rfl, rfl⟩
    | none _ _ hno => exact absurd hr (hno k hk)
  | none h30 hall hno =>
    cases h' using CheckIs.elim with
    | full => omega
    | task k2 _ hk2 _ hne2 => exact absurd (hall k2 hk2) hne2
    | ring k2 _ _ hk2 _ hr2 => exact absurd hr2 (hno k2 hk2)
    | none => exact ⟨rfl, rfl⟩

/-- A text that is no plan, or one that is: then the plan lies there, and its text is the text. -/
theorem parse_back (l : List UInt8) (w : World) (hl : l.length ≤ 1048576) (he : Synt w) (hm : Lens w) :
    Calls Tryz.prog 15 #[.string ⟨l.toArray⟩] w fun e w' => ((∃ q, q ≠ 0 ∧ e = .returned (.tuple #[.slice none 0 0, errV q])) ∨ (∃ ts v, e = .returned (.tuple #[v, .nilIface]) ∧ tasksOf l = some ts ∧ CheckIs ts 0 0 ∧ PlanAt w' v ts)) ∧ Below w.heap.size w w' := by
  refine (parse_any l w hl he hm).mono ?_
  rintro e w' ⟨h, hb⟩
  refine ⟨?_, hb⟩
  rcases h with ⟨_, rfl⟩ | ⟨ts, p, q, ht, _, hc, h⟩
  · exact Or.inl ⟨2, by decide, rfl⟩
  · rcases h with ⟨hq, rfl⟩ | ⟨rfl, v, rfl, hp⟩
    · exact Or.inl ⟨q, hq, rfl⟩
    · obtain ⟨rfl, h30, _, _⟩ := hc.ok rfl
      have hlen : ts.length ≤ 30 := by simp at h30; omega
      have htk : ts.take 31 = ts := List.take_of_length_le (by omega)
      rw [htk] at hc hp
      exact Or.inr ⟨ts, v, rfl, ht, hc, hp⟩

/-- The text of a plan that Check passes is read as the plan. -/
theorem parse_text (ts : List (Int × List Int)) (w : World) (hc : CheckIs ts 0 0) (he : Synt w) (hm : Lens w) :
    Calls Tryz.prog 15 #[.string ⟨(planText ts).toArray⟩] w fun e w' => (∃ v, e = .returned (.tuple #[v, .nilIface]) ∧ PlanAt w' v ts) ∧ Below w.heap.size w w' := by
  obtain ⟨_, h30, herr, _⟩ := hc.ok rfl
  have hsm : ∀ k, k < ts.length → Small ((ts.getD k (0, [])).1, needsOf ts k) ∧ (needsOf ts k).length ≤ 30 := fun k hk => by
    obtain ⟨h1, h2, h3⟩ := errOf_zero (herr k hk)
    have := rising_len _ _ h3 h2
    exact ⟨⟨by simp only; omega, fun z hz => by have := h2 z hz; omega⟩, by omega⟩
  have hsm2 : ∀ t, t ∈ ts → Small t := fun t ht => by
    obtain ⟨k, hk, he⟩ := List.getElem_of_mem ht
    have := (hsm k hk).1
    have e2 : ts.getD k (0, []) = t := by rw [List.getD_eq_getElem?_getD, List.getElem?_eq_getElem hk]; exact he
    unfold needsOf at this
    rw [e2] at this
    exact this
  have hlen : (planText ts).length ≤ 93 * ts.length := by
    have := planTextK_len ts (fun k hk => taskText_len _ (hsm k hk).1 (hsm k hk).2) ts.length (Nat.le_refl _)
    rwa [planTextK_all] at this
  refine (parse_any (planText ts) w (by omega) he hm).mono ?_
  rintro e w' ⟨h, hb⟩
  refine ⟨?_, hb⟩
  rw [tasks_text ts hsm2] at h
  rcases h with ⟨h, _⟩ | ⟨ts', p, q, ht, _, hc', h⟩
  · simp at h
  · obtain rfl := Option.some.inj ht
    have htk : ts.take 31 = ts := List.take_of_length_le (by omega)
    rw [htk] at hc' h
    obtain ⟨_, rfl⟩ := hc.det hc'
    rcases h with ⟨h, _⟩ | ⟨_, v, rfl, hp⟩
    · exact absurd rfl h
    · exact ⟨v, rfl, hp⟩

/-- A plan that Check passes, as text. -/
theorem print_right (v : Value) (ts : List (Int × List Int)) (w : World) (hp : PlanAt w v ts) (hc : CheckIs ts 0 0) :
    Calls Tryz.prog 11 #[v] w fun e w' => e = .returned (.tuple #[.string ⟨(planText ts).toArray⟩, .nilIface]) ∧ Below w.heap.size w w' := by
  refine (print_any v ts w hp).mono ?_
  rintro e w' ⟨⟨p, q, hc', h⟩, hb⟩
  obtain ⟨_, rfl⟩ := hc.det hc'
  rcases h with ⟨h, _⟩ | ⟨_, h⟩
  · exact absurd rfl h
  · exact ⟨h, hb⟩

def factTs : List (Int × List Int) := [(3, []), (2, [0]), (1, [0, 1])]
theorem fact_read : tasksOf [51, 32, 50, 60, 48, 32, 49, 60, 48, 44, 49] = some factTs := by decide
theorem fact_need {x y : Nat} (h : Need factTs x y) : y < x := by
  unfold Need needsOf factTs at h
  match x, h with
  | 0, h => simp at h
  | 1, h => simp at h; omega
  | 2, h => simp at h; omega
  | x + 3, h => simp at h
theorem fact_reach {x y : Nat} (h : Reach factTs x y) : y < x := by
  induction h using Reach.ind with
  | one hn => exact fact_need hn
  | more _ hn ih => have := fact_need hn; omega
theorem fact_err (j : Nat) (hj : j < 3) : errOf factTs j = 0 := by
  match j, hj with
  | 0, _ => decide
  | 1, _ => decide
  | 2, _ => decide
theorem fact_check : CheckIs factTs 0 0 := CheckIs.none (by decide) (fun j hj => fact_err j hj) (fun j _ h => by have := fact_reach h; omega)

/-- The text of the law's own. -/
theorem parse_fact (w : World) (he : Synt w) (hm : Lens w) :
    Calls Tryz.prog 15 #[.string ⟨#[51, 32, 50, 60, 48, 32, 49, 60, 48, 44, 49]⟩] w fun e w' => (∃ b o c a2 c2, e = .returned (.tuple #[.slice (some ⟨b, o, none⟩) 3 c, .nilIface]) ∧ w'.cell? ⟨b, o + 2, none⟩ = some (.int .i64 2) ∧ w'.cell? ⟨b, o + 4 + 1, none⟩ = some (.slice a2 2 c2)) ∧ Below w.heap.size w w' := by
  have h0 := parse_any [51, 32, 50, 60, 48, 32, 49, 60, 48, 44, 49] w (by decide) he hm
  refine h0.mono ?_
  rintro e w' ⟨h, hb⟩
  refine ⟨?_, hb⟩
  rw [fact_read] at h
  rcases h with ⟨h, _⟩ | ⟨ts, p, q, ht, _, hc, h⟩
  · simp at h
  · obtain rfl := Option.some.inj ht
    have htk : factTs.take 31 = factTs := rfl
    rw [htk] at hc h
    obtain ⟨_, rfl⟩ := fact_check.det hc
    rcases h with ⟨h, _⟩ | ⟨_, v, rfl, hp⟩
    · exact absurd rfl h
    · obtain ⟨_, a, c, rfl, hp⟩ := hp
      rcases hp with hp | ⟨b, o, rfl, _, hcs⟩
      · simp [factTs] at hp
      · have h1 := (hcs 1 (by decide)).1
        obtain ⟨_, nv, h2, h3⟩ := hcs 2 (by decide)
        obtain ⟨_, a2, c2, rfl, _⟩ := h3
        exact ⟨b, o, c, a2, c2, rfl, h1, h2⟩

theorem order_back (v : Value) (ts : List (Int × List Int)) (w : World) (hp : PlanAt w v ts) :
    Calls Tryz.prog 9 #[v] w fun e w' => ((∃ p q, q ≠ 0 ∧ CheckIs ts p q ∧ e = .returned (.tuple #[.slice none 0 0, errV q])) ∨ (CheckIs ts 0 0 ∧ ∃ ord ov, e = .returned (.tuple #[ov, .nilIface]) ∧ OrdIs ts ord ∧ IntsAt w' ov (intsOf ord))) ∧ Below w.heap.size w w' := by
  refine (order_any v ts w hp).mono ?_
  rintro e w' ⟨⟨p, q, hc, h⟩, hb⟩
  refine ⟨?_, hb⟩
  rcases h with ⟨hq, rfl⟩ | ⟨rfl, h⟩
  · exact Or.inl ⟨p, q, hq, hc, rfl⟩
  · obtain ⟨rfl, _⟩ := hc.ok rfl
    exact Or.inr ⟨hc, h⟩

theorem check_again (v : Value) (ts : List (Int × List Int)) (w : World) (p q : Int) (hc : CheckIs ts p q) (hp : PlanAt w v ts) :
    Calls Tryz.prog 5 #[v] w fun e w' => e = .returned (.tuple #[.int .i64 p, errV q]) ∧ Below w.heap.size w w' := by
  refine (check_any v ts w hp).mono ?_
  rintro e w' ⟨⟨p', q', rfl, hc'⟩, hb⟩
  obtain ⟨rfl, rfl⟩ := hc.det hc'
  exact ⟨rfl, hb⟩

theorem after_right (v : Value) (ts : List (Int × List Int)) (y : Nat) (w : World) (hc : CheckIs ts 0 0) (hy : y < ts.length) (hp : PlanAt w v ts) :
    Calls Tryz.prog 13 #[v, .int .i64 (y : Nat)] w fun e w' => (∃ a c, e = .returned (.tuple #[.slice a (intsOf (afterOf ts y ts.length)).length c, .nilIface]) ∧ IntsAt w' (.slice a (intsOf (afterOf ts y ts.length)).length c) (intsOf (afterOf ts y ts.length))) ∧ Below w.heap.size w w' := by
  refine (after_any v ts y w hp).mono ?_
  rintro e w' ⟨⟨p, q, hc', h⟩, hb⟩
  obtain ⟨_, rfl⟩ := hc.det hc'
  have hin : inRange (y : Int) ts.length = true := by simp [inRange]; omega
  rw [hin] at h
  refine ⟨?_, hb⟩
  rcases h with ⟨h, _⟩ | ⟨_, h, _⟩ | ⟨_, _, ov, rfl, hi⟩
  · exact absurd rfl h
  · simp at h
  · obtain ⟨h1, a, c, rfl, h2⟩ := hi
    exact ⟨a, c, rfl, h1, a, c, rfl, h2⟩

theorem afterOf_mem (ts : List (Int × List Int)) (y : Int) (n x : Nat) (hx : x < n) (h : y ∈ needsOf ts x) : (x : Int) ∈ intsOf (afterOf ts y n) := by
  have key : x ∈ afterOf ts y n := by
    induction n with
    | zero => omega
    | succ n ih =>
      unfold afterOf
      by_cases e : x = n
      · subst e; simp [memB, h]
      · simp [ih (by omega)]
  unfold intsOf
  exact List.mem_map.2 ⟨x, key, rfl⟩

theorem NextIs.free {ts : List (Int × List Int)} {T : Nat → Bool} {k : Nat} (h : NextIs ts T (k : Nat)) : k < ts.length ∧ T k = false ∧ ∀ y, y ∈ needsOf ts k → T y.toNat = true := by
  generalize hr : ((k : Nat) : Int) = r at h
  cases h using NextIs.elim with
  | some j hj _ hf =>
    have : k = j := by omega
    subst this
    unfold freeB at hf
    simp only [Bool.and_eq_true, Bool.not_eq_true'] at hf
    refine ⟨hj, hf.1, fun y hy => ?_⟩
    have := List.any_eq_false.1 hf.2 y hy
    simpa using this
  | none => omega

theorem has_take_succ (ord : List Nat) (i : Nat) (hi : i < ord.length) : has (ord.take (i + 1)) = mark (has (ord.take i)) (ord.getD i 0) := by
  rw [mark_has, List.take_succ_eq_append_getElem hi]
  congr 2
  rw [List.getD_eq_getElem?_getD, List.getElem?_eq_getElem hi]; rfl
end Go.Proofs.YtfmmfapfgpckfaaGreatDoor
