/- What PlanTells asks of the program, and of the document's answer. -/
import Derived.Test.YtfmmfapfgpckfaaGreatDoorX
import Derived.Test.YtfmmfapfgpckfaaGreatDoorI
import Derived.Test.YtfmmfapfgpckfaaGreatDoorRi
namespace Go.Proofs.YtfmmfapfgpckfaaGreatDoor
open Go.RowKit Go.Deep

theorem PlanAt.none (w : World) : PlanAt w (.slice none 0 0) [] := ⟨by simp, Option.none, 0, rfl, Or.inl rfl⟩
theorem IntsAt.none (w : World) : IntsAt w (.slice none 0 0) [] := ⟨by simp, Option.none, 0, rfl, Or.inl rfl⟩

theorem check_empty : CheckIs [] 0 0 := CheckIs.none (by simp) (fun j hj => by simp at hj) (fun j hj => by simp at hj)

set_option maxRecDepth 100000 in
theorem readR_any (l : List UInt8) (w : World) (hs : l.length ≤ 1048576) :
    Calls Tryz.prog 14 #[.string ⟨l.toArray⟩] w fun e w' => ((tasksOf l = none ∧ e = .returned (.tuple #[.slice none 0 0, .int .i64 2])) ∨ (∃ ts p q, tasksOf l = some ts ∧ CheckIs ts p q ∧ ((q ≠ 0 ∧ e = .returned (.tuple #[.slice none 0 0, .int .i64 q])) ∨ (q = 0 ∧ ∃ v, e = .returned (.tuple #[v, .int .i64 0]) ∧ PlanAt w' v ts)))) ∧ Below w.heap.size w w' := by
  cases l with
  | nil =>
    go_enter Tryz.func14, Tryz.ntmps14
    go_wp2
    go_ret2
    exact ⟨Or.inr ⟨[], 0, 0, rfl, check_empty, Or.inr ⟨rfl, _, rfl, PlanAt.none _⟩⟩, Below.refl _ _⟩
  | cons b r => exact readR_some b r w hs

theorem check_take {ts : List (Int × List Int)} {p q : Int} (h : CheckIs (ts.take 31) p q) : CheckIs ts p q ∧ (q = 0 → ts.take 31 = ts) := by
  by_cases hl : ts.length ≤ 31
  · have e : ts.take 31 = ts := List.take_of_length_le hl
    rw [e] at h
    exact ⟨h, fun _ => e⟩
  · have hf : CheckIs (ts.take 31) 0 4 := CheckIs.full (by simp; omega)
    obtain ⟨rfl, rfl⟩ := h.det hf
    exact ⟨CheckIs.full (by omega), fun h0 => by omega⟩

/-- What Read and Parse answer to one text: the same. -/
theorem read_same (l : List UInt8) (w : World) (hs : l.length ≤ 1048576) (T : Option (List (Int × List Int))) (hT : tasksOf l = T) (q : Int) (ts : List (Int × List Int))
    (h : (T = none ∧ q = 2 ∧ ts = []) ∨ (∃ us p, T = some us ∧ CheckIs us p q ∧ ((q ≠ 0 ∧ ts = []) ∨ (q = 0 ∧ ts = us)))) :
    Calls Tryz.prog 14 #[.string ⟨l.toArray⟩] w fun e w' => (∃ v, e = .returned (.tuple #[v, .int .i64 q]) ∧ PlanAt w' v ts) ∧ Below w.heap.size w w' := by
  refine (readR_any l w hs).mono ?_
  rintro e w' ⟨h', hb⟩
  refine ⟨?_, hb⟩
  subst hT
  rcases h with ⟨h1, rfl, rfl⟩ | ⟨us, p, h1, hc, h2⟩
  · rcases h' with ⟨_, rfl⟩ | ⟨ts', _, _, h3, _⟩
    · exact ⟨_, rfl, PlanAt.none _⟩
    · rw [h1] at h3; cases h3
  · rcases h' with ⟨h3, _⟩ | ⟨ts', p', q', h3, hc', h4⟩
    · rw [h1] at h3; cases h3
    · rw [h1] at h3
      cases h3
      obtain ⟨rfl, rfl⟩ := hc.det hc'
      rcases h4 with ⟨hq, rfl⟩ | ⟨rfl, v, rfl, hp⟩
      · rcases h2 with ⟨_, rfl⟩ | ⟨h0, _⟩
        · exact ⟨_, rfl, PlanAt.none _⟩
        · exact absurd h0 hq
      · rcases h2 with ⟨h0, _⟩ | ⟨_, rfl⟩
        · exact absurd rfl h0
        · exact ⟨_, rfl, hp⟩
theorem parse_same (l : List UInt8) (w : World) (hs : l.length ≤ 1048576) (he : Synt w) (hm : Lens w) (T : Option (List (Int × List Int))) (hT : tasksOf l = T) (q : Int) (ts : List (Int × List Int))
    (h : (T = none ∧ q = 2 ∧ ts = []) ∨ (∃ us p, T = some us ∧ CheckIs us p q ∧ ((q ≠ 0 ∧ ts = []) ∨ (q = 0 ∧ ts = us)))) :
    Calls Tryz.prog 15 #[.string ⟨l.toArray⟩] w fun e w' => (∃ v, e = .returned (.tuple #[v, errV q]) ∧ PlanAt w' v ts) ∧ Below w.heap.size w w' := by
  refine (parse_any l w hs he hm).mono ?_
  rintro e w' ⟨h', hb⟩
  refine ⟨?_, hb⟩
  subst hT
  rcases h with ⟨h1, rfl, rfl⟩ | ⟨us, p, h1, hc, h2⟩
  · rcases h' with ⟨_, rfl⟩ | ⟨ts', _, _, h3, _⟩
    · exact ⟨_, rfl, PlanAt.none _⟩
    · rw [h1] at h3; cases h3
  · rcases h' with ⟨h3, _⟩ | ⟨ts', p', q', h3, _, hc0, h4⟩
    · rw [h1] at h3; cases h3
    · rw [h1] at h3
      cases h3
      obtain ⟨hc', htk⟩ := check_take hc0
      obtain ⟨rfl, rfl⟩ := hc.det hc'
      rcases h4 with ⟨hq, rfl⟩ | ⟨rfl, v, rfl, hp⟩
      · rcases h2 with ⟨_, rfl⟩ | ⟨h0, _⟩
        · exact ⟨_, rfl, PlanAt.none _⟩
        · exact absurd h0 hq
      · rcases h2 with ⟨h0, _⟩ | ⟨_, rfl⟩
        · exact absurd rfl h0
        · rw [htk rfl] at hp
          exact ⟨_, rfl, hp⟩
theorem check_total (ts : List (Int × List Int)) : ∃ p q, CheckIs ts p q := by
  classical
  by_cases h30 : 30 < ts.length
  · exact ⟨0, 4, CheckIs.full h30⟩
  have least : ∀ (P : Nat → Prop) (n : Nat), (∃ k, k < n ∧ P k) → ∃ k, k < n ∧ P k ∧ ∀ j, j < k → ¬ P j := by
    intro P n
    induction n with
    | zero => rintro ⟨k, hk, _⟩; omega
    | succ n ih =>
      rintro ⟨k, hk, hp⟩
      by_cases h : ∃ k, k < n ∧ P k
      · obtain ⟨j, hj, h1, h2⟩ := ih h
        exact ⟨j, by omega, h1, h2⟩
      · have e : k = n := by
          by_cases e : k = n
          · exact e
          · exact absurd ⟨k, by omega, hp⟩ h
        subst e
        exact ⟨k, hk, hp, fun j hj hj' => h ⟨j, hj, hj'⟩⟩
  by_cases he : ∃ k, k < ts.length ∧ errOf ts k ≠ 0
  · obtain ⟨k, hk, h1, h2⟩ := least _ _ he
    exact ⟨k, _, CheckIs.task k (by omega) hk (fun j hj => Classical.not_not.1 (h2 j hj)) h1⟩
  have he' : ∀ j, j < ts.length → errOf ts j = 0 := fun j hj => Classical.not_not.1 (fun h => he ⟨j, hj, h⟩)
  by_cases hr : ∃ k, k < ts.length ∧ Reach ts k k
  · obtain ⟨k, hk, h1, h2⟩ := least _ _ hr
    exact ⟨k, 8, CheckIs.ring k (by omega) he' hk h2 h1⟩
  · exact ⟨0, 0, CheckIs.none (by omega) he' (fun j hj h => hr ⟨j, hj, h⟩)⟩
/-- Some answer there is: which. -/
theorem read_some (l : List UInt8) : ∃ q ts, (tasksOf l = none ∧ q = 2 ∧ ts = []) ∨ (∃ us p, tasksOf l = some us ∧ CheckIs us p q ∧ ((q ≠ 0 ∧ ts = []) ∨ (q = 0 ∧ ts = us))) := by
  cases h : tasksOf l with
  | none => exact ⟨2, [], Or.inl ⟨rfl, rfl, rfl⟩⟩
  | some us =>
    obtain ⟨p, q, hc⟩ := check_total us
    by_cases hq : q = 0
    · exact ⟨q, us, Or.inr ⟨us, p, rfl, hc, Or.inr ⟨hq, rfl⟩⟩⟩
    · exact ⟨q, [], Or.inr ⟨us, p, rfl, hc, Or.inl ⟨hq, rfl⟩⟩⟩

theorem NextIs.det {ts : List (Int × List Int)} {T : Nat → Bool} {r r' : Int} (h : NextIs ts T r) (h' : NextIs ts T r') : r = r' := by
  rcases h with ⟨k, h1, h2, h3, rfl⟩ | ⟨h, rfl⟩
  · rcases h' with ⟨k', g1, g2, g3, rfl⟩ | ⟨g, rfl⟩
    · rcases Nat.lt_trichotomy k k' with e | e | e
      · rw [g2 k e] at h3; cases h3
      · rw [e]
      · rw [h2 k' e] at g3; cases g3
    · rw [g k h1] at h3; cases h3
  · rcases h' with ⟨k', g1, g2, g3, rfl⟩ | ⟨g, rfl⟩
    · rw [h k' g1] at g3; cases g3
    · rfl
theorem OrdIs.det {ts : List (Int × List Int)} {a b : List Nat} (h : OrdIs ts a) (h' : OrdIs ts b) (hr : InRange ts) (hno : ∀ j, j < ts.length → ¬ Reach ts j j) : a = b := by
  have la := h.length hr hno
  have lb := h'.length hr hno
  have key : ∀ m, m ≤ ts.length → a.take m = b.take m := by
    intro m
    induction m with
    | zero => intro _; rfl
    | succ m ih =>
      intro hm
      have e := ih (by omega)
      have h1 := h.1 m (by omega)
      have h2 := h'.1 m (by omega)
      rw [e] at h1
      have e2 := h1.det h2
      have e3 : a.getD m 0 = b.getD m 0 := by omega
      rw [List.take_succ_eq_append_getElem (by omega), List.take_succ_eq_append_getElem (by omega), e]
      rw [List.getD_eq_getElem?_getD, List.getD_eq_getElem?_getD, List.getElem?_eq_getElem (by omega), List.getElem?_eq_getElem (by omega)] at e3
      simp only [Option.getD_some] at e3
      rw [e3]
  have := key ts.length (Nat.le_refl _)
  rw [List.take_of_length_le (by omega), List.take_of_length_le (by omega)] at this
  exact this
end Go.Proofs.YtfmmfapfgpckfaaGreatDoor
