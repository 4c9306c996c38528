/- Plain: a plan's text read is the plan; a text that is read, written, is the text. -/
import Derived.Test.YtiekhigjllbalaaGreatDoorO
namespace Go.Proofs.YtiekhigjllbalaaGreatDoor
open Go

theorem allOf_map {α β : Type} (f : β → Option α) (g : α → β) (l : List α) (h : ∀ x, x ∈ l → f (g x) = some x) : allOf f (l.map g) = some l := by
  induction l with
  | nil => rfl
  | cons x r ih => simp only [List.map_cons, allOf, h x (by simp), ih (fun y hy => h y (by simp [hy]))]
theorem allOf_inv {α β : Type} (f : β → Option α) (g : α → β) (hf : ∀ x y, f x = some y → x = g y) (l : List β) (ys : List α) (h : allOf f l = some ys) : l = ys.map g := by
  induction l generalizing ys with
  | nil => simp [allOf] at h; subst h; rfl
  | cons x r ih =>
    simp only [allOf] at h
    cases hx : f x with
    | none => simp [hx] at h
    | some y =>
      cases hr : allOf f r with
      | none => simp [hx, hr] at h
      | some zs => simp [hx, hr] at h; subst h; rw [List.map_cons, ← hf x y hx, ← ih zs hr]

theorem cutB_at (c : UInt8) (x r : List UInt8) (h : c ∉ x) : cutB c (x ++ c :: r) = (x, r, true) := by
  induction x with
  | nil => simp [cutB]
  | cons b x ih =>
    simp at h
    rw [List.cons_append, cutB_cons, if_neg (fun e => h.1 e.symm), ih h.2]
theorem cutB_clean (c : UInt8) (x : List UInt8) (h : c ∉ x) : cutB c x = (x, [], false) := by
  induction x with
  | nil => rfl
  | cons b x ih =>
    simp at h
    rw [cutB_cons, if_neg (fun e => h.1 e.symm), ih h.2]
theorem cutB_back (c : UInt8) (l : List UInt8) (h : (cutB c l).2.2 = true) : l = (cutB c l).1 ++ c :: (cutB c l).2.1 := by
  induction l with
  | nil => simp [cutB] at h
  | cons b r ih =>
    rw [cutB_cons] at h ⊢
    by_cases hb : b = c
    · rw [if_pos hb]; simp [hb]
    · rw [if_neg hb] at h ⊢
      have := ih h
      simp only [List.cons_append]
      rw [← this]

/-- A task whose numbers are small. -/
def Small (t : Int × List Int) : Prop := (0 ≤ t.1 ∧ t.1 < 100) ∧ ∀ z, z ∈ t.2 → 0 ≤ z ∧ z < 100

theorem digs_clean (z : Int) (h : 0 ≤ z ∧ z < 100) (c : UInt8) (hc : c = 32 ∨ c = 44 ∨ c = 60) : c ∉ digs z := dec_clean z.toNat (by omega) c hc
theorem num_digs (z : Int) (h : 0 ≤ z ∧ z < 100) : numOf (digs z) = some z.toNat := num_dec z.toNat (by omega)

theorem joinC_mem (c b : UInt8) (ws : List (List UInt8)) (h : b ∈ joinC c ws) : b = c ∨ ∃ w, w ∈ ws ∧ b ∈ w := by
  induction ws with
  | nil => simp [joinC] at h
  | cons x r ih =>
    cases r with
    | nil => exact Or.inr ⟨x, by simp, h⟩
    | cons y ys =>
      have h' : b ∈ x ++ c :: joinC c (y :: ys) := h
      rcases List.mem_append.1 h' with h1 | h1
      · exact Or.inr ⟨x, by simp, h1⟩
      · rcases List.mem_cons.1 h1 with h2 | h2
        · exact Or.inl h2
        · rcases ih h2 with h3 | ⟨w, hw, hb⟩
          · exact Or.inl h3
          · exact Or.inr ⟨w, by simp [hw], hb⟩

theorem nums_text (zs : List Int) (h0 : zs ≠ []) (h : ∀ z, z ∈ zs → 0 ≤ z ∧ z < 100) : numsOf (joinC 44 (zs.map digs)) = some zs := by
  unfold numsOf
  rw [split_join 44 (zs.map digs) (by simpa using h0) (fun w hw => by
    obtain ⟨z, hz, rfl⟩ := List.mem_map.1 hw
    exact digs_clean z (h z hz) 44 (by simp))]
  have : zs.map digs = (zs.map Int.toNat).map (fun n => Lib.decDigits n) := by rw [List.map_map]; rfl
  rw [this, allOf_map numOf (fun n => Lib.decDigits n) (zs.map Int.toNat) (fun n hn => by
    obtain ⟨z, hz, rfl⟩ := List.mem_map.1 hn
    exact num_dec z.toNat (by have := h z hz; omega))]
  simp only [Option.map_some, Option.some.injEq, List.map_map]
  conv => rhs; rw [← List.map_id zs]
  refine List.map_congr_left fun z hz => ?_
  have := h z hz
  simp; omega

theorem task_text (t : Int × List Int) (h : Small t) : taskOf (taskText t) = some t := by
  obtain ⟨w, zs⟩ := t
  obtain ⟨hw, hz⟩ := h
  simp only at hw hz
  have hc := digs_clean w hw 60 (by simp)
  have hn := num_digs w hw
  have hwn : ((w.toNat : Nat) : Int) = w := by omega
  unfold taskOf taskText
  by_cases h0 : zs = []
  · subst h0
    simp only [↓reduceIte, List.append_nil]
    rw [cutB_clean 60 _ hc]
    simp [hn, hwn]
  · simp only [h0, ↓reduceIte]
    rw [cutB_at 60 _ _ hc]
    simp only [hn, ↓reduceIte]
    rw [nums_text zs h0 hz]
    simp [hwn]

theorem taskText_clean (t : Int × List Int) (h : Small t) : (32 : UInt8) ∉ taskText t := by
  obtain ⟨w, zs⟩ := t
  obtain ⟨hw, hz⟩ := h
  intro hm
  unfold taskText at hm
  rcases List.mem_append.1 hm with h1 | h1
  · exact digs_clean w hw 32 (by simp) h1
  · by_cases h0 : zs = []
    · simp [h0] at h1
    · simp only [h0, ↓reduceIte] at h1
      rcases List.mem_cons.1 h1 with h2 | h2
      · simp at h2
      · rcases joinC_mem 44 32 _ h2 with h3 | ⟨x, hx, hb⟩
        · simp at h3
        · obtain ⟨z, hzz, rfl⟩ := List.mem_map.1 hx
          exact digs_clean z (hz z hzz) 32 (by simp) hb

theorem dec_ne_nil (n : Nat) : Lib.decDigits n ≠ [] := by
  unfold Lib.decDigits
  split <;> simp

theorem taskText_ne (t : Int × List Int) : taskText t ≠ [] := by
  unfold taskText digs
  intro h
  exact dec_ne_nil _ (List.append_eq_nil_iff.1 h).1

theorem planText_ne (ts : List (Int × List Int)) (h : ts ≠ []) : planText ts ≠ [] := by
  cases ts with
  | nil => exact absurd rfl h
  | cons t r =>
    cases r with
    | nil => exact taskText_ne t
    | cons u us =>
      show taskText t ++ 32 :: joinC 32 ((u :: us).map taskText) ≠ []
      simp

/-- A plan's text, read, is the plan. -/
theorem tasks_text (ts : List (Int × List Int)) (h : ∀ t, t ∈ ts → Small t) : tasksOf (planText ts) = some ts := by
  unfold tasksOf
  by_cases h0 : ts = []
  · subst h0; rfl
  · rw [if_neg (planText_ne ts h0)]
    unfold planText
    rw [split_join 32 _ (by simpa using h0) (fun w hw => by
      obtain ⟨t, ht, rfl⟩ := List.mem_map.1 hw
      exact taskText_clean t (h t ht))]
    exact allOf_map taskOf taskText ts (fun t ht => task_text t (h t ht))

theorem nums_back (l : List UInt8) (zs : List Int) (h : numsOf l = some zs) : zs ≠ [] ∧ joinC 44 (zs.map digs) = l := by
  unfold numsOf at h
  obtain ⟨ns, hn, rfl⟩ := Option.map_eq_some_iff.1 h
  have hs := allOf_inv numOf (fun n => Lib.decDigits n) num_inv _ _ hn
  refine ⟨fun e => ?_, ?_⟩
  · have : ns = [] := by simpa using e
    rw [this] at hs
    exact splitC_ne 44 l (by simpa using hs)
  · conv => rhs; rw [← join_split 44 l, hs]
    rw [List.map_map]
    congr 1

theorem task_back (l : List UInt8) (t : Int × List Int) (h : taskOf l = some t) : taskText t = l := by
  unfold taskOf at h
  cases hn : numOf (cutB 60 l).1 with
  | none => simp [hn] at h
  | some w =>
    rw [hn] at h
    simp only at h
    have hw := num_inv _ _ hn
    cases hf : (cutB 60 l).2.2 with
    | false =>
      rw [hf] at h
      simp at h
      subst h
      unfold taskText
      simp only [↓reduceIte, List.append_nil]
      rw [← (cutB_none 60 l hf).1, hw]
      rfl
    | true =>
      rw [hf] at h
      simp only [↓reduceIte, Option.map_eq_some_iff] at h
      obtain ⟨zs, hz, rfl⟩ := h
      obtain ⟨h0, hj⟩ := nums_back _ _ hz
      unfold taskText
      simp only [h0, ↓reduceIte]
      rw [hj]
      conv => rhs; rw [cutB_back 60 l hf]
      rw [hw]
      rfl

/-- A text that is read, written, is the text. -/
theorem tasks_back (l : List UInt8) (ts : List (Int × List Int)) (h : tasksOf l = some ts) : planText ts = l := by
  unfold tasksOf at h
  by_cases h0 : l = []
  · rw [if_pos h0] at h
    simp at h; subst h; rw [h0]; rfl
  · rw [if_neg h0] at h
    have hs := allOf_inv taskOf taskText (fun x y hxy => (task_back x y hxy).symm) _ _ h
    unfold planText
    rw [← hs, join_split]
end Go.Proofs.YtiekhigjllbalaaGreatDoor
