/- For the reading of a plan, as the document's own Read does it: a task's text by its pieces; texts in a row; Right. -/
import Derived.Test.YtfmmfapfgpckfaaGreatDoorRg
namespace Go.Proofs.YtfmmfapfgpckfaaGreatDoor
open Go.RowKit Go.Deep

theorem num_dirty {l : List UInt8} {b : UInt8} (hb : b ∈ l) (h : isDig b = false) : numOf l = none := by
  unfold numOf
  split
  · rfl
  · unfold Lib.decNat
    split
    · rfl
    · exact decFrom_none 0 l (List.any_eq_true.2 ⟨b, hb, by rw [h]; rfl⟩)
theorem allOf_mem {α β : Type} (f : α → Option β) (l : List α) (x : α) (hx : x ∈ l) (h : f x = none) : allOf f l = none := by
  obtain ⟨a, b, rfl⟩ := List.append_of_mem hx
  exact allOf_bad f a b x h
theorem nums_dirty {l : List UInt8} (h : (60 : UInt8) ∈ l) : numsOf l = none := by
  have hj := join_split 44 l
  rw [← hj] at h
  rcases joinC_mem 44 60 _ h with h | ⟨p, hp, hm⟩
  · exact absurd h (by decide)
  · unfold numsOf
    rw [allOf_mem numOf _ p hp (num_dirty hm (by decide))]; rfl

theorem task_head (l x : List UInt8) (xs : List (List UInt8)) (h : splitC 60 l = x :: xs) : (cutB 60 l).1 = x ∧ (if (cutB 60 l).2.2 then splitC 60 (cutB 60 l).2.1 else []) = xs := by
  have hs := splitC_cut 60 l
  rw [h] at hs
  injection hs with h1 h2
  exact ⟨h1.symm, h2.symm⟩
theorem task_bad (l x : List UInt8) (xs : List (List UInt8)) (h : splitC 60 l = x :: xs) (hn : numOf x = none) : taskOf l = none := by
  have := (task_head l x xs h).1
  unfold taskOf
  rw [this, hn]
theorem task_one (l x : List UInt8) (n : Nat) (h : splitC 60 l = [x]) (hn : numOf x = some n) : taskOf l = some ((n : Int), []) := by
  obtain ⟨h1, h2⟩ := task_head l x [] h
  have h3 : (cutB 60 l).2.2 = false := by
    cases hc : (cutB 60 l).2.2 with
    | false => rfl
    | true => rw [hc] at h2; exact absurd h2 (splitC_ne 60 _)
  unfold taskOf
  rw [h1, hn, h3]; rfl
theorem task_two (l x y : List UInt8) (n : Nat) (h : splitC 60 l = [x, y]) (hn : numOf x = some n) : taskOf l = (numsOf y).map (fun ns => ((n : Int), ns)) := by
  obtain ⟨h1, h2⟩ := task_head l x [y] h
  cases hc : (cutB 60 l).2.2 with
  | false => rw [hc] at h2; simp at h2
  | true =>
    rw [hc] at h2
    simp only [if_true] at h2
    obtain ⟨g1, g2⟩ := task_head _ y [] h2
    have g3 : (cutB 60 (cutB 60 l).2.1).2.2 = false := by
      cases hd : (cutB 60 (cutB 60 l).2.1).2.2 with
      | false => rfl
      | true => rw [hd] at g2; exact absurd g2 (splitC_ne 60 _)
    have g4 := (cutB_none 60 _ g3).1
    rw [g1] at g4
    unfold taskOf
    rw [h1, hn, hc, ← g4]; rfl
theorem task_many (l x y z : List UInt8) (xs : List (List UInt8)) (h : splitC 60 l = x :: y :: z :: xs) : taskOf l = none := by
  obtain ⟨h1, h2⟩ := task_head l x _ h
  cases hc : (cutB 60 l).2.2 with
  | false => rw [hc] at h2; simp at h2
  | true =>
    rw [hc] at h2
    simp only [if_true] at h2
    obtain ⟨g1, g2⟩ := task_head _ y _ h2
    have hm : (60 : UInt8) ∈ (cutB 60 l).2.1 := by
      cases hd : (cutB 60 (cutB 60 l).2.1).2.2 with
      | false => rw [hd] at g2; simp at g2
      | true => rw [cutB_back 60 _ hd]; simp
    unfold taskOf
    rw [nums_dirty hm]
    cases numOf (cutB 60 l).1 with
    | none => rfl
    | some n => rw [hc]; rfl

/-- A row of texts, in memory. -/
def StrsAt (w : World) (v : Value) (xs : List (List UInt8)) : Prop :=
  ∃ g c, v = .slice (some ⟨g, 0, none⟩) xs.length c ∧ g < w.heap.size ∧ ∀ k, k < xs.length → w.cell? ⟨g, k, none⟩ = some (strV (xs.getD k []))
theorem StrsAt.later {w w' : World} {v : Value} {xs : List (List UInt8)} (h : StrsAt w v xs) (hb : Below w.heap.size w w') : StrsAt w' v xs := by
  obtain ⟨g, c, hv, hlt, hc⟩ := h
  exact ⟨g, c, hv, Nat.lt_of_lt_of_le hlt hb.size, fun k hk => (hb.cell (p := ⟨g, k, none⟩) hlt).trans (hc k hk)⟩
theorem strs_of_owns {w : World} {N : Nat} {v : Value} {xs : List (List UInt8)} (h : w.ownsRow N 9 1 v xs.length (xs.map strV)) (h0 : xs ≠ []) : StrsAt w v xs := by
  rcases h.2 with ⟨_, hn⟩ | ⟨g, cap, cur, hv, hg, hh, hn, hcap, hsz, htake⟩
  · exact absurd (List.eq_nil_of_length_eq_zero hn) h0
  · refine ⟨g, cap, hv, (Array.getElem?_eq_some_iff.1 hh).1, fun j hj => ?_⟩
    have h2 : cur[j]? = some (strV (xs.getD j [])) := by
      have h3 := congrArg (fun l => l[j]?) htake
      simp only [Nat.mul_one, List.getElem?_take, if_pos hj, List.getElem?_map, List.getElem?_eq_getElem hj, Option.map_some] at h3
      rw [List.getD_eq_getElem?_getD, List.getElem?_eq_getElem hj]
      simpa using h3
    simp [World.cell?, hh, h2]
theorem cutS_any (l : List UInt8) (c : UInt8) (w : World) (hs : l.length ≤ 1048576) :
    Calls Tryz.prog 30 #[.string ⟨l.toArray⟩, .int .u8 (c.toNat : Int)] w fun e w' => (∃ ov, e = .returned ov ∧ StrsAt w' ov (splitC c l)) ∧ Below w.heap.size w w' := by
  refine (cutR_any l c w hs).mono ?_
  rintro e w' ⟨⟨ov, he, ho⟩, hb⟩
  exact ⟨⟨ov, he, strs_of_owns ho (splitC_ne c l)⟩, hb⟩
theorem split_short (c : UInt8) (l : List UInt8) (p : List UInt8) (hp : p ∈ splitC c l) : p.length ≤ l.length := by
  induction l generalizing p with
  | nil => simp [splitC] at hp; subst hp; simp
  | cons b r ih =>
    rw [splitC_cons] at hp
    split at hp
    · rcases List.mem_cons.1 hp with rfl | hp
      · simp
      · have := ih p hp; simp; omega
    · cases hs : splitC c r with
      | nil => exact absurd hs (splitC_ne c r)
      | cons x xs =>
        rw [hs] at hp ih
        rcases List.mem_cons.1 hp with rfl | hp
        · have := ih x (by simp); simp; omega
        · have := ih p (by simp [hp]); simp; omega

set_option maxRecDepth 100000 in
theorem rightR_any (v : Value) (ts : List (Int × List Int)) (w : World) (hp : PlanAt w v ts) :
    Calls Tryz.prog 32 #[v] w fun e w' => (∃ p q, e = .returned (.int .i64 q) ∧ CheckIs ts p q) ∧ Below w.heap.size w w' := by
  have hpl := planR_any v ts w hp
  go_enter Tryz.func32, Tryz.ntmps32
  go_wp2_with fail
  refine hpl.mono ?_
  rintro e w1 ⟨⟨p, q, rfl, hc⟩, hb1⟩
  go_wp2
  go_ret
  exact ⟨⟨p, q, rfl, hc⟩, hb1⟩
end Go.Proofs.YtfmmfapfgpckfaaGreatDoor
