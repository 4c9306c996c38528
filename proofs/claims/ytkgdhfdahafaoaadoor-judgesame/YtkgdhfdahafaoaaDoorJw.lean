/- Plain: works, lists in which each stands once. No word of the program. -/
import Derived.Test.YtkgdhfdahafaoaaDoorDa
namespace Go.Proofs.YtkgdhfdahafaoaaDoor

/-- No more than thirty, each of one unit to twenty. -/
def Works (ts : List (Int × List Int)) : Prop := ts.length ≤ 30 ∧ ∀ x, x < ts.length → 1 ≤ wkOf ts x ∧ wkOf ts x ≤ 20
theorem nodup_sub_len {α : Type} [DecidableEq α] {l m : List α} (hd : l.Nodup) (hs : ∀ x, x ∈ l → x ∈ m) : l.length ≤ m.length := by
  induction l generalizing m with
  | nil => simp
  | cons a l ih =>
    have ha := hs a (List.mem_cons_self ..)
    have hd' := List.nodup_cons.1 hd
    have := ih (m := m.erase a) hd'.2 (fun x hx => by
      have hne : x ≠ a := by intro e; subst e; exact hd'.1 hx
      exact (List.mem_erase_of_ne hne).2 (hs x (List.mem_cons_of_mem _ hx)))
    rw [List.length_erase_of_mem ha] at this
    have := List.length_pos_of_mem ha
    simp only [List.length_cons]
    omega
theorem nodup_lt_len {l : List Nat} {n : Nat} (hd : l.Nodup) (hl : ∀ x, x ∈ l → x < n) : l.length ≤ n := by
  have := nodup_sub_len (m := List.range n) hd (fun x hx => List.mem_range.2 (hl x hx))
  simpa using this
theorem nodup_all {l : List Nat} {n : Nat} (hd : l.Nodup) (hl : ∀ x, x ∈ l → x < n) (hn : n ≤ l.length) : ∀ x, x < n → x ∈ l := by
  intro x hx
  by_cases e : x ∈ l
  · exact e
  · have := nodup_lt_len (l := x :: l) (List.nodup_cons.2 ⟨e, hd⟩) (fun y hy => by
      rcases List.mem_cons.1 hy with rfl | hy
      · exact hx
      · exact hl y hy)
    simp at this
    omega

end Go.Proofs.YtkgdhfdahafaoaaDoor
