/- The document's own Ranks. -/
import Derived.Test.YtjdghkmkocpppaaDoorTa
namespace Go.Proofs.YtjdghkmkocpppaaDoor
open Go.RowKit Go.Deep

/-- What is read of a plan and of its order while a row in block N is filled. -/
structure Reads (ts : List (Int × List Int)) (ord : List Nat) (N : Nat) (w1 : World) (a oa : Option Addr) : Prop where
  ordr : ∀ m, m < ts.length → ∃ b o, oa = some ⟨b, o, none⟩ ∧ b < w1.heap.size ∧ b ≠ N ∧ w1.cell? ⟨b, o + m, none⟩ = some (.int .i64 (ord.getD m 0 : Nat))
  plan : ∀ k, k < ts.length → ∃ b o nv, a = some ⟨b, o, none⟩ ∧ b < N ∧ w1.cell? ⟨b, o + k * 2, none⟩ = some (.int .i64 (wkOf ts k)) ∧ w1.cell? ⟨b, o + k * 2 + 1, none⟩ = some nv ∧
    ∃ na nc, nv = .slice na (needsOf ts k).length nc ∧ (needsOf ts k).length * 8 ≤ 140737488351232 ∧ ∀ j, j < (needsOf ts k).length → ∃ nb no, na = some ⟨nb, no, none⟩ ∧ nb < N ∧ w1.cell? ⟨nb, no + j, none⟩ = some (.int .i64 ((needsOf ts k).getD j 0))

theorem Reads.of {ts : List (Int × List Int)} {ord : List Nat} {w w0 w1 : World} {a oa : Option Addr} {c oc n : Nat} (hp : PlanAt w (.slice a n c) ts) (hB : Below w.heap.size w w1) (hlen : ord.length = ts.length)
    (hi : IntsAt w1 (.slice oa ord.length oc) (intsOf ord)) (hf : ∀ j, (Value.slice oa ord.length oc).ownBlock = some j → w0.heap.size ≤ j) (h0 : w.heap.size < w0.heap.size) : Reads ts ord w.heap.size w1 a oa := by
  obtain ⟨_, a', c', hva, hpc⟩ := hp
  obtain ⟨rfl, -, rfl⟩ : a = a' ∧ True ∧ c = c' := by simp at hva; exact ⟨hva.1, trivial, hva.2.2⟩
  obtain ⟨_, oa', oc', hvo, hoc⟩ := hi
  obtain rfl : oa = oa' := by simp at hvo; exact hvo.1
  rw [intsOf_length, hlen] at hoc
  refine ⟨fun m hm => ?_, fun k hk => ?_⟩
  · rcases hoc with h | ⟨b, o, h1, h2, h3⟩
    · have := congrArg List.length h
      rw [intsOf_length, hlen, List.length_nil] at this
      omega
    · have := hf b (by rw [h1]; rfl)
      exact ⟨b, o, h1, h2, by omega, by have := h3 m hm; rwa [intsOf_getD] at this⟩
  · rcases hpc with h | ⟨b, o, h1, h2, h3⟩
    · subst h; simp at hk
    · obtain ⟨g1, nv, g2, hl2, na, nc, rfl, g3⟩ := h3 k hk
      refine ⟨b, o, _, h1, h2, (hB.cell (p := ⟨b, o + k * 2, none⟩) h2).trans g1, (hB.cell (p := ⟨b, o + k * 2 + 1, none⟩) h2).trans g2, na, nc, rfl, hl2, fun j hj => ?_⟩
      rcases g3 with g3 | ⟨nb, no, e1, e2, e3⟩
      · rw [g3] at hj; simp at hj
      · exact ⟨nb, no, e1, e2, (hB.cell (p := ⟨nb, no + j, none⟩) e2).trans (e3 j hj)⟩

end Go.Proofs.YtjdghkmkocpppaaDoor
