/- From readings to memory: lists of numbers among the arguments. -/
import Derived.Test.YtajpkchcfphehaaDoorRows
import Derived.Test.YtajpkchcfphehaaDoorP
import Derived.ProofKit
import Derived.OpenShut
import Derived.Deep.Slices
import Derived.SizedLaws
namespace Go.Proofs.YtajpkchcfphehaaDoor
open Go.ChangeShapes Go.WideShapes Go.ChangeAt Go.RowKit Go.Deep

theorem Tryd.cells3 : Tryd.prog.cellsOf 3 = 1 := by kernel_rfl
theorem Tryd.cells29 : Tryd.prog.cellsOf 29 = 1 := by kernel_rfl
theorem Tryd.bytes3 : Tryd.prog.bytesOf 3 = 8 := by kernel_rfl
theorem Tryd.bytes29 : Tryd.prog.bytesOf 29 = 24 := by kernel_rfl

theorem weights_all {H : Type} {P : Program} {e : TypeId} {d : DataW H} {l : List (DataW H)} (h : d ∈ l) : ∀ n, n ∈ d.weights P e → n ∈ DataW.weightsAll P e l := by
  induction l with
  | nil => cases h
  | cons x r ih =>
    intro n hn
    simp only [DataW.weightsAll, List.mem_append]
    rcases List.mem_cons.1 h with e | e
    · subst e; exact Or.inl hn
    · exact Or.inr (ih e n hn)

theorem ints_of_trod {H : Type} {enc : TypeId × Value → H} {W : World} {spare : Nat → Bool} {held : Bool} {fuel : Nat} {v : Value} {x : DataW H × List MemPlace}
    (h : DataW.trod enc Tryd.prog W 0 spare held fuel 29 [v] = some x) (hb : ∀ n, n ∈ x.1.weights Tryd.prog 29 → n ≤ reachBytes) : ∃ zs, Rds (fun j => j < W.heap.size) W v zs ∧ zs.length ≤ 9223372036854775000 := by
  rcases open_ints Tryd.underlying29 Tryd.underlying3 Tryd.cells3 h with ⟨hcs, _⟩ | ⟨a, len, cap, zs, hcs, _, hl, hm, hz, hx, hcell, _⟩
  · obtain rfl : v = .slice none 0 0 := by simpa using hcs
    exact ⟨[], ⟨none, 0, rfl, Nat.le_refl _, fun k hk => by simp at hk⟩, by simp⟩
  · obtain rfl : v = .slice (some a) len cap := by simpa using hcs
    have hzl : len ≤ zs.length := by rw [hz]; split <;> omega
    have htl : (zs.take len).length = len := by simp; omega
    have hlen : len * 8 ≤ 140737488351232 := by
      subst hx
      simp only [DataW.weights, Tryd.underlying29, Tryd.bytes3] at hb
      have := hb _ (List.mem_cons_self ..)
      simp only [lits, List.length_map, htl] at this
      have hrb : reachBytes = 140737488351232 := by decide
      omega
    refine ⟨zs.take len, ⟨some a, cap, by rw [htl], by omega, fun k hk => ?_⟩, by omega⟩
    rw [htl] at hk
    obtain ⟨b, off, rfl, hc⟩ := ints_at hcell (by omega)
    have hb : b < W.heap.size := by
      have := hc 0 (by omega)
      rcases Nat.lt_or_ge b W.heap.size with h | h
      · exact h
      · simp [World.cell?, Array.getElem?_eq_none h] at this
    refine ⟨b, off, rfl, hb, hb, ?_⟩
    rw [hc k (by omega)]
    simp [hk]

set_option maxRecDepth 100000 in
theorem steps_of_trod {H : Type} {enc : TypeId × Value → H} {W : World} {spare : Nat → Bool} {held : Bool} {fuel : Nat} {v : Value} {x : DataW H × List MemPlace}
    (h : DataW.trod enc Tryd.prog W 0 spare held fuel 22 [v] = some x) (hb : ∀ n, n ∈ x.1.weights Tryd.prog 22 → n ≤ reachBytes) : ∃ (sn : Nat) (sa : Option Addr) (sc : Nat), v = .slice sa sn sc ∧ Steps W sa sn := by
  rcases open_slice1 Tryd.underlying22 Tryd.cells29 h with ⟨hcs, _⟩ | ⟨a, len, cap, m, n, V, D, Pl, hcs, _, hl, hm, hmm, hx, hel⟩
  · obtain rfl : v = .slice none 0 0 := by simpa using hcs
    exact ⟨0, none, 0, rfl, fun k hk => by omega⟩
  · obtain rfl : v = .slice (some a) len cap := by simpa using hcs
    have hml : len ≤ m := by rw [hmm]; split <;> omega
    subst hx
    simp only [DataW.weights, Tryd.underlying22, Tryd.bytes29] at hb
    have hD : ∀ i, i < len → ∀ n, n ∈ (D i).weights Tryd.prog 29 → n ≤ reachBytes := fun i hi n hn =>
      hb n (List.mem_cons_of_mem _ (List.mem_append.2 (Or.inl (weights_all (List.mem_map.2 ⟨i, List.mem_range.2 hi, rfl⟩) n hn))))
    refine ⟨len, some a, cap, rfl, fun k hk => ?_⟩
    obtain ⟨hc, ht⟩ := hel k (by omega)
    obtain ⟨zs, hz, hzl⟩ := ints_of_trod ht (hD k hk)
    obtain ⟨b, off, spot⟩ := a
    have hspot : spot = none := by simpa [Addr.add] using World.cell?_spot (hel 0 (by omega)).1
    subst hspot
    rw [Addr.add_lit] at hc
    refine ⟨b, off, V k, zs, rfl, ?_, hc, hz, hzl⟩
    rcases Nat.lt_or_ge b W.heap.size with h | h
    · exact h
    · simp [World.cell?, Array.getElem?_eq_none h] at hc

theorem plays_any (hands : Int) (sn : Nat) (sa : Option Addr) (sc : Nat) (w : World) (hg : Typed w) (hs : Steps w sa sn) :
    Calls Tryd.prog 3 #[.int .i64 hands, .slice sa sn sc] w fun e w' => e = .returned (.bool true) ∧ Below w.heap.size w w' := by
  by_cases h : hands < 1 ∨ 6 < hands
  · exact plays_bad hands _ w hg h
  · obtain ⟨r, rfl⟩ : ∃ r : Nat, hands = r := ⟨hands.toNat, by omega⟩
    exact plays_in r sn sa sc w hg (by omega) (by omega) hs
end Go.Proofs.YtajpkchcfphehaaDoor
