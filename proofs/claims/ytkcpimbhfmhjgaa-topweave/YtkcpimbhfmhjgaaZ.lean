/- From readings to memory: a plan among the arguments, of whatever length a slice may have. -/
import Derived.Test.YtkcpimbhfmhjgaaRows
import Derived.Test.YtkcpimbhfmhjgaaPln
import Derived.ProofKit
import Derived.OpenShut
import Derived.Deep.Slices
import Derived.SizedLaws
namespace Go.Proofs.Ytkcpimbhfmhjgaa
open Go.ChangeShapes Go.WideShapes Go.ChangeAt Go.RowKit Go.Deep

theorem Try.cells45 : Try.prog.cellsOf 45 = 2 := by kernel_rfl
theorem Try.cells3 : Try.prog.cellsOf 3 = 1 := by kernel_rfl
theorem Try.cells32 : Try.prog.cellsOf 32 = 1 := by kernel_rfl
theorem Try.bytes3 : Try.prog.bytesOf 3 = 8 := by kernel_rfl
theorem Try.bytes45 : Try.prog.bytesOf 45 = 32 := by kernel_rfl

theorem weights_all {H : Type} {P : Program} {e : TypeId} {d : DataW H} {l : List (DataW H)} (h : d ∈ l) : ∀ n, n ∈ d.weights P e → n ∈ DataW.weightsAll P e l := by
  induction l with
  | nil => cases h
  | cons x r ih =>
    intro n hn
    simp only [DataW.weightsAll, List.mem_append]
    rcases List.mem_cons.1 h with e | e
    · subst e; exact Or.inl hn
    · exact Or.inr (ih e n hn)

/-- The needs among a task's cells. -/
theorem ints_of_trod {H : Type} {enc : TypeId × Value → H} {W : World} {spare : Nat → Bool} {held : Bool} {fuel : Nat} {v : Value} {x : DataW H × List MemPlace}
    (h : DataW.trod enc Try.prog W 0 spare held fuel 32 [v] = some x) (hb : ∀ n, n ∈ x.1.weights Try.prog 32 → n ≤ reachBytes) : ∃ zs, IntsAt W v zs := by
  rcases open_ints Try.underlying32 Try.underlying3 Try.cells3 h with ⟨hcs, _⟩ | ⟨a, len, cap, zs, hcs, _, hl, hm, hz, hx, hcell, _⟩
  · obtain rfl : v = .slice none 0 0 := by simpa using hcs
    exact ⟨[], by simp, none, 0, rfl, Or.inl rfl⟩
  · obtain rfl : v = .slice (some a) len cap := by simpa using hcs
    have hzl : len ≤ zs.length := by rw [hz]; split <;> omega
    have htl : (zs.take len).length = len := by simp; omega
    have hlen : len * 8 ≤ 140737488351232 := by
      subst hx
      simp only [DataW.weights, Try.underlying32, Try.bytes3] at hb
      have := hb _ (List.mem_cons_self ..)
      simp only [lits, List.length_map, htl] at this
      have hrb : reachBytes = 140737488351232 := by decide
      omega
    refine ⟨zs.take len, by omega, some a, cap, by rw [htl], ?_⟩
    by_cases h0 : len = 0
    · left; subst h0; rfl
    · right
      obtain ⟨b, off, rfl, hc⟩ := ints_at hcell (by omega)
      refine ⟨b, off, rfl, ?_, fun k hk => ?_⟩
      · have := hc 0 (by omega)
        rcases Nat.lt_or_ge b W.heap.size with h | h
        · exact h
        · simp [World.cell?, Array.getElem?_eq_none h] at this
      · rw [htl] at hk
        rw [hc k (by omega)]
        simp [hk]

/-- An order among the arguments. -/
theorem order_of_trod {H : Type} {enc : TypeId × Value → H} {W : World} {spare : Nat → Bool} {held : Bool} {fuel : Nat} {v : Value} {x : DataW H × List MemPlace}
    (h : DataW.trod enc Try.prog W 0 spare held fuel 32 [v] = some x) (hb : ∀ n, n ∈ x.1.weights Try.prog 32 → n ≤ reachBytes) : ∃ zs, IntsAt W v zs ∧ ∀ x, x ∈ zs → (Lit.int .i64 x).wf = true := by
  rcases open_ints Try.underlying32 Try.underlying3 Try.cells3 h with ⟨hcs, _⟩ | ⟨a, len, cap, zs, hcs, _, hl, hm, hz, hx, hcell, hwf⟩
  · obtain rfl : v = .slice none 0 0 := by simpa using hcs
    exact ⟨[], ⟨by simp, none, 0, rfl, Or.inl rfl⟩, fun x hx => by simp at hx⟩
  · obtain rfl : v = .slice (some a) len cap := by simpa using hcs
    have hzl : len ≤ zs.length := by rw [hz]; split <;> omega
    have htl : (zs.take len).length = len := by simp; omega
    have hlen : len * 8 ≤ 140737488351232 := by
      subst hx
      simp only [DataW.weights, Try.underlying32, Try.bytes3] at hb
      have := hb _ (List.mem_cons_self ..)
      simp only [lits, List.length_map, htl] at this
      have hrb : reachBytes = 140737488351232 := by decide
      omega
    refine ⟨zs.take len, ⟨by omega, some a, cap, by rw [htl], ?_⟩, fun x hx => hwf x (List.mem_of_mem_take hx)⟩
    by_cases h0 : len = 0
    · left; subst h0; rfl
    · right
      obtain ⟨b, off, rfl, hc⟩ := ints_at hcell (by omega)
      refine ⟨b, off, rfl, ?_, fun k hk => ?_⟩
      · have := hc 0 (by omega)
        rcases Nat.lt_or_ge b W.heap.size with h | h
        · exact h
        · simp [World.cell?, Array.getElem?_eq_none h] at this
      · rw [htl] at hk
        rw [hc k (by omega)]
        simp [hk]

theorem add_plain (b off j : Nat) : (⟨b, off, none⟩ : Addr).add j = ⟨b, off + j, none⟩ := by
  unfold Addr.add
  split
  · rename_i h; subst h; rfl
  · rfl

set_option maxRecDepth 100000 in
/-- A plan among the arguments lies in memory. -/
theorem plan_of_trod {H : Type} {enc : TypeId × Value → H} {W : World} {spare : Nat → Bool} {held : Bool} {fuel : Nat} {v : Value} {x : DataW H × List MemPlace}
    (h : DataW.trod enc Try.prog W 0 spare held fuel 24 [v] = some x) (hb : ∀ n, n ∈ x.1.weights Try.prog 24 → n ≤ reachBytes) : ∃ ts, PlanAt W v ts := by
  rcases open_slice Try.underlying24 h with ⟨hcs, _⟩ | ⟨a, len, cap, m, n, D, Pl, hcs, _, hl, hm, hmm, hx, hel⟩
  · obtain rfl : v = .slice none 0 0 := by simpa using hcs
    exact ⟨[], by simp, none, 0, rfl, Or.inl rfl⟩
  · obtain rfl : v = .slice (some a) len cap := by simpa using hcs
    have hml : len ≤ m := by rw [hmm]; split <;> omega
    subst hx
    simp only [DataW.weights, Try.underlying24, Try.bytes45] at hb
    have hlen : len * 32 ≤ 140737488351232 := by
      have := hb _ (List.mem_cons_self ..)
      simp only [List.length_map, List.length_range] at this
      have hrb : reachBytes = 140737488351232 := by decide
      omega
    have hD : ∀ i, i < len → ∀ n, n ∈ (D i).weights Try.prog 45 → n ≤ reachBytes := fun i hi n hn =>
      hb n (List.mem_cons_of_mem _ (List.mem_append.2 (Or.inl (weights_all (List.mem_map.2 ⟨i, List.mem_range.2 hi, rfl⟩) n hn))))
    rw [Try.cells45] at hel
    have hone : ∀ i, i < len → ∃ t : Int × List Int, W.cell? ((a.add (i * 2)).add 0) = some (.int .i64 t.1) ∧ ∃ nv, W.cell? ((a.add (i * 2)).add 1) = some nv ∧ IntsAt W nv t.2 := fun i hi => by
      obtain ⟨cs, hc, ht⟩ := hel i (by omega)
      obtain ⟨_, hcl, hcc⟩ := World.cells?_some hc
      obtain ⟨y0, y1, k, hdi, _, h0, h1⟩ := trod_struct2 Try.underlying45 ht
      match cs, hcl with
      | [c0, c1], _ =>
        have h0' : DataW.trod enc Try.prog W 0 spare held k 3 [c0] = some y0 := by simpa [Try.cells3] using h0
        have h1' : DataW.trod enc Try.prog W 0 spare held k 32 [c1] = some y1 := by simpa [Try.cells32] using h1
        obtain ⟨wk, hwk, _, _⟩ := DataW.trod_int Try.underlying3 h0'
        obtain rfl : c0 = .int .i64 wk := by simpa using hwk
        have hbi := hD i hi
        have hdi2 : D i = .agg [y0.1, y1.1] := congrArg Prod.fst hdi
        rw [hdi2] at hbi
        simp only [DataW.weights, Try.underlying45] at hbi
        obtain ⟨zs, hz⟩ := ints_of_trod h1' (fun n hn => hbi n (by simp [DataW.weightsEach, hn]))
        exact ⟨(wk, zs), by rw [hcc 0 (by omega)]; rfl, c1, by rw [hcc 1 (by omega)]; rfl, hz⟩
    obtain ⟨f, hf⟩ := choose_lt hone
    have hfl : ((List.range len).map f).length = len := by simp
    refine ⟨(List.range len).map f, by omega, some a, cap, by rw [hfl], ?_⟩
    by_cases h0 : len = 0
    · left; subst h0; rfl
    · right
      obtain ⟨b, off, spot⟩ := a
      have hspot : spot = none := by
        have := (hf 0 (by omega)).1
        simpa [Addr.add] using World.cell?_spot this
      subst hspot
      refine ⟨b, off, rfl, ?_, fun k hk => ?_⟩
      · have := (hf 0 (by omega)).1
        rcases Nat.lt_or_ge b W.heap.size with h | h
        · exact h
        · simp [World.cell?, Addr.add, Array.getElem?_eq_none h] at this
      · rw [hfl] at hk
        obtain ⟨h1, nv, h2, h3⟩ := hf k hk
        have hg : ((List.range len).map f).getD k (0, []) = f k := by simp [hk]
        have e1 : ((⟨b, off, none⟩ : Addr).add (k * 2)).add 0 = ⟨b, off + k * 2, none⟩ := by rw [add_plain, add_plain]; rfl
        have e2 : ((⟨b, off, none⟩ : Addr).add (k * 2)).add 1 = ⟨b, off + k * 2 + 1, none⟩ := by rw [add_plain, add_plain]
        rw [e1] at h1
        rw [e2] at h2
        unfold needsOf
        rw [hg]
        exact ⟨h1, nv, h2, h3⟩
end Go.Proofs.Ytkcpimbhfmhjgaa
