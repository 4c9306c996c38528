/- From readings to memory: a plan among the arguments, of whatever length a slice may have. -/
import Derived.Test.YtandhiiaflhenaaGreatDoorRows
import Derived.Test.YtandhiiaflhenaaGreatDoorTgc
import Derived.ProofKit
import Derived.OpenShut
import Derived.Deep.Slices
import Derived.SizedLaws
import Derived.Lib.SmallJoins
import Derived.Deep.Strs
namespace Go.Proofs.YtandhiiaflhenaaGreatDoor
open Go.ChangeShapes Go.WideShapes Go.ChangeAt Go.RowKit Go.Deep Go.Joins

theorem Tryz.cells54 : Tryz.prog.cellsOf 54 = 2 := by kernel_rfl
theorem Tryz.cells3 : Tryz.prog.cellsOf 3 = 1 := by kernel_rfl
theorem Tryz.cells37 : Tryz.prog.cellsOf 37 = 1 := by kernel_rfl
theorem Tryz.bytes3 : Tryz.prog.bytesOf 3 = 8 := by kernel_rfl
theorem Tryz.bytes54 : Tryz.prog.bytesOf 54 = 32 := by kernel_rfl

theorem weights_all {H : Type} {P : Program} {e : TypeId} {d : DataW H} {l : List (DataW H)} (h : d ∈ l) : ∀ n, n ∈ d.weights P e → n ∈ DataW.weightsAll P e l := by
  induction l with
  | nil => cases h
  | cons x r ih =>
    intro n hn
    simp only [DataW.weightsAll, List.mem_append]
    rcases List.mem_cons.1 h with e | e
    · subst e; exact Or.inl hn
    · exact Or.inr (ih e n hn)

/-- The needs among a task's cells. -/
theorem ints_of_trod {H : Type} {enc : TypeId × Value → H} {W : World} {spare : Nat → Bool} {held : Bool} {fuel : Nat} {v : Value} {x : DataW H × List MemPlace}
    (h : DataW.trod enc Tryz.prog W 0 spare held fuel 37 [v] = some x) (hb : ∀ n, n ∈ x.1.weights Tryz.prog 37 → n ≤ reachBytes) : ∃ zs, IntsAt W v zs := by
  rcases open_ints Tryz.underlying37 Tryz.underlying3 Tryz.cells3 h with ⟨hcs, _⟩ | ⟨a, len, cap, zs, hcs, _, hl, hm, hz, hx, hcell, _⟩
  · obtain rfl : v = .slice none 0 0 := by simpa using hcs
    exact ⟨[], by simp, none, 0, rfl, Or.inl rfl⟩
  · obtain rfl : v = .slice (some a) len cap := by simpa using hcs
    have hzl : len ≤ zs.length := by rw [hz]; split <;> omega
    have htl : (zs.take len).length = len := by simp; omega
    have hlen : len * 8 ≤ 140737488351232 := by
      subst hx
      simp only [DataW.weights, Tryz.underlying37, Tryz.bytes3] at hb
      have := hb _ (List.mem_cons_self ..)
      simp only [lits, List.length_map, htl] at this
      have hrb : reachBytes = 140737488351232 := by decide
      omega
    refine ⟨zs.take len, by omega, some a, cap, by rw [htl], ?_⟩
    by_cases h0 : len = 0
    · left; subst h0; rfl
    · right
      obtain ⟨b, off, rfl, hc⟩ := ints_at hcell (by omega)
      refine ⟨b, off, rfl, ?_, fun k hk => ?_⟩
      · have := hc 0 (by omega)
        rcases Nat.lt_or_ge b W.heap.size with h | h
        · exact h
        · simp [World.cell?, Array.getElem?_eq_none h] at this
      · rw [htl] at hk
        rw [hc k (by omega)]
        simp [hk]

theorem add_plain (b off j : Nat) : (⟨b, off, none⟩ : Addr).add j = ⟨b, off + j, none⟩ := by
  unfold Addr.add
  split
  · rename_i h; subst h; rfl
  · rfl

set_option maxRecDepth 100000 in
/-- A plan among the arguments lies in memory. -/
theorem plan_of_trod {H : Type} {enc : TypeId × Value → H} {W : World} {spare : Nat → Bool} {held : Bool} {fuel : Nat} {v : Value} {x : DataW H × List MemPlace}
    (h : DataW.trod enc Tryz.prog W 0 spare held fuel 23 [v] = some x) (hb : ∀ n, n ∈ x.1.weights Tryz.prog 23 → n ≤ reachBytes) : ∃ ts, PlanAt W v ts := by
  rcases open_slice Tryz.underlying23 h with ⟨hcs, _⟩ | ⟨a, len, cap, m, n, D, Pl, hcs, _, hl, hm, hmm, hx, hel⟩
  · obtain rfl : v = .slice none 0 0 := by simpa using hcs
    exact ⟨[], by simp, none, 0, rfl, Or.inl rfl⟩
  · obtain rfl : v = .slice (some a) len cap := by simpa using hcs
    have hml : len ≤ m := by rw [hmm]; split <;> omega
    subst hx
    simp only [DataW.weights, Tryz.underlying23, Tryz.bytes54] at hb
    have hlen : len * 32 ≤ 140737488351232 := by
      have := hb _ (List.mem_cons_self ..)
      simp only [List.length_map, List.length_range] at this
      have hrb : reachBytes = 140737488351232 := by decide
      omega
    have hD : ∀ i, i < len → ∀ n, n ∈ (D i).weights Tryz.prog 54 → n ≤ reachBytes := fun i hi n hn =>
      hb n (List.mem_cons_of_mem _ (List.mem_append.2 (Or.inl (weights_all (List.mem_map.2 ⟨i, List.mem_range.2 hi, rfl⟩) n hn))))
    rw [Tryz.cells54] at hel
    have hone : ∀ i, i < len → ∃ t : Int × List Int, W.cell? ((a.add (i * 2)).add 0) = some (.int .i64 t.1) ∧ ∃ nv, W.cell? ((a.add (i * 2)).add 1) = some nv ∧ IntsAt W nv t.2 := fun i hi => by
      obtain ⟨cs, hc, ht⟩ := hel i (by omega)
      obtain ⟨_, hcl, hcc⟩ := World.cells?_some hc
      obtain ⟨y0, y1, k, hdi, _, h0, h1⟩ := trod_struct2 Tryz.underlying54 ht
      match cs, hcl with
      | [c0, c1], _ =>
        have h0' : DataW.trod enc Tryz.prog W 0 spare held k 3 [c0] = some y0 := by simpa [Tryz.cells3] using h0
        have h1' : DataW.trod enc Tryz.prog W 0 spare held k 37 [c1] = some y1 := by simpa [Tryz.cells37] using h1
        obtain ⟨wk, hwk, _, _⟩ := DataW.trod_int Tryz.underlying3 h0'
        obtain rfl : c0 = .int .i64 wk := by simpa using hwk
        have hbi := hD i hi
        have hdi2 : D i = .agg [y0.1, y1.1] := congrArg Prod.fst hdi
        rw [hdi2] at hbi
        simp only [DataW.weights, Tryz.underlying54] at hbi
        obtain ⟨zs, hz⟩ := ints_of_trod h1' (fun n hn => hbi n (by simp [DataW.weightsEach, hn]))
        exact ⟨(wk, zs), by rw [hcc 0 (by omega)]; rfl, c1, by rw [hcc 1 (by omega)]; rfl, hz⟩
    obtain ⟨f, hf⟩ := choose_lt hone
    have hfl : ((List.range len).map f).length = len := by simp
    refine ⟨(List.range len).map f, by omega, some a, cap, by rw [hfl], ?_⟩
    by_cases h0 : len = 0
    · left; subst h0; rfl
    · right
      obtain ⟨b, off, spot⟩ := a
      have hspot : spot = none := by
        have := (hf 0 (by omega)).1
        simpa [Addr.add] using World.cell?_spot this
      subst hspot
      refine ⟨b, off, rfl, ?_, fun k hk => ?_⟩
      · have := (hf 0 (by omega)).1
        rcases Nat.lt_or_ge b W.heap.size with h | h
        · exact h
        · simp [World.cell?, Addr.add, Array.getElem?_eq_none h] at this
      · rw [hfl] at hk
        obtain ⟨h1, nv, h2, h3⟩ := hf k hk
        have hg : ((List.range len).map f).getD k (0, []) = f k := by simp [hk]
        have e1 : ((⟨b, off, none⟩ : Addr).add (k * 2)).add 0 = ⟨b, off + k * 2, none⟩ := by rw [add_plain, add_plain]; rfl
        have e2 : ((⟨b, off, none⟩ : Addr).add (k * 2)).add 1 = ⟨b, off + k * 2 + 1, none⟩ := by rw [add_plain, add_plain]
        rw [e1] at h1
        rw [e2] at h2
        unfold needsOf
        rw [hg]
        exact ⟨h1, nv, h2, h3⟩
theorem Tryz.bytes37 : Tryz.prog.bytesOf 37 = 24 := by kernel_rfl
theorem rds_of_trod {H : Type} {enc : TypeId × Value → H} {W : World} {spare : Nat → Bool} {held : Bool} {fuel : Nat} {v : Value} {x : DataW H × List MemPlace}
    (h : DataW.trod enc Tryz.prog W 0 spare held fuel 37 [v] = some x) (hb : ∀ n, n ∈ x.1.weights Tryz.prog 37 → n ≤ reachBytes) : ∃ zs, Rds (fun j => j < W.heap.size) W v zs ∧ zs.length ≤ 9223372036854775000 ∧ ∀ z, z ∈ zs → z < 9223372036854775808 := by
  rcases open_ints Tryz.underlying37 Tryz.underlying3 Tryz.cells3 h with ⟨hcs, _⟩ | ⟨a, len, cap, zs, hcs, _, hl, hm, hz, hx, hcell, hwf⟩
  · obtain rfl : v = .slice none 0 0 := by simpa using hcs
    exact ⟨[], ⟨none, 0, rfl, Nat.le_refl _, fun k hk => by simp at hk⟩, by simp, by simp⟩
  · obtain rfl : v = .slice (some a) len cap := by simpa using hcs
    have hzl : len ≤ zs.length := by rw [hz]; split <;> omega
    have htl : (zs.take len).length = len := by simp; omega
    have hlen : len * 8 ≤ 140737488351232 := by
      subst hx
      simp only [DataW.weights, Tryz.underlying37, Tryz.bytes3] at hb
      have := hb _ (List.mem_cons_self ..)
      simp only [lits, List.length_map, htl] at this
      have hrb : reachBytes = 140737488351232 := by decide
      omega
    refine ⟨zs.take len, ⟨some a, cap, by rw [htl], by omega, fun k hk => ?_⟩, by omega, fun z hz2 => by have := (bounds_i64 (hwf z (List.mem_of_mem_take hz2))).2; omega⟩
    rw [htl] at hk
    obtain ⟨b, off, rfl, hc⟩ := ints_at hcell (by omega)
    have hb : b < W.heap.size := by
      have := hc 0 (by omega)
      rcases Nat.lt_or_ge b W.heap.size with h | h
      · exact h
      · simp [World.cell?, Array.getElem?_eq_none h] at this
    refine ⟨b, off, rfl, hb, hb, ?_⟩
    rw [hc k (by omega)]
    simp [hk]

set_option maxRecDepth 100000 in
theorem steps_of_trod {H : Type} {enc : TypeId × Value → H} {W : World} {spare : Nat → Bool} {held : Bool} {fuel : Nat} {v : Value} {x : DataW H × List MemPlace}
    (h : DataW.trod enc Tryz.prog W 0 spare held fuel 25 [v] = some x) (hb : ∀ n, n ∈ x.1.weights Tryz.prog 25 → n ≤ reachBytes) : ∃ (sn : Nat) (sa : Option Addr) (sc : Nat), v = .slice sa sn sc ∧ Steps W sa sn := by
  rcases open_slice1 Tryz.underlying25 Tryz.cells37 h with ⟨hcs, _⟩ | ⟨a, len, cap, m, n, V, D, Pl, hcs, _, hl, hm, hmm, hx, hel⟩
  · obtain rfl : v = .slice none 0 0 := by simpa using hcs
    exact ⟨0, none, 0, rfl, fun k hk => by omega⟩
  · obtain rfl : v = .slice (some a) len cap := by simpa using hcs
    have hml : len ≤ m := by rw [hmm]; split <;> omega
    subst hx
    simp only [DataW.weights, Tryz.underlying25, Tryz.bytes37] at hb
    have hD : ∀ i, i < len → ∀ n, n ∈ (D i).weights Tryz.prog 37 → n ≤ reachBytes := fun i hi n hn =>
      hb n (List.mem_cons_of_mem _ (List.mem_append.2 (Or.inl (weights_all (List.mem_map.2 ⟨i, List.mem_range.2 hi, rfl⟩) n hn))))
    refine ⟨len, some a, cap, rfl, fun k hk => ?_⟩
    obtain ⟨hc, ht⟩ := hel k (by omega)
    obtain ⟨zs, hz, hzl, hzb⟩ := rds_of_trod ht (hD k hk)
    obtain ⟨b, off, spot⟩ := a
    have hspot : spot = none := by simpa [Addr.add] using World.cell?_spot (hel 0 (by omega)).1
    subst hspot
    rw [Addr.add_lit] at hc
    refine ⟨b, off, V k, zs, rfl, ?_, hc, hz, hzl, hzb⟩
    rcases Nat.lt_or_ge b W.heap.size with h | h
    · exact h
    · simp [World.cell?, Array.getElem?_eq_none h] at hc

theorem Tryz.cells121 : Tryz.prog.cellsOf 121 = 2 := by kernel_rfl
theorem Tryz.bytes121 : Tryz.prog.bytesOf 121 = 16 := by kernel_rfl
set_option maxRecDepth 100000 in
/-- Ops among the arguments lie in memory. -/
theorem ops_of_trod {H : Type} {enc : TypeId × Value → H} {W : World} {spare : Nat → Bool} {held : Bool} {fuel : Nat} {v : Value} {x : DataW H × List MemPlace}
    (h : DataW.trod enc Tryz.prog W 0 spare held fuel 24 [v] = some x) (hb : ∀ n, n ∈ x.1.weights Tryz.prog 24 → n ≤ reachBytes) : ∃ gs, OpsAt W v gs := by
  rcases open_slice Tryz.underlying24 h with ⟨hcs, _⟩ | ⟨a, len, cap, m, n, D, Pl, hcs, _, hl, hm, hmm, hx, hel⟩
  · obtain rfl : v = .slice none 0 0 := by simpa using hcs
    exact ⟨[], by simp, none, 0, rfl, Or.inl rfl⟩
  · obtain rfl : v = .slice (some a) len cap := by simpa using hcs
    have hml : len ≤ m := by rw [hmm]; split <;> omega
    subst hx
    simp only [DataW.weights, Tryz.underlying24, Tryz.bytes121] at hb
    have hlen : len * 16 ≤ 140737488351232 := by
      have := hb _ (List.mem_cons_self ..)
      simp only [List.length_map, List.length_range] at this
      have hrb : reachBytes = 140737488351232 := by decide
      omega
    rw [Tryz.cells121] at hel
    have hone : ∀ i, i < len → ∃ t : Int × Int, W.cell? ((a.add (i * 2)).add 0) = some (.int .i64 t.1) ∧ W.cell? ((a.add (i * 2)).add 1) = some (.int .i64 t.2) := fun i hi => by
      obtain ⟨cs, hc, ht⟩ := hel i (by omega)
      obtain ⟨_, hcl, hcc⟩ := World.cells?_some hc
      obtain ⟨y0, y1, k, hdi, _, h0, h1⟩ := trod_struct2 Tryz.underlying121 ht
      match cs, hcl with
      | [c0, c1], _ =>
        have h0' : DataW.trod enc Tryz.prog W 0 spare held k 3 [c0] = some y0 := by simpa [Tryz.cells3] using h0
        have h1' : DataW.trod enc Tryz.prog W 0 spare held k 3 [c1] = some y1 := by simpa [Tryz.cells3] using h1
        obtain ⟨pr, hpr, _, _⟩ := DataW.trod_int Tryz.underlying3 h0'
        obtain rfl : c0 = .int .i64 pr := by simpa using hpr
        obtain ⟨cn, hcn, _, _⟩ := DataW.trod_int Tryz.underlying3 h1'
        obtain rfl : c1 = .int .i64 cn := by simpa using hcn
        exact ⟨(pr, cn), by rw [hcc 0 (by omega)]; rfl, by rw [hcc 1 (by omega)]; rfl⟩
    obtain ⟨f, hf⟩ := choose_lt hone
    have hfl : ((List.range len).map f).length = len := by simp
    refine ⟨(List.range len).map f, by omega, some a, cap, by rw [hfl], ?_⟩
    by_cases h0 : len = 0
    · left; subst h0; rfl
    · right
      obtain ⟨b, off, spot⟩ := a
      have hspot : spot = none := by
        have := (hf 0 (by omega)).1
        simpa [Addr.add] using World.cell?_spot this
      subst hspot
      refine ⟨b, off, rfl, ?_, fun k hk => ?_⟩
      · have := (hf 0 (by omega)).1
        rcases Nat.lt_or_ge b W.heap.size with h | h
        · exact h
        · simp [World.cell?, Addr.add, Array.getElem?_eq_none h] at this
      · rw [hfl] at hk
        obtain ⟨h1, h2⟩ := hf k hk
        have hg : ((List.range len).map f).getD k (0, 0) = f k := by simp [hk]
        have e1 : ((⟨b, off, none⟩ : Addr).add (k * 2)).add 0 = ⟨b, off + k * 2, none⟩ := by rw [add_plain, add_plain]; rfl
        have e2 : ((⟨b, off, none⟩ : Addr).add (k * 2)).add 1 = ⟨b, off + k * 2 + 1, none⟩ := by rw [add_plain, add_plain]
        rw [e1] at h1
        rw [e2] at h2
        unfold whtO numO
        rw [hg]
        exact ⟨h1, h2⟩
def formsData {H : Type} : DataW H := .agg ((List.range 6).map fun (k : Nat) => .agg [.lit (.string (wordD ((k : Int) + 1))), .lit (.int .i64 ((numsD ((k : Int) + 1) : Nat) : Int))])
theorem Tryz.cells137 : Tryz.prog.cellsOf 137 = 2 := by kernel_rfl
theorem Tryz.cells9 : Tryz.prog.cellsOf 9 = 1 := by kernel_rfl
set_option maxRecDepth 100000 in
theorem forms_of_trod {H : Type} {enc : TypeId × Value → H} {W : World} {base : Nat} {spare : Nat → Bool} {held : Bool} {fuel : Nat} {cs : Array Value} {p : List MemPlace}
    (h : DataW.trod enc Tryz.prog W base spare held fuel 138 cs.toList = some (formsData, p)) (hc : ∀ i, W.cell? ⟨0, i, none⟩ = cs[i]?) : FormsAt W := by
  obtain ⟨xs, m, _, hx, hl, hxl, hf⟩ := DataW.trod_array Tryz.underlying138 h
  rw [Tryz.cells137] at hf
  have hd : ∀ k : Nat, k < 6 → (xs.map (·.1))[k]? = some (.agg [.lit (.string (wordD ((k : Int) + 1))), .lit (.int .i64 ((numsD ((k : Int) + 1) : Nat) : Int))]) := fun k hk => by
    have := congrArg Prod.fst hx
    unfold formsData at this
    simp only [DataW.agg.injEq] at this
    rw [← this]
    simp [hk]
  have key : ∀ k : Nat, k < 6 → cs[k * 2]? = some (.string ⟨(wordD ((k : Int) + 1)).toArray⟩) ∧ cs[k * 2 + 1]? = some (.int .i64 ((numsD ((k : Int) + 1) : Nat) : Int)) := fun k hk => by
    have h1 := hf k hk
    have h2 := hd k hk
    rw [List.getElem?_map] at h2
    obtain ⟨y, hy, hy2⟩ := Option.map_eq_some_iff.1 h2
    rw [hy] at h1
    obtain ⟨y0, y1, n, hyy, hlen, g0, g1⟩ := trod_struct2 Tryz.underlying137 h1
    have e := congrArg Prod.fst hyy
    rw [hy2] at e
    simp only [DataW.agg.injEq, List.cons.injEq, and_true] at e
    have g0' : DataW.trod enc Tryz.prog W base spare held n 9 ((((cs.toList.drop (k * 2)).take 2).drop 0).take 1) = some y0 := by simpa [Tryz.cells9] using g0
    have g1' : DataW.trod enc Tryz.prog W base spare held n 3 ((((cs.toList.drop (k * 2)).take 2).drop 1).take 1) = some y1 := by simpa [Tryz.cells3] using g1
    obtain ⟨s, hs, hs2, _⟩ := DataW.trod_string Tryz.underlying9 g0'
    obtain ⟨z, hz, hz2, _⟩ := DataW.trod_int Tryz.underlying3 g1'
    have es : wordD ((k : Int) + 1) = s.data.toList := by
      have := e.1
      rw [hs2] at this
      simpa using this
    have ez : ((numsD ((k : Int) + 1) : Nat) : Int) = z := by
      have := e.2
      rw [hz2] at this
      simpa using this
    constructor
    · have := congrArg (·[0]?) hs
      simp [List.getElem?_drop] at this
      rw [this, es]
    · have := congrArg (·[0]?) hz
      simp [List.getElem?_drop] at this
      rw [this, ez]
  refine ⟨?_, fun k hk => ⟨(hc _).trans (key k hk).1, (hc _).trans (key k hk).2⟩⟩
  have h0 := (hc (0 * 2)).trans (key 0 (by omega)).1
  rcases Nat.lt_or_ge 0 W.heap.size with h | h
  · exact h
  · simp [World.cell?, Array.getElem?_eq_none h] at h0
section
variable {H : Type} {enc : TypeId × Value → H} {P : Program} {w : World} {base : Nat} {spare : Nat → Bool} {held : Bool}
theorem trodAll_five {t0 t1 t2 t3 t4 : TypeId} {args : Array Value} {ds : List (DataW H)} {ps : List MemPlace} (h : DataW.TrodAll enc P w base spare held [t0, t1, t2, t3, t4] args.toList ds ps) :
    ∃ v0 v1 v2 v3 v4 d0 d1 d2 d3 d4 p0 p1 p2 p3 p4, args = #[v0, v1, v2, v3, v4] ∧ ds = [d0, d1, d2, d3, d4] ∧ ps = p0 ++ p1 ++ p2 ++ p3 ++ p4 ∧ DataW.Trod enc P w base spare held t0 v0 d0 p0 ∧ DataW.Trod enc P w base spare held t1 v1 d1 p1 ∧ DataW.Trod enc P w base spare held t2 v2 d2 p2 ∧ DataW.Trod enc P w base spare held t3 v3 d3 p3 ∧ DataW.Trod enc P w base spare held t4 v4 d4 p4 := by
  obtain ⟨v0, vs0, d0, ds0, p0, q0, hargs, rfl, rfl, hd0, hrest0⟩ := trodAll_cons h
  obtain ⟨v1, vs1, d1, ds1, p1, q1, rfl, rfl, rfl, hd1, hrest1⟩ := trodAll_cons hrest0
  obtain ⟨v2, vs2, d2, ds2, p2, q2, rfl, rfl, rfl, hd2, hrest2⟩ := trodAll_cons hrest1
  obtain ⟨v3, vs3, d3, ds3, p3, q3, rfl, rfl, rfl, hd3, hrest3⟩ := trodAll_cons hrest2
  obtain ⟨v4, vs4, d4, ds4, p4, q4, rfl, rfl, rfl, hd4, hrest4⟩ := trodAll_cons hrest3
  obtain ⟨rfl, rfl, rfl⟩ := trodAll_nil hrest4
  exact ⟨v0, v1, v2, v3, v4, d0, d1, d2, d3, d4, p0, p1, p2, p3, p4, by cases args; simp_all, rfl, by simp, hd0, hd1, hd2, hd3, hd4⟩
theorem trodAll_mk5 {t0 t1 t2 t3 t4 : TypeId} {v0 v1 v2 v3 v4 : Value} {d0 d1 d2 d3 d4 : DataW H} {p0 p1 p2 p3 p4 : List MemPlace} (h0 : DataW.Trod enc P w base spare held t0 v0 d0 p0) (h1 : DataW.Trod enc P w base spare held t1 v1 d1 p1)
    (h2 : DataW.Trod enc P w base spare held t2 v2 d2 p2) (h3 : DataW.Trod enc P w base spare held t3 v3 d3 p3) (h4 : DataW.Trod enc P w base spare held t4 v4 d4 p4) : DataW.TrodAll enc P w base spare held [t0, t1, t2, t3, t4] [v0, v1, v2, v3, v4] [d0, d1, d2, d3, d4] (p0 ++ (p1 ++ (p2 ++ (p3 ++ p4)))) :=
  ⟨p0, p1 ++ (p2 ++ (p3 ++ p4)), h0, trodAll_mk4 h1 h2 h3 h4, rfl⟩
end
end Go.Proofs.YtandhiiaflhenaaGreatDoor
