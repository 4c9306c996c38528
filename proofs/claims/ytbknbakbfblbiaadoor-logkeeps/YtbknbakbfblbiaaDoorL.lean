/- A join in memory; the contracts of stateOf, State, Left. -/
import Derived.Test.YtbknbakbfblbiaaDoorP
import Derived.Test.YtbknbakbfblbiaaDoorS
import Derived.Maps.OwnSet
namespace Go.Proofs.YtbknbakbfblbiaaDoor
open Go.RowKit Go.Deep Go.Maps

theorem keyed3 : Keyed Tryd.prog 3 := int_keyed Tryd.underlying3
theorem zero48 (w : World) : (zeroValue 72).run Tryd.prog w = .ok (.agg #[]) w := by kernel_rfl
theorem wf_nat {y : Nat} (h : y < 1000) : (Lit.int .i64 (y : Int)).wf = true := WalkArith.wf_i64 (by omega)
theorem key_nat {y : Nat} (h : y < 1000) : keyOf Tryd.prog 3 (.int .i64 (y : Int)) = some (.int .i64 (y : Int)) := keyOf_int_mk Tryd.underlying3 (wf_nat h)

/-- Block B is the map of those that are done. -/
def DoneAt (w : World) (B n : Nat) (S : Nat → Bool) : Prop :=
  ∃ m D, w.ownsMap Tryd.prog 3 (unitElem (H := Unit)) B m D ∧ Maps.size D = m ∧ m + unseen S n = n ∧ ∀ x : Nat, x < n → Maps.has D (.int .i64 x) = S x
theorem DoneAt.of_block {w w' : World} {B n : Nat} {S : Nat → Bool} (h : DoneAt w B n S) (e : w'.heap[B]? = w.heap[B]?) : DoneAt w' B n S := by
  obtain ⟨m, D, ⟨es, clock, hb, r⟩, h1⟩ := h
  exact ⟨m, D, ⟨es, clock, e.trans hb, r⟩, h1⟩
theorem DoneAt.lt {w : World} {B n : Nat} {S : Nat → Bool} (h : DoneAt w B n S) : B < w.heap.size := by
  obtain ⟨m, D, h, _⟩ := h
  exact h.lt
theorem DoneAt.start (w : World) (n : Nat) : DoneAt (w.alloc (.map #[] 0)) w.heap.size n (fun _ => false) :=
  ⟨0, .map [], World.ownsMap_made _ _ _ _, rfl, by rw [unseen_none]; omega, fun x _ => rfl⟩

def joinRow (M A D n : Nat) : Nat → Value := fun k => if k = 0 then .slice (some ⟨M, 0, none⟩) n n else if k = 1 then .slice (some ⟨A, 0, none⟩) n n else .map (some D)

/-- The lists of those that need each task: a row of slices, each in a row of its own from block C on. -/
structure AftAt (C A n : Nat) (aft : Nat → List Nat) (av : Nat → Value) (w : World) : Prop where
  row : w.rowIs A 24 n av
  own : ∀ k, k < n → RowI C w (av k) (intsOf (aft k))
theorem AftAt.of_blocks {C A n : Nat} {aft : Nat → List Nat} {av : Nat → Value} {w w' : World} (h : AftAt C A n aft av w) (eA : w'.heap[A]? = w.heap[A]?) (eC : ∀ k, C ≤ k → k < w.heap.size → w'.heap[k]? = w.heap[k]?) : AftAt C A n aft av w' :=
  ⟨h.row.of_block eA, fun k hk => (h.own k hk).of_blocks (fun b e => eC b ((h.own k hk).low e).1 ((h.own k hk).low e).2)⟩

/-- A join of n tasks in block J: what is missing in block M, who comes after in block A, what is done in block D. -/
structure Jn (J M A D C n : Nat) (miss : Nat → Nat) (aft : Nat → List Nat) (S : Nat → Bool) (w : World) : Prop where
  row : w.rowIs J 69 3 (joinRow M A D n)
  miss : w.rowIs M 3 n (fun k => natV (miss k))
  aft : ∃ av, AftAt C A n aft av w
  done : DoneAt w D n S
  lt : J < C ∧ M < C ∧ A < C ∧ D < C
  ne : J ≠ M ∧ J ≠ A ∧ J ≠ D ∧ M ≠ A ∧ M ≠ D ∧ A ≠ D
  le : n ≤ 30

section
variable {J M A D C n : Nat} {miss : Nat → Nat} {aft : Nat → List Nat} {S : Nat → Bool} {w w' : World}
theorem Jn.of_blocks (h : Jn J M A D C n miss aft S w) (eJ : w'.heap[J]? = w.heap[J]?) (eM : w'.heap[M]? = w.heap[M]?) (eA : w'.heap[A]? = w.heap[A]?) (eD : w'.heap[D]? = w.heap[D]?)
    (eC : ∀ k, C ≤ k → k < w.heap.size → w'.heap[k]? = w.heap[k]?) : Jn J M A D C n miss aft S w' := by
  obtain ⟨av, ha⟩ := h.aft
  exact ⟨h.row.of_block eJ, h.miss.of_block eM, ⟨av, ha.of_blocks eA eC⟩, h.done.of_block eD, h.lt, h.ne, h.le⟩
theorem Jn.ltA (h : Jn J M A D C n miss aft S w) : A < w.heap.size := by
  obtain ⟨av, ha⟩ := h.aft
  exact ha.row.lt
theorem Jn.later (h : Jn J M A D C n miss aft S w) (hb : Below w.heap.size w w') : Jn J M A D C n miss aft S w' :=
  h.of_blocks (hb.block _ h.row.lt) (hb.block _ h.miss.lt) (hb.block _ h.ltA) (hb.block _ h.done.lt) (fun k _ hk => hb.block k hk)
theorem Jn.c0 (h : Jn J M A D C n miss aft S w) : w.cell? ⟨J, 0, none⟩ = some (.slice (some ⟨M, 0, none⟩) n n) := by
  have := h.row.cell (i := 0) (by omega)
  simpa [joinRow] using this
theorem Jn.c1 (h : Jn J M A D C n miss aft S w) : w.cell? ⟨J, 1, none⟩ = some (.slice (some ⟨A, 0, none⟩) n n) := by
  have := h.row.cell (i := 1) (by omega)
  simpa [joinRow] using this
theorem Jn.c2 (h : Jn J M A D C n miss aft S w) : w.cell? ⟨J, 2, none⟩ = some (.map (some D)) := by
  have := h.row.cell (i := 2) (by omega)
  simpa [joinRow] using this
theorem Jn.cM (h : Jn J M A D C n miss aft S w) {k : Nat} (hk : k < n) : w.cell? ⟨M, k, none⟩ = some (.int .i64 (miss k)) := h.miss.cell hk
end

/-- A join of the plan ts, of which the tasks of S are done. -/
def JnT (J M A D C : Nat) (ts : List (Int × List Int)) (S : Nat → Bool) (w : World) : Prop :=
  Jn J M A D C ts.length (missN ts S) (fun k => if S k then [] else aftTo ts ts.length k) S w

set_option maxHeartbeats 800000 in
theorem stateOf_any (J M A D C : Nat) (ts : List (Int × List Int)) (S : Nat → Bool) (k : Nat) (w : World) (h : JnT J M A D C ts S w) (hk : k < ts.length) :
    Calls Tryd.prog 44 #[.pointer (some ⟨J, 0, none⟩), .int .i64 k] w fun e w' => e = .returned (.int .i64 (stN ts S k)) ∧ Below w.heap.size w w' := by
  have h2 := Jn.later h ((Below.refl _ _).alloc (Nat.le_refl _) (.cells #[] 72))
  have hc2 := Jn.c2 h
  have hc0 := Jn.c0 h2
  have hcM := Jn.cM h2 hk
  obtain ⟨m, D', hown, _, _, hD⟩ := Jn.done h
  have hDk := hD k hk
  have hkey := key_nat (y := k) (by have := Jn.le h; omega)
  clear hD h2
  cases hS : S k
  · rw [hS] at hDk
    by_cases hz : missN ts S k = 0
    · rw [hz] at hcM
      have HE : Hid (stN ts S k = 1) := by unfold stN; rw [hS, hz]; rfl
      clear hS hz h
      go_enter Tryd.func44, Tryd.ntmps44
      go_wp2_with (at_lookup; refine wpList_lookup_own_unit _ rfl _ _ 67 rfl 3 72 keyed3 Tryd.underlying67 (zero48 _) D m D' rfl hown _ _ rfl hkey ?_; rw [hDk])
      go_ret
      exact ⟨by rw [HE.out]; rfl, (Below.refl _ _).alloc (Nat.le_refl _) _⟩
    · have hz2 : ((missN ts S k : Int) == 0) = false := by simp; omega
      have HE : Hid (stN ts S k = 0) := by unfold stN; rw [hS, if_neg hz]; rfl
      generalize missN ts S k = mi at *
      clear hS hz h
      go_enter Tryd.func44, Tryd.ntmps44
      go_wp2_with (at_lookup; refine wpList_lookup_own_unit _ rfl _ _ 67 rfl 3 72 keyed3 Tryd.underlying67 (zero48 _) D m D' rfl hown _ _ rfl hkey ?_; rw [hDk])
      go_ret
      exact ⟨by rw [HE.out]; rfl, (Below.refl _ _).alloc (Nat.le_refl _) _⟩
  · rw [hS] at hDk
    have HE : Hid (stN ts S k = 2) := by unfold stN; rw [hS]; rfl
    clear hS h
    go_enter Tryd.func44, Tryd.ntmps44
    go_wp2_with (at_lookup; refine wpList_lookup_own_unit _ rfl _ _ 67 rfl 3 72 keyed3 Tryd.underlying67 (zero48 _) D m D' rfl hown _ _ rfl hkey ?_; rw [hDk])
    go_ret
    exact ⟨by rw [HE.out]; rfl, (Below.refl _ _).alloc (Nat.le_refl _) _⟩

theorem state_bad (J M A D C : Nat) (ts : List (Int × List Int)) (S : Nat → Bool) (i : Int) (w : World) (h : JnT J M A D C ts S w) (hi : i < 0 ∨ (ts.length : Int) ≤ i) :
    Calls Tryd.prog 36 #[.pointer (some ⟨J, 0, none⟩), .int .i64 i] w fun e w' => e = .returned (.tuple #[.int .i64 0, errV 1]) ∧ w' = w := by
  have hc0 := Jn.c0 h
  clear h
  by_cases h1 : i < 0
  · go_enter Tryd.func36, Tryd.ntmps36
    go_wp2
    go_ret2
    exact ⟨rfl, rfl⟩
  · have h2 : (ts.length : Int) ≤ i := by omega
    go_enter Tryd.func36, Tryd.ntmps36
    go_wp2
    go_ret2
    exact ⟨rfl, rfl⟩

theorem state_good (J M A D C : Nat) (ts : List (Int × List Int)) (S : Nat → Bool) (k : Nat) (w : World) (h : JnT J M A D C ts S w) (hk : k < ts.length) :
    Calls Tryd.prog 36 #[.pointer (some ⟨J, 0, none⟩), .int .i64 k] w fun e w' => e = .returned (.tuple #[.int .i64 (stN ts S k), .nilIface]) ∧ Below w.heap.size w w' := by
  have hc0 := Jn.c0 h
  have hst := stateOf_any J M A D C ts S k w h hk
  have h1 : ¬ (k : Int) < 0 := by omega
  have h2 : ¬ (ts.length : Int) ≤ (k : Int) := by omega
  clear h
  generalize stN ts S k = st at *
  go_enter Tryd.func36, Tryd.ntmps36
  go_wp2_with (go_at_call 44; refine hst.mono ?_; clear hst; rintro e w' ⟨rfl, hb⟩)
  go_ret2
  exact ⟨rfl, hb⟩

theorem quiet_len_map {o : Oper} {a : Act} {w : World} {K : Act → Prop} {D clock : Nat} {es : Array MapEntry} (m : Operand) (ho : o.op = .call { callee := .builtin .len, args := #[m], argTypes := #[67] }) (hm : a.eval m = .map (some D))
    (hb : w.heap[D]? = some (.map es clock)) {E : Nat} (hE : Hid (es.size = E)) (h : K (a.put o.dst (.int .i64 E))) : o.quiet Tryd.prog a (fun w' => ∃ n, w' = w.drewN n) K := by
  refine ⟨_, fun w' hw => ?_, h⟩
  obtain ⟨n, rfl⟩ := hw
  have hE := hE.out
  subst hE
  have hb' : (w.drewN n).heap[D]? = some (.map es clock) := hb
  unfold Oper.quietAt
  simp [execOp, ho, resolve, invoke, builtin, hm, Builtin.len_, run_underlying Tryd.underlying67, MapKept.run_getObj_map hb', goInt, Result.andThen, Oper.quietUpon]

end Go.Proofs.YtbknbakbfblbiaaDoor
