/- The calls of JoinPlays, whichever way each goes. -/
import Derived.Test.YtabmagmgoaiehaaDoorW
import Derived.Test.YtabmagmgoaiehaaDoorV
import Derived.Test.YtabmagmgoaiehaaDoorM
import Derived.Test.YtabmagmgoaiehaaDoorI
import Derived.Test.YtabmagmgoaiehaaDoorRh
namespace Go.Proofs.YtabmagmgoaiehaaDoor
open Go.RowKit Go.Deep

/-- What becomes of a task that is to be done: the error, and what is done then. -/
def DoCase (ts : List (Int × List Int)) (S : Nat → Bool) (z q : Int) (S' : Nat → Bool) : Prop :=
  (q = 1 ∧ (z < 0 ∨ (ts.length : Int) ≤ z) ∧ S' = S) ∨ ∃ x : Nat, z = x ∧ x < ts.length ∧ ((q = 6 ∧ readyB ts S x = false ∧ S' = S) ∨ (q = 0 ∧ readyB ts S x = true ∧ S' = mark S x))
/-- Those that are ready now, and were not. -/
def wantL (ts : List (Int × List Int)) (S S' : Nat → Bool) : List Nat := (readyTo ts S' ts.length).filter (fun k => !(readyTo ts S ts.length).contains k)
theorem wantL_same (ts : List (Int × List Int)) (S : Nat → Bool) : wantL ts S S = [] := by
  unfold wantL
  refine List.filter_eq_nil_iff.2 fun k hk => ?_
  rw [List.contains_iff_mem.2 hk]
  simp
theorem wantL_mark {ts : List (Int × List Int)} (hg : Good ts) {S : Nat → Bool} (hd : Down ts S) {i : Nat} (hi : i < ts.length) (hr : readyB ts S i = true) : wantL ts S (mark S i) = newL ts S i := by
  rw [newL_eq hg hd hi (ready_parts hr).1]
  unfold wantL readyTo
  rw [List.filter_filter]
  refine List.filter_congr fun k hk => ?_
  have hc : ((List.range ts.length).filter (readyB ts S)).contains k = readyB ts S k := by
    rw [Bool.eq_iff_iff, List.contains_iff_mem, List.mem_filter]
    exact ⟨fun h => h.2, fun h => ⟨hk, h⟩⟩
  rw [hc, Bool.and_comm]
theorem DoCase.down {ts : List (Int × List Int)} {S S' : Nat → Bool} {z q : Int} (h : DoCase ts S z q S') (hd : Down ts S) : Down ts S' := by
  rcases h with ⟨_, _, rfl⟩ | ⟨x, _, _, ⟨_, _, rfl⟩ | ⟨_, hr, rfl⟩⟩
  · exact hd
  · exact hd
  · exact hd.mark hr

/-- Done, whatever it is called with. -/
theorem done_case {J M A D C : Nat} {ts : List (Int × List Int)} {S S' : Nat → Bool} {z q : Int} {w : World} (hg : Good ts) (hd : Down ts S) (hc : DoCase ts S z q S') (h : JnT J M A D C ts S w) :
    Calls Tryd.prog 10 #[.pointer (some ⟨J, 0, none⟩), .int .i64 z] w fun e w' => (∃ gv, e = .returned (.tuple #[gv, errV q]) ∧ RowI w.heap.size w' gv (intsOf (wantL ts S S'))) ∧ JnT J M A D C ts S' w' ∧ Kx (fun k => k = M ∨ k = A ∨ k = D) w w' := by
  rcases hc with ⟨rfl, hz, rfl⟩ | ⟨x, rfl, hx, ⟨rfl, hr, rfl⟩ | ⟨rfl, hr, rfl⟩⟩
  · refine (done_range J M A D C ts S' z w h hz).mono fun e w' ⟨he, hw⟩ => ?_
    subst hw
    exact ⟨⟨_, he, by rw [wantL_same]; exact RowI.nil _ _⟩, h, Kx.refl _ _⟩
  · refine (done_state J M A D C ts S' x w h hx hr).mono fun e w' ⟨he, hb⟩ => ?_
    exact ⟨⟨_, he, by rw [wantL_same]; exact RowI.nil _ _⟩, Jn.later h hb, Below.kx hb⟩
  · refine (done_good J M A D C ts hg S x w h hx hr).mono fun e w' ⟨⟨v, he, hv⟩, hj, hk⟩ => ?_
    exact ⟨⟨v, he, by rw [wantL_mark hg hd hx hr]; exact hv⟩, hj, hk⟩

/-- How a task stands, the error with it. -/
def StCase (ts : List (Int × List Int)) (S : Nat → Bool) (i q : Int) (st : Nat) : Prop :=
  (q = 1 ∧ (i < 0 ∨ (ts.length : Int) ≤ i) ∧ st = 0) ∨ ∃ x : Nat, i = x ∧ x < ts.length ∧ q = 0 ∧ st = stN ts S x
theorem state_case {J M A D C : Nat} {ts : List (Int × List Int)} {S : Nat → Bool} {i q : Int} {st : Nat} {w : World} (hc : StCase ts S i q st) (h : JnT J M A D C ts S w) :
    Calls Tryd.prog 13 #[.pointer (some ⟨J, 0, none⟩), .int .i64 i] w fun e w' => e = .returned (.tuple #[.int .i64 st, errV q]) ∧ Below w.heap.size w w' := by
  rcases hc with ⟨rfl, hi, rfl⟩ | ⟨x, rfl, hx, rfl, rfl⟩
  · refine (state_bad J M A D C ts S i w h hi).mono fun e w' ⟨he, hw⟩ => ?_
    subst hw
    exact ⟨he, Below.refl _ _⟩
  · exact state_good J M A D C ts S x w h hx

theorem RowI.ints {b : Nat} {w : World} {v : Value} {zs : List Int} (h : RowI b w v zs) (hl : zs.length ≤ 1000) : IntsAt w v zs := by
  refine ⟨by omega, ?_⟩
  rcases h.2 with ⟨rfl, h0⟩ | ⟨g, cap, cur, rfl, hb, hh, hr⟩
  · exact ⟨none, 0, by rw [h0], Or.inl (List.eq_nil_of_length_eq_zero h0)⟩
  · refine ⟨_, _, rfl, Or.inr ⟨g, 0, rfl, (Array.getElem?_eq_some_iff.1 hh).1, fun k hk => ?_⟩⟩
    rw [Nat.zero_add]
    exact RowI.cell h hk
theorem same_ints {v u : Value} {zs : List Int} {w : World} (h1 : IntsAt w v zs) (h2 : IntsAt w u zs) : Calls Tryd.prog 11 #[v, u] w fun e w' => e = .returned (.bool true) ∧ Below w.heap.size w w' :=
  (sameInts_any v u zs zs w h1 h2).mono fun e w' ⟨he, n, hn⟩ => ⟨by rw [he]; simp, by rw [hn]; exact below_drewN (Below.refl _ _) n⟩
theorem memB_ints (l : List Nat) (y : Nat) : memB (intsOf l) (y : Int) = l.contains y := by
  unfold memB
  rw [Bool.eq_iff_iff, decide_eq_true_iff, List.contains_iff_mem]
  unfold intsOf
  constructor
  · intro h
    obtain ⟨x, hx, e⟩ := List.mem_map.1 h
    have : x = y := by omega
    exact this ▸ hx
  · intro h
    exact List.mem_map.2 ⟨y, h, rfl⟩
theorem rowIs_bools {T n : Nat} {S : Nat → Bool} {w : World} (h : w.rowIs T 4 n (fun k => .bool (S k))) : BoolsAt w (.slice (some ⟨T, 0, none⟩) n n) n S :=
  ⟨T, 0, n, rfl, h.lt, fun k hk => by rw [Nat.zero_add]; exact h.cell hk⟩
theorem stN_free (ts : List (Int × List Int)) (S : Nat → Bool) (x : Nat) : stN ts S x = if S x then 2 else if !missing ts S x then 1 else 0 := by
  unfold stN
  rw [missing_eq]
  cases S x
  · simp
  · simp
theorem readyB_free (ts : List (Int × List Int)) (S : Nat → Bool) (x : Nat) : readyB ts S x = (!S x && !missing ts S x) := by
  unfold readyB
  rw [missing_eq, Bool.not_not]
end Go.Proofs.YtabmagmgoaiehaaDoor
