/- The contracts of the closure of list.Urgent, and of slices.SortFunc with it. -/
import Derived.Test.YtlfebnaghoeddaaDoorShelf
import Derived.Test.YtlfebnaghoeddaaDoorUa
import Derived.Test.YtlfebnaghoeddaaDoorNa
import Derived.Test.YtlfebnaghoeddaaDoorDg
namespace Go.Proofs.YtlfebnaghoeddaaDoor
open Go.RowKit Go.Deep Go.Sort

/-- Tails in memory: a slice behind a box. -/
def TailsAt (w : World) (a : Addr) (n : Nat) (T : Nat → Int) : Prop :=
  ∃ b o c, w.cell? a = some (.slice (some ⟨b, o, none⟩) n c) ∧ a.block < w.heap.size ∧ b < w.heap.size ∧ ∀ k, k < n → w.cell? ⟨b, o + k, none⟩ = some (.int .i64 (T k))

set_option maxRecDepth 100000 in
set_option maxHeartbeats 2000000 in
theorem cmp_any (T : Nat → Int) (n i k : Nat) (a : Addr) (w : World) (ht : TailsAt w a n T) (hT : ∀ x, 0 ≤ T x ∧ T x ≤ 600) (h30 : n ≤ 30) (hi : i < n) (hk : k < n) :
    Calls Tryd.prog 25 (#[.int .i64 i, .int .i64 k] ++ #[.pointer (some a)]) w fun e w' => e = .returned (.int .i64 (cmpU T i k)) ∧ ∃ q, w' = w.drewN q := by
  show Calls Tryd.prog 25 #[.int .i64 i, .int .i64 k, .pointer (some a)] w _
  obtain ⟨b, o, c, hca, ha, hb, hc⟩ := ht
  have hci := hc i hi
  have hck := hc k hk
  have hTi := hT i
  have hTk := hT k
  have HU : Hid (cmpU T i k = if T i = T k then (i : Int) - k else T k - T i) := rfl
  clear hc hT
  generalize T i = x at *
  generalize T k = y at *
  by_cases hxy : x = y
  · have h1 : (x == y) = true := by simp [hxy]
    have HX : Hid (x = y) := hxy
    clear hxy
    go_enter Tryd.func25, Tryd.ntmps25
    go_wp2
    go_quiet (fail)
    go_wp2
    go_ret
    exact ⟨ret_int (by rw [HU.out, if_pos HX.out]), _, rfl⟩
  · have h1 : (x == y) = false := by simp [hxy]
    have HX : Hid (¬ x = y) := hxy
    clear hxy
    go_enter Tryd.func25, Tryd.ntmps25
    go_wp2
    go_quiet (fail)
    go_wp2
    go_quiet (fail)
    go_wp2
    go_ret
    exact ⟨ret_int (by rw [HU.out, if_neg HX.out]), _, World.drewN_drewN _ _ _⟩

theorem enters25 : ∀ args w, (callFunc 25 args).run Tryd.prog w = .ok (.enter 25 args) w := enters_of Tryd.func25 (by kernel_rfl) rfl

/-- A task's number as a value. -/
def encF (n : Nat) (x : Fin n) : Value := .int .i64 (x.val : Int)

theorem sortWorld_other {n : Nat} [Inhabited (Fin n)] (w : World) (B m : Nat) (d : Array (Fin n)) (os : Array Obj) (k : Nat) (hk : k < w.heap.size) (hne : k ≠ B) : (sortWorld (encF n) w B 0 m d os).heap[k]? = w.heap[k]? := by
  unfold sortWorld
  rw [heap_grow_old _ _ (by simpa using hk)]
  have : B ≠ k := fun e => hne e.symm
  simp [putRow, mapBlock, Sort.ahead, Array.getElem?_modify, this]
theorem sortWorld_grown {n : Nat} [Inhabited (Fin n)] (w : World) (B m : Nat) (d : Array (Fin n)) (os : Array Obj) : w.grownBy (sortWorld (encF n) w B 0 m d os) (some B) := by
  refine ⟨rfl, rfl, rfl, by simp [sortWorld], fun k hk hne => sortWorld_other w B m d os k hk (fun e => hne (by rw [e]))⟩
theorem sortWorld_row {n : Nat} [Inhabited (Fin n)] {w : World} {B m : Nat} {f : Nat → Value} (d : Array (Fin n)) (os : Array Obj) (hd : d.size = n) (h : w.rowIs B 3 n f) : (sortWorld (encF n) w B 0 m d os).rowIs B 3 n (intRow (fun k => ((d.toList.map Fin.val).getD k 0 : Nat))) := by
  have hlt := h.lt
  obtain ⟨c, hb, hs, _⟩ := h
  refine ⟨putCells (encF n) 0 d c, ?_, by simp [putCells, hs], fun i hi => ?_⟩
  · unfold sortWorld
    rw [heap_grow_old _ _ (by simpa using hlt)]
    simp [putRow, mapBlock, Sort.ahead, Array.getElem?_modify, hb, onCells]
  · have h1 : i < d.size := by omega
    simp [putCells, hs, hi, h1, encF, intRow]

set_option maxRecDepth 100000 in
theorem sort_any (T : Nat → Int) (n B : Nat) (a : Addr) (w : World) (ht : TailsAt w a n T) (hT : ∀ x, 0 ≤ T x ∧ T x ≤ 600) (h30 : n ≤ 30) (hn : 0 < n) (hrow : w.rowIs B 3 n (intRow (fun k => (k : Int)))) (haB : a.block ≠ B) (hbB : ∀ b o c, w.cell? a = some (.slice (some ⟨b, o, none⟩) n c) → b ≠ B) :
    Calls Tryd.prog 24 #[.slice (some ⟨B, 0, none⟩) n n, .func (.func 25) #[] #[.pointer (some a)]] w fun e w' => e = .returned (.tuple #[]) ∧ ∃ l, UrgIs T n l ∧ w'.rowIs B 3 n (intRow (fun k => (l.getD k 0 : Nat))) ∧ w.grownBy w' (some B) := by
  haveI : Inhabited (Fin n) := ⟨⟨0, hn⟩⟩
  have hds : (Array.ofFn (fun x : Fin n => x)).size = n := by simp
  have hH : Holds (encF n) w B 0 (Array.ofFn (fun x : Fin n => x)) := fun j hj => by
    rw [hds] at hj
    rw [Nat.zero_add]
    refine ⟨(hrow.cell hj).trans ?_, hrow.frozen j⟩
    simp [encF, intRow, hj]
  have hcmp : CmpReads Tryd.prog 25 #[.pointer (some a)] (encF n) (fun x y => cmpU T x.val y.val) B 0 (Array.ofFn (fun x : Fin n => x)).size w := fun m os dk _ x y => by
    have hg := sortWorld_grown w B m dk os
    refine cmp_any T n x.val y.val a _ ?_ hT h30 x.isLt y.isLt
    obtain ⟨b, o, c, hca, ha, hb, hc⟩ := ht
    have hbn := hbB b o c hca
    refine ⟨b, o, c, (hg.cell hca (fun e => haB (Option.some.inj e))), Nat.lt_of_lt_of_le ha hg.size, Nat.lt_of_lt_of_le hb hg.size, fun k hk => hg.cell (hc k hk) (fun e => hbn (Option.some.inj e))⟩
  have hO : SWO (ltOf (fun x y : Fin n => cmpU T x.val y.val)) := {
    irrefl := fun x => by unfold ltOf cmpU; simp
    trans := fun x y z h1 h2 => by
      unfold ltOf at *
      simp only [decide_eq_true_eq, cmpU_neg] at *
      unfold urgB at *; omega
    ntrans := fun x y z h1 h2 => by
      unfold ltOf at *
      simp only [decide_eq_false_iff_not, cmpU_neg] at *
      unfold urgB at *; omega }
  have h := Tryd.slices_SortFunc (encF n) (fun _ => rfl) (fun x y => cmpU T x.val y.val) hO 25 #[.pointer (some a)] B 0 n (Array.ofFn (fun x : Fin n => x)) w enters25 hcmp.lays hH hrow.lt (by rw [hds]; omega)
  rw [hds] at h
  refine h.mono ?_
  rintro e w' ⟨rfl, d', m, os, hp, hs, rfl⟩
  obtain ⟨hsz, _, hpm⟩ := hp
  rw [hds] at hsz
  refine ⟨rfl, d'.toList.map Fin.val, ?_, sortWorld_row d' os hsz hrow, sortWorld_grown w B m d' os⟩
  refine urg_of_sorted ?_ (fun i j hi hj hij => ?_)
  · have e1 : (d'.extract 0 n).toList = d'.toList := by rw [Array.extract_eq_self_of_le (by omega)]
    have e2 : ((Array.ofFn (fun x : Fin n => x)).extract 0 n).toList = List.finRange n := by
      have : (Array.ofFn (fun x : Fin n => x)).extract 0 n = Array.ofFn (fun x : Fin n => x) := by
        conv => lhs; arg 3; rw [← hds]
        simp
      rw [this, Array.toList_ofFn]
      apply List.ext_getElem
      · simp
      · intro i h1 h2; simp
    rw [e1, e2] at hpm
    exact hpm
  · have := hs i j (Nat.zero_le _) hij (by have : j < d'.toList.length := hj; simpa [hsz] using this)
    unfold ltOf at this
    have hi' : i < d'.size := by simpa using hi
    have hj' : j < d'.size := by simpa using hj
    rw [getElem!_pos d' i hi', getElem!_pos d' j hj'] at this
    simpa using this
/- A sort of none. -/
set_option maxHeartbeats 2000000 in
theorem ins_none (p : Option Addr) (c : Nat) (fv : Value) (w : World) : Calls Tryd.prog 48 #[.slice p 0 c, .int .i64 0, .int .i64 0, fv] w fun e w' => e = .returned (.tuple #[]) ∧ w' = w := by
  go_enter Tryd.func48, Tryd.ntmps48
  go_wp2
  refine wp_loop_rounds 1 ?_
  rw [rounds_succ]
  go_wp2
  go_end0
  exact ⟨rfl, rfl⟩
set_option maxHeartbeats 2000000 in
theorem pdq_none (p : Option Addr) (c : Nat) (lim : Int) (fv : Value) (w : World) : Calls Tryd.prog 36 #[.slice p 0 c, .int .i64 0, .int .i64 0, .int .i64 lim, fv] w fun e w' => e = .returned (.tuple #[]) ∧ w' = w := by
  have hi := fun W => ins_none p c fv W
  go_enter Tryd.func36, Tryd.ntmps36
  go_wp2
  refine wp_loop_rounds 1 ?_
  rw [rounds_succ]
  go_wp2_with (go_at_call 48; refine (hi _).mono ?_; rintro e w' ⟨rfl, rfl⟩)
  (try simp only [Exit.inBlock, Exit.then]); refine bodyPost_ret (results_none rfl _ _ _) rfl ?_
  exact ⟨rfl, rfl⟩
set_option maxHeartbeats 2000000 in
theorem sort_none (p : Option Addr) (c : Nat) (fv : Value) (w : World) : Calls Tryd.prog 24 #[.slice p 0 c, fv] w fun e w' => e = .returned (.tuple #[]) ∧ w' = w := by
  have hp := fun lim W => pdq_none p c lim fv W
  have L := Tryd.laysSlF6_f24
  have hl : ∀ W, Calls Tryd.prog 37 #[.int .u64 0] W fun e w' => e = .returned (.int .i64 (Lib.bitLen 0 : Nat)) ∧ w' = W := fun W =>
    Any.bits_Len (SlLaysF0.n15.bits (P := Tryd.prog) (ρ := Tryd.laysSlF6_f24_ren) { L with }) 0 W (by omega) (by omega)
  clear L
  go_enter Tryd.func24, Tryd.ntmps24
  go_wp2_with (first | (go_at_call 37; refine (hl _).mono ?_; rintro e w' ⟨rfl, rfl⟩) | (go_at_call 36; refine (hp _ _).mono ?_; rintro e w' ⟨rfl, rfl⟩))
  go_end0
  exact ⟨rfl, rfl⟩
end Go.Proofs.YtlfebnaghoeddaaDoor
