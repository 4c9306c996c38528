/- Plain: the order in which the greatest is first, of equal ones the least number. No word of the program. The contracts of the closure of list.Urgent, and of slices.SortFunc with it. The contract of list.Urgent. -/
import Derived.Test.YtkcpimbhfmhjgaaShelf
import Derived.Test.YtkcpimbhfmhjgaaNa
import Derived.Test.YtkcpimbhfmhjgaaDepa
import Derived.Test.YtkcpimbhfmhjgaaDepb

namespace Go.Proofs.Ytkcpimbhfmhjgaa

/-- Ahead of another one: greater, or as great and of a lesser number. -/
def urgB (T : Nat → Int) (i k : Nat) : Prop := T k < T i ∨ (T i = T k ∧ i < k)
structure UrgIs (T : Nat → Int) (n : Nat) (l : List Nat) : Prop where
  perm : l.Perm (List.range n)
  falls : l.Pairwise (urgB T)
theorem UrgIs.length {T : Nat → Int} {n : Nat} {l : List Nat} (h : UrgIs T n l) : l.length = n := by rw [h.perm.length_eq, List.length_range]
theorem UrgIs.lt {T : Nat → Int} {n x : Nat} {l : List Nat} (h : UrgIs T n l) (hx : x ∈ l) : x < n := List.mem_range.1 (h.perm.mem_iff.1 hx)
theorem UrgIs.nodup {T : Nat → Int} {n : Nat} {l : List Nat} (h : UrgIs T n l) : l.Nodup := h.perm.nodup_iff.2 List.nodup_range
theorem UrgIs.det {T : Nat → Int} {n : Nat} {l l' : List Nat} (h : UrgIs T n l) (h' : UrgIs T n l') : l = l' :=
  List.Perm.eq_of_pairwise (fun a b _ _ h1 h2 => by unfold urgB at h1 h2; omega) h.falls h'.falls (h.perm.trans h'.perm.symm)
theorem UrgIs.none (T : Nat → Int) : UrgIs T 0 [] := ⟨List.Perm.nil, List.Pairwise.nil⟩

/-- What the program's closure tells of two. -/
def cmpU (T : Nat → Int) (i k : Nat) : Int := if T i = T k then (i : Int) - k else T k - T i
theorem cmpU_neg (T : Nat → Int) (i k : Nat) : cmpU T i k < 0 ↔ urgB T i k := by
  unfold cmpU urgB
  split <;> omega
/-- What a sort by it leaves. -/
theorem urg_of_sorted {T : Nat → Int} {n : Nat} {d : List (Fin n)} (hp : d.Perm (List.finRange n)) (hs : ∀ i j (hi : i < d.length) (hj : j < d.length), i < j → ¬ cmpU T d[j].val d[i].val < 0) : UrgIs T n (d.map Fin.val) := by
  have hperm : (d.map Fin.val).Perm (List.range n) := by
    have h1 := hp.map Fin.val
    have h2 : (List.finRange n).map Fin.val = List.range n := by
      apply List.ext_getElem
      · simp
      · intro i h1 h2; simp
    rwa [h2] at h1
  refine ⟨hperm, ?_⟩
  rw [List.pairwise_iff_getElem]
  intro i j hi hj hij
  have hnd : (d.map Fin.val).Nodup := hperm.nodup_iff.2 List.nodup_range
  have hne := List.pairwise_iff_getElem.1 hnd i j hi hj hij
  have := hs i j (by simpa using hi) (by simpa using hj) hij
  rw [cmpU_neg] at this
  simp only [List.getElem_map] at hne ⊢
  unfold urgB at this ⊢
  omega
/-- Taken one by one: behind all that are not less. -/
def insU (T : Nat → Int) (i : Nat) (l : List Nat) : List Nat := l.takeWhile (fun x => decide (T i ≤ T x)) ++ i :: l.dropWhile (fun x => decide (T i ≤ T x))
def urgTo (T : Nat → Int) : Nat → List Nat
  | 0 => []
  | n + 1 => insU T n (urgTo T n)
theorem insU_ok {T : Nat → Int} {n : Nat} {l : List Nat} (h : UrgIs T n l) : UrgIs T (n + 1) (insU T n l) := by
  have hcut : l.takeWhile (fun x => decide (T n ≤ T x)) ++ l.dropWhile (fun x => decide (T n ≤ T x)) = l := List.takeWhile_append_dropWhile
  refine ⟨?_, ?_⟩
  · unfold insU
    refine List.perm_middle.trans ?_
    rw [hcut, List.range_succ]
    exact (List.Perm.cons _ h.perm).trans (List.perm_append_comm (l₁ := [n]))
  · have hf := h.falls
    rw [← hcut, List.pairwise_append] at hf
    unfold insU
    rw [List.pairwise_append, List.pairwise_cons]
    have hall : ∀ x, x ∈ l.takeWhile (fun x => decide (T n ≤ T x)) → T n ≤ T x ∧ x < n := fun x hx => by
      have h1 := List.all_eq_true.1 (List.all_takeWhile (p := fun x => decide (T n ≤ T x)) (l := l)) x hx
      have h2 := h.lt (List.takeWhile_sublist _ |>.mem hx)
      exact ⟨by simpa using h1, h2⟩
    have hrest : ∀ x, x ∈ l.dropWhile (fun x => decide (T n ≤ T x)) → T x < T n := fun x hx => by
      cases hd : l.dropWhile (fun x => decide (T n ≤ T x)) with
      | nil => rw [hd] at hx; cases hx
      | cons a r =>
        have ha : T a < T n := by
          have h3 := List.head_dropWhile_not (fun x => decide (T n ≤ T x)) (l := l) (by rw [hd]; simp)
          simp only [hd, List.head_cons] at h3
          simpa using h3
        rw [hd] at hx
        rcases List.mem_cons.1 hx with rfl | hx
        · exact ha
        · have h4 := hf.2.1
          rw [hd, List.pairwise_cons] at h4
          have := h4.1 x hx
          unfold urgB at this
          omega
    refine ⟨hf.1, ⟨fun x hx => Or.inl (hrest x hx), hf.2.1⟩, fun a ha b hb => ?_⟩
    have h1 := hall a ha
    rcases List.mem_cons.1 hb with rfl | hb
    · unfold urgB; omega
    · have := hrest b hb
      unfold urgB; omega
theorem urgTo_is (T : Nat → Int) (n : Nat) : UrgIs T n (urgTo T n) := by
  induction n with
  | zero => exact UrgIs.none T
  | succ n ih => exact insU_ok ih
end Go.Proofs.Ytkcpimbhfmhjgaa

namespace Go.Proofs.Ytkcpimbhfmhjgaa
open Go.RowKit Go.Deep Go.Sort

/-- Tails in memory: a slice behind a box. -/
def TailsAt (w : World) (a : Addr) (n : Nat) (T : Nat → Int) : Prop :=
  ∃ b o c, w.cell? a = some (.slice (some ⟨b, o, none⟩) n c) ∧ a.block < w.heap.size ∧ b < w.heap.size ∧ ∀ k, k < n → w.cell? ⟨b, o + k, none⟩ = some (.int .i64 (T k))

set_option maxRecDepth 100000 in
set_option maxHeartbeats 2000000 in
theorem cmp_any (T : Nat → Int) (n i k : Nat) (a : Addr) (w : World) (ht : TailsAt w a n T) (hT : ∀ x, 0 ≤ T x ∧ T x ≤ 600) (h30 : n ≤ 30) (hi : i < n) (hk : k < n) :
    Calls Try.prog 21 (#[.int .i64 i, .int .i64 k] ++ #[.pointer (some a)]) w fun e w' => e = .returned (.int .i64 (cmpU T i k)) ∧ ∃ q, w' = w.drewN q := by
  show Calls Try.prog 21 #[.int .i64 i, .int .i64 k, .pointer (some a)] w _
  obtain ⟨b, o, c, hca, ha, hb, hc⟩ := ht
  have hci := hc i hi
  have hck := hc k hk
  have hTi := hT i
  have hTk := hT k
  have HU : Hid (cmpU T i k = if T i = T k then (i : Int) - k else T k - T i) := rfl
  clear hc hT
  generalize T i = x at *
  generalize T k = y at *
  by_cases hxy : x = y
  · have h1 : (x == y) = true := by simp [hxy]
    have HX : Hid (x = y) := hxy
    clear hxy
    go_enter Try.func21, Try.ntmps21
    go_wp2
    go_quiet (fail)
    go_wp2
    go_ret
    exact ⟨ret_int (by rw [HU.out, if_pos HX.out]), _, rfl⟩
  · have h1 : (x == y) = false := by simp [hxy]
    have HX : Hid (¬ x = y) := hxy
    clear hxy
    go_enter Try.func21, Try.ntmps21
    go_wp2
    go_quiet (fail)
    go_wp2
    go_quiet (fail)
    go_wp2
    go_ret
    exact ⟨ret_int (by rw [HU.out, if_neg HX.out]), _, World.drewN_drewN _ _ _⟩

theorem entersU : ∀ args w, (callFunc 21 args).run Try.prog w = .ok (.enter 21 args) w := enters_of Try.func21 (by kernel_rfl) rfl

/-- A task's number as a value. -/
def encF (n : Nat) (x : Fin n) : Value := .int .i64 (x.val : Int)

theorem sortWorld_other {n : Nat} [Inhabited (Fin n)] (w : World) (B m : Nat) (d : Array (Fin n)) (os : Array Obj) (k : Nat) (hk : k < w.heap.size) (hne : k ≠ B) : (sortWorld (encF n) w B 0 m d os).heap[k]? = w.heap[k]? := by
  unfold sortWorld
  rw [heap_grow_old _ _ (by simpa using hk)]
  have : B ≠ k := fun e => hne e.symm
  simp [putRow, mapBlock, Sort.ahead, Array.getElem?_modify, this]
theorem sortWorld_grown {n : Nat} [Inhabited (Fin n)] (w : World) (B m : Nat) (d : Array (Fin n)) (os : Array Obj) : w.grownBy (sortWorld (encF n) w B 0 m d os) (some B) := by
  refine ⟨rfl, rfl, rfl, by simp [sortWorld], fun k hk hne => sortWorld_other w B m d os k hk (fun e => hne (by rw [e]))⟩
theorem sortWorld_row {n : Nat} [Inhabited (Fin n)] {w : World} {B m : Nat} {f : Nat → Value} (d : Array (Fin n)) (os : Array Obj) (hd : d.size = n) (h : w.rowIs B 3 n f) : (sortWorld (encF n) w B 0 m d os).rowIs B 3 n (intRow (fun k => ((d.toList.map Fin.val).getD k 0 : Nat))) := by
  have hlt := h.lt
  obtain ⟨c, hb, hs, _⟩ := h
  refine ⟨putCells (encF n) 0 d c, ?_, by simp [putCells, hs], fun i hi => ?_⟩
  · unfold sortWorld
    rw [heap_grow_old _ _ (by simpa using hlt)]
    simp [putRow, mapBlock, Sort.ahead, Array.getElem?_modify, hb, onCells]
  · have h1 : i < d.size := by omega
    simp [putCells, hs, hi, h1, encF, intRow]

set_option maxRecDepth 100000 in
theorem sort_any (T : Nat → Int) (n B : Nat) (a : Addr) (w : World) (ht : TailsAt w a n T) (hT : ∀ x, 0 ≤ T x ∧ T x ≤ 600) (h30 : n ≤ 30) (hn : 0 < n) (hrow : w.rowIs B 3 n (intRow (fun k => (k : Int)))) (haB : a.block ≠ B) (hbB : ∀ b o c, w.cell? a = some (.slice (some ⟨b, o, none⟩) n c) → b ≠ B) :
    Calls Try.prog 20 #[.slice (some ⟨B, 0, none⟩) n n, .func (.func 21) #[] #[.pointer (some a)]] w fun e w' => e = .returned (.tuple #[]) ∧ ∃ l, UrgIs T n l ∧ w'.rowIs B 3 n (intRow (fun k => (l.getD k 0 : Nat))) ∧ w.grownBy w' (some B) := by
  haveI : Inhabited (Fin n) := ⟨⟨0, hn⟩⟩
  have hds : (Array.ofFn (fun x : Fin n => x)).size = n := by simp
  have hH : Holds (encF n) w B 0 (Array.ofFn (fun x : Fin n => x)) := fun j hj => by
    rw [hds] at hj
    rw [Nat.zero_add]
    refine ⟨(hrow.cell hj).trans ?_, hrow.frozen j⟩
    simp [encF, intRow, hj]
  have hcmp : CmpReads Try.prog 21 #[.pointer (some a)] (encF n) (fun x y => cmpU T x.val y.val) B 0 (Array.ofFn (fun x : Fin n => x)).size w := fun m os dk _ x y => by
    have hg := sortWorld_grown w B m dk os
    refine cmp_any T n x.val y.val a _ ?_ hT h30 x.isLt y.isLt
    obtain ⟨b, o, c, hca, ha, hb, hc⟩ := ht
    have hbn := hbB b o c hca
    refine ⟨b, o, c, (hg.cell hca (fun e => haB (Option.some.inj e))), Nat.lt_of_lt_of_le ha hg.size, Nat.lt_of_lt_of_le hb hg.size, fun k hk => hg.cell (hc k hk) (fun e => hbn (Option.some.inj e))⟩
  have hO : SWO (ltOf (fun x y : Fin n => cmpU T x.val y.val)) := {
    irrefl := fun x => by unfold ltOf cmpU; simp
    trans := fun x y z h1 h2 => by
      unfold ltOf at *
      simp only [decide_eq_true_eq, cmpU_neg] at *
      unfold urgB at *; omega
    ntrans := fun x y z h1 h2 => by
      unfold ltOf at *
      simp only [decide_eq_false_iff_not, cmpU_neg] at *
      unfold urgB at *; omega }
  have h := Try.slices_SortFunc (encF n) (fun _ => rfl) (fun x y => cmpU T x.val y.val) hO 21 #[.pointer (some a)] B 0 n (Array.ofFn (fun x : Fin n => x)) w entersU hcmp.lays hH hrow.lt (by rw [hds]; omega)
  rw [hds] at h
  refine h.mono ?_
  rintro e w' ⟨rfl, d', m, os, hp, hs, rfl⟩
  obtain ⟨hsz, _, hpm⟩ := hp
  rw [hds] at hsz
  refine ⟨rfl, d'.toList.map Fin.val, ?_, sortWorld_row d' os hsz hrow, sortWorld_grown w B m d' os⟩
  refine urg_of_sorted ?_ (fun i j hi hj hij => ?_)
  · have e1 : (d'.extract 0 n).toList = d'.toList := by rw [Array.extract_eq_self_of_le (by omega)]
    have e2 : ((Array.ofFn (fun x : Fin n => x)).extract 0 n).toList = List.finRange n := by
      have : (Array.ofFn (fun x : Fin n => x)).extract 0 n = Array.ofFn (fun x : Fin n => x) := by
        conv => lhs; arg 3; rw [← hds]
        simp
      rw [this, Array.toList_ofFn]
      apply List.ext_getElem
      · simp
      · intro i h1 h2; simp
    rw [e1, e2] at hpm
    exact hpm
  · have := hs i j (Nat.zero_le _) hij (by have : j < d'.toList.length := hj; simpa [hsz] using this)
    unfold ltOf at this
    have hi' : i < d'.size := by simpa using hi
    have hj' : j < d'.size := by simpa using hj
    rw [getElem!_pos d' i hi', getElem!_pos d' j hj'] at this
    simpa using this
/- A sort of none. -/
set_option maxHeartbeats 2000000 in
theorem ins_none (p : Option Addr) (c : Nat) (fv : Value) (w : World) : Calls Try.prog 58 #[.slice p 0 c, .int .i64 0, .int .i64 0, fv] w fun e w' => e = .returned (.tuple #[]) ∧ w' = w := by
  go_enter Try.func58, Try.ntmps58
  go_wp2
  refine wp_loop_rounds 1 ?_
  rw [rounds_succ]
  go_wp2
  go_end0
  exact ⟨rfl, rfl⟩
set_option maxHeartbeats 2000000 in
theorem pdq_none (p : Option Addr) (c : Nat) (lim : Int) (fv : Value) (w : World) : Calls Try.prog 40 #[.slice p 0 c, .int .i64 0, .int .i64 0, .int .i64 lim, fv] w fun e w' => e = .returned (.tuple #[]) ∧ w' = w := by
  have hi := fun W => ins_none p c fv W
  go_enter Try.func40, Try.ntmps40
  go_wp2
  refine wp_loop_rounds 1 ?_
  rw [rounds_succ]
  go_wp2_with (go_at_call 58; refine (hi _).mono ?_; rintro e w' ⟨rfl, rfl⟩)
  (try simp only [Exit.inBlock, Exit.then]); refine bodyPost_ret (results_none rfl _ _ _) rfl ?_
  exact ⟨rfl, rfl⟩
set_option maxHeartbeats 2000000 in
theorem sort_none (p : Option Addr) (c : Nat) (fv : Value) (w : World) : Calls Try.prog 20 #[.slice p 0 c, fv] w fun e w' => e = .returned (.tuple #[]) ∧ w' = w := by
  have hp := fun lim W => pdq_none p c lim fv W
  have L := Try.laysSlF6_f20
  have hl : ∀ W, Calls Try.prog 41 #[.int .u64 0] W fun e w' => e = .returned (.int .i64 (Lib.bitLen 0 : Nat)) ∧ w' = W := fun W =>
    Any.bits_Len (SlLaysF0.n15.bits (P := Try.prog) (ρ := Try.laysSlF6_f20_ren) { L with }) 0 W (by omega) (by omega)
  clear L
  go_enter Try.func20, Try.ntmps20
  go_wp2_with (first | (go_at_call 41; refine (hl _).mono ?_; rintro e w' ⟨rfl, rfl⟩) | (go_at_call 40; refine (hp _ _).mono ?_; rintro e w' ⟨rfl, rfl⟩))
  go_end0
  exact ⟨rfl, rfl⟩
end Go.Proofs.Ytkcpimbhfmhjgaa

namespace Go.Proofs.Ytkcpimbhfmhjgaa
open Go.RowKit Go.Deep

/-- What Urgent hands back. -/
def UrgOut (ts : List (Int × List Int)) (n : Nat) (e : Ending) (w' : World) : Prop :=
  (∃ p q, q ≠ 0 ∧ CheckIs ts p q ∧ e = .returned (.tuple #[.slice none 0 0, errV q])) ∨
  (CheckIs ts 0 0 ∧ ∃ ord l B, OrdIs ts ord ∧ UrgIs (tailsOf ts ord) ts.length l ∧ e = .returned (.tuple #[.slice (some ⟨B, 0, none⟩) ts.length ts.length, .nilIface]) ∧ n ≤ B ∧ w'.rowIs B 3 ts.length (intRow (fun k => (l.getD k 0 : Nat))))

theorem cell_box' (w : World) (v : Value) (t : TypeId) : (w.alloc (.cells #[v] t)).cell? ⟨w.heap.size, 0, none⟩ = some v := by
  unfold World.cell?
  dsimp only
  rw [blk_alloc_new]
  rfl

set_option maxRecDepth 100000 in
set_option maxHeartbeats 2000000 in
theorem urgent_any (v : Value) (ts : List (Int × List Int)) (w : World) (hp : PlanAt w v ts) :
    Calls Try.prog 7 #[v] w fun e w' => UrgOut ts w.heap.size e w' ∧ Below w.heap.size w w' := by
  have htl := tails_any v ts w hp
  obtain ⟨hl, a, c, rfl, hp⟩ := hp
  clear hp
  go_enter Try.func7, Try.ntmps7
  go_wp2_with fail
  refine htl.mono ?_
  clear htl
  rintro e w1 ⟨h, hb1⟩
  rcases h with ⟨p, q, hq, hc, rfl⟩ | ⟨hc, ord, rv, ho, rfl, hin⟩
  · have hev := errV_some hq
    have HF : Hid (∀ u wx, u = errV q → UrgOut ts w.heap.size (.returned (.tuple #[.slice none 0 0, u])) wx) := fun u wx hu => Or.inl ⟨p, q, hq, hc, by rw [hu]⟩
    rw [hev] at HF ⊢
    have hb2 : Below w.heap.size w (w1.alloc (.cells #[.slice none 0 0] 32)) := hb1.alloc hb1.size _
    clear hev hq hc
    go_wp2
    go_ret2
    exact ⟨HF.out _ _ rfl, hb2⟩
  · have h30 : ts.length ≤ 30 := (hc.ok rfl).2.1
    have hT := (Ready.of hc ho).deep.tlow
    have HF : Hid (∀ l B wx, UrgIs (tailsOf ts ord) ts.length l → w.heap.size ≤ B → wx.rowIs B 3 ts.length (intRow (fun k => (l.getD k 0 : Nat))) → UrgOut ts w.heap.size (.returned (.tuple #[.slice (some ⟨B, 0, none⟩) ts.length ts.length, .nilIface])) wx) := fun l B wx h1 h2 h3 => Or.inr ⟨hc, ord, l, B, ho, h1, rfl, h2, h3⟩
    have HIN : Hid (IntsAt w1 rv (listOf (tailsOf ts ord) ts.length)) := hin
    obtain ⟨_, ra, rc, rfl, _⟩ := hin
    rw [listOf_length] at HIN ⊢
    have hmk := fun wx => run_make_row' (P := Try.prog) 32 3 (.int .i64 0) 8 Try.underlying32 Try.info3 rfl .i64 .i64 ts.length (by omega) (by omega) wx
    have hmf : ∀ (fn : Fn) (first cap : Array Value) (w : World), (Instr.makeFunc fn first cap).run Try.prog w = .ok (.func fn first cap) w := fun _ _ _ _ => rfl
    clear ho hc
    have hc1 := cell_box' w1 (.slice ra ts.length rc) 32
    have hb2 : Below w1.heap.size w1 (w1.alloc (.cells #[.slice ra ts.length rc] 32)) := (Below.refl _ _).alloc (Nat.le_refl _) _
    have hs2 : (w1.alloc (.cells #[.slice ra ts.length rc] 32)).heap.size = w1.heap.size + 1 := by simp
    have hrow0 := World.rowIs_made (w1.alloc (.cells #[.slice ra ts.length rc] 32)) (.int .i64 0) ts.length 3
    rw [hs2] at hrow0
    have hb3 : Below (w1.heap.size + 1) (w1.alloc (.cells #[.slice ra ts.length rc] 32)) ((w1.alloc (.cells #[.slice ra ts.length rc] 32)).alloc (.cells (madeCells #[.int .i64 0] ts.length) 3)) := (Below.refl _ _).alloc (by simp) _
    have HC1 : Hid _ := hc1
    have HB2 : Hid _ := hb2
    have HB3 : Hid _ := hb3
    have HR0 : Hid (World.rowIs _ _ _ _ _) := hrow0
    have HS2 : Hid _ := hs2
    clear hc1 hb2 hb3 hrow0 hs2
    go_wp2
    clear hmk
    obtain ⟨w2, hw2⟩ : ∃ w2, w2 = w1.alloc (.cells #[.slice ra ts.length rc] 32) := ⟨_, rfl⟩
    rw [← hw2] at HC1 HB2 HB3 HR0 HS2 ⊢
    clear hw2
    go_loopw [21] (fun s21 wr => ∃ k : Nat, k ≤ ts.length ∧ s21 = .int .i64 k ∧ Hid (wr.rowIs (w1.heap.size + 1) 3 ts.length (intRow (fun j => if j < k then (j : Int) else 0))) ∧ Below (w1.heap.size + 1) w2 wr) (fun s21 _ => ts.length - (intOf s21).toNat)
    case atStart => exact ⟨0, Nat.zero_le _, rfl, HR0.out.congr (fun j _ => rfl), HB3.out⟩
    case round =>
      clear HR0 HB3
      obtain ⟨k, hk, rfl, hrow, hb⟩ := hrel
      by_cases hkl : k < ts.length
      · have hfr := hrow.out.frozen k
        have hce : wr.cell? ⟨w1.heap.size + 1, k, none⟩ = some (.int .i64 0) := (hrow.out.cell hkl).trans (by unfold intRow; simp)
        have hlt := hrow.out.lt
        have HN : Hid ((wr.setCell ⟨w1.heap.size + 1, k, none⟩ (.int .i64 (k : Int))).rowIs (w1.heap.size + 1) 3 ts.length (intRow (fun j => if j < k + 1 then (j : Int) else 0))) := by
          refine (row_upd hrow.out).congr (fun j hj => ?_)
          unfold intRow upd
          dsimp only
          by_cases e : j = k
          · subst e; rw [if_pos rfl, if_pos (by omega)]
          · rw [if_neg e]
            by_cases e2 : j < k
            · rw [if_pos e2, if_pos (by omega)]
            · rw [if_neg e2, if_neg (by omega)]
        have hb2 : Below (w1.heap.size + 1) w2 (wr.setCell ⟨w1.heap.size + 1, k, none⟩ (.int .i64 (k : Int))) := hb.setCell (p := ⟨w1.heap.size + 1, k, none⟩) (Nat.le_refl _) _
        clear hrow
        go_wp2
        go_roundw
        case rel => exact ⟨k + 1, by omega, by go_num, HN, hb2⟩
        case measure => simp [intOf]; omega
      · have hr : wr.rowIs (w1.heap.size + 1) 3 ts.length (intRow (fun j => (j : Int))) := hrow.out.congr (fun j hj => by unfold intRow; dsimp only; rw [if_pos (by omega)])
        have hke : k = ts.length := by omega
        clear hrow
        by_cases hn : 0 < ts.length
        · have hin2 := (HIN.out.later HB2.out).later (hb.mono (by have := HS2.out; omega))
          obtain ⟨_, ra', rc', hv, hcc⟩ := hin2
          rw [listOf_length] at hv hcc
          simp only [Value.slice.injEq] at hv
          obtain ⟨rfl, -, rfl⟩ : ra = ra' ∧ True ∧ rc = rc' := ⟨hv.1, trivial, hv.2.2⟩
          rcases hcc with h0 | ⟨tb, to, rfl, htb, hcc⟩
          · have := congrArg List.length h0
            rw [listOf_length, List.length_nil] at this
            omega
          have htb1 : tb < w1.heap.size := by
            obtain ⟨_, ra', rc', hv, h⟩ := HIN.out
            rw [listOf_length] at h hv
            simp only [Value.slice.injEq] at hv
            rcases h with h0 | ⟨tb', to', e, h, _⟩
            · have := congrArg List.length h0
              rw [listOf_length, List.length_nil] at this
              omega
            · have e2 := hv.1.trans e
              simp only [Option.some.injEq, Addr.mk.injEq, and_true] at e2
              omega
          have hbox : wr.cell? ⟨w1.heap.size, 0, none⟩ = some (.slice (some ⟨tb, to, none⟩) ts.length rc) := (hb.cell (p := ⟨w1.heap.size, 0, none⟩) (Nat.lt_succ_self _)).trans HC1.out
          have hta : TailsAt wr ⟨w1.heap.size, 0, none⟩ ts.length (tailsOf ts ord) := ⟨tb, to, rc, hbox, by show w1.heap.size < _; have := hr.lt; omega, htb, fun j hj => by have := hcc j hj; rwa [listOf_getD _ hj] at this⟩
          have hso := sort_any (tailsOf ts ord) ts.length (w1.heap.size + 1) ⟨w1.heap.size, 0, none⟩ wr hta hT h30 hn hr (by show w1.heap.size ≠ _; omega) (fun b o c h => by
            rw [hbox] at h
            simp only [Option.some.injEq, Value.slice.injEq, Addr.mk.injEq, and_true] at h
            omega)
          have hbe : Below w.heap.size w wr := hb1.trans ((HB2.out.mono hb1.size).trans (hb.mono (by have := hb1.size; omega)))
          have hsz : w.heap.size ≤ w1.heap.size + 1 := by have := hb1.size; omega
          have hsr := hr.lt
          clear hcc hta hr hbox hT
          subst hke
          go_wp2_with fail
          refine hso.mono ?_
          clear hso
          rintro e w3 ⟨rfl, l, hu, hrow, hg⟩
          have HE := HF.out l _ w3 hu hsz hrow
          have HE2 : Hid _ := HE
          have hb3 : Below w.heap.size w w3 := hbe.grown hg (by omega) (fun j e => by have := Option.some.inj e; omega)
          clear HE hu hrow
          go_wp2
          go_ret2
          exact ⟨HE2.out, hb3⟩
        · have hn0 : ts.length = 0 := by omega
          have hbe : Below w.heap.size w wr := hb1.trans ((HB2.out.mono hb1.size).trans (hb.mono (by have := hb1.size; omega)))
          have HE := HF.out [] _ wr (by rw [hn0]; exact UrgIs.none _) (by have := hb1.size; omega) (hr.congr (fun j hj => by omega))
          have HE2 : Hid (UrgOut ts w.heap.size (.returned (.tuple #[.slice (some ⟨w1.heap.size + 1, 0, none⟩) ts.length ts.length, .nilIface])) wr) := HE
          have hso := fun wx => sort_none (some ⟨w1.heap.size + 1, 0, none⟩) 0 (.func (.func 21) #[] #[.pointer (some ⟨w1.heap.size, 0, none⟩)]) wx
          clear hr HE hT
          subst hke
          rw [hn0] at HE2 ⊢
          clear hn0
          go_wp2_with (go_at_call 20; refine (hso _).mono ?_; rintro e w' ⟨rfl, rfl⟩)
          go_ret2
          exact ⟨HE2.out, hbe⟩
end Go.Proofs.Ytkcpimbhfmhjgaa
