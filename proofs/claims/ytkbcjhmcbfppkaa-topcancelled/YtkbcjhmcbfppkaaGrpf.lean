/- The contracts of groups.checkPlaces and groups.Live. -/
import Derived.Test.YtkbcjhmcbfppkaaGrpe
import Derived.Test.YtkbcjhmcbfppkaaGrpj
import Derived.Test.YtkbcjhmcbfppkaaF
import Derived.Test.YtkbcjhmcbfppkaaK
import Derived.OrdersHeld
import Derived.BigQuiet
import Derived.BigRegion
import Derived.Deep.RegionHeld3
namespace Go.Proofs.Ytkbcjhmcbfppkaa
open Go.RowKit Go.Deep

/-- What is wrong with groups, then with the places of the groups of all tasks. -/
def placesErr (gs : List Grp) (n : Nat) (ofs : List Int) : Int := if grpErr gs = 0 then (if ofs.length = n then (if ofs.any (fun i => !inRange i gs.length) then 1 else 0) else 3) else grpErr gs
theorem placesErr_zero {gs : List Grp} {n : Nat} {ofs : List Int} (h : placesErr gs n ofs = 0) : gs.length ≤ 12 ∧ RightG gs ∧ ofs.length = n ∧ ∀ i, i ∈ ofs → 0 ≤ i ∧ i < gs.length := by
  unfold placesErr at h
  by_cases h1 : grpErr gs = 0
  · rw [if_pos h1] at h
    by_cases h2 : ofs.length = n
    · rw [if_pos h2] at h
      obtain ⟨h3, h4⟩ := grpErr_right h1
      refine ⟨h3, h4, h2, fun i hi => ?_⟩
      cases ha : ofs.any (fun i => !inRange i gs.length) with
      | true => rw [ha] at h; simp at h
      | false =>
        have := List.any_eq_false.1 ha i hi
        simpa [inRange] using this
    · rw [if_neg h2] at h; omega
  · rw [if_neg h1] at h; exact absurd h h1
/-- The tasks whose groups are gone. -/
def deadG (gs : List Grp) (ofs : List Int) (k : Nat) : Bool := goneG gs (ofs.getD k 0).toNat
open Classical in
/-- Does a task live? -/
noncomputable def liveB (ts : List (Int × List Int)) (D : Nat → Bool) (k : Nat) : Bool := decide (Lives ts D k)
theorem liveB_true {ts : List (Int × List Int)} {D : Nat → Bool} {k : Nat} : liveB ts D k = true ↔ Lives ts D k := by unfold liveB; simp
theorem any_bad {α : Type} (l : List α) (p q : α → Bool) (h : ∀ x, x ∈ l → p x = q x) : l.any p = l.any q := by
  induction l with
  | nil => rfl
  | cons a r ih => rw [List.any_cons, List.any_cons, h a (List.mem_cons_self ..), ih (fun x hx => h x (List.mem_cons_of_mem _ hx))]
theorem liveB_eq {ts : List (Int × List Int)} {D : Nat → Bool} {k : Nat} (hr : InRange ts) (hk : k < ts.length) : liveB ts D k = (!D k && !(needsOf ts k).any (fun y => !liveB ts D y.toNat)) := by
  rw [Bool.eq_iff_iff, liveB_true, lives_iff]
  rw [Bool.and_eq_true, Bool.not_eq_true', Bool.not_eq_true', List.any_eq_false]
  refine and_congr_right fun _ => ⟨fun h y hy => ?_, fun h n hn => ?_⟩
  · have h0 := (hr k hk y hy).1
    have := h y.toNat (by unfold Need; rw [Int.toNat_of_nonneg h0]; exact hy)
    rw [liveB_true.2 this]
    simp
  · have := h n hn
    rw [Int.toNat_natCast] at this
    exact liveB_true.1 (by simpa using this)
theorem free_needs {ts : List (Int × List Int)} {T : Nat → Bool} {k : Nat} (h : freeB ts T k = true) : ∀ y, y ∈ needsOf ts k → T y.toNat = true := by
  intro y hy
  unfold freeB at h
  rw [Bool.and_eq_true, Bool.not_eq_true', Bool.not_eq_true', List.any_eq_false] at h
  simpa using h.2 y hy

theorem gclosure_any (x : Int) (a : Addr) (ga : Option Addr) (n c : Nat) (w : World) (hc : w.cell? a = some (.slice ga n c)) (hn : n ≤ 9223372036854775807) :
    Calls Try.prog 27 (#[.int .i64 x] ++ #[.pointer (some a)]) w fun e w' => e = .returned (.bool (!inRange x n)) ∧ w' = w := by
  show Calls Try.prog 27 #[.int .i64 x, .pointer (some a)] w _
  have hin := isGroup_any ga n c x w hn
  generalize inRange x n = r at *
  cases r
  all_goals
    go_enter Try.func27, Try.ntmps27
    go_wp2_with (go_at_call 25; refine hin.mono ?_; rintro e w2 ⟨rfl, rfl⟩)
    go_ret
    exact ⟨rfl, rfl⟩
theorem entersCP : ∀ args w, (callFunc 27 args).run Try.prog w = .ok (.enter 27 args) w := enters_of Try.func27 (by kernel_rfl) rfl

set_option maxRecDepth 100000 in
set_option maxHeartbeats 1000000 in
theorem checkPlaces_any (pv gv ov : Value) (ts : List (Int × List Int)) (gs : List Grp) (ofs : List Int) (w : World) (hp : PlanAt w pv ts) (hg : GrpsAt w gv gs) (ho : IntsAt w ov ofs) :
    Calls Try.prog 16 #[pv, gv, ov] w fun e w' => e = .returned (errV (placesErr gs ts.length ofs)) ∧ Below w.heap.size w w' := by
  have hb0 : Below w.heap.size w (w.alloc (.cells #[gv] 22)) := (Below.refl _ _).alloc (Nat.le_refl _) _
  have hck := grcheck_any gv gs _ (hg.later hb0)
  have HO : Hid (IntsAt w ov ofs) := ho
  obtain ⟨hl, ga, gc, rfl, hg⟩ := hg
  clear hg
  obtain ⟨hpl, pa, pc, rfl, hp⟩ := hp
  clear hp
  obtain ⟨hol, oa, oc, rfl, ho⟩ := ho
  clear ho
  by_cases hq : grpErr gs = 0
  · have HE : Hid (placesErr gs ts.length ofs = if ofs.length = ts.length then (if ofs.any (fun i => !inRange i gs.length) then 1 else 0) else 3) := by show _ = _; unfold placesErr; rw [if_pos hq]
    rw [hq, errV_zero] at hck
    clear hq
    go_enter Try.func16, Try.ntmps16
    go_wp2_with fail
    refine hck.mono ?_
    rintro e w1 ⟨rfl, hb1⟩
    clear hck
    have hb : Below w.heap.size w w1 := hb0.trans (hb1.mono hb0.size)
    have hcell : w1.cell? ⟨w.heap.size, 0, none⟩ = some (.slice ga gs.length gc) := (hb1.cell (p := ⟨w.heap.size, 0, none⟩) (by simp)).trans (by simp)
    clear hb1 hb0
    by_cases hlen : ofs.length = ts.length
    · have hcf := containsFunc_any _ ofs 27 #[.pointer (some ⟨w.heap.size, 0, none⟩)] (fun i => !inRange i gs.length) w1 (HO.out.later hb) ⟨entersCP, fun x _ => gclosure_any x _ _ _ _ _ hcell (len_fits hl)⟩
      have HE2 : Hid (placesErr gs ts.length ofs = if ofs.any (fun i => !inRange i gs.length) then 1 else 0) := by show _ = _; rw [HE.out, if_pos hlen]
      rw [hlen] at hcf ⊢
      clear HE hlen hcell HO
      generalize ofs.any (fun i => !inRange i gs.length) = r at *
      cases r
      all_goals
        go_wp2_with (go_at_call 18; refine hcf.mono ?_; rintro e w2 ⟨rfl, rfl⟩)
        go_ret
        exact ⟨by rw [HE2.out]; rfl, hb⟩
    · have HE2 : Hid (placesErr gs ts.length ofs = 3) := by show _ = _; rw [HE.out, if_neg hlen]
      have hne : ((ofs.length : Int) == (ts.length : Int)) = false := by simp; omega
      clear HE HO hcell
      go_wp2
      go_ret
      exact ⟨by rw [HE2.out]; rfl, hb⟩
  · have HE : Hid (∀ u, u = errV (grpErr gs) → u = errV (placesErr gs ts.length ofs)) := fun u hu => by rw [hu]; unfold placesErr; rw [if_neg hq]
    rw [errV_some hq] at hck HE
    clear hq HO
    generalize grpErr gs = q at *
    go_enter Try.func16, Try.ntmps16
    go_wp2_with (go_at_call 24; refine hck.mono ?_; rintro e w1 ⟨rfl, hb⟩)
    go_ret
    exact ⟨by rw [← HE.out _ rfl]; rfl, hb0.trans (hb.mono hb0.size)⟩

theorem lclosure_any (x : Int) (n : Nat) (T : Nat → Bool) (a : Addr) (pv : Value) (w : World) (hc : w.cell? a = some pv) (hp : BoolsAt w pv n T) (h0 : 0 ≤ x) (hx : x < n) :
    Calls Try.prog 17 (#[.int .i64 x] ++ #[.pointer (some a)]) w fun e w' => e = .returned (.bool (!T x.toNat)) ∧ w' = w := by
  show Calls Try.prog 17 #[.int .i64 x, .pointer (some a)] w _
  obtain ⟨b, o, c, rfl, hlt, hb⟩ := hp
  obtain ⟨y, rfl⟩ := Int.eq_ofNat_of_zero_le h0
  have hcell := hb y (by omega)
  rw [Int.toNat_natCast]
  clear hb h0
  cases hT : T y
  all_goals
    rw [hT] at hcell
    clear hT
    go_enter Try.func17, Try.ntmps17
    go_wp2
    go_ret
    exact ⟨rfl, rfl⟩
theorem entersLV : ∀ args w, (callFunc 17 args).run Try.prog w = .ok (.enter 17 args) w := enters_of Try.func17 (by kernel_rfl) rfl

theorem GrpsAt.drewN {w : World} {v : Value} {gs : List Grp} (h : GrpsAt w v gs) (q : Nat) : GrpsAt (w.drewN q) v gs := h
theorem IntsAt.drewN {w : World} {v : Value} {zs : List Int} (h : IntsAt w v zs) (q : Nat) : IntsAt (w.drewN q) v zs := h
theorem IntsAt.lt {w : World} {b o n c : Nat} {zs : List Int} (h : IntsAt w (.slice (some ⟨b, o, none⟩) n c) zs) (hz : 0 < zs.length) : b < w.heap.size := by
  obtain ⟨_, a2, c2, e, h⟩ := h
  simp only [Value.slice.injEq] at e
  obtain ⟨rfl, -, rfl⟩ := e
  rcases h with rfl | ⟨b2, o2, e, hb, _⟩
  · simp at hz
  · simp only [Option.some.injEq, Addr.mk.injEq] at e
    obtain ⟨rfl, -, -⟩ := e
    exact hb
theorem PlanAt.lt {w : World} {b o n c : Nat} {ts : List (Int × List Int)} (h : PlanAt w (.slice (some ⟨b, o, none⟩) n c) ts) (hz : 0 < ts.length) : b < w.heap.size := by
  obtain ⟨_, a2, c2, e, h⟩ := h
  simp only [Value.slice.injEq] at e
  obtain ⟨rfl, -, rfl⟩ := e
  rcases h with rfl | ⟨b2, o2, e, hb, _⟩
  · simp at hz
  · simp only [Option.some.injEq, Addr.mk.injEq] at e
    obtain ⟨rfl, -, -⟩ := e
    exact hb
/-- What Live's memory is: the row of bools in block N, its slice in block N + 1. -/
structure LiveMem (N n : Nat) (w wr : World) (T : Nat → Bool) : Prop where
  row : wr.rowIs N 4 n (fun k => .bool (T k))
  box : wr.cell? ⟨N + 1, 0, none⟩ = some (.slice (some ⟨N, 0, none⟩) n n)
  below : Below N w wr
theorem LiveMem.bools {N n : Nat} {w wr : World} {T : Nat → Bool} (h : LiveMem N n w wr T) : BoolsAt wr (.slice (some ⟨N, 0, none⟩) n n) n T :=
  ⟨N, 0, n, rfl, h.row.lt, fun k hk => by rw [Nat.zero_add]; exact h.row.cell hk⟩
theorem LiveMem.congr {N n : Nat} {w wr : World} {T T' : Nat → Bool} (h : LiveMem N n w wr T) (ht : ∀ k, k < n → T k = T' k) : LiveMem N n w wr T' :=
  ⟨h.row.congr (fun k hk => by rw [ht k hk]), h.box, h.below⟩
theorem LiveMem.drewN {N n : Nat} {w wr : World} {T : Nat → Bool} (h : LiveMem N n w wr T) (q : Nat) : LiveMem N n w (wr.drewN q) T :=
  ⟨h.row.of_block rfl, h.box, ⟨h.below.os, h.below.tape, h.below.output, h.below.size, h.below.block⟩⟩
theorem LiveMem.set {N n : Nat} {w wr : World} {T : Nat → Bool} (h : LiveMem N n w wr T) (i : Nat) (b : Bool) : LiveMem N n w (wr.setCell ⟨N, i, none⟩ (.bool b)) (fun k => if k = i then b else T k) :=
  ⟨(h.row.set i (.bool b)).congr (fun k _ => by split <;> simp_all), (World.cell?_setCell_other _ _ _ _ (fun e => by have := congrArg Addr.block e; simp at this)).trans h.box, h.below.setCell (Nat.le_refl _) _⟩
theorem LiveMem.start (n : Nat) (w : World) {T : Nat → Bool} (hT : ∀ k, T k = false) :
    LiveMem w.heap.size n w ((w.alloc (.cells (madeCells #[.bool false] n) 4)).alloc (.cells #[.slice (some ⟨w.heap.size, 0, none⟩) n n] 34)) T :=
  ⟨((World.rowIs_made w (.bool false) n 4).congr (fun k _ => by simp [hT])).alloc _, by simp, ((Below.refl _ _).alloc (Nat.le_refl _) _).alloc (by simp) _⟩
theorem has_snoc (l : List Nat) (i k : Nat) : has (l ++ [i]) k = (has l k || decide (k = i)) := by
  unfold has
  simp

/-- What is wrong with a plan, groups and places. -/
def liveErr (q : Int) (gs : List Grp) (n : Nat) (ofs : List Int) : Int := if q = 0 then placesErr gs n ofs else q
/-- What Live hands back. -/
def LiveOut (ts : List (Int × List Int)) (gs : List Grp) (ofs : List Int) (e : Ending) (w' : World) : Prop :=
  ∃ p q, CheckIs ts p q ∧ ((liveErr q gs ts.length ofs ≠ 0 ∧ e = .returned (.tuple #[.slice none 0 0, errV (liveErr q gs ts.length ofs)])) ∨
    (q = 0 ∧ placesErr gs ts.length ofs = 0 ∧ ∃ bv, e = .returned (.tuple #[bv, .nilIface]) ∧ BoolsAt w' bv ts.length (liveB ts (deadG gs ofs))))

/-- Along an order: what is told of those that were told already. -/
noncomputable def toldL (ts : List (Int × List Int)) (D : Nat → Bool) (ord : List Nat) (m : Nat) (k : Nat) : Bool := has (ord.take m) k && liveB ts D k
theorem toldL_step {ts : List (Int × List Int)} {D : Nat → Bool} {ord : List Nat} {m : Nat} (hm : m < ord.length) (k : Nat) :
    (if k = ord.getD m 0 then liveB ts D (ord.getD m 0) else toldL ts D ord m k) = toldL ts D ord (m + 1) k := by
  unfold toldL
  have e : ord.take (m + 1) = ord.take m ++ [ord.getD m 0] := by
    rw [List.take_succ_eq_append_getElem hm, List.getD_eq_getElem?_getD, List.getElem?_eq_getElem hm]
    rfl
  rw [e, has_snoc]
  by_cases h : k = ord.getD m 0
  · rw [if_pos h, h]
    simp
  · rw [if_neg h, show decide (k = ord.getD m 0) = false from decide_eq_false h, Bool.or_false]
/-- The next one in the order: all that it needs were told. -/
theorem toldL_next {ts : List (Int × List Int)} {D : Nat → Bool} {ord : List Nat} {m : Nat} (ho : Ords ts ord) (hr : InRange ts) (hm : m < ord.length) :
    ord.getD m 0 < ts.length ∧ liveB ts D (ord.getD m 0) = (!D (ord.getD m 0) && !(needsOf ts (ord.getD m 0)).any (fun y => !toldL ts D ord m y.toNat)) := by
  have hn := ho m hm
  obtain ⟨k, hk, hkl, -⟩ := hn.pos (by omega)
  have hk2 : ord.getD m 0 = k := by omega
  have hf : freeB ts (has (ord.take m)) k = true := by
    rcases hn with ⟨k2, _, _, hf, e⟩ | ⟨_, e⟩
    · rw [show k = k2 by omega]; exact hf
    · omega
  rw [hk2]
  refine ⟨hkl, ?_⟩
  rw [liveB_eq hr hkl]
  congr 2
  refine any_bad _ _ _ fun y hy => ?_
  unfold toldL
  rw [free_needs hf y hy]
  simp

set_option maxRecDepth 100000 in
set_option maxHeartbeats 4000000 in
theorem gLive_any (pv gv ov : Value) (ts : List (Int × List Int)) (gs : List Grp) (ofs : List Int) (w : World) (hp : PlanAt w pv ts) (hg : GrpsAt w gv gs) (ho : IntsAt w ov ofs) :
    Calls Try.prog 7 #[pv, gv, ov] w fun e w' => LiveOut ts gs ofs e w' ∧ Below w.heap.size w w' := by
  have HP : Hid (PlanAt w pv ts) := hp
  have HG : Hid (GrpsAt w gv gs) := hg
  have HO : Hid (IntsAt w ov ofs) := ho
  have hor := order_any pv ts w hp
  obtain ⟨hl, ga, gc, rfl, hg⟩ := hg
  clear hg
  obtain ⟨hpl, pa, pc, rfl, hp⟩ := hp
  clear hp
  obtain ⟨hol, oa, oc, rfl, ho⟩ := ho
  clear ho
  go_enter Try.func7, Try.ntmps7
  go_wp2_with fail
  refine hor.mono ?_
  clear hor
  rintro e w1 ⟨⟨p, q, hc, h⟩, hb1⟩
  rcases h with ⟨hq, rfl⟩ | ⟨hq, ord, rv, rfl, hord, hri⟩
  · have HF : Hid (∀ u w', u = errV q → LiveOut ts gs ofs (.returned (.tuple #[.slice none 0 0, u])) w') := fun u w' hu => ⟨p, q, hc, Or.inl (by unfold liveErr; rw [if_neg hq]; exact ⟨hq, by rw [hu]⟩)⟩
    rw [errV_some hq] at HF ⊢
    clear hq hc HP HG HO
    go_wp2
    go_ret2
    exact ⟨HF.out _ _ rfl, hb1⟩
  · subst hq
    have hcp := checkPlaces_any _ _ _ ts gs ofs w1 (HP.out.later hb1) (HG.out.later hb1) (HO.out.later hb1)
    obtain ⟨hrl, ra, rc, rfl, -⟩ := id hri
    have HRI : Hid (IntsAt w1 (.slice ra (intsOf ord).length rc) (intsOf ord)) := hri
    clear hri
    by_cases hq : placesErr gs ts.length ofs = 0
    · have HF : Hid (∀ bv w', BoolsAt w' bv ts.length (liveB ts (deadG gs ofs)) → LiveOut ts gs ofs (.returned (.tuple #[bv, .nilIface])) w') := fun bv w' h => ⟨p, 0, hc, Or.inr ⟨rfl, hq, bv, rfl, h⟩⟩
      obtain ⟨h12, hr, hlen, hin⟩ := placesErr_zero hq
      obtain ⟨-, h30, herr, hno⟩ := hc.ok rfl
      have hrng := inRange_of herr
      have HOL := hord.length hrng hno
      have HALL := hord.all hrng hno
      rw [hq, errV_zero] at hcp
      rw [intsOf_length] at HRI ⊢
      have HRNG : Hid (InRange ts) := hrng
      have HORD : Hid (Ords ts ord) := hord.1
      have HALL2 : Hid (∀ k, k < ts.length → has ord k = true) := HALL
      have HIN : Hid (∀ i, i ∈ ofs → 0 ≤ i ∧ i < gs.length) := hin
      have HR : Hid (RightG gs) := hr
      have HOL2 : Hid (ord.length = ts.length) := HOL
      have HLEN : Hid (ofs.length = ts.length) := hlen
      clear hq hc hord hrng herr hno hr hin HALL HOL hlen
      go_wp2_with fail
      refine hcp.mono ?_
      clear hcp
      rintro e w2 ⟨rfl, hb2⟩
      have hb12 : Below w.heap.size w w2 := hb1.trans (hb2.mono hb1.size)
      have hmk := fun wx => run_make_row' (P := Try.prog) 34 4 (.bool false) 1 Try.underlying34 Try.info4 rfl .i64 .i64 ts.length (by omega) (by omega) wx
      go_wp2
      go_loopw [36] (fun s36 wr => ∃ m : Nat, m ≤ ord.length ∧ s36 = .int .i64 m ∧ Hid (LiveMem w2.heap.size ts.length w2 wr (toldL ts (deadG gs ofs) ord m))) (fun s36 _ => ord.length - (intOf s36).toNat)
      case atStart =>
        refine ⟨0, Nat.zero_le _, rfl, ?_⟩
        exact LiveMem.start ts.length w2 (fun k => by unfold toldL has; simp)
      case round =>
        obtain ⟨m, hm, rfl, hM⟩ := hrel
        by_cases hml : m < ord.length
        · obtain ⟨hil, hlv⟩ := toldL_next (D := deadG gs ofs) HORD.out HRNG.out hml
          have hbr : Below w.heap.size w wr := hb12.trans (hM.out.below.mono hb12.size)
          have hbr1 : Below w1.heap.size w1 wr := hb2.trans (hM.out.below.mono hb2.size)
          obtain ⟨-, a3, c3, e3, hoc⟩ := HRI.out.later hbr1
          simp only [Value.slice.injEq] at e3
          obtain ⟨rfl, -, rfl⟩ := e3
          rcases hoc with h0 | ⟨ob, oo, rfl, hobl, hoc⟩
          · exfalso
            have h1 := congrArg List.length h0
            rw [intsOf_length, List.length_nil] at h1
            omega
          have hoi := hoc m (by rw [intsOf_length]; exact hml)
          rw [intsOf_getD] at hoi
          clear hoc
          obtain ⟨i, hi⟩ : ∃ i, i = ord.getD m 0 := ⟨_, rfl⟩
          rw [← hi] at hoi hil hlv
          obtain ⟨-, a4, c4, e4, hfc⟩ := HO.out.later hbr
          simp only [Value.slice.injEq] at e4
          obtain ⟨rfl, -, rfl⟩ := e4
          rcases hfc with h0 | ⟨fb, fo, rfl, hfbl, hfc⟩
          · exfalso
            have h1 := congrArg List.length h0
            rw [HLEN.out, List.length_nil] at h1
            omega
          have hfi := hfc i (by rw [HLEN.out]; exact hil)
          clear hfc
          have hgi : 0 ≤ ofs.getD i 0 ∧ ofs.getD i 0 < gs.length := by
            refine HIN.out _ ?_
            rw [List.getD_eq_getElem?_getD, List.getElem?_eq_getElem (by rw [HLEN.out]; exact hil)]
            exact List.getElem_mem _
          obtain ⟨j, hj⟩ := Int.eq_ofNat_of_zero_le hgi.1
          have hdj : deadG gs ofs i = goneG gs j := by unfold deadG; rw [hj, Int.toNat_natCast]
          rw [hj] at hfi hgi
          have hjl : j < gs.length := by omega
          have hgo : ∀ q, Calls Try.prog 14 #[.slice ga gs.length gc, .int .i64 j] (wr.drewN q) fun e w' => e = .returned (.bool (goneG gs j)) ∧ w' = wr.drewN q := fun q => ggone_any _ gs j (wr.drewN q) (GrpsAt.drewN (HG.out.later hbr) q) HR.out hjl
          obtain ⟨-, a5, c5, e5, hpc⟩ := HP.out.later hbr
          simp only [Value.slice.injEq] at e5
          obtain ⟨rfl, -, rfl⟩ := e5
          rcases hpc with h0 | ⟨pb, po, rfl, hpbl, hpc⟩
          · exfalso
            subst h0
            simp at hil
          obtain ⟨hp1, nv, hp2, hin⟩ := hpc i hil
          clear hpc
          have hcf : ∀ q, Calls Try.prog 18 #[nv, .func (.func 17) #[] #[.pointer (some ⟨w2.heap.size + 1, 0, none⟩)]] (wr.drewN q) fun e w' => e = .returned (.bool ((needsOf ts i).any (fun y => !toldL ts (deadG gs ofs) ord m y.toNat))) ∧ w' = wr.drewN q := fun q =>
            containsFunc_any nv (needsOf ts i) 17 _ _ (wr.drewN q) (IntsAt.drewN hin q) ⟨entersLV, fun x hx => lclosure_any x ts.length _ _ _ _ (hM.out.drewN q).box (hM.out.drewN q).bools (HRNG.out i hil x hx).1 (HRNG.out i hil x hx).2⟩
          obtain ⟨a6, c6, rfl⟩ : ∃ a6 c6, nv = .slice a6 (needsOf ts i).length c6 := by
            obtain ⟨_, a6, c6, h, _⟩ := hin
            exact ⟨a6, c6, h⟩
          have hbox := hM.out.box
          have hcell := hM.out.row.cell hil
          have hfz := hM.out.row.frozen i
          have HSET : Hid (∀ b : Bool, b = (!goneG gs j && !(needsOf ts i).any (fun y => !toldL ts (deadG gs ofs) ord m y.toNat)) → ∀ q, LiveMem w2.heap.size ts.length w2 ((wr.drewN q).setCell ⟨w2.heap.size, i, none⟩ (.bool b)) (toldL ts (deadG gs ofs) ord (m + 1))) := fun b hb q => by
            rw [← hdj, ← hlv] at hb
            refine ((hM.out.drewN q).set i b).congr fun k _ => ?_
            rw [hb, hi]
            exact toldL_step hml k
          have hio : i < ofs.length := by rw [HLEN.out]; exact hil
          have hm30 : m < 30 := by have := HOL2.out; omega
          have hne1 : ¬ w2.heap.size = fb := by
            have h1 := HO.out.lt (by omega)
            have h2 := hb12.size
            omega
          have hne2 : ¬ w2.heap.size = pb := by
            have h1 := HP.out.lt (by omega)
            have h2 := hb12.size
            omega
          clear hlv hdj hi hin hj hgi hM hbr hbr1
          generalize (needsOf ts i).any (fun y => !toldL ts (deadG gs ofs) ord m y.toNat) = aa at *
          generalize goneG gs j = gg at *
          generalize toldL ts (deadG gs ofs) ord m i = old at *
          generalize (ts.getD i (0, [])).1 = wk at *
          generalize (needsOf ts i).length = nl at *
          cases gg
          · cases aa
            · go_wp2
              go_region_held3 (fun W => W.cell? ⟨w2.heap.size + 1, 0, none⟩ = some (.slice (some ⟨w2.heap.size, 0, none⟩) ts.length ts.length) ∧ W.cell? ⟨fb, fo + i, none⟩ = some (.int .i64 j) ∧ W.cell? ⟨pb, po + i * 2 + 1, none⟩ = some (.slice a6 nl c6)) (go_keep) (first | (go_at_call 14; refine (hgo _).mono ?_; rintro e w' ⟨rfl, rfl⟩) | (go_at_call 18; refine (hcf _).mono ?_; rintro e w' ⟨rfl, rfl⟩))
              all_goals
                go_wp2
                go_roundw
                case rel => exact ⟨m + 1, by omega, by go_num, HSET.out _ rfl _⟩
                case measure => simp [intOf]; omega
            · go_wp2
              go_region_held3 (fun W => W.cell? ⟨w2.heap.size + 1, 0, none⟩ = some (.slice (some ⟨w2.heap.size, 0, none⟩) ts.length ts.length) ∧ W.cell? ⟨fb, fo + i, none⟩ = some (.int .i64 j) ∧ W.cell? ⟨pb, po + i * 2 + 1, none⟩ = some (.slice a6 nl c6)) (go_keep) (first | (go_at_call 14; refine (hgo _).mono ?_; rintro e w' ⟨rfl, rfl⟩) | (go_at_call 18; refine (hcf _).mono ?_; rintro e w' ⟨rfl, rfl⟩))
              all_goals
                go_wp2
                go_roundw
                case rel => exact ⟨m + 1, by omega, by go_num, HSET.out _ rfl _⟩
                case measure => simp [intOf]; omega
          · go_wp2
            obtain ⟨W, hW⟩ : ∃ W : World, W = { wr with drawn := wr.drawn + 1 } := ⟨_, rfl⟩
            have HS : W.cell? ⟨w2.heap.size + 1, 0, none⟩ = some (.slice (some ⟨w2.heap.size, 0, none⟩) ts.length ts.length) ∧ W.cell? ⟨fb, fo + i, none⟩ = some (.int .i64 j) := by rw [hW]; exact ⟨hbox, hfi⟩
            have hgoW : Calls Try.prog 14 #[.slice ga gs.length gc, .int .i64 j] W fun e w' => e = .returned (.bool true) ∧ w' = W := by rw [hW]; exact hgo 1
            have hcellW : W.cell? ⟨w2.heap.size, i, none⟩ = some (.bool old) := by rw [hW]; exact hcell
            have hfzW : W.frozen? ⟨w2.heap.size, i, none⟩ = false := by rw [hW]; exact hfz
            have HSETW : Hid (LiveMem w2.heap.size ts.length w2 (W.setCell ⟨w2.heap.size, i, none⟩ (.bool false)) (toldL ts (deadG gs ofs) ord (m + 1))) := by rw [hW]; exact HSET.out false rfl 1
            have HS2 : (W.setCell ⟨w2.heap.size, i, none⟩ (.bool false)).cell? ⟨w2.heap.size + 1, 0, none⟩ = some (.slice (some ⟨w2.heap.size, 0, none⟩) ts.length ts.length) ∧ (W.setCell ⟨w2.heap.size, i, none⟩ (.bool false)).cell? ⟨fb, fo + i, none⟩ = some (.int .i64 j) :=
              ⟨(World.cell?_setCell_other _ _ _ _ (fun e => by have := congrArg Addr.block e; simp at this)).trans HS.1, (World.cell?_setCell_other _ _ _ _ (fun e => hne1 (congrArg Addr.block e))).trans HS.2⟩
            refine wp_region_held (S := fun W' => W'.cell? ⟨w2.heap.size + 1, 0, none⟩ = some (.slice (some ⟨w2.heap.size, 0, none⟩) ts.length ts.length) ∧ W'.cell? ⟨fb, fo + i, none⟩ = some (.int .i64 j)) (by kernel_rfl) ?_
            rw [← hW]
            clear hW hgo hcf hcell hfz HSET hbox hfi hp1 hp2
            refine wpAnyJ_take (i := 0) (v := ?v0) (some 40) rfl rfl (by kernel_rfl) (by kernel_rfl) (by kernel_rfl) (fun _ _ _ h => h) (Or.inl ⟨by rfl, ?hy0⟩) HS ?_
            case hy0 =>
              intro wz hSz
              obtain ⟨hSz0, hSz2⟩ := hSz
              go_simp
              try rfl
            refine wpAnyJ_take (i := 1) (v := ?v1) (some 41) rfl rfl (by kernel_rfl) (by kernel_rfl) (by kernel_rfl) (fun _ _ _ h => h) (Or.inl ⟨by rfl, ?hy1⟩) HS ?_
            case hy1 =>
              intro wz hSz
              obtain ⟨hSz0, hSz2⟩ := hSz
              go_simp
              try rfl
            refine wpAnyJ_take (i := 2) (v := ?v2) (some 42) rfl rfl (by kernel_rfl) (by kernel_rfl) (by kernel_rfl) (fun _ _ _ h => h) (Or.inl ⟨by rfl, ?hy2⟩) HS ?_
            case hy2 =>
              intro wz hSz
              obtain ⟨hSz0, hSz2⟩ := hSz
              go_simp
              try rfl
            refine wpAnyJ_take (i := 3) (v := ?v3) (some 43) rfl rfl (by kernel_rfl) (by kernel_rfl) (by kernel_rfl) (fun _ _ _ h => h) (Or.inl ⟨by rfl, ?hy3⟩) HS ?_
            case hy3 =>
              intro wz hSz
              obtain ⟨hSz0, hSz2⟩ := hSz
              go_simp
              try rfl
            refine wpAnyJ_take (i := 4) (v := ?v4) (some 44) rfl rfl (by kernel_rfl) (by kernel_rfl) (by kernel_rfl) (fun _ _ _ h => h) (Or.inl ⟨by rfl, ?hy4⟩) HS ?_
            case hy4 =>
              intro wz hSz
              obtain ⟨hSz0, hSz2⟩ := hSz
              go_simp
              try rfl
            refine wpAnyJ_take (i := 5) (v := ?v5) (some 45) rfl rfl (by kernel_rfl) (by kernel_rfl) (by kernel_rfl) (fun _ _ _ h => h) (Or.inl ⟨by rfl, ?hy5⟩) HS ?_
            case hy5 =>
              intro wz hSz
              obtain ⟨hSz0, hSz2⟩ := hSz
              go_simp
              try rfl
            refine wpAnyJ_take (i := 6) (v := ?v6) (some 46) rfl rfl (by kernel_rfl) (by kernel_rfl) (by kernel_rfl) (fun _ _ _ h => h) (Or.inl ⟨by rfl, ?hy6⟩) HS ?_
            case hy6 =>
              intro wz hSz
              obtain ⟨hSz0, hSz2⟩ := hSz
              go_simp
              try rfl
            refine wpAnyH_all (rs := [7]) (by kernel_rfl) (by simp) (fun jj hjj => ?_)
            obtain rfl := List.mem_singleton.1 hjj
            refine wpOpJ_call (f := 14) (args := #[.slice ga gs.length gc, .int .i64 j]) (some 47) rfl rfl (by rfl) ?hcall ?_
            case hcall => go_simp
            refine hgoW.mono ?_
            rintro e W2 ⟨rfl, rfl⟩
            refine ⟨HS, ?_⟩
            simp only [Act.put, List.setIfInBounds_toArray, List.set_cons_zero, List.set_cons_succ]
            refine wpAnyJ_take (i := 8) (v := ?v8) (some 48) rfl rfl (by kernel_rfl) (by kernel_rfl) (by kernel_rfl) (fun _ _ _ h => h) (Or.inl ⟨by rfl, ?hy8⟩) HS ?_
            case hy8 =>
              intro wz hSz
              obtain ⟨hSz0, hSz2⟩ := hSz
              go_simp
              try rfl
            simp only [Act.put, List.setIfInBounds_toArray, List.set_cons_zero, List.set_cons_succ]
            refine wpAnyJ_take (i := 9) (v := ?v9) (some 49) rfl rfl (by kernel_rfl) (by kernel_rfl) (by kernel_rfl) (fun _ _ _ h => h) (Or.inl ⟨by rfl, ?hy9⟩) HS ?_
            case hy9 =>
              intro wz hSz
              obtain ⟨hSz0, hSz2⟩ := hSz
              go_simp
              try rfl
            simp only [Act.put, List.setIfInBounds_toArray, List.set_cons_zero, List.set_cons_succ]
            refine wpAnyJ_take (i := 10) (v := undef) (some 50) rfl rfl (by kernel_rfl) (by kernel_rfl) (by kernel_rfl) (fun _ _ _ h => h) (Or.inr ⟨by rfl, rfl⟩) HS ?_
            simp only [Act.put, List.setIfInBounds_toArray, List.set_cons_zero, List.set_cons_succ]
            refine wpAnyJ_take (i := 11) (v := undef) (some 51) rfl rfl (by kernel_rfl) (by kernel_rfl) (by kernel_rfl) (fun _ _ _ h => h) (Or.inr ⟨by rfl, rfl⟩) HS ?_
            simp only [Act.put, List.setIfInBounds_toArray, List.set_cons_zero, List.set_cons_succ]
            refine wpAnyJ_take (i := 12) (v := undef) (some 52) rfl rfl (by kernel_rfl) (by kernel_rfl) (by kernel_rfl) (fun _ _ _ h => h) (Or.inr ⟨by rfl, rfl⟩) HS ?_
            simp only [Act.put, List.setIfInBounds_toArray, List.set_cons_zero, List.set_cons_succ]
            refine wpAnyJ_take (i := 13) (v := undef) (some 53) rfl rfl (by kernel_rfl) (by kernel_rfl) (by kernel_rfl) (fun _ _ _ h => h) (Or.inr ⟨by rfl, rfl⟩) HS ?_
            simp only [Act.put, List.setIfInBounds_toArray, List.set_cons_zero, List.set_cons_succ]
            refine wpAnyJ_take (i := 14) (v := undef) (some 54) rfl rfl (by kernel_rfl) (by kernel_rfl) (by kernel_rfl) (fun _ _ _ h => h) (Or.inr ⟨by rfl, rfl⟩) HS ?_
            simp only [Act.put, List.setIfInBounds_toArray, List.set_cons_zero, List.set_cons_succ]
            refine wpAnyJ_take (i := 15) (v := undef) (some 55) rfl rfl (by kernel_rfl) (by kernel_rfl) (by kernel_rfl) (fun _ _ _ h => h) (Or.inr ⟨by rfl, rfl⟩) HS ?_
            simp only [Act.put, List.setIfInBounds_toArray, List.set_cons_zero, List.set_cons_succ]
            refine wpAnyJ_take (i := 16) (v := undef) (some 56) rfl rfl (by kernel_rfl) (by kernel_rfl) (by kernel_rfl) (fun _ _ _ h => h) (Or.inr ⟨by rfl, rfl⟩) HS ?_
            simp only [Act.put, List.setIfInBounds_toArray, List.set_cons_zero, List.set_cons_succ]
            refine wpAnyJ_take (i := 17) (v := undef) (some 57) rfl rfl (by kernel_rfl) (by kernel_rfl) (by kernel_rfl) (fun _ _ _ h => h) (Or.inr ⟨by rfl, rfl⟩) HS ?_
            simp only [Act.put, List.setIfInBounds_toArray, List.set_cons_zero, List.set_cons_succ]
            refine wpAnyJ_take (i := 18) (v := ?v18) (some 58) rfl rfl (by kernel_rfl) (by kernel_rfl) (by kernel_rfl) (fun _ _ _ h => h) (Or.inl ⟨by rfl, ?hy18⟩) HS ?_
            case hy18 =>
              intro wz hSz
              obtain ⟨hSz0, hSz2⟩ := hSz
              go_simp
              try rfl
            simp only [Act.put, List.setIfInBounds_toArray, List.set_cons_zero, List.set_cons_succ]
            refine wpAnyJ_take (i := 19) (v := ?v19) (some 59) rfl rfl (by kernel_rfl) (by kernel_rfl) (by kernel_rfl) (fun _ _ _ h => h) (Or.inl ⟨by rfl, ?hy19⟩) HS ?_
            case hy19 =>
              intro wz hSz
              obtain ⟨hSz0, hSz2⟩ := hSz
              go_simp
              try rfl
            simp only [Act.put, List.setIfInBounds_toArray, List.set_cons_zero, List.set_cons_succ]
            refine wpAnyJ_skip (i := 20) (w' := W2.setCell ⟨w2.heap.size, i, none⟩ (.bool false)) none (by kernel_rfl) rfl rfl (by rfl) ?hx20 HS2 ?_
            case hx20 =>
              go_simp
              try rfl
            refine wpAnyH_done (by kernel_rfl) ?_ _
            clear HS HS2 hcellW hfzW hjj hgoW
            simp only [Act.put]
            go_wp2
            go_roundw
            case rel => exact ⟨m + 1, by omega, by go_num, HSETW⟩
            case measure => simp [intOf]; omega
        · have hmo : m = ord.length := by omega
          subst hmo
          have HL : Hid (LiveMem w2.heap.size ts.length w2 wr (liveB ts (deadG gs ofs))) := hM.out.congr (fun k hk => by unfold toldL; rw [List.take_length, HALL2.out k hk]; rfl)
          have hbox := HL.out.box
          have hbr : Below w.heap.size w wr := hb12.trans (HL.out.below.mono hb12.size)
          clear hM HRI HP HG HO
          go_wp2
          go_ret2
          exact ⟨HF.out _ _ HL.out.bools, hbr⟩
    · have HF : Hid (∀ u w', u = errV (placesErr gs ts.length ofs) → LiveOut ts gs ofs (.returned (.tuple #[.slice none 0 0, u])) w') := fun u w' hu => ⟨p, 0, hc, Or.inl (by unfold liveErr; rw [if_pos rfl]; exact ⟨hq, by rw [hu]⟩)⟩
      rw [errV_some hq] at HF hcp
      clear hq hc HP HG HO HRI hord
      generalize placesErr gs ts.length ofs = q at *
      go_wp2_with (go_at_call 16; refine hcp.mono ?_; rintro e w2 ⟨rfl, hb2⟩)
      go_ret2
      exact ⟨HF.out _ _ rfl, hb1.trans (hb2.mono hb1.size)⟩
end Go.Proofs.Ytkbcjhmcbfppkaa
