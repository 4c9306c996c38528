/- The contract of depth.Tails. The contracts of depth.Span and depth.Longest. The contract of depth.Work. The contracts of greedy.Long and greedy.Bound. Plain: the plan that DepthWay lays itself, its longest way; orders are one. -/
import Derived.Test.YtlfbdjeojgbniaaGreatDoorRcm07
import Derived.Test.YtlfbdjeojgbniaaGreatDoorRcm14

namespace Go.Proofs.YtlfbdjeojgbniaaGreatDoor
open Go.RowKit Go.Deep Go.Shelf

attribute [local go_sem] Oper.semAt_some

/-- Tails along tasks, one behind the other. -/
def tailsAlong (ts : List (Int × List Int)) : List (Nat × Nat) → Nat → Int
  | l => l.foldl (fun T x => tailIn ts x.2 T (needsOf ts x.2).length) (fun _ => 0)
theorem tailsAlong_snoc (ts : List (Int × List Int)) (l : List (Nat × Nat)) (x : Nat × Nat) : tailsAlong ts (l ++ [x]) = tailIn ts x.2 (tailsAlong ts l) (needsOf ts x.2).length := by
  simp [tailsAlong]
theorem tailsAlong_backs (ts : List (Int × List Int)) (ord : List Nat) : ∀ k, tailsAlong ts (backs (fun q => ord.getD q 0) ord.length k) = tailAll ts ord k := by
  intro k
  induction k with
  | zero => rfl
  | succ k ih =>
    rw [show backs (fun q => ord.getD q 0) ord.length (k + 1) = backs (fun q => ord.getD q 0) ord.length k ++ [(ord.length - 1 - k, ord.getD (ord.length - 1 - k) 0)] from rfl, tailsAlong_snoc, ih]
    rfl
theorem tailIn_low {ts : List (Int × List Int)} (_ : InRange ts) (hw : ∀ x, x < ts.length → 1 ≤ wkOf ts x ∧ wkOf ts x ≤ 20) {x : Nat} (hx : x < ts.length) {T : Nat → Int} {b : Int} (hT : ∀ y, 0 ≤ T y ∧ T y ≤ b) :
    ∀ k, k ≤ (needsOf ts x).length → ∀ y, 0 ≤ tailIn ts x T k y ∧ tailIn ts x T k y ≤ b + 20 := by
  intro k
  induction k with
  | zero =>
    intro _ y
    have h1 := hw x hx
    have h2 := hT x
    by_cases e : y = x
    · subst e; rw [tailIn, upd_at]; omega
    · rw [tailIn, upd_ne _ _ e]; have := hT y; omega
  | succ k ih =>
    intro hk y
    have hi := ih (by omega)
    have h1 := hi (nd ts x k)
    have h2 := hi x
    by_cases e : y = nd ts x k
    · subst e; rw [tailIn, upd_at]; omega
    · rw [tailIn, upd_ne _ _ e]; exact hi y
theorem tailsAlong_low {ts : List (Int × List Int)} (hr : InRange ts) (hw : ∀ x, x < ts.length → 1 ≤ wkOf ts x ∧ wkOf ts x ≤ 20) : ∀ (l : List (Come ts.length)), ∀ y, 0 ≤ tailsAlong ts (l.map Subtype.val) y ∧ tailsAlong ts (l.map Subtype.val) y ≤ 20 * l.length := by
  have key : ∀ n (l : List (Come ts.length)), l.length = n → ∀ y, 0 ≤ tailsAlong ts (l.map Subtype.val) y ∧ tailsAlong ts (l.map Subtype.val) y ≤ 20 * l.length := by
    intro n
    induction n with
    | zero => intro l hl y; rw [List.eq_nil_of_length_eq_zero hl]; simp [tailsAlong]
    | succ n ih =>
      intro l hl
      rcases List.eq_nil_or_concat l with rfl | ⟨l', x, rfl⟩
      · simp at hl
      rw [List.concat_eq_append] at *
      have hl' : l'.length = n := by simpa using hl
      intro y
      have := tailIn_low hr hw x.2 (ih l' hl') (needsOf ts x.1.2).length (Nat.le_refl _) y
      rw [List.map_append, List.map_singleton, tailsAlong_snoc]
      simp only [List.length_append, List.length_singleton]
      omega
  exact fun l => key _ l rfl

theorem wrap_fits {n : Int} (h0 : 0 ≤ n) (h1 : n < 9223372036854775808) : IntKind.i64.wrap n = n := by rw [IntKind.wrap_i64]; omega

/-- What Tails' memory is in a round that began in W: the row in block N, its box, the iterator's box. -/
structure TailMem (N n : Nat) (w1 W wr : World) (f : Nat → Int) : Prop where
  row : wr.rowIs N 3 n (intRow f)
  box : Boxed wr (N + 1) 73 (.slice (some ⟨N, 0, none⟩) n n)
  below : Below N w1 wr
  keeps : KeepsOthers W wr
  kept : KeepB (N + 2) N W wr

theorem TailMem.set {N n x : Nat} {w1 W wr : World} {f : Nat → Int} {v : Int} (h : TailMem N n w1 W wr f) : TailMem N n w1 W (wr.setCell ⟨N, x, none⟩ (.int .i64 v)).drew (upd f x v) := {
  row := (row_upd h.row).drew
  box := (Below.heap_setCell wr ⟨N, x, none⟩ (.int .i64 v) (N + 1) (by show N + 1 ≠ N; omega)).trans h.box
  below := (h.below.setCell (p := ⟨N, x, none⟩) (Nat.le_refl _) _).drew
  keeps := (h.keeps.trans (KeepsOthers.setCell _ _ _)).trans (KeepsOthers.drew _)
  kept := ⟨(h.kept.1.setCell (p := ⟨N, x, none⟩) (Nat.le_refl _) _).drew, (Below.heap_setCell wr ⟨N, x, none⟩ (.int .i64 v) (N + 2) (by show N + 2 ≠ N; omega)).trans h.kept.2⟩
  }

theorem row_own {β : Type} (b t n : Nat) (f : β → Nat → Value) : Own (fun s W => W.rowIs b t n (f s)) := fun s X Y row hs hg hr => by
  refine hs.of_block (hg.block b hs.lt (fun e => ?_))
  obtain ⟨o, ho, hc⟩ := hr b e.symm
  obtain ⟨cc, hb, _⟩ := hs
  rw [hb] at ho
  cases ho; cases hc

set_option maxRecDepth 100000 in
set_option maxHeartbeats 8000000 in
theorem tails_in (v : Value) (ts : List (Int × List Int)) (w : World) (hp : PlanAt w v ts) :
    CallsIn Fence.wide 4 Tryz.prog 153 #[v] w fun e w' => ((∃ p q, q ≠ 0 ∧ CheckIs ts p q ∧ e = .returned (.tuple #[.slice none 0 0, errV q])) ∨
      (CheckIs ts 0 0 ∧ ∃ ord rv, OrdIs ts ord ∧ e = .returned (.tuple #[rv, .nilIface]) ∧ IntsAt w' rv (listOf (tailsOf ts ord) ts.length))) ∧ Below w.heap.size w w' := by
  have HP : Hid (PlanAt w v ts) := hp
  obtain ⟨hl, a, c, rfl, hp⟩ := hp
  clear hp
  have hbB : Below w.heap.size w (w.alloc (.cells #[.slice a ts.length c] 27)) := (Below.refl _ _).alloc (Nat.le_refl _) _
  have hck := order_back _ ts _ (HP.out.later hbB)
  have hmk := fun wx => run_make_row' (P := Tryz.prog) 73 3 (.int .i64 0) 8 Tryz.underlying73 Tryz.info3 rfl .i64 .i64 ts.length (by omega) (by omega) wx
  refine callsIn_of_wp_marks Tryz.func153 rfl trivial ?_ rfl
  simp only [Tryz.ntmps153, List.size_toArray, List.length_cons, List.length_nil, Nat.reduceAdd, Nat.reduceSub, Array.replicate_succ, Array.replicate_zero, List.push_toArray, List.append_toArray, List.nil_append, List.cons_append]
  gi_wp2_with fail
  refine ⟨trivial, (callsIn_wide.2 hck).mono ?_⟩
  rintro e w1 ⟨h, hb1⟩
  clear hck
  have hb2 : Below w.heap.size w w1 := hbB.trans (hb1.mono hbB.size)
  rcases h with ⟨p, q, hq, hc, rfl⟩ | ⟨hc, ord, ov, rfl, ho, hi⟩
  · have hev := errV_some hq
    rw [hev]
    have HV : Hid (errV q = .iface 97 (.int .i64 q)) := hev
    clear hev
    gi_wp2
    exact ⟨_, results_tmp2 rfl _ _ _, Or.inl ⟨p, q, hq, hc, by rw [HV.out]; rfl⟩, hb2⟩
  · have hd := Ready.of hc ho
    have HD : Hid (Ready ts ord) := hd
    have HO : Hid (OrdIs ts ord) := ho
    have HCK : Hid (CheckIs ts 0 0) := hc
    have h30 := hd.small
    have hlen := hd.len
    have hboxP : w1.cell? ⟨w.heap.size, 0, none⟩ = some (.slice a ts.length c) := (hb1.cell (p := ⟨w.heap.size, 0, none⟩) (by simp)).trans (by simp)
    have hbP : w.heap.size < w1.heap.size := by have := hb1.size; simp at this; omega
    have hpw := HP.out.later hb2
    obtain ⟨_, a', c', hva, hpc⟩ := hpw
    obtain ⟨rfl, -, rfl⟩ : a = a' ∧ True ∧ c = c' := by simp at hva; exact ⟨hva.1, trivial, hva.2⟩
    clear hva
    obtain ⟨_, oa, oc, rfl, hoc⟩ := hi
    rw [intsOf_length, hlen] at hoc ⊢
    have HOC : Hid (∀ m, m < ts.length → ∃ b o, oa = some ⟨b, o, none⟩ ∧ b < w1.heap.size ∧ w1.cell? ⟨b, o + m, none⟩ = some (.int .i64 (ord.getD m 0 : Nat))) := fun m hm => by
      rcases hoc with h | ⟨b, o, h1, h2, h3⟩
      · have := congrArg List.length h
        rw [intsOf_length, hlen, List.length_nil] at this
        omega
      · exact ⟨b, o, h1, h2, by have := h3 m hm; rwa [intsOf_getD] at this⟩
    have HPC : Hid (∀ k, k < ts.length → ∃ b o nv, a = some ⟨b, o, none⟩ ∧ b < w1.heap.size ∧ w1.cell? ⟨b, o + k * 2, none⟩ = some (.int .i64 (wkOf ts k)) ∧ w1.cell? ⟨b, o + k * 2 + 1, none⟩ = some nv ∧ IntsAt w1 nv (needsOf ts k)) := fun k hk => by
      rcases hpc with h | ⟨b, o, h1, h2, h3⟩
      · subst h; simp at hk
      · obtain ⟨g1, nv, g2, g3⟩ := h3 k hk
        exact ⟨b, o, nv, h1, h2, g1, g2, g3⟩
    clear hoc hpc hc ho hd
    gi_wp2_with fail
    refine ⟨trivial, (back_in Fence.wide 3 trivial rfl _ _ _ _).mono ?_⟩
    rintro e w' ⟨rfl, rfl⟩
    gi_wp2
    have bT := Boxed.new (w1.alloc (.cells (madeCells #[.int .i64 0] ts.length) 3)) 73 (.slice (some ⟨w1.heap.size, 0, none⟩) ts.length ts.length)
    have bS := Boxed.new ((w1.alloc (.cells (madeCells #[.int .i64 0] ts.length) 3)).alloc (.cells #[.slice (some ⟨w1.heap.size, 0, none⟩) ts.length ts.length] 73)) 73 (.slice oa ts.length oc)
    have hr0 := (World.rowIs_made w1 (.int .i64 0) ts.length 3)
    have hB0 : Below w1.heap.size w1 (((w1.alloc (.cells (madeCells #[.int .i64 0] ts.length) 3)).alloc (.cells #[.slice (some ⟨w1.heap.size, 0, none⟩) ts.length ts.length] 73)).alloc (.cells #[.slice oa ts.length oc] 73)) :=
      (((Below.refl _ _).alloc (Nat.le_refl _) _).alloc (by simp) _).alloc (by simp; omega) _
    simp only [World.size_alloc, Nat.add_assoc, Nat.reduceAdd] at bT bS
    refine wpIn_rangeFunc_ownG rfl (by decide) (gf := 203) (lb := #[.pointer (some ⟨w1.heap.size + 2, 0, none⟩)]) rfl trivial (enters_of Tryz.func203 (by kernel_rfl) rfl)
      (back_stops Fence.wide 3 trivial rfl (by decide) (w1.heap.size + 2) w1.heap.size ts.length oc ts.length oa (fun q => ord.getD q 0) (by omega) (fun q hq => HD.out.lt q (by omega)) _ (by simp) (by simp; omega) bS.cell
        (fun q hq => by obtain ⟨b, o, h1, h2, h3⟩ := HOC.out q hq; exact ⟨b, o, h1, h2, (hB0.cell (p := ⟨b, o + q, none⟩) h2).trans h3⟩))
      keepB_t (keepB_b (by simp; omega) (by simp)) (Below.refl _ _) (fun _ => rfl)
      (fun pre W => (W.rowIs w1.heap.size 3 ts.length (intRow (tailsAlong ts (pre.map Subtype.val))) ∧ Boxed W (w1.heap.size + 1) 73 (.slice (some ⟨w1.heap.size, 0, none⟩) ts.length ts.length)) ∧ Below w1.heap.size w1 W)
      (fun _ _ _ => False)
      (OwnFrom.and (OwnFrom.and (Own.from (row_own _ _ _ _) _) (Own.from (boxed_own _ _ _) _)) (ownFrom_below (Nat.le_refl _) (by simp; omega)))
      (fun _ _ _ _ _ hs _ _ => hs)
      ⟨⟨((hr0.alloc _).alloc _).congr (fun k _ => rfl), bT.alloc _⟩, hB0⟩
      (fun x => { tmps := #[.slice a ts.length c, .pointer (some ⟨w.heap.size, 0, none⟩), .slice none 0 0, .nilIface, .slice oa ts.length oc, .nilIface, .pointer (some ⟨w1.heap.size + 1, 0, none⟩), undef, .int .i64 (x.1.2 : Nat), undef, undef, .tuple #[.slice oa ts.length oc, .nilIface], .slice a ts.length c, .tuple #[.slice oa ts.length oc, .nilIface], .slice oa ts.length oc, .nilIface, .nilIface, .bool false, undef, .slice a ts.length c, .int .i64 (ts.length : Nat), .slice (some ⟨w1.heap.size, 0, none⟩) ts.length ts.length, .slice oa ts.length oc, .func (.func 203) #[] #[.pointer (some ⟨w1.heap.size + 2, 0, none⟩)], .int .i64 (x.1.1 : Nat), .int .i64 (x.1.2 : Nat), undef, undef, undef, undef, undef, undef, undef, undef, undef, undef, undef, undef, undef, undef, undef, undef, undef, undef, undef, undef, undef, undef, undef, undef, undef, undef, undef, undef, undef, undef, undef, undef, undef, undef, undef], defers := [] }) ?assign ?body ?done ?stop
    case assign =>
      intro l x W K hK
      gi_wp2
      exact hK
    case body =>
      rintro l pre x W ⟨⟨hrow, hbox⟩, hB⟩ hlp
      have hxl : x.1.2 < ts.length := x.2
      have hlow := tailsAlong_low HD.out.rng HD.out.wk pre
      have HN : Hid (tailsAlong ts ((pre ++ [x]).map Subtype.val) = tailIn ts x.1.2 (tailsAlong ts (pre.map Subtype.val)) (needsOf ts x.1.2).length) := by show tailsAlong ts ((pre ++ [x]).map Subtype.val) = _; rw [List.map_append, List.map_singleton, tailsAlong_snoc]
      have HL : Hid (∀ k, k ≤ (needsOf ts x.1.2).length → ∀ y, 0 ≤ tailIn ts x.1.2 (tailsAlong ts (pre.map Subtype.val)) k y ∧ tailIn ts x.1.2 (tailsAlong ts (pre.map Subtype.val)) k y ≤ 620) := fun k hk y => by
        have := tailIn_low HD.out.rng HD.out.wk hxl hlow k hk y
        omega
      have HX : Hid (∀ k, tailIn ts x.1.2 (tailsAlong ts (pre.map Subtype.val)) (k + 1) = upd (tailIn ts x.1.2 (tailsAlong ts (pre.map Subtype.val)) k) (nd ts x.1.2 k) (max (tailIn ts x.1.2 (tailsAlong ts (pre.map Subtype.val)) k (nd ts x.1.2 k)) (tailIn ts x.1.2 (tailsAlong ts (pre.map Subtype.val)) k x.1.2))) := fun k => rfl
      have HX0 : Hid (tailIn ts x.1.2 (tailsAlong ts (pre.map Subtype.val)) 0 = upd (tailsAlong ts (pre.map Subtype.val)) x.1.2 (tailsAlong ts (pre.map Subtype.val) x.1.2 + wkOf ts x.1.2)) := rfl
      have hrng : Hid (∀ k, k < (needsOf ts x.1.2).length → nd ts x.1.2 k < ts.length ∧ (needsOf ts x.1.2).getD k 0 = (nd ts x.1.2 k : Nat)) := fun k hk => by
        have := need_at HD.out.rng hxl hk
        exact ⟨this.1, (Int.toNat_of_nonneg this.2.2).symm⟩
      have hM0 : TailMem w1.heap.size ts.length w1 W W (tailsAlong ts (pre.map Subtype.val)) := ⟨hrow, hbox, hB, KeepsOthers.refl _, Below.refl _ _, rfl⟩
      obtain ⟨pb, po, nv, hpa, hpb, hp1, hp2, hin⟩ := HPC.out x.1.2 hxl
      have hl0 := hlow x.1.2
      have hwk := HD.out.wk x.1.2 hxl
      have hlp' : (pre.length : Int) < 30 := by omega
      have hcx := hrow.cell hxl
      have hfx := hrow.frozen x.1.2
      have hbc := hbox.cell
      have hbp := (hB.cell (p := ⟨w.heap.size, 0, none⟩) hbP).trans hboxP
      have hp1' := (hB.cell (p := ⟨pb, po + x.1.2 * 2, none⟩) hpb).trans hp1
      have hM1 : Hid (TailMem w1.heap.size ts.length w1 W (W.setCell ⟨w1.heap.size, x.1.2, none⟩ (.int .i64 (tailsAlong ts (pre.map Subtype.val) x.1.2 + wkOf ts x.1.2))).drew (tailIn ts x.1.2 (tailsAlong ts (pre.map Subtype.val)) 0)) := by
        show TailMem _ _ _ _ _ _
        rw [HX0.out]
        exact hM0.set
      subst hpa
      obtain ⟨hln, na, nc, rfl, hnc⟩ := hin
      unfold intRow at hcx
      clear hrow hbox hM0 HX0
      generalize tailIn ts x.1.2 (tailsAlong ts (pre.map Subtype.val)) = TK at *
      generalize tailsAlong ts (pre.map Subtype.val) = T0 at *
      generalize wkOf ts x.1.2 = wx at *
      generalize hT0x : T0 x.1.2 = tx at *
      clear hT0x hlow
      generalize hxy : x.1.2 = y at *
      obtain ⟨W2, hW2⟩ : ∃ W2, (W.setCell ⟨w1.heap.size, y, none⟩ (.int .i64 (tx + wx))).drew = W2 := ⟨_, rfl⟩
      have HW2 : Hid ((W.setCell ⟨w1.heap.size, y, none⟩ (.int .i64 (tx + wx))).drew = W2) := hW2
      rw [hW2] at hM1
      clear hW2
      have hp2' := (hM1.out.below.cell (p := ⟨pb, po + y * 2 + 1, none⟩) hpb).trans hp2
      have hbp2 := (hM1.out.below.cell (p := ⟨w.heap.size, 0, none⟩) hbP).trans hboxP
      have hp12 := (hM1.out.below.cell (p := ⟨pb, po + y * 2, none⟩) hpb).trans hp1
      have hbc2 := hM1.out.box.cell
      gi_wp2
      have HS : W.drew.cell? ⟨w1.heap.size + 1, 0, none⟩ = some (.slice (some ⟨w1.heap.size, 0, none⟩) ts.length ts.length) ∧ W.drew.cell? ⟨w.heap.size, 0, none⟩ = some (.slice (some ⟨pb, po, none⟩) ts.length c) ∧ W.drew.cell? ⟨pb, po + y * 2, none⟩ = some (.int .i64 wx) := ⟨hbc, hbp, hp1'⟩
      refine region_round (S := fun W' => W'.cell? ⟨w1.heap.size + 1, 0, none⟩ = some (.slice (some ⟨w1.heap.size, 0, none⟩) ts.length ts.length) ∧ W'.cell? ⟨w.heap.size, 0, none⟩ = some (.slice (some ⟨pb, po, none⟩) ts.length c) ∧ W'.cell? ⟨pb, po + y * 2, none⟩ = some (.int .i64 wx)) 12 rfl (by kernel_rfl) (by kernel_rfl) ?hL ?_
      case hL => rintro ⟨_, _, h⟩; exact h
      refine wpAnyH_take (i := 0) (v := ?v0_1) rfl (by kernel_rfl) (by kernel_rfl) (by kernel_rfl) (fun _ _ _ h => h) (Or.inl ⟨by rfl, ?hy0_1⟩) HS ?_
      case hy0_1 =>
        intro wz hSz
        obtain ⟨z0, z1, z2⟩ := hSz
        go_simp
        try rfl
      refine wpAnyH_take (i := 1) (v := ?v1_2) rfl (by kernel_rfl) (by kernel_rfl) (by kernel_rfl) (fun _ _ _ h => h) (Or.inl ⟨by rfl, ?hy1_2⟩) HS ?_
      case hy1_2 =>
        intro wz hSz
        obtain ⟨z0, z1, z2⟩ := hSz
        go_simp
        try rfl
      refine wpAnyH_take (i := 2) (v := ?v2_3) rfl (by kernel_rfl) (by kernel_rfl) (by kernel_rfl) (fun _ _ _ h => h) (Or.inl ⟨by rfl, ?hy2_3⟩) HS ?_
      case hy2_3 =>
        intro wz hSz
        obtain ⟨z0, z1, z2⟩ := hSz
        go_simp
        try rfl
      refine wpAnyH_take (i := 4) (v := ?v4_4) rfl (by kernel_rfl) (by kernel_rfl) (by kernel_rfl) (fun _ _ _ h => h) (Or.inl ⟨by rfl, ?hy4_4⟩) HS ?_
      case hy4_4 =>
        intro wz hSz
        obtain ⟨z0, z1, z2⟩ := hSz
        go_simp
        try rfl
      refine wpAnyH_take (i := 5) (v := ?v5_5) rfl (by kernel_rfl) (by kernel_rfl) (by kernel_rfl) (fun _ _ _ h => h) (Or.inl ⟨by rfl, ?hy5_5⟩) HS ?_
      case hy5_5 =>
        intro wz hSz
        obtain ⟨z0, z1, z2⟩ := hSz
        go_simp
        try rfl
      refine wpAnyH_take (i := 6) (v := ?v6_6) rfl (by kernel_rfl) (by kernel_rfl) (by kernel_rfl) (fun _ _ _ h => h) (Or.inl ⟨by rfl, ?hy6_6⟩) HS ?_
      case hy6_6 =>
        intro wz hSz
        obtain ⟨z0, z1, z2⟩ := hSz
        go_simp
        try rfl
      refine wpAnyH_take (i := 7) (v := ?v7_7) rfl (by kernel_rfl) (by kernel_rfl) (by kernel_rfl) (fun _ _ _ h => h) (Or.inl ⟨by rfl, ?hy7_7⟩) HS ?_
      case hy7_7 =>
        intro wz hSz
        obtain ⟨z0, z1, z2⟩ := hSz
        go_simp
        try rfl
      refine wpAnyH_take (i := 8) (v := ?v8_8) rfl (by kernel_rfl) (by kernel_rfl) (by kernel_rfl) (fun _ _ _ h => h) (Or.inl ⟨by rfl, ?hy8_8⟩) HS ?_
      case hy8_8 =>
        intro wz hSz
        obtain ⟨z0, z1, z2⟩ := hSz
        go_simp
        try rfl
      refine wpAnyH_run (i := 3) (v := .int .i64 tx) (w' := W.drew) (by kernel_rfl) rfl (by rfl) ?hy3_9 HS ?_
      case hy3_9 => go_simp
      refine wpAnyH_take (i := 9) (v := .int .i64 (tx + wx)) rfl (by kernel_rfl) (by kernel_rfl) (by kernel_rfl) (fun _ _ _ h => h) (Or.inl ⟨by rfl, ?hy9_10⟩) HS ?_
      case hy9_10 =>
        intro wz hSz
        obtain ⟨z0, z1, z2⟩ := hSz
        go_simp
        first | exact wrap_fits (by omega) (by omega) | (rw [wrap_fits (by omega) (by omega)])
      refine wpAnyH_take (i := 10) (v := ?v10_11) rfl (by kernel_rfl) (by kernel_rfl) (by kernel_rfl) (fun _ _ _ h => h) (Or.inl ⟨by rfl, ?hy10_11⟩) HS ?_
      case hy10_11 =>
        intro wz hSz
        obtain ⟨z0, z1, z2⟩ := hSz
        go_simp
        try rfl
      refine wpAnyH_store (i := 11) (w' := W2) (by kernel_rfl) rfl (by rfl) ?hy11_12 ⟨hbc2, hbp2, hp12⟩ ?_
      case hy11_12 =>
        go_simp
        first | exact HW2.out | rfl
      refine wpAnyH_done (by kernel_rfl) ?_ _
      clear HS hbc hbp hcx hfx hp1' hp12 HW2
      gi_wp2
      clear hp2' hbp2
      gi_loopw [43] (fun s43 wr => ∃ k : Nat, k ≤ (needsOf ts y).length ∧ s43 = .int .i64 k ∧ Hid (TailMem w1.heap.size ts.length w1 W wr (TK k))) (fun s43 _ => (needsOf ts y).length - (intOf s43).toNat)
      case atStart => exact ⟨0, Nat.zero_le _, rfl, hM1⟩
      case round =>
        clear hM1 hbc2
        obtain ⟨k, hk, rfl, hM⟩ := hrel
        by_cases hkl : k < (needsOf ts y).length
        · rcases hnc with hnc | ⟨nb, no, rfl, hnb, hnc⟩
          · rw [hnc] at hkl; simp at hkl
          obtain ⟨hzl, hzn⟩ := hrng.out k hkl
          have hnk := (hM.out.below.cell (p := ⟨nb, no + k, none⟩) hnb).trans (hnc k hkl)
          rw [hzn] at hnk
          have hst := HX.out k
          have hbz := HL.out k hk (nd ts y k)
          have hby := HL.out k hk y
          have hcz := hM.out.row.cell hzl
          have hcy := hM.out.row.cell hxl
          have hfz := hM.out.row.frozen (nd ts y k)
          have hbc := hM.out.box.cell
          have hM3 : Hid (TailMem w1.heap.size ts.length w1 W (wr.setCell ⟨w1.heap.size, nd ts y k, none⟩ (.int .i64 (if TK k (nd ts y k) < TK k y then TK k y else TK k (nd ts y k)))).drew (TK (k + 1))) := by
            show TailMem _ _ _ _ _ _
            rw [hst, ← max_if]
            exact hM.out.set
          unfold intRow at hcz hcy
          clear hzn hst hnc
          generalize TK k (nd ts y k) = tz at *
          generalize TK k y = ty at *
          generalize nd ts y k = z at *
          obtain ⟨W3, hW3⟩ : ∃ W3, (wr.setCell ⟨w1.heap.size, z, none⟩ (.int .i64 (if tz < ty then ty else tz))).drew = W3 := ⟨_, rfl⟩
          have HW3 : Hid ((wr.setCell ⟨w1.heap.size, z, none⟩ (.int .i64 (if tz < ty then ty else tz))).drew = W3) := hW3
          rw [hW3] at hM3
          clear hW3
          have hbc3 := hM3.out.box.cell
          gi_wp2
          have HS : wr.drew.cell? ⟨w1.heap.size + 1, 0, none⟩ = some (.slice (some ⟨w1.heap.size, 0, none⟩) ts.length ts.length) := hbc
          refine region_round (S := fun W' => W'.cell? ⟨w1.heap.size + 1, 0, none⟩ = some (.slice (some ⟨w1.heap.size, 0, none⟩) ts.length ts.length)) 13 rfl (by kernel_rfl) (by kernel_rfl) ?hL2 ?_
          case hL2 => rintro ⟨_, _, h⟩; exact h
          refine wpAnyH_take (i := 0) (v := ?v0_13) rfl (by kernel_rfl) (by kernel_rfl) (by kernel_rfl) (fun _ _ _ h => h) (Or.inl ⟨by rfl, ?hy0_13⟩) HS ?_
          case hy0_13 =>
            intro wz hSz
            go_simp
            try rfl
          refine wpAnyH_take (i := 1) (v := ?v1_14) rfl (by kernel_rfl) (by kernel_rfl) (by kernel_rfl) (fun _ _ _ h => h) (Or.inl ⟨by rfl, ?hy1_14⟩) HS ?_
          case hy1_14 =>
            intro wz hSz
            go_simp
            try rfl
          refine wpAnyH_take (i := 2) (v := ?v2_15) rfl (by kernel_rfl) (by kernel_rfl) (by kernel_rfl) (fun _ _ _ h => h) (Or.inl ⟨by rfl, ?hy2_15⟩) HS ?_
          case hy2_15 =>
            intro wz hSz
            go_simp
            try rfl
          refine wpAnyH_take (i := 3) (v := ?v3_16) rfl (by kernel_rfl) (by kernel_rfl) (by kernel_rfl) (fun _ _ _ h => h) (Or.inl ⟨by rfl, ?hy3_16⟩) HS ?_
          case hy3_16 =>
            intro wz hSz
            go_simp
            try rfl
          refine wpAnyH_take (i := 4) (v := ?v4_17) rfl (by kernel_rfl) (by kernel_rfl) (by kernel_rfl) (fun _ _ _ h => h) (Or.inl ⟨by rfl, ?hy4_17⟩) HS ?_
          case hy4_17 =>
            intro wz hSz
            go_simp
            try rfl
          refine wpAnyH_take (i := 6) (v := ?v6_18) rfl (by kernel_rfl) (by kernel_rfl) (by kernel_rfl) (fun _ _ _ h => h) (Or.inl ⟨by rfl, ?hy6_18⟩) HS ?_
          case hy6_18 =>
            intro wz hSz
            go_simp
            try rfl
          refine wpAnyH_take (i := 7) (v := ?v7_19) rfl (by kernel_rfl) (by kernel_rfl) (by kernel_rfl) (fun _ _ _ h => h) (Or.inl ⟨by rfl, ?hy7_19⟩) HS ?_
          case hy7_19 =>
            intro wz hSz
            go_simp
            try rfl
          refine wpAnyH_take (i := 8) (v := ?v8_20) rfl (by kernel_rfl) (by kernel_rfl) (by kernel_rfl) (fun _ _ _ h => h) (Or.inl ⟨by rfl, ?hy8_20⟩) HS ?_
          case hy8_20 =>
            intro wz hSz
            go_simp
            try rfl
          refine wpAnyH_both (i := 5) (j := 9) (v := .int .i64 tz) (v2 := .int .i64 ty) (d := 52) (d2 := 56) (by kernel_rfl) (by kernel_rfl) (by kernel_rfl) rfl rfl rfl rfl (by decide) (by decide) (by rfl) (by rfl) (by rfl) (by rfl) ?x1 ?x2 ?x3 ?x4 HS ?_
          case x1 => go_simp
          case x2 => go_simp
          case x3 => go_simp
          case x4 => go_simp
          refine wpAnyH_take (i := 10) (v := ?v10_21) rfl (by kernel_rfl) (by kernel_rfl) (by kernel_rfl) (fun _ _ _ h => h) (Or.inl ⟨by rfl, ?hy10_21⟩) HS ?_
          case hy10_21 =>
            intro wz hSz
            go_simp
            try rfl
          refine wpAnyH_take (i := 11) (v := ?v11_22) rfl (by kernel_rfl) (by kernel_rfl) (by kernel_rfl) (fun _ _ _ h => h) (Or.inl ⟨by rfl, ?hy11_22⟩) HS ?_
          case hy11_22 =>
            intro wz hSz
            go_simp
            try rfl
          refine wpAnyH_store (i := 12) (w' := W3) (by kernel_rfl) rfl (by rfl) ?hy12_23 hbc3 ?_
          case hy12_23 =>
            go_simp
            first | exact HW3.out | rfl
          refine wpAnyH_done (by kernel_rfl) ?_ _
          clear HS hbc hcz hcy hfz HW3 hnk
          gi_wp2
          go_roundw
          case rel => exact ⟨k + 1, by omega, by go_num, hM3⟩
          case measure => simp [intOf]; omega
        · have hke : k = (needsOf ts y).length := by omega
          have HK : Hid (k = (needsOf ts y).length) := hke
          clear hke
          gi_wp2
          have hR := hM.out.row
          rw [HK.out, ← HN.out] at hR
          exact ⟨hM.out.keeps.from _, hM.out.kept, ⟨hR, hM.out.box⟩, hM.out.below⟩
    case done =>
      rintro D ys W hD hys ⟨⟨hrow, hbox⟩, hB⟩ hK
      have hbc := hbox.cell
      gi_wp2
      refine ⟨by simp, .inl ⟨_, _, rfl, run_takeDeferred hK, ?_⟩⟩
      have hBW : Below w.heap.size W (W.putObj D (.deferred none)) := belowK_b (w := w) (Nat.le_refl _) W D _ _ (by simp at hD; omega) hK rfl rfl
      refine ⟨_, results_tmp2 rfl _ _ _, Or.inr ⟨HCK.out, ord, _, HO.out, rfl, row_ints (c := ts.length) ?_ (by omega)⟩, (hb2.trans (hB.mono (by omega))).trans hBW⟩
      have h1 := congrArg (tailsAlong ts) hys
      have h2 : tailsAlong ts (backs (fun q => ord.getD q 0) ts.length ts.length) = tailsOf ts ord := by
        have := tailsAlong_backs ts ord ord.length
        unfold tailsOf
        rw [← this, hlen]
      rw [h1, h2] at hrow
      exact hrow.of_block (World.putObj_heap_other (by simp at hD; omega))
    case stop =>
      rintro D c pre W _ _ h _
      exact h.elim

theorem tails_any (v : Value) (ts : List (Int × List Int)) (w : World) (hp : PlanAt w v ts) :
    Calls Tryz.prog 153 #[v] w fun e w' => ((∃ p q, q ≠ 0 ∧ CheckIs ts p q ∧ e = .returned (.tuple #[.slice none 0 0, errV q])) ∨
      (CheckIs ts 0 0 ∧ ∃ ord rv, OrdIs ts ord ∧ e = .returned (.tuple #[rv, .nilIface]) ∧ IntsAt w' rv (listOf (tailsOf ts ord) ts.length))) ∧ Below w.heap.size w w' := callsIn_wide.1 (tails_in v ts w hp)
end Go.Proofs.YtlfbdjeojgbniaaGreatDoor

namespace Go.Proofs.YtlfbdjeojgbniaaGreatDoor
open Go.RowKit Go.Deep

set_option maxHeartbeats 2000000 in
theorem span_any (v : Value) (ts : List (Int × List Int)) (w : World) (hp : PlanAt w v ts) :
    Calls Tryz.prog 123 #[v] w fun e w' => ((∃ p q, q ≠ 0 ∧ CheckIs ts p q ∧ e = .returned (.tuple #[.int .i64 0, errV q])) ∨
      (CheckIs ts 0 0 ∧ ∃ ord, OrdIs ts ord ∧ e = .returned (.tuple #[.int .i64 (maxTo (tailsOf ts ord) ts.length), .nilIface]))) ∧ Below w.heap.size w w' := by
  have ht := tails_any v ts w hp
  obtain ⟨hl, a, c, rfl, hp⟩ := hp
  clear hp
  go_enter Tryz.func123, Tryz.ntmps123
  go_wp2_with fail
  refine ht.mono ?_
  rintro e w1 ⟨h, hb1⟩
  clear ht
  rcases h with ⟨p, q, hq, hc, rfl⟩ | ⟨hc, ord, rv, ho, rfl, hi⟩
  · have hev := errV_some hq
    rw [hev]
    have HV : Hid (errV q = .iface 97 (.int .i64 q)) := hev
    clear hev
    go_wp2
    go_ret2
    exact ⟨Or.inl ⟨p, q, hq, hc, by rw [HV.out]; rfl⟩, hb1⟩
  · have hg := greatest_any rv (tailsOf ts ord) ts.length w1 hi
    obtain ⟨_, ra, rc, rfl, _⟩ := hi
    go_wp2_with (go_at_call 154; refine hg.mono ?_; rintro e w' ⟨rfl, rfl⟩)
    go_ret2
    exact ⟨Or.inr ⟨hc, ord, ho, rfl⟩, hb1⟩

theorem firstOf_goes {ts : List (Int × List Int)} {T : Nat → Int} {r : Int} (h : firstOf (listOf T ts.length) (maxTo T ts.length) r) : LeastIs ts.length (goesOn ts T none) r := by
  unfold firstOf at h
  rw [listOf_length] at h
  rcases h with ⟨k, h1, h2, h3, rfl⟩ | ⟨h, rfl⟩
  · refine Or.inl ⟨k, h1, fun j hj => ?_, ?_, rfl⟩
    · have := h2 j hj
      dsimp only at this
      rw [listOf_getD T (by omega)] at this
      exact this
    · dsimp only at h3
      rw [listOf_getD T h1] at h3
      exact h3
  · refine Or.inr ⟨fun j hj => ?_, rfl⟩
    have := h j hj
    dsimp only at this
    rw [listOf_getD T hj] at this
    exact this

theorem getLast?_snoc {l : List Nat} {y : Nat} : (l ++ [y]).getLast? = some y := by simp

end Go.Proofs.YtlfbdjeojgbniaaGreatDoor

namespace Go.Proofs.YtlfbdjeojgbniaaGreatDoor
open Go.RowKit Go.Deep

set_option maxRecDepth 100000 in
set_option maxHeartbeats 2000000 in
theorem work_any (v : Value) (ts : List (Int × List Int)) (w : World) (hp : PlanAt w v ts) :
    Calls Tryz.prog 122 #[v] w fun e w' => ((∃ p q, q ≠ 0 ∧ CheckIs ts p q ∧ e = .returned (.tuple #[.int .i64 0, errV q])) ∨
      (CheckIs ts 0 0 ∧ e = .returned (.tuple #[.int .i64 (workTo ts ts.length), .nilIface]))) ∧ Below w.heap.size w w' := by
  have HP : Hid (PlanAt w v ts) := hp
  have hck := check_any v ts w hp
  obtain ⟨hl, a, c, rfl, hp⟩ := hp
  clear hp
  go_enter Tryz.func122, Tryz.ntmps122
  go_wp2_with fail
  refine hck.mono ?_
  rintro e w1 ⟨⟨p, q, rfl, hc⟩, hb1⟩
  clear hck
  by_cases hq : q = 0
  · subst hq
    rw [errV_zero]
    obtain ⟨rfl, h30, herr, _⟩ := hc.ok rfl
    have HC : Hid (CheckIs ts 0 0) := hc
    have HW : Hid (∀ x, x < ts.length → 1 ≤ wkOf ts x ∧ wkOf ts x ≤ 20) := fun x hx => wkOf_right (herr x hx)
    clear hc herr
    have hpw := HP.out.later hb1
    obtain ⟨_, a', c', hva, hpc⟩ := hpw
    obtain ⟨rfl, -, rfl⟩ : a = a' ∧ True ∧ c = c' := by simp at hva; exact ⟨hva.1, trivial, hva.2⟩
    clear hva
    go_wp2
    go_loopw [6, 19] (fun s6 s19 wr => ∃ k : Nat, k ≤ ts.length ∧ s19 = .int .i64 k ∧ s6 = .int .i64 (workTo ts k) ∧ Below w1.heap.size w1 wr) (fun _ s19 _ => ts.length - (intOf s19).toNat)
    case atStart => exact ⟨0, Nat.zero_le _, rfl, rfl, Below.refl _ _⟩
    case round =>
      obtain ⟨k, hk, rfl, rfl, hB⟩ := hrel
      by_cases hkl : k < ts.length
      · rcases hpc with rfl | ⟨b, o, rfl, hbl, hc⟩
        · simp at hkl
        obtain ⟨hc1, nv, hc2, hin⟩ := hc k hkl
        obtain ⟨a2, c2, rfl⟩ : ∃ a2 c2, nv = .slice a2 (needsOf ts k).length c2 := by
          obtain ⟨_, a2, c2, h, _⟩ := hin
          exact ⟨a2, c2, h⟩
        have hc1' := (hB.cell (p := ⟨b, o + k * 2, none⟩) hbl).trans hc1
        have hc2' := (hB.cell (p := ⟨b, o + k * 2 + 1, none⟩) hbl).trans hc2
        have hbd := workTo_bound HW.out k hk
        have hwk := HW.out k hkl
        have HE : Hid (workTo ts (k + 1) = workTo ts k + (ts.getD k (0, [])).1) := rfl
        unfold wkOf at hwk
        clear hc hc1 hc2 hin
        generalize workTo ts k = sm at *
        generalize (ts.getD k (0, [])).1 = wk at *
        generalize (needsOf ts k).length = nl at *
        go_wp2
        go_roundw
        case rel => exact ⟨k + 1, by omega, by go_num, by rw [HE.out], hB.alloc hB.size _⟩
        case measure => simp [intOf]; omega
      · have hke : k = ts.length := by omega
        subst hke
        clear hpc
        go_wp2
        go_ret2
        exact ⟨Or.inr ⟨HC.out, rfl⟩, hb1.trans (hB.mono hb1.size)⟩
  · have hev := errV_some hq
    rw [hev]
    have HV : Hid (errV q = .iface 97 (.int .i64 q)) := hev
    clear hev
    go_wp2
    go_ret2
    exact ⟨Or.inl ⟨p, q, hq, hc, by rw [HV.out]; rfl⟩, hb1⟩
end Go.Proofs.YtlfbdjeojgbniaaGreatDoor

namespace Go.Proofs.YtlfbdjeojgbniaaGreatDoor
open Go.RowKit Go.Deep

/-- What Long hands back. -/
def LongOut (ts : List (Int × List Int)) (hands : Int) (e : Ending) : Prop :=
  (∃ p q, CheckIs ts p q ∧ gErr q hands ≠ 0 ∧ e = .returned (.tuple #[.int .i64 0, errV (gErr q hands)])) ∨
  (CheckIs ts 0 0 ∧ 1 ≤ hands ∧ hands ≤ 6 ∧ ∃ s : Nat, Stops ts hands.toNat s ∧ e = .returned (.tuple #[.int .i64 s, .nilIface]))

set_option maxRecDepth 100000 in
set_option maxHeartbeats 2000000 in
theorem long_any (v : Value) (ts : List (Int × List Int)) (hands : Int) (w : World) (hp : PlanAt w v ts) :
    Calls Tryz.prog 11 #[v, .int .i64 hands] w fun e w' => LongOut ts hands e ∧ Below w.heap.size w w' := by
  have hrun := run_any v ts hands w hp
  obtain ⟨hl, a, c, rfl, hp⟩ := hp
  clear hp
  go_enter Tryz.func11, Tryz.ntmps11
  go_wp2_with fail
  refine hrun.mono ?_
  clear hrun
  rintro e w1 ⟨h, hb1⟩
  rcases h with ⟨p, q, hc, hq, rfl⟩ | ⟨hc, h1, h6, s, bv, hs, rfl, hB⟩
  · have hev := errV_some hq
    have HF : Hid (∀ u, u = errV (gErr q hands) → LongOut ts hands (.returned (.tuple #[.int .i64 0, u]))) := fun u hu => Or.inl ⟨p, q, hc, hq, by rw [hu]⟩
    rw [hev] at HF ⊢
    clear hev hq hc
    generalize gErr q hands = g at *
    go_wp2
    go_ret2
    exact ⟨HF.out _ rfl, hb1⟩
  · have HF : Hid (∀ k : Nat, k = s → LongOut ts hands (.returned (.tuple #[.int .i64 k, .nilIface]))) := fun k hk => Or.inr ⟨hc, h1, h6, s, hs, by rw [hk]⟩
    have hpos : 1 ≤ hands.toNat := by omega
    have h600 := bits_len hc.works.1 hands.toNat s
    have hsl := hs.le hc.works.1 hpos
    by_cases hz : (bitsTo ts hands.toNat s).length = 0
    · have hs0 := hs.1.none hpos hz
      have HF2 := HF.out 0 hs0.symm
      have HF3 : Hid (LongOut ts hands (.returned (.tuple #[.int .i64 0, .nilIface]))) := HF2
      obtain ⟨ba, bc, rfl⟩ := hB.shape
      rw [hz]
      clear hB hs hc HF HF2 hz hs0
      go_wp2
      go_ret2
      exact ⟨HF3.out, hb1⟩
    · have hlast := hs.1.last hpos (by omega)
      obtain ⟨g, bc, rfl, hg1, hg2, hbc, hcells⟩ := hB.full (by omega)
      have hcl := (hcells ((bitsTo ts hands.toNat s).length - 1) (by omega)).1
      clear hcells hB hs hc
      generalize ((bitsTo ts hands.toNat s).getD ((bitsTo ts hands.toNat s).length - 1) (0, 0, 0)).1 = t at *
      generalize (bitsTo ts hands.toNat s).length = bl at *
      obtain ⟨n, rfl⟩ : ∃ n, bl = n + 1 := ⟨bl - 1, by omega⟩
      rw [show n + 1 - 1 = n by omega] at hcl
      have HF3 : Hid (LongOut ts hands (.returned (.tuple #[.int .i64 ((t : Int) + 1), .nilIface]))) := HF.out (t + 1) hlast
      have hne : (((n + 1 : Nat) : Int) == 0) = false := by rw [beq_eq_false_iff_ne]; omega
      have ht : t ≤ 600 := by omega
      clear HF hlast hz hsl
      go_wp2
      go_ret2
      exact ⟨HF3.out, hb1⟩

/-- What Bound hands back. -/
def BoundOut (ts : List (Int × List Int)) (hands : Int) (e : Ending) : Prop :=
  (∃ p q, CheckIs ts p q ∧ gErr q hands ≠ 0 ∧ e = .returned (.tuple #[.int .i64 0, errV (gErr q hands)])) ∨
  (CheckIs ts 0 0 ∧ 1 ≤ hands ∧ hands ≤ 6 ∧ ∃ ord, OrdIs ts ord ∧ e = .returned (.tuple #[.int .i64 ((workTo ts ts.length + (hands - 1) * maxTo (tailsOf ts ord) ts.length) / hands), .nilIface]))

theorem span_bound {ts : List (Int × List Int)} {ord : List Nat} (hc : CheckIs ts 0 0) (ho : OrdIs ts ord) : 0 ≤ maxTo (tailsOf ts ord) ts.length ∧ maxTo (tailsOf ts ord) ts.length ≤ 600 := by
  have hd := (Ready.of hc ho).deep
  exact ⟨maxTo_nonneg _ _, maxTo_le _ _ _ (by omega) (fun x _ => (hd.tlow x).2)⟩
theorem hands_mul {hands sp : Int} (h1 : 1 ≤ hands) (h6 : hands ≤ 6) (h0 : 0 ≤ sp) (hs : sp ≤ 600) : 0 ≤ (hands - 1) * sp ∧ (hands - 1) * sp ≤ 3000 := by
  have : hands = 1 ∨ hands = 2 ∨ hands = 3 ∨ hands = 4 ∨ hands = 5 ∨ hands = 6 := by omega
  rcases this with rfl | rfl | rfl | rfl | rfl | rfl <;> omega

set_option maxRecDepth 100000 in
set_option maxHeartbeats 2000000 in
theorem bound_any (v : Value) (ts : List (Int × List Int)) (hands : Int) (w : World) (hp : PlanAt w v ts) :
    Calls Tryz.prog 91 #[v, .int .i64 hands] w fun e w' => BoundOut ts hands e ∧ Below w.heap.size w w' := by
  have HP : Hid (PlanAt w v ts) := hp
  have hck := gcheck_any v ts hands w hp
  obtain ⟨hl, a, c, rfl, hp⟩ := hp
  clear hp
  go_enter Tryz.func91, Tryz.ntmps91
  go_wp2_with fail
  refine hck.mono ?_
  rintro e w1 ⟨⟨p, q, hc, rfl⟩, hb1⟩
  clear hck
  by_cases hq : gErr q hands = 0
  · obtain ⟨rfl, h1, h6⟩ := gErr_zero hq
    obtain ⟨rfl, -⟩ := hc.ok rfl
    rw [hq, errV_zero]
    have HC : Hid (CheckIs ts 0 0) := hc
    have hwa := hc.works.1.all
    clear hc hq
    have hwk := work_any _ ts w1 (HP.out.later hb1)
    go_wp2_with (go_at_call 122; refine hwk.mono ?_; clear hwk; rintro e w2 ⟨h, hb2⟩; obtain ⟨_, rfl⟩ : CheckIs ts 0 0 ∧ e = .returned (.tuple #[.int .i64 (workTo ts ts.length), .nilIface]) := h.resolve_left (fun ⟨p, q, hq, hc, _⟩ => hq (CheckIs.det HC.out hc).2.symm); clear h)
    have hsp := span_any _ ts w2 ((HP.out.later hb1).later hb2)
    refine hsp.mono ?_
    clear hsp
    rintro e w3 ⟨h, hb3⟩
    obtain ⟨hc, ord, ho, rfl⟩ : CheckIs ts 0 0 ∧ ∃ ord, OrdIs ts ord ∧ e = .returned (.tuple #[.int .i64 (maxTo (tailsOf ts ord) ts.length), .nilIface]) := h.resolve_left (fun ⟨p, q, hq, hc, _⟩ => hq (CheckIs.det HC.out hc).2.symm)
    clear h
    obtain ⟨hs0, hs1⟩ := span_bound hc ho
    obtain ⟨hm0, hm1⟩ := hands_mul h1 h6 hs0 hs1
    have HF : Hid (BoundOut ts hands (.returned (.tuple #[.int .i64 ((workTo ts ts.length + (hands - 1) * maxTo (tailsOf ts ord) ts.length) / hands), .nilIface]))) := Or.inr ⟨hc, h1, h6, ord, ho, rfl⟩
    have hb4 : Below w.heap.size w w3 := (hb1.trans (hb2.mono hb1.size)).trans (hb3.mono (Nat.le_trans hb1.size hb2.size))
    clear ho hc
    generalize maxTo (tailsOf ts ord) ts.length = sp at *
    generalize workTo ts ts.length = wk at *
    generalize hmul : (hands - 1) * sp = pr at *
    go_wp2
    go_ret2
    exact ⟨HF.out, hb4⟩
  · have hev := errV_some hq
    rw [hev]
    have HQ : Hid (gErr q hands ≠ 0) := hq
    have HF : Hid (∀ u, u = errV (gErr q hands) → BoundOut ts hands (.returned (.tuple #[.int .i64 0, u]))) := fun u hu => Or.inl ⟨p, q, hc, HQ.out, by rw [hu]⟩
    rw [hev] at HF
    clear hev hq HQ hc
    generalize gErr q hands = g at *
    go_wp2
    go_ret2
    exact ⟨HF.out _ rfl, hb1⟩
end Go.Proofs.YtlfbdjeojgbniaaGreatDoor

namespace Go.Proofs.YtlfbdjeojgbniaaGreatDoor
open Go.RowKit Go.Deep

theorem NextIs.det {ts : List (Int × List Int)} {T : Nat → Bool} {r r' : Int} (h : NextIs ts T r) (h' : NextIs ts T r') : r = r' := by
  rcases h with ⟨k, h1, h2, h3, rfl⟩ | ⟨h, rfl⟩
  · rcases h' with ⟨k', g1, g2, g3, rfl⟩ | ⟨g, rfl⟩
    · rcases Nat.lt_trichotomy k k' with e | e | e
      · rw [g2 k e] at h3; cases h3
      · rw [e]
      · rw [h2 k' e] at g3; cases g3
    · rw [g k h1] at h3; cases h3
  · rcases h' with ⟨k', g1, g2, g3, rfl⟩ | ⟨g, rfl⟩
    · rw [h k' g1] at g3; cases g3
    · rfl
theorem OrdIs.det {ts : List (Int × List Int)} {a b : List Nat} (h : OrdIs ts a) (h' : OrdIs ts b) (hc : CheckIs ts 0 0) : a = b := by
  have la := (Ready.of hc h).len
  have lb := (Ready.of hc h').len
  have key : ∀ m, m ≤ ts.length → a.take m = b.take m := by
    intro m
    induction m with
    | zero => intro _; rfl
    | succ m ih =>
      intro hm
      have e := ih (by omega)
      have h1 := h.1 m (by omega)
      have h2 := h'.1 m (by omega)
      rw [e] at h1
      have e2 := h1.det h2
      have e3 : a.getD m 0 = b.getD m 0 := by omega
      rw [getD_eq (by omega), getD_eq (by omega)] at e3
      rw [List.take_succ_eq_append_getElem (by omega), List.take_succ_eq_append_getElem (by omega), e, e3]
  have := key ts.length (Nat.le_refl _)
  rw [List.take_of_length_le (by omega), List.take_of_length_le (by omega)] at this
  exact this

def factTs : List (Int × List Int) := [(3, []), (2, [0]), (4, [0])]
theorem fact_need {x y : Nat} (h : Need factTs x y) : y = 0 ∧ (x = 1 ∨ x = 2) := by
  unfold Need needsOf factTs at h
  match x, h with
  | 0, h => simp at h
  | 1, h => simp at h; omega
  | 2, h => simp at h; omega
  | x + 3, h => simp at h
theorem fact_reach {x y : Nat} (h : Reach factTs x y) : y < x := by
  induction h using Reach.ind with
  | one hn => have := fact_need hn; omega
  | more _ hn ih => have := fact_need hn; omega
theorem fact_err (j : Nat) (hj : j < 3) : errOf factTs j = 0 := by
  match j, hj with
  | 0, _ => decide
  | 1, _ => decide
  | 2, _ => decide
theorem fact_check : CheckIs factTs 0 0 := CheckIs.none (by decide) (fun j hj => fact_err j hj) (fun j _ h => by have := fact_reach h; omega)

theorem fact_tails {R T : Nat → Int} (h : Deep factTs R T) : T 0 = 7 ∧ T 1 = 2 ∧ T 2 = 4 := by
  have w0 : wkOf factTs 0 = 3 := rfl
  have w1 : wkOf factTs 1 = 2 := rfl
  have w2 : wkOf factTs 2 = 4 := rfl
  have h1 : T 1 = 2 := by
    rcases h.teq 1 (by decide) with e | ⟨k, _, hn, _⟩
    · omega
    · have := fact_need hn; omega
  have h2 : T 2 = 4 := by
    rcases h.teq 2 (by decide) with e | ⟨k, _, hn, _⟩
    · omega
    · have := fact_need hn; omega
  have u2 := h.tup 2 (by decide) 0 (by show ((0 : Nat) : Int) ∈ needsOf factTs 2; decide)
  refine ⟨?_, h1, h2⟩
  rcases h.teq 0 (by decide) with e | ⟨k, _, hn, e⟩
  · omega
  · rcases (fact_need hn).2 with rfl | rfl <;> omega

theorem fact_way {R T : Nat → Int} (h : Deep factTs R T) {way : List Nat} (hw : WayIs factTs T way) : way = [0, 2] := by
  obtain ⟨h0, h1, h2⟩ := fact_tails h
  have hm : maxTo T factTs.length = 7 := by
    show max (max (max 0 (T 0)) (T 1)) (T 2) = 7
    omega
  have w0 : wkOf factTs 0 = 3 := rfl
  have w2 : wkOf factTs 2 = 4 := rfl
  refine hw.det ⟨fun m hm' => ?_, ?_⟩
  · match m, hm' with
    | 0, _ => exact Or.inl ⟨0, by decide, fun j hj => by omega, by simp [goesOn, hm, h0], rfl⟩
    | 1, _ =>
      refine Or.inl ⟨2, by decide, fun j hj => ?_, ?_, rfl⟩
      · match j, hj with
        | 0, _ => simp [goesOn, h0, w0]
        | 1, _ => simp [goesOn, h0, h1, w0]
      · simp only [List.take, List.getLast?_singleton, goesOn, h0, h2, w0]; decide
  · refine Or.inr ⟨fun j hj => ?_, rfl⟩
    have hj3 : j < 3 := hj
    match j, hj3 with
    | 0, _ => simp [goesOn, h0, h2, w2]
    | 1, _ => simp [goesOn, h1, h2, w2]
    | 2, _ => simp [goesOn, h2, w2]
end Go.Proofs.YtlfbdjeojgbniaaGreatDoor
