/- The document's Rob and Put. -/
import Derived.Test.YtiiaocjknpbenaaDoorJ
import Derived.BigQuiet
import Derived.OrdersHeld
namespace Go.Proofs.YtiiaocjknpbenaaDoor
open Go.RowKit Go.Deep

theorem wpOp_call {P : Program} {ops : Array Oper} {Q : Exit → Act → World → Prop} {i : Nat} {o : Oper} {K : Act → World → Prop} {a : Act} {w : World} {f : FuncId} {args : Array Value} (hi : ops[i]? = some o) (hw : Region.wanted o (yielded ops a.tmps) = true)
    (hr : (execOp a.eval o).run P w = .ok (.enter f args) w) (h : Calls P f args w fun
      | .returned v, w'' => K (a.put o.dst v) w''
      | .panicked chain, w'' => Q (.panic chain) a w''
      | .outgrown, _ => LetsOut Q) : wpOp P ops Q i K a w := by
  unfold wpOp
  rw [hi]
  dsimp only
  rw [hw, if_pos rfl]
  refine Or.inl ?_
  unfold Oper.wp
  rw [hr]
  exact h
section
variable {P : Program} {ops : Array Oper} {md : Region.Mode} {Q : Exit → Act → World → Prop} {S : World → Prop}
theorem wpAnyH_takeD {i : Nat} {oi : Oper} {v : Value} {fuel : Nat} {listed : Array Bool} {a : Act} {w : World} (d : Option Nat) (hi : ops[i]? = some oi) (hd : oi.dst = d)
    (hs : Region.noSelect ops = true) (hf : Region.free md ops listed i = true) (hr : (Region.ready md ops listed).contains i = true)
    (hQ : ∀ c a w, Q (.panic c) (a.put d v) w → Q (.panic c) a w) (hy : YieldsIf P ops S oi v a) (hS : S w)
    (h : wpAnyH P md ops Q S fuel (listed.setIfInBounds i true) (a.put d v) w) : wpAnyH P md ops Q S (fuel + 1) listed a w := by
  subst hd
  exact wpAnyH_take hi hs hf hr hQ hy hS h
theorem wpOp_callD {i : Nat} {o : Oper} {K : Act → World → Prop} {a : Act} {w : World} {f : FuncId} {args : Array Value} (d : Option Nat) (hi : ops[i]? = some o) (hd : o.dst = d) (hw : Region.wanted o (yielded ops a.tmps) = true)
    (hr : (execOp a.eval o).run P w = .ok (.enter f args) w) (h : Calls P f args w fun
      | .returned v, w'' => K (a.put d v) w''
      | .panicked chain, w'' => Q (.panic chain) a w''
      | .outgrown, _ => LetsOut Q) : wpOp P ops Q i K a w := by
  subst hd
  exact wpOp_call hi hw hr h
end

theorem wrap_fits {n : Int} (h0 : 0 ≤ n) (h1 : n < 9223372036854775808) : IntKind.i64.wrap n = n := by rw [IntKind.wrap_i64]; omega
theorem RowI.over {b M : Nat} {w : World} {v : Value} {xs : List Int} (h : RowI b w v xs) (hb : M < b) : Rds (fun k => M < k) w v xs :=
  h.rds.mono (fun k e => by have := (h.low e).1; omega)
theorem Rds.nil (A : Nat → Prop) (w : World) : Rds A w (.slice none 0 0) [] := ⟨none, 0, rfl, Nat.le_refl _, fun k hk => by simp at hk⟩
theorem Rds.set {M x : Nat} {w : World} {v : Value} {xs : List Int} (h : Rds (fun k => M < k) w v xs) (u : Value) : Rds (fun k => M < k) (w.setCell ⟨M, x, none⟩ u) v xs :=
  h.of_blocks (by simp) (fun b hb _ => Below.heap_setCell _ _ _ _ (by show b ≠ M; omega))

set_option maxHeartbeats 4000000 in
theorem refRob_any (M room : Nat) (nr : Int) (xs : List Int) (v : Value) (w : World) (h : Mh M room nr xs v w) :
    Calls Tryd.prog 8 #[.pointer (some ⟨M, 0, none⟩)] w fun e w' => (∃ ov, e = .returned ov ∧ Rds (fun k => M < k) w' ov (xs.take ((xs.length + 1) / 2))) ∧ (∃ v', Mh M room nr (xs.drop ((xs.length + 1) / 2)) v' w') ∧ Below M w w' := by
  have HH : Hid (Mh M room nr xs v w) := h
  have hc2 := h.c2
  have hle := h.le
  have hr16 := h.r16
  have hlt := h.lt
  have HR : Hid (RowI (M + 1) w v xs) := h.row
  obtain ⟨a, c, rfl⟩ := h.row.shape
  obtain ⟨n, hn⟩ : ∃ n, n = (xs.length + 1) / 2 := ⟨_, rfl⟩
  have hq : ((xs.length : Int) + 1).tdiv 2 = (n : Int) := by rw [Int.tdiv_eq_ediv_of_nonneg (by omega)]; omega
  have hq2 : ((xs.length : Int) + 1) / 2 = (n : Int) := by omega
  have hw1 : IntKind.i64.wrap ((xs.length : Int) + 1) = (xs.length : Int) + 1 := wrap_fits (by omega) (by omega)
  have hw2 : IntKind.i64.wrap (n : Int) = (n : Int) := wrap_fits (by omega) (by omega)
  have hdl : (xs.drop n).length ≤ room := by simp; omega
  have hcu := fun q => cutting_any _ (.slice a xs.length c) xs n (w.drewN q) (HR.out.of_blocks (w' := w.drewN q) (fun _ _ => rfl)).rds (by omega)
  rw [← hn]
  clear h hn
  generalize xs.take n = o at *
  generalize xs.drop n = r at *
  go_enter Tryd.func8, Tryd.ntmps8
  go_wp2
  have HS : w.drew.cell? ⟨M, 2, none⟩ = some (.slice a xs.length c) := hc2
  refine wp_region_held (S := fun W' => W'.cell? ⟨M, 2, none⟩ = some (.slice a xs.length c)) (by kernel_rfl) ?_
  refine wpAnyH_takeD (i := 0) (v := ?v0) (some 6) rfl rfl (by kernel_rfl) (by kernel_rfl) (by kernel_rfl) (fun _ _ _ h => h) (Or.inl ⟨by rfl, ?hy0⟩) HS ?_
  case hy0 =>
    intro wz hSz
    go_simp
    try rfl
  refine wpAnyH_takeD (i := 1) (v := ?v1) (some 7) rfl rfl (by kernel_rfl) (by kernel_rfl) (by kernel_rfl) (fun _ _ _ h => h) (Or.inl ⟨by rfl, ?hy1⟩) HS ?_
  case hy1 =>
    intro wz hSz
    go_simp
    try rfl
  refine wpAnyH_takeD (i := 2) (v := ?v2) (some 8) rfl rfl (by kernel_rfl) (by kernel_rfl) (by kernel_rfl) (fun _ _ _ h => h) (Or.inl ⟨by rfl, ?hy2⟩) HS ?_
  case hy2 =>
    intro wz hSz
    go_simp
    try rfl
  refine wpAnyH_takeD (i := 3) (v := ?v3) (some 9) rfl rfl (by kernel_rfl) (by kernel_rfl) (by kernel_rfl) (fun _ _ _ h => h) (Or.inl ⟨by rfl, ?hy3⟩) HS ?_
  case hy3 =>
    intro wz hSz
    go_simp
    try rfl
  refine wpAnyH_takeD (i := 4) (v := ?v4) (some 10) rfl rfl (by kernel_rfl) (by kernel_rfl) (by kernel_rfl) (fun _ _ _ h => h) (Or.inl ⟨by rfl, ?hy4⟩) HS ?_
  case hy4 =>
    intro wz hSz
    go_simp
    try rfl
  refine wpAnyH_takeD (i := 5) (v := ?v5) (some 11) rfl rfl (by kernel_rfl) (by kernel_rfl) (by kernel_rfl) (fun _ _ _ h => h) (Or.inl ⟨by rfl, ?hy5⟩) HS ?_
  case hy5 =>
    intro wz hSz
    go_simp
    try rfl
  refine wpAnyH_takeD (i := 6) (v := ?v6) (some 12) rfl rfl (by kernel_rfl) (by kernel_rfl) (by kernel_rfl) (fun _ _ _ h => h) (Or.inl ⟨by rfl, ?hy6⟩) HS ?_
  case hy6 =>
    intro wz hSz
    go_simp
    try rfl
  refine wpAnyH_takeD (i := 7) (v := ?v7) (some 13) rfl rfl (by kernel_rfl) (by kernel_rfl) (by kernel_rfl) (fun _ _ _ h => h) (Or.inl ⟨by rfl, ?hy7⟩) HS ?_
  case hy7 =>
    intro wz hSz
    go_simp
    try rfl
  refine wpAnyH_takeD (i := 8) (v := ?v8) (some 14) rfl rfl (by kernel_rfl) (by kernel_rfl) (by kernel_rfl) (fun _ _ _ h => h) (Or.inl ⟨by rfl, ?hy8⟩) HS ?_
  case hy8 =>
    intro wz hSz
    go_simp
    try rfl
  refine wpAnyH_takeD (i := 9) (v := ?v9) (some 15) rfl rfl (by kernel_rfl) (by kernel_rfl) (by kernel_rfl) (fun _ _ _ h => h) (Or.inl ⟨by rfl, ?hy9⟩) HS ?_
  case hy9 =>
    intro wz hSz
    go_simp
    try rfl
  refine wpAnyH_takeD (i := 10) (v := ?v10) (some 16) rfl rfl (by kernel_rfl) (by kernel_rfl) (by kernel_rfl) (fun _ _ _ h => h) (Or.inl ⟨by rfl, ?hy10⟩) HS ?_
  case hy10 =>
    intro wz hSz
    go_simp
    try rfl
  refine wpAnyH_all (rs := [11]) (by kernel_rfl) (by simp) (fun j hj => ?_)
  obtain rfl := List.mem_singleton.1 hj
  refine wpOp_callD (f := 19) (args := #[.slice a xs.length c, .int .i64 n]) (some 17) rfl rfl (by rfl) ?hcall ?_
  case hcall =>
    go_simp
    all_goals (first | rfl | (rw [hw1, hq, hw2]))
  refine (hcu 1).mono ?_
  rintro e w1 ⟨va, vb, rfl, hra, hrb, hap, hb1⟩
  have HB1 : Hid (Below w.heap.size w w1) := (below_drew _ _ 1).trans hb1
  have HH1 : Hid (Mh M room nr xs (.slice a xs.length c) w1) := HH.out.later HB1.out
  have HS1 := HH1.out.c2
  have HA : Hid (RowI w.heap.size w1 va o) := hra
  have HBR : Hid (RowI w.heap.size w1 vb r) := hrb
  obtain ⟨aa, ac, rfl⟩ := hra.shape
  obtain ⟨ba, bc, rfl⟩ := hrb.shape
  refine ⟨HS1, ?_⟩
  refine wpAnyH_takeD (i := 12) (v := ?v12) (some 5) rfl rfl (by kernel_rfl) (by kernel_rfl) (by kernel_rfl) (fun _ _ _ h => h) (Or.inl ⟨by rfl, ?hy12⟩) HS1 ?_
  case hy12 =>
    intro wz hSz
    go_simp
    try rfl
  refine wpAnyH_takeD (i := 13) (v := ?v13) (some 18) rfl rfl (by kernel_rfl) (by kernel_rfl) (by kernel_rfl) (fun _ _ _ h => h) (Or.inl ⟨by rfl, ?hy13⟩) HS1 ?_
  case hy13 =>
    intro wz hSz
    go_simp
    try rfl
  refine wpAnyH_takeD (i := 14) (v := ?v14) (some 19) rfl rfl (by kernel_rfl) (by kernel_rfl) (by kernel_rfl) (fun _ _ _ h => h) (Or.inl ⟨by rfl, ?hy14⟩) HS1 ?_
  case hy14 =>
    intro wz hSz
    go_simp
    try rfl
  refine wpAnyH_takeD (i := 15) (v := ?v15) (some 3) rfl rfl (by kernel_rfl) (by kernel_rfl) (by kernel_rfl) (fun _ _ _ h => h) (Or.inl ⟨by rfl, ?hy15⟩) HS1 ?_
  case hy15 =>
    intro wz hSz
    go_simp
    try rfl
  refine wpAnyH_takeD (i := 16) (v := ?v16) (some 4) rfl rfl (by kernel_rfl) (by kernel_rfl) (by kernel_rfl) (fun _ _ _ h => h) (Or.inl ⟨by rfl, ?hy16⟩) HS1 ?_
  case hy16 =>
    intro wz hSz
    go_simp
    try rfl
  refine wpAnyH_done (by kernel_rfl) ?_ _
  have hf2 := HH1.out.fz 2
  clear hra hrb hap hb1 hcu hq hq2 hc2 HS hw1 hw2
  go_wp2
  go_ret
  exact ⟨⟨_, rfl, (HA.out.over hlt).set _⟩, ⟨_, HH1.out.setV rfl (HBR.out.mono (by omega)) hdl⟩, (HB1.out.mono (Nat.le_of_lt hlt)).setCell (p := ⟨M, 2, none⟩) (Nat.le_refl _) _⟩
end Go.Proofs.YtiiaocjknpbenaaDoor
