/- Numbers in rows of their own; yardsame.Ints; the document's Cutting. -/
import Derived.Test.YtiiaocjknpbenaaDoorE
import Derived.Maps.AppendAt
namespace Go.Proofs.YtiiaocjknpbenaaDoor
open Go.RowKit Go.Deep

theorem Tryd.size3 : (Tryd.prog.info? 3).map (·.size) = some 1 := by kernel_rfl

/-- Numbers in a row of their own, from block b on. -/
def RowI (b : Nat) (w : World) (v : Value) (zs : List Int) : Prop := w.ownsRow b 3 1 v zs.length (zs.map (Value.int .i64))
theorem RowI.of_blocks {b : Nat} {w w' : World} {v : Value} {zs : List Int} (h : RowI b w v zs) (hk : ∀ k, v.ownBlock = some k → w'.heap[k]? = w.heap[k]?) : RowI b w' v zs := by
  rcases h.2 with ⟨rfl, hn⟩ | ⟨g, cap, cur, rfl, hb, hh, hr⟩
  · exact ⟨h.1, Or.inl ⟨rfl, hn⟩⟩
  · exact ⟨h.1, Or.inr ⟨g, cap, cur, rfl, hb, (hk g rfl).trans hh, hr⟩⟩
theorem RowI.mono {b b' : Nat} {w : World} {v : Value} {zs : List Int} (h : RowI b w v zs) (hb : b' ≤ b) : RowI b' w v zs := by
  rcases h.2 with hn | ⟨g, cap, cur, hv, hg, r⟩
  · exact ⟨h.1, Or.inl hn⟩
  · exact ⟨h.1, Or.inr ⟨g, cap, cur, hv, Nat.le_trans hb hg, r⟩⟩
theorem RowI.low {b : Nat} {w : World} {v : Value} {zs : List Int} (h : RowI b w v zs) {k : Nat} (hk : v.ownBlock = some k) : b ≤ k ∧ k < w.heap.size := World.ownsRow.lt h k hk
theorem RowI.cap {B : Nat} {w : World} {v : Value} {zs : List Int} (h : RowI B w v zs) : ∃ a c, v = .slice a zs.length c ∧ zs.length ≤ c := by
  rcases h.2 with ⟨rfl, hn⟩ | ⟨g, cap, cur, rfl, _, _, hc, _⟩
  · exact ⟨none, 0, by rw [hn], by omega⟩
  · exact ⟨_, _, rfl, hc⟩
theorem RowI.shape {B : Nat} {w : World} {v : Value} {zs : List Int} (h : RowI B w v zs) : ∃ a c, v = .slice a zs.length c := by
  obtain ⟨a, c, hv, _⟩ := h.cap
  exact ⟨a, c, hv⟩
theorem RowI.nil (b : Nat) (w : World) : RowI b w (.slice none 0 0) [] := World.ownsRow_nil _ _ _ _
theorem RowI.alloc {b : Nat} {w : World} {v : Value} {zs : List Int} (h : RowI b w v zs) (o : Obj) : RowI b (w.alloc o) v zs := h.of_blocks (fun _ e => Below.heap_alloc _ _ _ (h.low e).2)
theorem RowI.cell {b g n c : Nat} {w : World} {zs : List Int} (h : RowI b w (.slice (some ⟨g, 0, none⟩) n c) zs) {k : Nat} (hk : k < zs.length) : w.cell? ⟨g, k, none⟩ = some (.int .i64 (zs.getD k 0)) := by
  have := World.ownsRow.cells h (g := g) rfl k (.int .i64 (zs.getD k 0)) (by simp [List.getD_eq_getElem?_getD, List.getElem?_eq_getElem hk])
  rwa [Addr.add_lit, Nat.zero_add] at this
theorem RowI.full {b : Nat} {w : World} {v : Value} {zs : List Int} (h : RowI b w v zs) (hz : 0 < zs.length) : ∃ g c, v = .slice (some ⟨g, 0, none⟩) zs.length c ∧ b ≤ g ∧ g < w.heap.size ∧ zs.length ≤ c ∧ c ≤ maxLen := by
  rcases h.2 with ⟨_, h0⟩ | ⟨g, cap, cur, hv, hb, hh, hc, hm, _⟩
  · omega
  · exact ⟨g, cap, hv, hb, (Array.getElem?_eq_some_iff.1 hh).1, hc, hm⟩

/-- A slice that reads as these numbers, in a block that A allows. -/
def Rds (A : Nat → Prop) (w : World) (v : Value) (xs : List Int) : Prop :=
  ∃ a c, v = .slice a xs.length c ∧ xs.length ≤ c ∧ ∀ k, k < xs.length → ∃ b o, a = some ⟨b, o, none⟩ ∧ A b ∧ b < w.heap.size ∧ w.cell? ⟨b, o + k, none⟩ = some (.int .i64 (xs.getD k 0))
theorem Rds.mono {A A' : Nat → Prop} {w : World} {v : Value} {xs : List Int} (h : Rds A w v xs) (hA : ∀ b, A b → A' b) : Rds A' w v xs := by
  obtain ⟨a, c, hv, hl, h⟩ := h
  refine ⟨a, c, hv, hl, fun k hk => ?_⟩
  obtain ⟨b, o, ha, hb, hw⟩ := h k hk
  exact ⟨b, o, ha, hA b hb, hw⟩
theorem Rds.of_blocks {A : Nat → Prop} {w w' : World} {v : Value} {xs : List Int} (h : Rds A w v xs) (hs : w.heap.size ≤ w'.heap.size) (hk : ∀ b, A b → b < w.heap.size → w'.heap[b]? = w.heap[b]?) : Rds A w' v xs := by
  obtain ⟨a, c, hv, hl, h⟩ := h
  refine ⟨a, c, hv, hl, fun k hk' => ?_⟩
  obtain ⟨b, o, ha, hb, hw, hc⟩ := h k hk'
  exact ⟨b, o, ha, hb, by omega, (World.cell?_of_block (hk b hb hw)).trans hc⟩
theorem Rds.shape {A : Nat → Prop} {w : World} {v : Value} {xs : List Int} (h : Rds A w v xs) : ∃ a c, v = .slice a xs.length c := by
  obtain ⟨a, c, hv, _⟩ := h
  exact ⟨a, c, hv⟩
theorem RowI.rds {b : Nat} {w : World} {v : Value} {xs : List Int} (h : RowI b w v xs) : Rds (fun k => v.ownBlock = some k) w v xs := by
  obtain ⟨a, c, rfl, hc⟩ := h.cap
  refine ⟨a, c, rfl, hc, fun k hk => ?_⟩
  obtain ⟨g, c', hv, hg⟩ := h.full (by omega)
  simp only [Value.slice.injEq] at hv
  obtain ⟨rfl, _, rfl⟩ := hv
  exact ⟨g, 0, rfl, rfl, hg.2.1, by rw [Nat.zero_add]; exact h.cell hk⟩

theorem append_zero (ty : TypeId) (b : Option Addr) (n c : Nat) (a : Option Addr) (c' : Nat) (w : World) (h : n ≤ c) : (Builtin.append_ #[22, 22] ty #[.slice b n c, .slice a 0 c']).run Tryd.prog w = .ok (.slice b n c) w := by
  unfold Builtin.append_
  cases b with
  | none => 
    cases a with
    | none => go_simp
    | some a => go_simp
  | some b =>
    cases a with
    | none => go_simp
    | some a => go_simp
theorem run_append_rows (ty : TypeId) {B : Nat} {A : Nat → Prop} {v x : Value} {zs ys : List Int} {w : World} (hv : RowI B w v zs) (hx : Rds A w x ys) (hb : zs.length + ys.length ≤ 1000) (hB : B ≤ w.heap.size) :
    ∃ v' w', (Builtin.append_ #[22, 22] ty #[v, x]).run Tryd.prog w = .ok v' w' ∧ RowI B w' v' (zs ++ ys) ∧ w.grownBy w' v.ownBlock ∧ (v'.ownBlock = v.ownBlock ∨ v'.ownBlock = some w.heap.size) := by
  obtain ⟨a, c, rfl, hc, hx⟩ := hx
  by_cases hy : ys = []
  · subst hy
    obtain ⟨b, d, rfl, hd⟩ := hv.cap
    refine ⟨_, w, append_zero ty b _ d a c w hd, by rw [List.append_nil]; exact hv, ⟨rfl, rfl, rfl, Nat.le_refl _, fun _ _ _ => rfl⟩, Or.inl rfl⟩
  · have hpos : 0 < ys.length := List.length_pos_iff.2 hy
    obtain ⟨i3, hi3, hz0, hz1, hz2⟩ := info_parts Tryd.info3
    obtain ⟨g, o, rfl, _⟩ := hx 0 hpos
    have hcl : ∀ j u, (ys.map (Value.int .i64))[j]? = some u → w.cell? ((⟨g, o, none⟩ : Addr).add j) = some u := fun j u hu => by
      have hj : j < ys.length := by have := (List.getElem?_eq_some_iff.1 hu).1; simpa using this
      obtain ⟨g', o', e, _, _, hc⟩ := hx j hj
      simp only [Option.some.injEq, Addr.mk.injEq, and_true] at e
      obtain ⟨rfl, rfl⟩ := e
      rw [Addr.add_lit, hc]
      simpa [List.getD_eq_getElem?_getD, List.getElem?_eq_getElem hj] using hu
    obtain ⟨v', w', h1, h2, h3, h4, h5⟩ := run_append_own_at (P := Tryd.prog) w B 22 ty 3 i3 (.int .i64 0) 1 8 Tryd.underlying22 hi3 hz0 hz1 hz2 rfl (by decide) v zs.length (zs.map (Value.int .i64)) hv ⟨g, o, none⟩ ys.length c (ys.map (Value.int .i64)) (by simp) hcl (by intro u hu; obtain ⟨x, _, rfl⟩ := List.mem_map.1 hu; rfl) (by unfold maxLen; omega) (by omega) hB
    refine ⟨v', w', h1, ?_, h3, h5⟩
    show w'.ownsRow B 3 1 v' (zs ++ ys).length ((zs ++ ys).map (Value.int .i64))
    rw [List.length_append, List.map_append]
    exact h2
theorem wpList_append_rows {ops : Array Oper} {rest : List Oper} {o : Oper} {a : Act} {Q : Exit → Act → World → Prop} {w : World} (hgd : o.guard = none) (s x : Operand) (ho : o.op = .call { callee := .builtin .append, args := #[s, x], argTypes := #[22, 22] })
    (B : Nat) (A : Nat → Prop) (v xv : Value) (zs ys : List Int) (hs : a.eval s = v) (hx : a.eval x = xv) (hv : RowI B w v zs) (hxv : Rds A w xv ys) (hb : zs.length + ys.length ≤ 1000) (hB : B ≤ w.heap.size)
    (h : ∀ v' w', RowI B w' v' (zs ++ ys) → w.grownBy w' v.ownBlock → (v'.ownBlock = v.ownBlock ∨ v'.ownBlock = some w.heap.size) → wpList Tryd.prog ops Q rest (a.put o.dst v') w') : wpList Tryd.prog ops Q (o :: rest) a w := by
  refine wpList_plain hgd fun K hK => ?_
  obtain ⟨v', w', hr, h2, h3, h4⟩ := run_append_rows o.type hv hxv hb hB
  unfold Oper.wp execOp
  simp only [ho, resolve, invoke, builtin, Sem.run_bind, Sem.run_pure, Result.andThen_ok, List.map_toArray, List.map_cons, List.map_nil, hs, hx, hr]
  exact hK _ _ (h v' w' h2 h3 h4)
theorem RowI.whole (w : World) (N n : Nat) (ys : List Int) (hn : ys.length = n) (h60 : n ≤ 60) (h : w.heap[N]? = some (.cells (ys.map (Value.int .i64)).toArray 3 (0, 0))) : RowI N w (.slice (some ⟨N, 0, none⟩) n n) ys := by
  subst hn
  exact ⟨by simp, Or.inr ⟨N, _, _, rfl, Nat.le_refl _, h, Nat.le_refl _, by unfold maxLen; omega, by simp, by simp [List.take_of_length_le]⟩⟩

set_option maxHeartbeats 1000000 in
theorem ints_same (A1 A2 : Nat → Prop) (v1 v2 : Value) (xs : List Int) (w : World) (h1 : Rds A1 w v1 xs) (h2 : Rds A2 w v2 xs) (hx : xs.length ≤ 100) :
    Calls Tryd.prog 9 #[v1, v2] w fun e w' => e = .returned (.bool true) ∧ ∃ q, w' = w.drewN q := by
  obtain ⟨a1, c1, rfl, hl1, h1⟩ := h1
  obtain ⟨a2, c2, rfl, hl2, h2⟩ := h2
  have H1 : Hid (∀ k, k < xs.length → ∃ b o, a1 = some ⟨b, o, none⟩ ∧ A1 b ∧ b < w.heap.size ∧ w.cell? ⟨b, o + k, none⟩ = some (.int .i64 (xs.getD k 0))) := h1
  have H2 : Hid (∀ k, k < xs.length → ∃ b o, a2 = some ⟨b, o, none⟩ ∧ A2 b ∧ b < w.heap.size ∧ w.cell? ⟨b, o + k, none⟩ = some (.int .i64 (xs.getD k 0))) := h2
  have hne : ((xs.length : Int) != (xs.length : Int)) = false := by simp
  clear h1 h2 hl1 hl2
  go_enter Tryd.func9, Tryd.ntmps9
  go_wp2
  go_loopw [5] (fun i wr => ∃ k n : Nat, k ≤ xs.length ∧ i = .int .i64 k ∧ wr = w.drewN n) (fun i _ => xs.length - (intOf i).toNat)
  case atStart => exact ⟨0, 0, Nat.zero_le _, rfl, rfl⟩
  case round =>
    obtain ⟨k, n, hk, rfl, rfl⟩ := hrel
    by_cases hkl : k < xs.length
    · obtain ⟨b1, o1, rfl, _, _, hc1⟩ := H1.out k hkl
      obtain ⟨b2, o2, rfl, _, _, hc2⟩ := H2.out k hkl
      generalize xs.getD k 0 = x at *
      have he : (x != x) = false := by simp
      go_wp2
      go_quiet (fail)
      go_wp2
      go_roundw
      case rel => exact ⟨k + 1, _, by omega, by go_num, rfl⟩
      case measure => simp [intOf]; omega
    · go_wp2
      go_ret
      exact ⟨rfl, n, rfl⟩

/-- Two rows that share no block. -/
def Apart (va vb : Value) : Prop := ∀ k, va.ownBlock = some k → vb.ownBlock = some k → False
theorem Apart.symm {va vb : Value} (h : Apart va vb) : Apart vb va := fun k h1 h2 => h k h2 h1
theorem two_grow {B : Nat} {w1 w2 : World} {va vb v' : Value} {nb : Nat} {xb : List Value} (hb : w1.ownsRow B 3 1 vb nb xb) (hap : Apart va vb) (hg : w1.grownBy w2 va.ownBlock) (hat : v'.ownBlock = va.ownBlock ∨ v'.ownBlock = some w1.heap.size) : w2.ownsRow B 3 1 vb nb xb ∧ Apart v' vb := by
  refine ⟨hb.kept hg ?_, fun k h1 h2 => ?_⟩
  · cases h : vb.ownBlock with
    | none => exact Or.inl rfl
    | some k => exact Or.inr (fun e => hap k e.symm h)
  · rcases hat with h | h
    · exact hap k (h.symm.trans h1) h2
    · have := (hb.lt k h2).2
      rw [h] at h1
      simp only [Option.some.injEq] at h1
      omega

/-- What Cutting's loop has come to: two rows of their own. -/
structure CutM (n k : Nat) (xs la lb : List Int) (w wr : World) (va vb : Value) : Prop where
  ea : la = xs.take (min k n)
  eb : lb = (xs.take k).drop n
  a : RowI w.heap.size wr va la
  b : RowI w.heap.size wr vb lb
  ap : Apart va vb
  below : Below w.heap.size w wr

theorem take_one (xs : List Int) {k : Nat} (h : k < xs.length) : xs.take (k + 1) = xs.take k ++ [xs.getD k 0] := by
  rw [List.take_succ_eq_append_getElem h, List.getD_eq_getElem?_getD, List.getElem?_eq_getElem h]; rfl
theorem one_rds (w : World) (x : Int) : Rds (fun _ => True) (w.alloc (.cells #[.int .i64 x] 3)) (.slice (some ⟨w.heap.size, 0, none⟩) 1 1) [x] :=
  ((RowI.whole _ _ 1 _ rfl (by omega) (heap_alloc_new w _)).rds).mono (fun _ _ => trivial)

set_option maxRecDepth 100000 in
set_option maxHeartbeats 2000000 in
theorem cutting_any (A : Nat → Prop) (v : Value) (xs : List Int) (n : Nat) (w : World) (h : Rds A w v xs) (hx : xs.length ≤ 100) :
    Calls Tryd.prog 19 #[v, .int .i64 n] w fun e w' => ∃ va vb, e = .returned (.tuple #[va, vb]) ∧ RowI w.heap.size w' va (xs.take n) ∧ RowI w.heap.size w' vb (xs.drop n) ∧ Apart va vb ∧ Below w.heap.size w w' := by
  obtain ⟨a1, c1, rfl, hl1, h⟩ := h
  have H : Hid (∀ k, k < xs.length → ∃ b o, a1 = some ⟨b, o, none⟩ ∧ A b ∧ b < w.heap.size ∧ w.cell? ⟨b, o + k, none⟩ = some (.int .i64 (xs.getD k 0))) := h
  clear h hl1
  go_enter Tryd.func19, Tryd.ntmps19
  go_wp2
  go_loopw [6, 7, 8] (fun va vb s8 wr => ∃ (k : Nat) (la lb : List Int), k ≤ xs.length ∧ s8 = .int .i64 k ∧ Hid (CutM n k xs la lb w wr va vb)) (fun _ _ s8 _ => xs.length - (intOf s8).toNat)
  case atStart => exact ⟨0, [], [], Nat.zero_le _, rfl, ⟨by simp, by simp, RowI.nil _ _, RowI.nil _ _, fun k h => by simp [Value.ownBlock] at h, Below.refl _ _⟩⟩
  case round =>
    obtain ⟨k, la, lb, hk, rfl, hM⟩ := hrel
    obtain ⟨aa, ac, rfl⟩ := hM.out.a.shape
    obtain ⟨ba, bc, rfl⟩ := hM.out.b.shape
    have hla : la.length ≤ 100 := by rw [hM.out.ea]; simp; omega
    have hlb : lb.length ≤ 100 := by rw [hM.out.eb]; simp; omega
    by_cases hkl : k < xs.length
    · obtain ⟨b1, o1, rfl, _, hb1, hc1⟩ := H.out k hkl
      have hc2 := (hM.out.below.cell (p := ⟨b1, o1 + k, none⟩) hb1).trans hc1
      have hT := take_one xs hkl
      have HT : Hid (xs.take (k + 1) = xs.take k ++ [xs.getD k 0]) := hT
      clear hc1 hT
      generalize xs.getD k 0 = x at *
      have hsz := hM.out.below.size
      have HO : Hid (Rds (fun _ => True) (wr.alloc (.cells #[.int .i64 x] 3)) (.slice (some ⟨wr.heap.size, 0, none⟩) 1 1) [x]) := one_rds wr x
      by_cases hkn : k < n
      · have hkn' : (k : Int) < (n : Int) := by omega
        have hoa := hM.out.a.alloc (.cells #[.int .i64 x] 3)
        go_wp2_with (first | (at_builtin; refine wpList_append_rows rfl (.tmp 18) (.tmp 23) rfl w.heap.size (fun _ => True) (.slice aa la.length ac) (.slice (some ⟨wr.heap.size, 0, none⟩) 1 1) la [x] rfl rfl hoa HO.out (by simp; omega) (by simp; omega) ?_; intro v2 w2 hown2 hgr2 hat2))
        obtain ⟨hb2, hap2⟩ := two_grow (hM.out.b.alloc (.cells #[.int .i64 x] 3)) hM.out.ap hgr2 (by simpa using hat2)
        have hM2 : Hid (CutM n (k + 1) xs (la ++ [x]) lb w w2 v2 (.slice ba lb.length bc)) := by
          refine ⟨?_, ?_, hown2, hb2, hap2, (hM.out.below.alloc hsz _).grown hgr2 (by simp; omega) (fun j e => (hM.out.a.low e).1)⟩
          · rw [show min (k + 1) n = k + 1 by omega, HT.out, hM.out.ea, show min k n = k by omega]
          · rw [hM.out.eb, List.drop_eq_nil_of_le (by simp; omega), List.drop_eq_nil_of_le (by simp; omega)]
        clear hM hown2 hgr2 hat2 hb2 hap2 hoa HO
        go_wp2
        go_roundw
        case rel => exact ⟨k + 1, _, _, by omega, by go_num, hM2⟩
        case measure => simp [intOf]; omega
      · have hkn' : ¬ (k : Int) < (n : Int) := by omega
        have hob := hM.out.b.alloc (.cells #[.int .i64 x] 3)
        go_wp2_with (first | (at_builtin; refine wpList_append_rows rfl (.tmp 25) (.tmp 30) rfl w.heap.size (fun _ => True) (.slice ba lb.length bc) (.slice (some ⟨wr.heap.size, 0, none⟩) 1 1) lb [x] rfl rfl hob HO.out (by simp; omega) (by simp; omega) ?_; intro v2 w2 hown2 hgr2 hat2))
        obtain ⟨ha2, hap2⟩ := two_grow (hM.out.a.alloc (.cells #[.int .i64 x] 3)) hM.out.ap.symm hgr2 (by simpa using hat2)
        have hM2 : Hid (CutM n (k + 1) xs la (lb ++ [x]) w w2 (.slice aa la.length ac) v2) := by
          refine ⟨?_, ?_, ha2, hown2, hap2.symm, (hM.out.below.alloc hsz _).grown hgr2 (by simp; omega) (fun j e => (hM.out.b.low e).1)⟩
          · rw [show min (k + 1) n = min k n by omega]
            exact hM.out.ea
          · rw [HT.out, List.drop_append_of_le_length (by simp; omega), hM.out.eb]
        clear hM hown2 hgr2 hat2 ha2 hap2 hob HO
        go_wp2
        go_roundw
        case rel => exact ⟨k + 1, _, _, by omega, by go_num, hM2⟩
        case measure => simp [intOf]; omega
    · have hke : k = xs.length := by omega
      have hkl' : ¬ (k : Int) < (xs.length : Int) := by omega
      have HA : Hid (RowI w.heap.size wr (.slice aa la.length ac) (xs.take n)) := by
        have := hM.out.a
        have e := hM.out.ea
        rw [show xs.take (min k n) = xs.take n from by rw [hke, Nat.min_comm, ← List.take_eq_take_min]] at e
        rwa [e] at this ⊢
      have HBB : Hid (RowI w.heap.size wr (.slice ba lb.length bc) (xs.drop n)) := by
        have := hM.out.b
        have e := hM.out.eb
        rw [hke, List.take_length] at e
        rwa [e] at this ⊢
      have HL : Hid (Below w.heap.size w wr) := hM.out.below
      have HP : Hid (Apart (.slice aa la.length ac) (.slice ba lb.length bc)) := hM.out.ap
      clear hM
      go_wp2
      go_ret2
      exact ⟨_, _, rfl, HA.out, HBB.out, HP.out, HL.out⟩
end Go.Proofs.YtiiaocjknpbenaaDoor
