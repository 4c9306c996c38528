/- Picks in memory: two cells, and the numbers that were not taken; New, take, Next, Used. -/
import Derived.Test.YtjomcnalmhgljaaDoorA
namespace Go.Proofs.YtjomcnalmhgljaaDoor
open Go.RowKit Go.Deep

def errV (k : Int) : Value := .iface 37 (.int .i64 k)

/-- What is picked of these, when so many were taken, modulo n. -/
def pk (ls : List Int) (u n : Nat) : Nat := if u < ls.length then (ls.getD u 0).toNat % n else 0
/-- How many were taken behind it. -/
def nx (ls : List Int) (u : Nat) : Nat := if u < ls.length then u + 1 else u
theorem pk_lt (ls : List Int) (u n : Nat) (h : 0 < n) : pk ls u n < n := by
  unfold pk
  split
  · exact Nat.mod_lt _ h
  · exact h
theorem nx_le (ls : List Int) (u : Nat) (h : u ≤ ls.length) : nx ls u ≤ ls.length := by
  unfold nx
  split <;> omega

/-- Picks in block P, of these numbers, of which u were taken; the others lie in a block from C on, ahead of P. -/
structure Pk (C P : Nat) (ls : List Int) (u : Nat) (w : World) : Prop where
  le : u ≤ ls.length
  few : ls.length ≤ 400
  pos : ∀ x, x ∈ ls → 0 ≤ x
  cells : ∃ v, w.heap[P]? = some (.cells #[v, .int .i64 u] 40 (0, 0)) ∧ Rds (fun k => C ≤ k ∧ k < P) w v (ls.drop u)
theorem Pk.lt {C P : Nat} {ls : List Int} {u : Nat} {w : World} (h : Pk C P ls u w) : P < w.heap.size := by
  obtain ⟨v, hc, _⟩ := h.cells
  exact (Array.getElem?_eq_some_iff.1 hc).1
theorem Pk.of_blocks {C P : Nat} {ls : List Int} {u : Nat} {w w' : World} (h : Pk C P ls u w) (hs : w.heap.size ≤ w'.heap.size) (hk : ∀ k, C ≤ k ∧ k < P ∨ k = P → w'.heap[k]? = w.heap[k]?) : Pk C P ls u w' := by
  obtain ⟨v, hc, hr⟩ := h.cells
  exact ⟨h.le, h.few, h.pos, v, (hk P (Or.inr rfl)).trans hc, hr.of_blocks hs (fun b hb _ => hk b (Or.inl hb))⟩
theorem Pk.below {C P B : Nat} {ls : List Int} {u : Nat} {w w' : World} (h : Pk C P ls u w) (hb : Below B w w') (hB : P < B) : Pk C P ls u w' := h.of_blocks hb.size (fun k hk => hb.block k (by omega))
theorem Pk.later {C P : Nat} {ls : List Int} {u : Nat} {w w' : World} (h : Pk C P ls u w) (hb : Below w.heap.size w w') : Pk C P ls u w' := h.below hb h.lt

theorem New_full (v : Value) (zs : List Int) (w : World) (hz : IntsAt w v zs) (h : 400 < zs.length) :
    Calls Tryd.prog 5 #[v] w fun e w' => e = .returned (.tuple #[.pointer none, errV 4]) ∧ w' = w := by
  obtain ⟨hl, a, c, rfl, -⟩ := hz
  have h1 : (400 : Int) < (zs.length : Int) := by omega
  go_enter Tryd.func5, Tryd.ntmps5
  go_wp2
  go_ret2
  exact ⟨rfl, rfl⟩
theorem predNeg (zs : List Int) (w : World) : PredIn 12 #[] (fun n => decide (n < 0)) zs w := ⟨fun _ _ => rfl, fun x _ => neg_any x w⟩
theorem New_range (v : Value) (zs : List Int) (w : World) (hz : IntsAt w v zs) (h : zs.length ≤ 400) (hn : zs.any (fun n => decide (n < 0)) = true) :
    Calls Tryd.prog 5 #[v] w fun e w' => e = .returned (.tuple #[.pointer none, errV 1]) ∧ w' = w := by
  have hc := containsFunc_any v zs 12 #[] _ w hz (predNeg zs w)
  rw [hn] at hc
  obtain ⟨hl, a, c, rfl, -⟩ := hz
  have h1 : ¬ (400 : Int) < (zs.length : Int) := by omega
  clear hn
  go_enter Tryd.func5, Tryd.ntmps5
  go_wp2_with (go_at_call 11; refine hc.mono ?_; clear hc; rintro e w' ⟨rfl, rfl⟩)
  go_ret2
  exact ⟨rfl, rfl⟩
theorem IntsAt.rds {w : World} {v : Value} {zs : List Int} (h : IntsAt w v zs) (hc : ∀ a n c, v = .slice a n c → n ≤ c) : Rds (fun _ => True) w v zs := by
  obtain ⟨_, a, c, rfl, h⟩ := h
  refine ⟨a, c, rfl, hc _ _ _ rfl, fun k hk => ?_⟩
  rcases h with rfl | ⟨b, o, rfl, hb, hcl⟩
  · simp at hk
  · exact ⟨b, o, rfl, trivial, hb, hcl k hk⟩
theorem New_good (v : Value) (zs : List Int) (w : World) (hz : IntsAt w v zs) (hcap : ∀ a n c, v = .slice a n c → n ≤ c) (h : zs.length ≤ 400) (hn : zs.any (fun n => decide (n < 0)) = false) :
    Calls Tryd.prog 5 #[v] w fun e w' => ∃ P, e = .returned (.tuple #[.pointer (some ⟨P, 0, none⟩), .nilIface]) ∧ Pk w.heap.size P zs 0 w' ∧ w.heap.size ≤ P ∧ Below w.heap.size w w' := by
  have hc := containsFunc_any v zs 12 #[] _ w hz (predNeg zs w)
  rw [hn] at hc
  have HR : Hid (Rds (fun _ => True) w v zs) := hz.rds hcap
  have hpos : ∀ x, x ∈ zs → 0 ≤ x := fun x hx => by
    have := List.any_eq_false.1 hn x hx
    simp at this
    exact this
  obtain ⟨hl, a, c, rfl, -⟩ := hz
  have h1 : ¬ (400 : Int) < (zs.length : Int) := by omega
  have HP : Hid (∀ x, x ∈ zs → 0 ≤ x) := hpos
  clear hn hpos hcap hl
  go_enter Tryd.func5, Tryd.ntmps5
  go_wp2_with (first | (go_at_call 11; refine hc.mono ?_; clear hc; rintro e w' ⟨rfl, rfl⟩) | (at_builtin; (refine wpList_append_rows rfl (.const (.slice none 0 0)) (.tmp 11) rfl w'.heap.size (fun _ => True) (.slice none 0 0) (.slice a zs.length c) [] zs rfl rfl (RowI.nil _ _) HR.out (by simp; omega) (Nat.le_refl _) ?_; intro v2 w2 hown hgr hat; rw [List.nil_append] at hown; obtain ⟨a2, c2, rfl⟩ := hown.shape)))
  go_ret2
  refine ⟨_, rfl, ⟨Nat.zero_le _, h, HP.out, _, heap_alloc_new _ _, ?_⟩, hgr.size, ?_⟩
  · rw [List.drop_zero]
    exact ((hown.rds).mono (fun b hb => hown.low hb)).of_blocks (by simp) (fun b hb hlt => Below.heap_alloc _ _ _ hlt)
  · exact ((Below.refl _ _).grown hgr (Nat.le_refl _) (fun j e => by simp [Value.ownBlock] at e)).alloc hgr.size _

theorem Used_any (C P : Nat) (ls : List Int) (u : Nat) (w : World) (h : Pk C P ls u w) :
    Calls Tryd.prog 8 #[.pointer (some ⟨P, 0, none⟩)] w fun e w' => e = .returned (.int .i64 u) ∧ w' = w := by
  obtain ⟨v, hc, -⟩ := h.cells
  have h1 : w.cell? ⟨P, 1, none⟩ = some (.int .i64 u) := by simp [World.cell?, hc]
  clear hc h
  go_enter Tryd.func8, Tryd.ntmps8
  go_wp2
  go_ret
  exact ⟨rfl, rfl⟩

theorem take_none (C P n : Nat) (ls : List Int) (u : Nat) (w : World) (h : Pk C P ls u w) (hu : ¬ u < ls.length) :
    Calls Tryd.prog 13 #[.pointer (some ⟨P, 0, none⟩), .int .i64 n] w fun e w' => e = .returned (.int .i64 0) ∧ w' = w := by
  obtain ⟨v, hc, a, c, rfl, -⟩ := h.cells
  have hd : (ls.drop u).length = 0 := by simp; omega
  rw [hd] at hc
  have h0 : w.cell? ⟨P, 0, none⟩ = some (.slice a 0 c) := by simp [World.cell?, hc]
  clear hc h hd
  go_enter Tryd.func13, Tryd.ntmps13
  go_wp2
  go_ret
  exact ⟨rfl, rfl⟩
theorem tmod_nat (x : Int) (n : Nat) (hx : 0 ≤ x) : x.tmod n = ((x.toNat % n : Nat) : Int) := by
  obtain ⟨k, rfl⟩ : ∃ k : Nat, x = k := ⟨x.toNat, by omega⟩
  rw [Int.tmod_eq_emod_of_nonneg (by omega)]
  simp
/-- One more was taken. -/
theorem Pk.taken {C P : Nat} {ls : List Int} {u : Nat} {v v' : Value} {w : World} (h : Pk C P ls u w) (hu : u < ls.length) (hc : w.heap[P]? = some (.cells #[v, .int .i64 u] 40 (0, 0))) (hr : Rds (fun k => C ≤ k ∧ k < P) w v' (ls.drop (u + 1))) :
    Pk C P ls (u + 1) ((w.setCell ⟨P, 0, none⟩ v').setCell ⟨P, 1, none⟩ (.int .i64 ((u : Int) + 1))) ∧ Kx (fun k => k = P) w ((w.setCell ⟨P, 0, none⟩ v').setCell ⟨P, 1, none⟩ (.int .i64 ((u : Int) + 1))) ∧ ((w.setCell ⟨P, 0, none⟩ v').setCell ⟨P, 1, none⟩ (.int .i64 ((u : Int) + 1))).heap.size = w.heap.size := by
  have hk : Kx (fun k => k = P) w ((w.setCell ⟨P, 0, none⟩ v').setCell ⟨P, 1, none⟩ (.int .i64 ((u : Int) + 1))) := ((Kx.refl (fun k => k = P) w).set (M := P) (Or.inl rfl) _ _).set (M := P) (Or.inl rfl) _ _
  refine ⟨⟨by omega, h.few, h.pos, v', ?_, hr.of_blocks hk.size (fun b hb hlt => hk.block b hlt (by show ¬ b = P; omega))⟩, hk, by simp⟩
  have h1 : (w.setCell ⟨P, 0, none⟩ v').heap[P]? = some (.cells #[v', .int .i64 u] 40 (0, 0)) := by
    rw [setCell_eq_setRow w P 0 _ 40 (0, 0) v' hc, setRow_heap w P _ _ 40 _ hc]
    rfl
  rw [setCell_eq_setRow _ P 1 _ 40 (0, 0) _ h1, setRow_heap _ P _ _ 40 _ h1]
  rfl
theorem take_some (C P n : Nat) (ls : List Int) (u : Nat) (w : World) (h : Pk C P ls u w) (hu : u < ls.length) (h1 : 1 ≤ n) (h2 : n ≤ 400) :
    Calls Tryd.prog 13 #[.pointer (some ⟨P, 0, none⟩), .int .i64 n] w fun e w' => e = .returned (.int .i64 ((ls.getD u 0).toNat % n : Nat)) ∧ Pk C P ls (u + 1) w' ∧ Kx (fun k => k = P) w w' ∧ w'.heap.size = w.heap.size := by
  have HH : Hid (Pk C P ls u w) := h
  have hx : 0 ≤ ls.getD u 0 := h.pos _ (by rw [List.getD_eq_getElem?_getD, List.getElem?_eq_getElem hu]; exact List.getElem_mem hu)
  have hmod := tmod_nat _ n hx
  have hfew := h.few
  obtain ⟨v, hc, a, c, rfl, hcap, hr⟩ := h.cells
  obtain ⟨b, o, rfl, hb, hbw, hcell⟩ := hr 0 (by simp; omega)
  have hg : (ls.drop u).getD 0 0 = ls.getD u 0 := by simp [List.getD_eq_getElem?_getD]
  rw [hg, Nat.add_zero] at hcell
  have HR : Hid (∀ k, k < (ls.drop u).length → w.cell? ⟨b, o + k, none⟩ = some (.int .i64 ((ls.drop u).getD k 0))) := fun k hk => by
    obtain ⟨b', o', e, _, _, h⟩ := hr k hk
    simp only [Option.some.injEq, Addr.mk.injEq, and_true] at e
    obtain ⟨rfl, rfl⟩ := e
    exact h
  obtain ⟨m, hm⟩ : ∃ m, (ls.drop u).length = m + 1 := ⟨ls.length - u - 1, by simp; omega⟩
  obtain ⟨c', hc'⟩ : ∃ c', c = c' + 1 := ⟨c - 1, by omega⟩
  subst hc'
  rw [hm] at hc hcap
  have HM : Hid ((ls.drop u).length = m + 1) := hm
  have h0 : w.cell? ⟨P, 0, none⟩ = some (.slice (some ⟨b, o, none⟩) (m + 1) (c' + 1)) := by simp [World.cell?, hc]
  have h1c : w.cell? ⟨P, 1, none⟩ = some (.int .i64 u) := by simp [World.cell?, hc]
  have hz : ∀ j, w.frozen? ⟨P, j, none⟩ = false := fun j => by simp [World.frozen?, hc]
  have HC : Hid (w.heap[P]? = some (.cells #[.slice (some ⟨b, o, none⟩) (m + 1) (c' + 1), .int .i64 u] 40 (0, 0))) := hc
  have hz0 := hz 0
  have hz1 := hz 1
  have hu400 : u < 400 := by omega
  have hrlt : (ls.getD u 0).toNat % n < n := Nat.mod_lt _ (by omega)
  generalize ls.getD u 0 = x at *
  generalize hq : x.toNat % n = q at *
  have hn0 : ¬ (n : Int) = 0 := by omega
  clear h hr hg hm hc hz hq hfew hu
  have hdl : (ls.drop (u + 1)).length = m := by have := HM.out; simp at this ⊢; omega
  have hdg : ∀ k, (ls.drop (u + 1)).getD k 0 = (ls.drop u).getD (k + 1) 0 := fun k => by simp [List.getD_eq_getElem?_getD]; congr 2; omega
  have hul : u < ls.length := by have := HM.out; simp at this; omega
  by_cases hc0 : c' = 0
  · subst hc0
    have HD : Hid ((ls.drop (u + 1)).length = 0) := by show _ = 0; omega
    clear hdl hdg
    go_enter Tryd.func13, Tryd.ntmps13
    go_wp2
    go_ret
    exact ⟨rfl, HH.out.taken hul HC.out ⟨_, _, by rw [HD.out], by rw [HD.out]; omega, fun k hk => by rw [HD.out] at hk; omega⟩⟩
  · have HD : Hid ((ls.drop (u + 1)).length = m) := hdl
    have HG : Hid (∀ k, (ls.drop (u + 1)).getD k 0 = (ls.drop u).getD (k + 1) 0) := hdg
    clear hdl hdg
    go_enter Tryd.func13, Tryd.ntmps13
    go_wp2
    go_ret
    refine ⟨rfl, HH.out.taken hul HC.out ⟨_, _, by rw [HD.out], by rw [HD.out]; omega, fun k hk => ⟨b, o + 1, rfl, hb, hbw, ?_⟩⟩⟩
    rw [HG.out k, Nat.add_assoc, Nat.add_comm 1 k]
    exact HR.out (k + 1) (by have := HM.out; have := HD.out; omega)

/-- take, whatever is left. -/
theorem take_any (C P n : Nat) (ls : List Int) (u : Nat) (w : World) (h : Pk C P ls u w) (h1 : 1 ≤ n) (h2 : n ≤ 400) :
    Calls Tryd.prog 13 #[.pointer (some ⟨P, 0, none⟩), .int .i64 n] w fun e w' => e = .returned (.int .i64 (pk ls u n : Nat)) ∧ Pk C P ls (nx ls u) w' ∧ Kx (fun k => k = P) w w' ∧ w'.heap.size = w.heap.size := by
  by_cases hu : u < ls.length
  · rw [show pk ls u n = (ls.getD u 0).toNat % n by simp [pk, hu], show nx ls u = u + 1 by simp [nx, hu]]
    exact take_some C P n ls u w h hu h1 h2
  · rw [show pk ls u n = 0 by simp [pk, hu], show nx ls u = u by simp [nx, hu]]
    refine (take_none C P n ls u w h hu).mono ?_
    rintro e w' ⟨rfl, rfl⟩
    exact ⟨rfl, h, Kx.refl _ _, rfl⟩
theorem Next_bad (P : Nat) (n : Int) (w : World) (h : n < 1 ∨ 400 < n) : Calls Tryd.prog 6 #[.pointer (some ⟨P, 0, none⟩), .int .i64 n] w fun e w' => e = .returned (.tuple #[.int .i64 0, errV 1]) ∧ w' = w := by
  by_cases h1 : n < 1
  · go_enter Tryd.func6, Tryd.ntmps6
    go_wp2
    go_ret2
    exact ⟨rfl, rfl⟩
  · have h2 : 400 < n := by omega
    go_enter Tryd.func6, Tryd.ntmps6
    go_wp2
    go_ret2
    exact ⟨rfl, rfl⟩
theorem Next_good (C P n : Nat) (ls : List Int) (u : Nat) (w : World) (h : Pk C P ls u w) (h1 : 1 ≤ n) (h2 : n ≤ 400) :
    Calls Tryd.prog 6 #[.pointer (some ⟨P, 0, none⟩), .int .i64 n] w fun e w' => e = .returned (.tuple #[.int .i64 (pk ls u n : Nat), .nilIface]) ∧ Pk C P ls (nx ls u) w' ∧ Kx (fun k => k = P) w w' ∧ w'.heap.size = w.heap.size := by
  have hc := take_any C P n ls u w h h1 h2
  have g1 : ¬ (n : Int) < 1 := by omega
  have g2 : ¬ (400 : Int) < (n : Int) := by omega
  clear h
  go_enter Tryd.func6, Tryd.ntmps6
  go_wp2_with (go_at_call 13; refine hc.mono ?_; clear hc; rintro e w' ⟨rfl, hh⟩)
  go_ret2
  exact ⟨rfl, hh⟩
end Go.Proofs.YtjomcnalmhgljaaDoor
