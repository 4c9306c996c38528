/- Append of bytes; the contracts of a log's Crash and Done. -/
import Derived.Test.YtbknbakbfblbiaaDoorLge
import Derived.Maps.AppendAt
import Derived.Deep.RegionLaw
import Derived.Deep.RegionHeld3
import Derived.Lib.MinMax
namespace Go.Proofs.YtbknbakbfblbiaaDoor
open Go.RowKit Go.Deep

theorem Tryd.info5 : (Tryd.prog.info? 5).map (fun i => (i.zero, i.size, i.bytes)) = some (some (.int .u8 0), 1, 1) := by kernel_rfl
theorem run_append_bytes (ty : TypeId) {B : Nat} {v : Value} {bs ys : List Nat} {g m c : Nat} {w : World} (hv : RowB B w v bs) (hx : BytesAt w (.slice (some ⟨g, 0, none⟩) ys.length c) ys) (hb : bs.length + ys.length ≤ 1000) (hm : m = bs.length + ys.length) (hB : B ≤ w.heap.size) (hp : 0 < ys.length) :
    ∃ a2 c2 w', (Builtin.append_ #[53, 53] ty #[v, .slice (some ⟨g, 0, none⟩) ys.length c]).run Tryd.prog w = .ok (.slice a2 m c2) w' ∧ RowB B w' (.slice a2 m c2) (bs ++ ys) ∧ w.grownBy w' v.ownBlock ∧ ((Value.slice a2 m c2).ownBlock = v.ownBlock ∨ (Value.slice a2 m c2).ownBlock = some w.heap.size) := by
  obtain ⟨a, c0, rfl, hc0⟩ := hv.cap
  obtain ⟨i3, hi3, hz0, hz1, hz2⟩ := info_parts Tryd.info5
  obtain ⟨a', c', hve, _, hx⟩ := hx
  simp only [Value.slice.injEq] at hve
  obtain ⟨rfl, _, rfl⟩ := hve
  rcases hx with hx | ⟨g', o, he, hlt, hx⟩
  · rw [hx] at hp; simp at hp
  simp only [Option.some.injEq, Addr.mk.injEq, and_true] at he
  obtain ⟨rfl, rfl⟩ := he
  have hcl : ∀ j u, (bytesV ys)[j]? = some u → w.cell? ((⟨g, 0, none⟩ : Addr).add j) = some u := fun j u hu => by
    have hj : j < ys.length := by have := (List.getElem?_eq_some_iff.1 hu).1; rwa [bytesV_length] at this
    rw [Addr.add_lit, hx j hj, ← bytesV_at hj]
    exact hu
  obtain ⟨v', w', h1, h2, h3, h4, h5⟩ := run_append_own_at (P := Tryd.prog) w B 53 ty 5 i3 (.int .u8 0) 1 1 Tryd.underlying53 hi3 hz0 hz1 hz2 rfl (by decide) (.slice a bs.length c0) bs.length (bytesV bs) hv ⟨g, 0, none⟩ ys.length c (bytesV ys) (by rw [bytesV_length, Nat.mul_one]) hcl (by intro u hu; obtain ⟨x, _, rfl⟩ := List.mem_map.1 hu; rfl) (by unfold maxLen; omega) (by omega) hB
  have h6 : RowB B w' v' (bs ++ ys) := by
    show w'.ownsRow B 5 1 v' (bs ++ ys).length (bytesV (bs ++ ys))
    rw [List.length_append, bytesV_append]
    exact h2
  obtain ⟨a2, c2, rfl, _⟩ := h6.cap
  rw [List.length_append, ← hm] at *
  exact ⟨a2, c2, w', h1, h6, h3, h5⟩
theorem wpList_append_bytes {ops : Array Oper} {rest : List Oper} {o : Oper} {a : Act} {Q : Exit → Act → World → Prop} {w : World} (hgd : o.guard = none) (s x : Operand) (ho : o.op = .call { callee := .builtin .append, args := #[s, x], argTypes := #[53, 53] })
    (B m : Nat) (v : Value) (bs ys : List Nat) (g n c : Nat) (hs : a.eval s = v) (hx : a.eval x = .slice (some ⟨g, 0, none⟩) n c) (hn : n = ys.length) (hv : RowB B w v bs) (hxv : BytesAt w (.slice (some ⟨g, 0, none⟩) n c) ys) (hb : bs.length + ys.length ≤ 1000) (hm : m = bs.length + ys.length) (hB : B ≤ w.heap.size) (hp : 0 < ys.length)
    (h : ∀ a2 c2 w', RowB B w' (.slice a2 m c2) (bs ++ ys) → w.grownBy w' v.ownBlock → ((Value.slice a2 m c2).ownBlock = v.ownBlock ∨ (Value.slice a2 m c2).ownBlock = some w.heap.size) → wpList Tryd.prog ops Q rest (a.put o.dst (.slice a2 m c2)) w') : wpList Tryd.prog ops Q (o :: rest) a w := by
  refine wpList_plain hgd fun K hK => ?_
  subst hn
  obtain ⟨a2, c2, w', hr, h2, h3, h4⟩ := run_append_bytes o.type hv hxv hb hm hB hp
  unfold Oper.wp execOp
  simp only [ho, resolve, invoke, builtin, Sem.run_bind, Sem.run_pure, Result.andThen_ok, List.map_toArray, List.map_cons, List.map_nil, hs, hx, hr]
  exact hK _ _ (h a2 c2 w' h2 h3 h4)
theorem step_append_bytes {ops : Array Oper} {o : Oper} {a : Act} {w : World} {K : Act → World → Prop} {Q : Exit → Act → World → Prop} {E : Prop} (hgd : o.guard = none) (s x : Operand) (ho : o.op = .call { callee := .builtin .append, args := #[s, x], argTypes := #[53, 53] })
    (B m : Nat) (v : Value) (bs ys : List Nat) (g n c : Nat) (hs : a.eval s = v) (hx : a.eval x = .slice (some ⟨g, 0, none⟩) n c) (hn : n = ys.length) (hv : RowB B w v bs) (hxv : BytesAt w (.slice (some ⟨g, 0, none⟩) n c) ys) (hb : bs.length + ys.length ≤ 1000) (hm : m = bs.length + ys.length) (hB : B ≤ w.heap.size) (hp : 0 < ys.length)
    (h : ∀ a2 c2 w', RowB B w' (.slice a2 m c2) (bs ++ ys) → w.grownBy w' v.ownBlock → ((Value.slice a2 m c2).ownBlock = v.ownBlock ∨ (Value.slice a2 m c2).ownBlock = some w.heap.size) → K (a.put o.dst (.slice a2 m c2)) w') :
    if Region.wanted o (yielded ops a.tmps) = true then Oper.wp Tryd.prog o a w K Q else E := by
  have hw : Region.wanted o (yielded ops a.tmps) = true := by simp [Region.wanted, hgd]
  rw [if_pos hw]
  subst hn
  obtain ⟨a2, c2, w', hr, h2, h3, h4⟩ := run_append_bytes o.type hv hxv hb hm hB hp
  unfold Oper.wp execOp
  simp only [ho, resolve, invoke, builtin, Sem.run_bind, Sem.run_pure, Result.andThen_ok, List.map_toArray, List.map_cons, List.map_nil, hs, hx, hr]
  exact h a2 c2 w' h2 h3 h4

variable {B T L J : Nat} {X XJ : Nat → Prop} {pv dv : Value} {ts : List (Int × List Int)} {S : Nat → Bool} {s : Ls} {w w' : World}

/-- A crash, in memory. -/
theorem LgM.crash {a : Option Addr} {n c : Nat} {k : Nat} (h : LgM B T X XJ L J pv (.slice a n c) ts S s w) (hok : s.Ok ts) (_h30 : ts.length ≤ 30) (keep : Int) (hn : n = (dataOf s.recs s.half).length) (hk : k = 2 * (s.kept keep / 2)) {w1 : World} (hw : w1 = ((((w.setCell ⟨L, 2, none⟩ (.slice a k c)).setCell ⟨L, 3, none⟩ (.int .i64 k)).setCell ⟨L, 4, none⟩ (.int .i64 (-1))).setCell ⟨L, 5, none⟩ (.bool false))) :
    LgM B T X XJ L J pv (.slice a k c) ts S (s.crash keep) w1 ∧ Kx X w w1 := by
  subst hw
  have hkl := (hok.kept_le keep).2
  have hrl : s.kept keep / 2 ≤ s.recs.length := by rw [dataOf_length] at hkl; have := hok.half; omega
  have hd : RowB B w (.slice a k c) (dataOf (s.crash keep).recs (s.crash keep).half) := by
    have h1 := h.data
    rw [hn] at h1
    have := h1.cut (n := k) (by omega)
    rw [hk, dataOf_take _ _ _ hrl, ← hk] at this
    exact this
  have hob : ∀ b, (Value.slice a k c).ownBlock = some b → (Value.slice a n c).ownBlock = some b := fun b hb => by cases a <;> exact hb
  obtain ⟨h1, h2, h3⟩ := h.setData (s' := { s with recs := (s.crash keep).recs, half := (s.crash keep).half }) (dv2 := .slice a k c) hd (Kx.refl _ _) (fun b hb => Or.inl (hob b hb)) rfl rfl rfl
  have h4 := ((h1.setSafe k).fail (-1)).stop false
  have e : (fun b => X b ∨ (Value.slice a k c).ownBlock = some b) = X := by funext b; exact propext ⟨fun hb => hb.elim id (fun e => h.xd b (hob b e)), Or.inl⟩
  rw [e] at h4
  subst hk
  refine ⟨h4, ?_⟩
  exact ((h2.set (Or.inl h.xL.1) _ _).set (Or.inl h.xL.1) _ _).set (Or.inl h.xL.1) _ _

set_option maxRecDepth 100000 in
set_option maxHeartbeats 4000000 in
theorem crash_any (keep : Int) (h : Lg B T X L ts s w) : Calls Tryd.prog 11 #[.pointer (some ⟨L, 0, none⟩), .int .i64 keep] w fun e w' => e = .returned (.tuple #[]) ∧ LgTo B T X L ts (s.crash keep) w w' := by
  obtain ⟨⟨XJ, J, pv, dv, hM⟩, hok, hck⟩ := h
  have h30 := hck.good.le
  have hc2 := hM.c2
  have hc3 := hM.c3
  have hf2 := hM.row.frozen 2
  have hf3 := hM.row.frozen 3
  have hf4 := hM.row.frozen 4
  have hf5 := hM.row.frozen 5
  have hc4 := hM.c4
  have hc5 := hM.c5
  have hlr := hok.seq.len
  have hl : (dataOf s.recs s.half).length ≤ 61 := by have := hok.half; rw [dataOf_length]; omega
  have hsl := hok.safe
  have hsd : s.safe ≤ (dataOf s.recs s.half).length := by rw [dataOf_length]; omega
  obtain ⟨hk1, hk2⟩ := hok.kept_le keep
  have hlow : ∀ x, x ∈ dataOf s.recs s.half → x < 256 := fun x hx => by
    unfold dataOf at hx
    rcases List.mem_append.1 hx with hx | hx
    · obtain ⟨d, hd, hx⟩ := List.mem_flatMap.1 hx
      have := hok.lt h30 hd
      simp at hx
      omega
    · have := hok.low x hx; omega
  have hla := lastP_data (fun x hx => hok.lt h30 hx) hok.half hok.low hk2
  obtain ⟨a, c, rfl, hcap⟩ := hM.data.cap
  have hwh : ∀ wx : World, wx.heap = w.heap → Calls Tryd.prog 29 #[.slice a (s.kept keep) c] wx fun e w' => e = .returned (.slice a (2 * (s.kept keep / 2)) c) ∧ w' = wx := fun wx hx => by
    have hlen : ((dataOf s.recs s.half).take (s.kept keep)).length = s.kept keep := by rw [List.length_take]; omega
    have h1 : BytesAt wx (.slice a ((dataOf s.recs s.half).take (s.kept keep)).length c) ((dataOf s.recs s.half).take (s.kept keep)) := by
      rw [hlen]
      exact ((hM.data.cut (n := s.kept keep) hk2).of_blocks (w' := wx) (fun k _ => by rw [hx])).bytes
    have := whole_any a c ((dataOf s.recs s.half).take (s.kept keep)) wx h1 (by rw [hlen]; omega) (fun x hx => hlow x (List.mem_of_mem_take hx))
    rw [hlen, lastP_take _ _ _ hk2, hla] at this
    exact this
  have hmn : min (max keep 0) ((((dataOf s.recs s.half).length : Nat) : Int) - (s.safe : Int)) = ((min keep.toNat ((dataOf s.recs s.half).length - s.safe) : Nat) : Int) := by omega
  have hadd : (s.safe : Int) + ((min keep.toNat ((dataOf s.recs s.half).length - s.safe) : Nat) : Int) = ((s.kept keep : Nat) : Int) := by unfold Ls.kept; omega
  have HM : Hid (∀ wx w1 : World, ∀ k, k = 2 * (s.kept keep / 2) → Below w.heap.size w wx → w1 = ((((wx.setCell ⟨L, 2, none⟩ (.slice a k c)).setCell ⟨L, 3, none⟩ (.int .i64 k)).setCell ⟨L, 4, none⟩ (.int .i64 (-1))).setCell ⟨L, 5, none⟩ (.bool false)) → LgM B T X XJ L J pv (.slice a k c) ts (inL s.recs) (s.crash keep) w1 ∧ Kx X w w1) := fun wx w1 k hk hb hw => by
    obtain ⟨h1, h2⟩ := (hM.later hb).crash hok h30 keep rfl hk hw
    exact ⟨h1, (Below.kx hb).trans h2 (fun _ h => Or.inl h)⟩
  have HOK : Hid ((s.crash keep).Ok ts) := hok.crash keep
  have HCK : Hid (CheckIs ts 0 0) := hck
  clear hM hok hck hlow hla
  generalize hkk : 2 * (s.kept keep / 2) = k2 at *
  have HKK : Hid (2 * (s.kept keep / 2) = k2) := hkk
  clear hkk
  generalize hkq : s.kept keep = kk at *
  generalize hq : min keep.toNat ((dataOf s.recs s.half).length - s.safe) = q at *
  generalize (dataOf s.recs s.half).length = n at *
  generalize keep.toNat = kn at *
  clear hq hkq
  have hkc : (kk : Int) ≤ (c : Int) := by omega
  have hwr : IntKind.i64.wrap (kk : Int) = (kk : Int) := by rw [IntKind.wrap_i64]; omega
  have hkc2 : kk ≤ c := by omega
  have hkc3 : ¬ (c : Int) < (kk : Int) := by omega
  have hkc4 : ¬ c < kk := by omega
  go_enter Tryd.func11, Tryd.ntmps11
  go_wp2
  go_region
  all_goals
    go_wp2
    go_region_with (first | (go_at_call 29; refine (hwh _ ?_).mono ?_; exact rfl; rintro e w' ⟨rfl, rfl⟩))
    all_goals
      go_wp2_with fail
      obtain ⟨h1, h2⟩ := HM.out w.drew.drew _ k2 rfl ⟨rfl, rfl, rfl, Nat.le_refl _, fun _ _ => rfl⟩ rfl
      refine (replay_any h1 HOK.out HCK.out).mono ?_
      rintro e w2 ⟨rfl, X2, h3, h4, h5⟩
      clear hwh HM
      go_wp2
      go_end0
      exact ⟨rfl, X2, h3, h2.trans h4 (fun _ h => Or.inl h), fun b hb => (h5 b hb).imp id (fun h => Nat.le_trans h2.size h)⟩
end Go.Proofs.YtbknbakbfblbiaaDoor
