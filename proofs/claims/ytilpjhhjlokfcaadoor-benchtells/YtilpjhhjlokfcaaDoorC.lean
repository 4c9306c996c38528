/- The contract of inRing: whether a task reaches itself. -/
import Derived.Test.YtilpjhhjlokfcaaDoorB
import Derived.Test.YtilpjhhjlokfcaaDoorG
import Derived.Deep.OwnRows
import Derived.WalkSmall
namespace Go.Proofs.YtilpjhhjlokfcaaDoor
open Go.RowKit

/-- A slice value whose elements are the tasks ts, in the world w. -/
def PlanAt (w : World) (v : Value) (ts : List (Int × List Int)) : Prop :=
  ts.length * 32 ≤ 140737488351232 ∧ ∃ a c, v = .slice a ts.length c ∧ (ts = [] ∨ ∃ b o, a = some ⟨b, o, none⟩ ∧ b < w.heap.size ∧
    ∀ k, k < ts.length → w.cell? ⟨b, o + k * 2, none⟩ = some (.int .i64 (ts.getD k (0, [])).1) ∧ ∃ nv, w.cell? ⟨b, o + k * 2 + 1, none⟩ = some nv ∧ IntsAt w nv (needsOf ts k))

theorem PlanAt.later {w w' : World} {v : Value} {ts : List (Int × List Int)} (h : PlanAt w v ts) (hb : Below w.heap.size w w') : PlanAt w' v ts := by
  obtain ⟨hl, a, c, hv, h⟩ := h
  refine ⟨hl, a, c, hv, ?_⟩
  rcases h with h | ⟨b, o, ha, hlt, hc⟩
  · exact Or.inl h
  · refine Or.inr ⟨b, o, ha, Nat.lt_of_lt_of_le hlt hb.size, fun k hk => ?_⟩
    obtain ⟨h1, nv, h2, h3⟩ := hc k hk
    exact ⟨(hb.cell (p := ⟨b, o + k * 2, none⟩) hlt).trans h1, nv, (hb.cell (p := ⟨b, o + k * 2 + 1, none⟩) hlt).trans h2, h3.later hb⟩

theorem Tryd.info3 : (Tryd.prog.info? 3).map (fun i => (i.zero, i.size, i.bytes)) = some (some (.int .i64 0), 1, 8) := by kernel_rfl
theorem Tryd.info4 : (Tryd.prog.info? 4).map (fun i => (i.zero, i.size, i.bytes)) = some (some (.bool false), 1, 1) := by kernel_rfl

def natV (x : Nat) : Value := .int .i64 x

/-- What the search's memory is: the row 'seen' in block N, the stack from block N + 1 on. -/
structure DfsMem (N n : Nat) (w wr : World) (s6 : Value) (S : Nat → Bool) (st : List Nat) : Prop where
  own : wr.ownsRow (N + 1) 3 1 s6 st.length (st.map natV)
  shape : ∃ g cap, s6 = .slice (some ⟨g, 0, none⟩) st.length cap
  row : wr.rowIs N 4 n (fun k => .bool (S k))
  below : Below N w wr

theorem DfsMem.start (w : World) (n i : Nat) : DfsMem w.heap.size n w ((w.alloc (.cells (madeCells #[.bool false] n) 4)).alloc (.cells #[.int .i64 i] 3)) (.slice (some ⟨w.heap.size + 1, 0, none⟩) 1 1) (fun _ => false) [i] := {
  own := by
    have h := World.ownsRow_lit (base := w.heap.size + 1) (e := 3) (size := 1) (w.alloc (.cells (madeCells #[.bool false] n) 4)) #[.int .i64 i] 1 (by simp) (by unfold maxLen; omega) rfl
    simpa [natV] using h
  shape := ⟨_, _, rfl⟩
  row := (World.rowIs_made w (.bool false) n 4).alloc _
  below := ((Below.refl _ _).alloc (Nat.le_refl _) _).alloc (by simp) _
  }

theorem DfsMem.top {N n : Nat} {w wr : World} {g cap : Nat} {S : Nat → Bool} {st : List Nat} {x : Nat} (h : DfsMem N n w wr (.slice (some ⟨g, 0, none⟩) (st ++ [x]).length cap) S (st ++ [x])) :
    wr.cell? ⟨g, st.length, none⟩ = some (.int .i64 x) := by
  have := h.own.cellAt st.length (by simp)
  rw [this]
  simp [natV]

theorem DfsMem.pop {N n : Nat} {w wr : World} {g cap : Nat} {S : Nat → Bool} {st : List Nat} {x : Nat} (h : DfsMem N n w wr (.slice (some ⟨g, 0, none⟩) (st ++ [x]).length cap) S (st ++ [x])) :
    DfsMem N n w wr (.slice (some ⟨g, 0, none⟩) st.length cap) S st := {
  own := by
    have := h.own
    rw [List.length_append, List.map_append] at this
    exact ownsRow_pop (n := st.length) (by simp) this
  shape := ⟨_, _, rfl⟩
  row := h.row
  below := h.below
  }

theorem shape_of_owns {w : World} {base : Nat} {v : Value} {n : Nat} {xs : List Value} (h : w.ownsRow base 3 1 v n xs) (hn : 0 < n) : ∃ g cap, v = .slice (some ⟨g, 0, none⟩) n cap := by
  rcases h.2 with ⟨_, h0⟩ | ⟨g, cap, _, hv, _⟩
  · omega
  · exact ⟨g, cap, hv⟩

theorem DfsMem.seenSet {N n : Nat} {w wr : World} {s6 : Value} {S : Nat → Bool} {st : List Nat} (h : DfsMem N n w wr s6 S st) (y : Nat) :
    DfsMem N n w (wr.setCell ⟨N, y, none⟩ (.bool true)) s6 (mark S y) st := {
  own := ownsRow_setCell_below h.own (by show N < N + 1; omega) _
  shape := h.shape
  row := (h.row.set y (.bool true)).congr (fun k _ => by unfold mark; split <;> simp_all)
  below := h.below.setCell (Nat.le_refl _) _
  }

theorem DfsMem.alloc {N n : Nat} {w wr : World} {s6 : Value} {S : Nat → Bool} {st : List Nat} (h : DfsMem N n w wr s6 S st) (o : Obj) : DfsMem N n w (wr.alloc o) s6 S st := {
  own := h.own.alloc o
  shape := h.shape
  row := h.row.alloc o
  below := h.below.alloc (Nat.le_of_lt h.row.lt) o
  }

theorem DfsMem.pushed {N n : Nat} {w wr w1 : World} {s6 v' : Value} {S : Nat → Bool} {st : List Nat} {y : Nat} (h : DfsMem N n w wr s6 S st)
    (ho : w1.ownsRow (N + 1) 3 1 v' (st.length + 1) (st.map natV ++ [natV y])) (hg : wr.grownBy w1 s6.ownBlock) : DfsMem N n w w1 v' S (st ++ [y]) := {
  own := by simpa using ho
  shape := by have := shape_of_owns ho (by omega); simpa using this
  row := h.row.of_block (hg.block N h.row.lt (fun e => by have := h.own.lt N e.symm; omega))
  below := h.below.grown hg (Nat.le_of_lt h.row.lt) (fun k e => by have := h.own.lt k e; omega)
  }

set_option maxRecDepth 100000 in
set_option maxHeartbeats 4000000 in
theorem inRing_any (v : Value) (ts : List (Int × List Int)) (i : Nat) (w : World) (hp : PlanAt w v ts) (hi : i < ts.length) (hr : InRange ts) :
    Calls Tryd.prog 46 #[v, .int .i64 i] w fun e w' => (∃ b, e = .returned (.bool b) ∧ (b = true ↔ Reach ts i i)) ∧ Below w.heap.size w w' := by
  obtain ⟨hl, a, c, rfl, hp⟩ := hp
  rcases hp with rfl | ⟨b, o, rfl, hbl, hc⟩
  · simp at hi
  have hmk := fun wx => run_make_row' (P := Tryd.prog) 52 4 (.bool false) 1 Tryd.underlying52 Tryd.info4 rfl .i64 .i64 ts.length (by omega) (by omega) wx
  obtain ⟨i3, hi3, hz0, hz1, hz2⟩ := info_parts Tryd.info3
  have HC : Hid (∀ k, k < ts.length → w.cell? ⟨b, o + k * 2, none⟩ = some (.int .i64 (ts.getD k (0, [])).1) ∧ ∃ nv, w.cell? ⟨b, o + k * 2 + 1, none⟩ = some nv ∧ IntsAt w nv (needsOf ts k)) := hc
  clear hc
  have HR : Hid (InRange ts) := hr
  clear hr
  go_enter Tryd.func46, Tryd.ntmps46
  go_wp2
  go_loopg [6] (ts.length + 1) (fun gg s6 wr => ∃ S st, Hid (DfsMem w.heap.size ts.length w wr s6 S st) ∧ Hid (Dfs ts i S st) ∧ unseen S ts.length + st.length ≤ gg ∧ gg ≤ ts.length + 1)
  case atStart => exact ⟨_, _, DfsMem.start w ts.length i, Dfs.start ts i hi, by have := unseen_le (fun _ => false) ts.length; simp; omega, Nat.le_refl _⟩
  case round =>
    obtain ⟨S, st, hm, hd, hg, hG⟩ := hrel
    obtain ⟨G, rfl⟩ : ∃ G, G = gk := ⟨_, rfl⟩
    obtain ⟨g, cap, rfl⟩ := hm.out.shape
    rcases List.eq_nil_or_concat st with rfl | ⟨st', x, rfl⟩
    · have hci := hm.out.row.cell hi
      go_wp2
      go_ret
      refine ⟨⟨_, rfl, hd.out.ends i⟩, hm.out.below⟩
    · rw [List.concat_eq_append] at *
      have htop := hm.out.top
      have hpop := hm.out.pop
      have hin := hd.out.pop
      have hx := hin.xlt
      obtain ⟨_, nv, hnv, hln, a2, c2, rfl, hz⟩ := HC.out x hx
      have hnv' := (hm.out.below.cell (p := ⟨b, o + x * 2 + 1, none⟩) hbl).trans hnv
      have HM : Hid (DfsMem w.heap.size ts.length w wr (.slice (some ⟨g, 0, none⟩) st'.length cap) S st') := hpop
      have HI : Hid (DfsIn ts i x 0 S st') := hin
      have hlen : (st' ++ [x]).length = st'.length + 1 := by simp
      have hcap : st'.length + 1 ≤ cap := by
        have := hm.out.own
        rcases this.2 with ⟨e, _⟩ | ⟨g1, cap1, cur, e, _, _, h3, _⟩
        · simp at e
        · simp at e; simp at h3; omega
      rw [hlen] at hm hg ⊢
      clear hpop hin hm hd hnv hlen
      go_wp2
      clear htop hnv' hcap
      go_loopg [6, 35] ((needsOf ts x).length) (fun gg s6 s35 wr => ∃ k S st, k ≤ (needsOf ts x).length ∧ s35 = .int .i64 (k : Nat) ∧ Hid (DfsMem w.heap.size ts.length w wr s6 S st) ∧ Hid (DfsIn ts i x k S st) ∧ unseen S ts.length + st.length + 1 ≤ G ∧ (needsOf ts x).length - k ≤ gg)
      case atStart => exact ⟨0, S, st', Nat.zero_le _, rfl, HM, HI, by omega, by omega⟩
      case round =>
        clear HM HI hg
        obtain ⟨k, S2, st2, hk, rfl, hm, hd, hg, hgk⟩ := hrel
        obtain ⟨g2, cap2, rfl⟩ := hm.out.shape
        by_cases hkl : k < (needsOf ts x).length
        · rcases hz with hz | ⟨b2, o2, rfl, hb2, hc2⟩
          · rw [hz] at hkl; simp at hkl
          have hcell := (hm.out.below.cell (p := ⟨b2, o2 + k, none⟩) hb2).trans (hc2 k hkl)
          have HC2 : Hid (∀ k, k < (needsOf ts x).length → w.cell? ⟨b2, o2 + k, none⟩ = some (.int .i64 ((needsOf ts x).getD k 0))) := hc2
          clear hc2
          obtain ⟨hylt, _, hy0⟩ := need_at HR.out hx hkl
          obtain ⟨y, hy⟩ := Int.eq_ofNat_of_zero_le hy0
          rw [hy] at hcell hylt
          rw [Int.toNat_natCast] at hylt
          have HY : Hid ((needsOf ts x).getD k 0 = (y : Int)) := hy
          clear hy hy0
          have hsy := hm.out.row.cell hylt
          have hfy := hm.out.row.frozen y
          cases hs : S2 y
          · rw [hs] at hsy
            have HS : Hid (S2 y = false) := hs
            clear hs
            have hmem := (hm.out.seenSet y).alloc (.cells #[.int .i64 y] 3)
            go_wp2_with (at_builtin; refine wpList_append_own _ rfl (.tmp 47) (.tmp 49) 26 rfl (w.heap.size + 1) 3 i3 (.int .i64 0) 1 8 Tryd.underlying26 hi3 hz0 hz1 hz2 rfl (by decide) _ st2.length (st2.map natV) rfl hmem.own ⟨wr.heap.size, 0, none⟩ 1 1 [.int .i64 y] rfl rfl ?c1 ?c2 ?c3 ?c4 ?c5 ?_)
            case c1 =>
              have hone := cell_one_new (wr.setCell ⟨w.heap.size, y, none⟩ (.bool true)) (.int .i64 y) 3
              simpa using hone
            case c2 => intro u hu; simp at hu; subst hu; rfl
            case c3 => unfold maxLen; omega
            case c4 => omega
            case c5 => have := hm.out.row.lt; simp; omega
            intro v' w1 hown' hgrow _
            have hmem' : Hid (DfsMem w.heap.size ts.length w w1 v' (mark S2 y) (st2 ++ [y])) := hmem.pushed hown' hgrow
            have hu := unseen_mark S2 ts.length y hylt HS.out
            clear hown' hgrow hmem hsy hfy hcell
            go_wp2
            go_roundg ((needsOf ts x).length - (k + 1))
            case measure => omega
            case rel =>
              have hpush := hd.out.push HR.out hkl
              rw [HY.out, Int.toNat_natCast] at hpush
              exact ⟨k + 1, mark S2 y, st2 ++ [y], by omega, by go_num, hmem', hpush, by simp; omega, Nat.le_refl _⟩
          · rw [hs] at hsy
            have HS : Hid (S2 y = true) := hs
            clear hs
            go_wp2
            go_roundg ((needsOf ts x).length - (k + 1))
            case measure => omega
            case rel => exact ⟨k + 1, S2, st2, by omega, by go_num, hm, hd.out.skip (by rw [HY.out, Int.toNat_natCast]; exact HS.out), hg, Nat.le_refl _⟩
        · have hke : k = (needsOf ts x).length := by omega
          have HK : Hid (k = (needsOf ts x).length) := hke
          clear hke
          go_wp2
          go_roundg (G - 1)
          case measure => omega
          case rel => exact ⟨S2, st2, hm, DfsIn.finish (by rw [← HK.out]; exact hd.out), by omega, by omega⟩
end Go.Proofs.YtilpjhhjlokfcaaDoor
