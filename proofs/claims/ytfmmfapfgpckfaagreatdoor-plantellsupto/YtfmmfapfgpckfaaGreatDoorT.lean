/- The contract of readTask. -/
import Derived.Test.YtfmmfapfgpckfaaGreatDoorS
namespace Go.Proofs.YtfmmfapfgpckfaaGreatDoor
open Go.RowKit Go.Deep

/-- The needs of a task in a row that nobody else has; none: maybe the nil slice. -/
def NeedsRow (w : World) (nv : Value) (zs : List Int) : Prop := w.ownsRow 0 3 1 nv zs.length (zs.map (Value.int .i64))

theorem NeedsRow.later {w w' : World} {nv : Value} {zs : List Int} (h : NeedsRow w nv zs) (hb : Below w.heap.size w w') : NeedsRow w' nv zs :=
  World.ownsRow.kept (row := none) h ⟨hb.os, hb.tape, hb.output, hb.size, fun k hk _ => hb.block k hk⟩ (by cases nv.ownBlock <;> simp)
theorem NeedsRow.nil (w : World) : NeedsRow w (.slice none 0 0) [] := World.ownsRow_nil _ _ _ _
theorem NeedsRow.of {B : Nat} {w : World} {v : Value} {ns : List Nat} (h : NumsIn B w v ns) : NeedsRow w v (ns.map Int.ofNat) := by
  obtain ⟨h1, h2⟩ := h
  refine ⟨by simp, ?_⟩
  rcases h2 with ⟨hv, h0⟩ | ⟨g, cap, cur, hv, _, hh, hn, hc, hs, ht⟩
  · exact Or.inl ⟨hv, by simpa using h0⟩
  · refine Or.inr ⟨g, cap, cur, by simpa using hv, Nat.zero_le _, hh, by simpa using hn, hc, hs, ?_⟩
    rw [List.length_map, ht, List.map_map]
    rfl
theorem NeedsRow.shape {w : World} {nv : Value} {zs : List Int} (h : NeedsRow w nv zs) : ∃ a c, nv = .slice a zs.length c := by
  rcases h.2 with ⟨hv, h0⟩ | ⟨g, cap, cur, hv, _⟩
  · exact ⟨none, 0, by rw [hv, h0]⟩
  · exact ⟨_, _, hv⟩

theorem set_two {W : World} {k : Nat} {x y a b : Value} {t : TypeId} (h : W.heap[k]? = some (.cells #[x, y] t (0, 0))) :
    ((W.setCell ⟨k, 0, none⟩ a).setCell ⟨k, 1, none⟩ b).cell? ⟨k, 0, none⟩ = some a ∧ ((W.setCell ⟨k, 0, none⟩ a).setCell ⟨k, 1, none⟩ b).cell? ⟨k, 1, none⟩ = some b := by
  have : ((W.setCell ⟨k, 0, none⟩ a).setCell ⟨k, 1, none⟩ b).heap[k]? = some (.cells #[a, b] t (0, 0)) := by simp [World.setCell, Array.getElem?_modify, h]
  constructor <;> simp [World.cell?, this]

theorem below_two {B : Nat} {w W : World} {k : Nat} {a b : Value} (h : Below B w W) (hk : B ≤ k) : Below B w ((W.setCell ⟨k, 0, none⟩ a).setCell ⟨k, 1, none⟩ b) := (h.setCell (p := ⟨k, 0, none⟩) hk a).setCell (p := ⟨k, 1, none⟩) hk b

theorem NeedsRow.two {W : World} {k : Nat} {x y a b nv : Value} {zs : List Int} (h : NeedsRow W nv zs) (hk : W.heap[k]? = some (.cells #[x, y] 48 (0, 0))) : NeedsRow ((W.setCell ⟨k, 0, none⟩ a).setCell ⟨k, 1, none⟩ b) nv zs := by
  have hne : nv.ownBlock ≠ some k := by
    rcases h.2 with ⟨hv, _⟩ | ⟨g, cap, cur, hv, _, hh, _⟩
    · subst hv; simp [Value.ownBlock]
    · subst hv
      simp only [Value.ownBlock, ne_eq, Option.some.injEq]
      rintro rfl
      rw [hk] at hh
      simp at hh
  exact ownsRow_setCell_other (a := ⟨k, 1, none⟩) (ownsRow_setCell_other (a := ⟨k, 0, none⟩) h hne a) hne b

set_option maxRecDepth 100000 in
set_option maxHeartbeats 4000000 in
theorem readTask_any (l : List UInt8) (w : World) (hl : l.length ≤ 1048576) (he : Synt w) (hm : Lens w) :
    Calls Tryz.prog 34 #[.string ⟨l.toArray⟩] w fun e w' => ((∃ wk nv zs, taskOf l = some (wk, zs) ∧ e = .returned (.tuple #[.agg #[.int .i64 wk, nv], .bool true]) ∧ NeedsRow w' nv zs) ∨ (taskOf l = none ∧ e = .returned (.tuple #[.agg #[.int .i64 0, .slice none 0 0], .bool false]))) ∧ Below w.heap.size w w' := by
  have hb0 : Below w.heap.size w (w.alloc (.cells #[.int .i64 0, .slice none 0 0] 48)) := (Below.refl _ _).alloc (Nat.le_refl _) _
  have hcut := cut_any l 60 (w.alloc (.cells #[.int .i64 0, .slice none 0 0] 48)) hl (hm.later hb0)
  have hl1 := cutB_le1 60 l
  have hl2 := cutB_le2 60 l
  have HT : Hid (taskOf l = match numOf (cutB 60 l).1 with | none => none | some w => if (cutB 60 l).2.2 then (numsOf (cutB 60 l).2.1).map (fun ns => ((w : Int), ns)) else some ((w : Int), [])) := rfl
  generalize (cutB 60 l).1 = a at *
  generalize (cutB 60 l).2.1 = r at *
  generalize (cutB 60 l).2.2 = f at *
  have hblk0 : (w.alloc (.cells #[.int .i64 0, .slice none 0 0] 48)).heap[w.heap.size]? = some (.cells #[.int .i64 0, .slice none 0 0] 48 (0, 0)) := blk_alloc_new _ _
  have hsz0 : (w.alloc (.cells #[.int .i64 0, .slice none 0 0] 48)).heap.size = w.heap.size + 1 := nblk_alloc _ _
  have HE : Hid (Synt w) := he
  have HM : Hid (Lens w) := hm
  clear he hm
  go_enter Tryz.func34, Tryz.ntmps34
  go_wp2_with fail
  refine hcut.mono ?_
  rintro e w2 ⟨rfl, hb2⟩
  rw [hsz0] at hb2
  have hB2 : Below w.heap.size w w2 := hb0.trans (hb2.mono (by omega))
  have hk2 : w2.heap[w.heap.size]? = some (.cells #[.int .i64 0, .slice none 0 0] 48 (0, 0)) := (hb2.block _ (by omega)).trans hblk0
  have hrn := readNumber_list a w2 (by omega) (HE.out.later hB2)
  clear hcut
  go_wp2_with fail
  refine hrn.mono ?_
  rintro e w3 ⟨rfl, hb3⟩
  have hB3 : Below w.heap.size w w3 := hB2.trans (hb3.mono hB2.size)
  have hs2 : w.heap.size < w2.heap.size := lt_of_block hk2
  have hk3 : w3.heap[w.heap.size]? = some (.cells #[.int .i64 0, .slice none 0 0] 48 (0, 0)) := (hb3.block _ hs2).trans hk2
  have hs3 : w.heap.size < w3.heap.size := lt_of_block hk3
  have c0 : w3.cell? ⟨w.heap.size, 0, none⟩ = some (.int .i64 0) := by simp [World.cell?, hk3]
  have c1 : w3.cell? ⟨w.heap.size, 1, none⟩ = some (.slice none 0 0) := by simp [World.cell?, hk3]
  have f0 : w3.frozen? ⟨w.heap.size, 0, none⟩ = false := by simp [World.frozen?, hk3]
  have f1 : w3.frozen? ⟨w.heap.size, 1, none⟩ = false := by simp [World.frozen?, hk3]
  clear hrn hblk0 hsz0 hb2 hk2 hb0 hB2 hs2
  have HK3 : Hid (w3.heap[w.heap.size]? = some (.cells #[.int .i64 0, .slice none 0 0] 48 (0, 0))) := hk3
  clear hk3 hb3
  cases hn : numOf a with
  | none =>
    have HN : Hid (taskOf l = none) := by rw [HT.out, hn]; rfl
    clear hn HT
    simp only [Option.getD_none, Option.isSome_none]
    go_wp2
    obtain ⟨q0, q1⟩ := set_two (a := .int .i64 0) (b := .slice none 0 0) HK3.out
    exact bodyPost_ret (v := .tuple #[.agg #[.int .i64 0, .slice none 0 0], .bool false]) (by simp [results, Tryz.results34, go_sem, q0, q1]) rfl ⟨Or.inr ⟨HN.out, rfl⟩, below_two hB3 (Nat.le_refl _)⟩
  | some n =>
    simp only [Option.getD_some, Option.isSome_some]
    cases f with
    | false =>
      have HN : Hid (taskOf l = some ((n : Int), [])) := by rw [HT.out, hn]; rfl
      clear hn HT
      go_wp2
      obtain ⟨q0, q1⟩ := set_two (a := .int .i64 (n : Int)) (b := .slice none 0 0) HK3.out
      exact bodyPost_ret (v := .tuple #[.agg #[.int .i64 (n : Int), .slice none 0 0], .bool true]) (by simp [results, Tryz.results34, go_sem, q0, q1]) rfl ⟨Or.inl ⟨n, .slice none 0 0, [], HN.out, rfl, NeedsRow.nil _⟩, below_two hB3 (Nat.le_refl _)⟩
    | true =>
      have hrs := readNumbers_any r w3 (by omega) (HE.out.later hB3) (HM.out.later hB3)
      have HN : Hid (taskOf l = (numsOf r).map (fun ns => ((n : Int), ns))) := by rw [HT.out, hn]; rfl
      clear hn HT
      go_wp2_with fail
      refine hrs.mono ?_
      rintro e w4 ⟨hres, hb4⟩
      clear hrs
      have hB4 : Below w.heap.size w w4 := hB3.trans (hb4.mono hB3.size)
      have hk4 : w4.heap[w.heap.size]? = some (.cells #[.int .i64 0, .slice none 0 0] 48 (0, 0)) := (hb4.block _ hs3).trans HK3.out
      have hs4 : w.heap.size < w4.heap.size := lt_of_block hk4
      have d0 : w4.cell? ⟨w.heap.size, 0, none⟩ = some (.int .i64 0) := by simp [World.cell?, hk4]
      have d1 : w4.cell? ⟨w.heap.size, 1, none⟩ = some (.slice none 0 0) := by simp [World.cell?, hk4]
      have g0 : w4.frozen? ⟨w.heap.size, 0, none⟩ = false := by simp [World.frozen?, hk4]
      have g1 : w4.frozen? ⟨w.heap.size, 1, none⟩ = false := by simp [World.frozen?, hk4]
      have HK4 : Hid (w4.heap[w.heap.size]? = some (.cells #[.int .i64 0, .slice none 0 0] 48 (0, 0))) := hk4
      clear hk4 c0 c1 f0 f1 hb4 hB3 HK3
      rcases hres with ⟨ns, v, hall, rfl, hown⟩ | ⟨hall, rfl⟩
      · have HN2 : Hid (taskOf l = some ((n : Int), ns.map Int.ofNat)) := by rw [HN.out]; unfold numsOf; rw [hall]; rfl
        have hrow := NeedsRow.of hown
        obtain ⟨va, vc, rfl⟩ := hrow.shape
        have HR : Hid (NeedsRow w4 (.slice va (ns.map Int.ofNat).length vc) (ns.map Int.ofNat)) := hrow
        clear hall hown hrow HN
        generalize ns.map Int.ofNat = zs at *
        go_wp2
        obtain ⟨q0, q1⟩ := set_two (a := .int .i64 (n : Int)) (b := .slice va zs.length vc) HK4.out
        exact bodyPost_ret (v := .tuple #[.agg #[.int .i64 (n : Int), .slice va zs.length vc], .bool true]) (by simp [results, Tryz.results34, go_sem, q0, q1]) rfl ⟨Or.inl ⟨n, _, zs, HN2.out, rfl, HR.out.two HK4.out⟩, below_two hB4 (Nat.le_refl _)⟩
      · have HN2 : Hid (taskOf l = none) := by rw [HN.out]; unfold numsOf; rw [hall]; rfl
        clear hall HN
        go_wp2
        obtain ⟨q0, q1⟩ := set_two (a := .int .i64 0) (b := .slice none 0 0) HK4.out
        exact bodyPost_ret (v := .tuple #[.agg #[.int .i64 0, .slice none 0 0], .bool false]) (by simp [results, Tryz.results34, go_sem, q0, q1]) rfl ⟨Or.inr ⟨HN2.out, rfl⟩, below_two hB4 (Nat.le_refl _)⟩
end Go.Proofs.YtfmmfapfgpckfaaGreatDoor
