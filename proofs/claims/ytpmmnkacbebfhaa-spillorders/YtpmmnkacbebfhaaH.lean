/- SpillOrders for every input; from a reading to memory: steps among the arguments. -/
import Derived.Test.YtpmmnkacbebfhaaRows
import Derived.Test.YtpmmnkacbebfhaaF
import Derived.ProofKit
import Derived.OpenShut
import Derived.Deep.Slices
import Derived.SizedLaws
namespace Go.Proofs.Ytpmmnkacbebfhaa
open Go.ChangeShapes Go.WideShapes Go.ChangeAt Go.RowKit Go.Deep

theorem Try.cells3 : Try.prog.cellsOf 3 = 1 := by kernel_rfl

theorem steps_of_trod {H : Type} {enc : TypeId × Value → H} {W : World} {spare : Nat → Bool} {held : Bool} {fuel : Nat} {v : Value} {x : DataW H × List MemPlace}
    (h : DataW.trod enc Try.prog W 0 spare held fuel 22 [v] = some x) : ∃ (zs : List Int) (sa : Option Addr) (sc : Nat), v = .slice sa zs.length sc ∧ ∀ k, k < zs.length → ∃ b off, sa = some ⟨b, off, none⟩ ∧ b < W.heap.size ∧ W.cell? ⟨b, off + k, none⟩ = some (.int .i64 (zs.getD k 0)) := by
  rcases open_ints Try.underlying22 Try.underlying3 Try.cells3 h with ⟨hcs, _⟩ | ⟨a, len, cap, zs, hcs, _, hl, hm, hz, hx, hcell, _⟩
  · obtain rfl : v = .slice none 0 0 := by simpa using hcs
    exact ⟨[], none, 0, rfl, fun k hk => by simp at hk⟩
  · obtain rfl : v = .slice (some a) len cap := by simpa using hcs
    have hzl : len ≤ zs.length := by rw [hz]; split <;> omega
    have htl : (zs.take len).length = len := by simp; omega
    refine ⟨zs.take len, some a, cap, by rw [htl], fun k hk => ?_⟩
    rw [htl] at hk
    obtain ⟨b, off, rfl, hc⟩ := ints_at hcell (by omega)
    refine ⟨b, off, rfl, ?_, ?_⟩
    · have := hc 0 (by omega)
      rcases Nat.lt_or_ge b W.heap.size with h | h
      · exact h
      · simp [World.cell?, Array.getElem?_eq_none h] at this
    · rw [hc k (by omega)]
      simp [hk]

set_option maxRecDepth 100000 in
theorem orders_bad (room : Int) (sv : Value) (w : World) (h : room < 1 ∨ 16 < room) :
    Calls Try.prog 3 #[.int .i64 room, sv] w fun e w' => e = .returned (.bool true) ∧ Below w.heap.size w w' := by
  have hn := New_good 1 w (by omega) (by omega)
  go_enter Try.func3, Try.ntmps3
  go_wp2_with fail
  refine hn.mono ?_; clear hn; rintro e w1 ⟨rfl, hs1, hb1⟩
  have hrow := (RowI.whole (w1.alloc (.cells #[.int .i64 5, .int .i64 6, .int .i64 7] 3)) w1.heap.size 3 [5, 6, 7] rfl (by omega) (heap_alloc_new w1 _)).rds
  have hput := Put_good _ _ _ _ _ _ _ _ (hs1.alloc (.cells #[.int .i64 5, .int .i64 6, .int .i64 7] 3)) hrow (by simp)
  have hB1 : Hid (Below w.heap.size w (w1.alloc (.cells #[.int .i64 5, .int .i64 6, .int .i64 7] 3))) := hb1.alloc hb1.size _
  clear hrow hb1
  go_wp2_with fail
  refine hput.mono ?_; clear hput; rintro e w2 ⟨rfl, v2, hs2, hk2, -⟩
  have hB2 : Hid (Below w.heap.size w w2) := hB1.out.trans (hk2.below (Nat.le_refl _) (fun j e => by simp [Value.ownBlock] at e) hB1.out.size)
  have hget := Get_good _ _ 2 _ _ _ hs2 (by omega) (by omega)
  have hlow : ∀ j, v2.ownBlock = some j → w.heap.size ≤ j := fun j e => by have := (hs2.row.low e).1; omega
  have hS2 := hs2.lt
  clear hs1 hk2 hB1 hs2
  go_wp2_with fail
  refine hget.mono ?_; clear hget; rintro e w3 ⟨lv, v3, rfl, hl3, -, hk3, -⟩
  have hB3 : Hid (Below w.heap.size w w3) := hB2.out.trans (hk3.below (Nat.le_refl _) hlow (by omega))
  obtain ⟨g, c, rfl, -⟩ := hl3.full (by simp)
  have hc0 := hl3.cell (k := 0) (by simp)
  have hc1 := hl3.cell (k := 1) (by simp)
  simp at hc0 hc1
  have hn := New_bad room w3 h
  clear hl3 hk3 hB2 hlow hS2
  go_wp2_with fail
  refine hn.mono ?_; clear hn; rintro e w7 ⟨rfl, rfl⟩
  unfold errV
  by_cases h1 : room < 1
  · go_wp2
    go_ret
    exact ⟨rfl, hB3.out⟩
  · have h2 : 16 < room := by omega
    go_wp2
    go_ret
    exact ⟨rfl, hB3.out⟩

theorem orders_any (room : Int) (zs : List Int) (sa : Option Addr) (sc : Nat) (w : World) (hs : ∀ k, k < zs.length → ∃ b off, sa = some ⟨b, off, none⟩ ∧ b < w.heap.size ∧ w.cell? ⟨b, off + k, none⟩ = some (.int .i64 (zs.getD k 0))) :
    Calls Try.prog 3 #[.int .i64 room, .slice sa zs.length sc] w fun e w' => e = .returned (.bool true) ∧ Below w.heap.size w w' := by
  by_cases h : room < 1 ∨ 16 < room
  · exact orders_bad room _ w h
  · obtain ⟨r, rfl⟩ : ∃ r : Nat, room = r := ⟨room.toNat, by omega⟩
    exact orders_in r zs sa sc w (by omega) (by omega) hs
end Go.Proofs.Ytpmmnkacbebfhaa
