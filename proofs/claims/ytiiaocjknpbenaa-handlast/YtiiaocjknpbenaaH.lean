/- HandLast for every input; from a reading to memory: steps among the arguments. -/
import Derived.Test.YtiiaocjknpbenaaRows
import Derived.Test.YtiiaocjknpbenaaI
import Derived.ProofKit
import Derived.OpenShut
import Derived.Deep.Slices
import Derived.SizedLaws
namespace Go.Proofs.Ytiiaocjknpbenaa
open Go.ChangeShapes Go.WideShapes Go.ChangeAt Go.RowKit Go.Deep

theorem Try.cells3 : Try.prog.cellsOf 3 = 1 := by kernel_rfl

theorem steps_of_trod {H : Type} {enc : TypeId × Value → H} {W : World} {spare : Nat → Bool} {held : Bool} {fuel : Nat} {v : Value} {x : DataW H × List MemPlace}
    (h : DataW.trod enc Try.prog W 0 spare held fuel 22 [v] = some x) : ∃ (zs : List Int) (sa : Option Addr) (sc : Nat), v = .slice sa zs.length sc ∧ ∀ k, k < zs.length → ∃ b off, sa = some ⟨b, off, none⟩ ∧ b < W.heap.size ∧ W.cell? ⟨b, off + k, none⟩ = some (.int .i64 (zs.getD k 0)) := by
  rcases open_ints Try.underlying22 Try.underlying3 Try.cells3 h with ⟨hcs, _⟩ | ⟨a, len, cap, zs, hcs, _, hl, hm, hz, hx, hcell, _⟩
  · obtain rfl : v = .slice none 0 0 := by simpa using hcs
    exact ⟨[], none, 0, rfl, fun k hk => by simp at hk⟩
  · obtain rfl : v = .slice (some a) len cap := by simpa using hcs
    have hzl : len ≤ zs.length := by rw [hz]; split <;> omega
    have htl : (zs.take len).length = len := by simp; omega
    refine ⟨zs.take len, some a, cap, by rw [htl], fun k hk => ?_⟩
    rw [htl] at hk
    obtain ⟨b, off, rfl, hc⟩ := ints_at hcell (by omega)
    refine ⟨b, off, rfl, ?_, ?_⟩
    · have := hc 0 (by omega)
      rcases Nat.lt_or_ge b W.heap.size with h | h
      · exact h
      · simp [World.cell?, Array.getElem?_eq_none h] at this
    · rw [hc k (by omega)]
      simp [hk]

set_option maxRecDepth 100000 in
theorem last_bad (room : Int) (sv : Value) (w : World) (h : room < 1 ∨ 16 < room) :
    Calls Try.prog 3 #[.int .i64 room, sv] w fun e w' => e = .returned (.bool true) ∧ Below w.heap.size w w' := by
  have hn := hNew_good 2 w (by omega) (by omega)
  go_enter Try.func3, Try.ntmps3
  go_wp2_with fail
  refine hn.mono ?_; clear hn; rintro e w1 ⟨rfl, hr1, hb1, hs1⟩
  have hp5 := Put_any _ _ _ _ _ 5 _ hr1
  rw [show putO 2 (-1) [] = [] from rfl, show putR 2 (-1) [] = [] from rfl] at hp5
  go_wp2_with fail
  refine hp5.mono ?_; clear hp5; rintro e w2 ⟨⟨v, rfl, hv⟩, hr2, hk2⟩
  obtain ⟨a5, c5, rfl, _⟩ := hv.shape
  clear hv
  have hp6 := Put_any _ _ _ _ _ 6 _ hr2
  rw [show putO 2 ((5 : Nat) : Int) [] = [] from rfl, show putR 2 ((5 : Nat) : Int) [] = [5] from rfl] at hp6
  go_wp2_with fail
  refine hp6.mono ?_; clear hp6; rintro e w3 ⟨⟨v, rfl, hv⟩, hr3, hk3⟩
  obtain ⟨a6, c6, rfl, _⟩ := hv.shape
  clear hv
  have hta := Take_near _ _ _ _ _ _ hr3 (by decide)
  go_wp2_with fail
  refine hta.mono ?_; clear hta; rintro e w4 ⟨rfl, hr4, hk4⟩
  have hle := hLen_any _ _ _ _ _ _ hr4
  rw [show allH (-1) [5] = [5] from rfl] at hle
  have HB4 : Hid (Below w.heap.size w w4) := hb1.trans (((hk2.trans hk3).trans hk4).below (by omega) (Nat.le_refl _) (by omega))
  clear hr1 hr2 hr3 hr4 hb1 hs1 hk2 hk3 hk4
  go_wp2_with fail
  refine hle.mono ?_; clear hle; rintro e w6' ⟨rfl, rfl⟩
  have hn := hNew_bad room w6' h
  unfold errV at hn
  go_wp2_with fail
  refine hn.mono ?_; clear hn; rintro e w7 ⟨rfl, rfl⟩
  by_cases h1 : room < 1
  · go_wp2
    go_ret
    exact ⟨rfl, HB4.out⟩
  · have h2 : 16 < room := by omega
    go_wp2
    go_ret
    exact ⟨rfl, HB4.out⟩

theorem last_any (room : Int) (zs : List Int) (sa : Option Addr) (sc : Nat) (w : World) (hs : ∀ k, k < zs.length → ∃ b off, sa = some ⟨b, off, none⟩ ∧ b < w.heap.size ∧ w.cell? ⟨b, off + k, none⟩ = some (.int .i64 (zs.getD k 0))) :
    Calls Try.prog 3 #[.int .i64 room, .slice sa zs.length sc] w fun e w' => e = .returned (.bool true) ∧ Below w.heap.size w w' := by
  by_cases h : room < 1 ∨ 16 < room
  · exact last_bad room _ w h
  · obtain ⟨r, rfl⟩ : ∃ r : Nat, room = r := ⟨room.toNat, by omega⟩
    exact last_in r zs sa sc w (by omega) (by omega) hs
end Go.Proofs.Ytiiaocjknpbenaa
