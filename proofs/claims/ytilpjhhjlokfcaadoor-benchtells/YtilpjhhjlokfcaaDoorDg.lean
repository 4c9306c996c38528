/- The contract of depth.Ranks. -/
import Derived.Test.YtilpjhhjlokfcaaDoorDk
import Derived.Test.YtilpjhhjlokfcaaDoorDm
import Derived.RegionTactic
import Derived.BigRegion
namespace Go.Proofs.YtilpjhhjlokfcaaDoor
open Go.RowKit Go.Deep

def intRow (f : Nat → Int) : Nat → Value := fun k => .int .i64 (f k)

theorem row_upd {w : World} {b n x : Nat} {f : Nat → Int} {v : Int} (h : w.rowIs b 3 n (intRow f)) : (w.setCell ⟨b, x, none⟩ (.int .i64 v)).rowIs b 3 n (intRow (upd f x v)) :=
  (h.set x _).congr (fun k _ => by unfold intRow upd; split <;> rfl)
theorem row_ints {w : World} {b n c : Nat} {f : Nat → Int} (h : w.rowIs b 3 n (intRow f)) (hn : n * 8 ≤ 140737488351232) : IntsAt w (.slice (some ⟨b, 0, none⟩) n c) (listOf f n) := by
  refine ⟨by rw [listOf_length]; exact hn, _, _, by rw [listOf_length], Or.inr ⟨b, 0, rfl, h.lt, fun k hk => ?_⟩⟩
  rw [listOf_length] at hk
  rw [Nat.zero_add, h.cell hk, listOf_getD f hk]; rfl

theorem rank_bound {ts : List (Int × List Int)} {ord : List Nat} {m k : Nat} (hd : Ready ts ord) (hm : m < ord.length) (hk : k ≤ (needsOf ts (ord.getD m 0)).length) :
    ∀ y, 0 ≤ rankIn ts (ord.getD m 0) (rankAll ts ord m) k y ∧ rankIn ts (ord.getD m 0) (rankAll ts ord m) k y ≤ 620 := by
  intro y
  have hI := rank_inv hd m (by omega)
  have hM := rank_mid hd hm hI k hk
  have h30 := hd.small
  have hl := hd.len
  by_cases e : y = ord.getD m 0
  · subst e; have := hM.low; omega
  · rw [hM.other y e]; have := hI.low y; omega

end Go.Proofs.YtilpjhhjlokfcaaDoor
