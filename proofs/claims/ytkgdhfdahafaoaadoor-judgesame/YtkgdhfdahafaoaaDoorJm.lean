/- Maps that judge keeps: moments that were seen, parts of tasks; the contracts of below, again and with. -/
import Derived.Test.YtkgdhfdahafaoaaDoorJp
import Derived.Test.YtkgdhfdahafaoaaDoorD
import Derived.Maps.OwnSet
import Derived.Maps.AppendAt
import Derived.DeepKeys4
import Derived.MapViews
namespace Go.Proofs.YtkgdhfdahafaoaaDoor
open Go.RowKit Go.Deep Go.Maps

theorem laidOut : laidOutB Tryd.prog = true := by kernel_rfl
theorem row72 : (72 : TypeId) < Tryd.prog.types.size := of_decide_eq_true (by kernel_rfl)
theorem keyAt72 : Tryd.prog.keyTypeAt 2 72 = true := by kernel_rfl
theorem law72 : WideMaps.KeyLaw Tryd.prog 72 := deep_law_laid (P := Tryd.prog) (k := 72) (m := 2) laidOut (Nat.le_of_ble_eq_true rfl) row72 keyAt72 (by rw [Tryd.underlying72])
theorem keyed72 : Keyed Tryd.prog 72 := Keyed.of_law law72
theorem keyed3 : Keyed Tryd.prog 3 := int_keyed Tryd.underlying3
theorem zero91 (w : World) : (zeroValue 91).run Tryd.prog w = .ok (.agg #[]) w := by kernel_rfl
theorem zero57 (w : World) : (zeroValue 57).run Tryd.prog w = .ok (.agg #[.int .i64 0, .int .i64 0, .int .i64 0]) w := by kernel_rfl

/-- A moment: who, and in which step. -/
def momV (a b : Int) : Value := .agg #[.int .i64 a, .int .i64 b]
theorem keyT72 : Tryd.prog.keyType 72 = true := by kernel_rfl
theorem cells72 : Tryd.prog.cellsOf 72 = 2 := by kernel_rfl
theorem cells3 : Tryd.prog.cellsOf 3 = 1 := by kernel_rfl
theorem sizeT : ∃ m, Tryd.prog.types.size + 1 = m + 1 + 1 := ⟨Tryd.prog.types.size - 1, by have := row72; have h : (72 : Nat) < Tryd.prog.types.size := this; omega⟩
theorem mom_key {a b : Int} (ha : (Lit.int .i64 a).wf = true) (hb : (Lit.int .i64 b).wf = true) : keyOf Tryd.prog 72 (momV a b) = some (.string (keyBytes [.int .i64 a, .int .i64 b])) := by
  obtain ⟨m, hm⟩ := sizeT
  unfold keyOf momV
  rw [Tryd.underlying72, hm]
  simp [keyT72, Value.formed, Tryd.underlying72, cells72, Program.keyLits, Tryd.underlying3, cells3, Value.cells, ha, hb]

def momL (a b : Int) : Lit := .string (keyBytes [.int .i64 a, .int .i64 b])
theorem mom_inj {a b c d : Int} (ha : (Lit.int .i64 a).wf = true) (hb : (Lit.int .i64 b).wf = true) (hc : (Lit.int .i64 c).wf = true) (hd : (Lit.int .i64 d).wf = true) (h : momL a b = momL c d) : a = c ∧ b = d := by
  have h1 := mom_key ha hb
  have h2 := mom_key hc hd
  have e : momV a b = momV c d := keyed72.inj h1 (by rw [h2]; exact congrArg some h.symm)
  simp only [momV, Value.agg.injEq, Array.mk.injEq, List.cons.injEq, Value.int.injEq, true_and, and_true] at e
  exact e
/-- Block B is the set of these moments, of at most so many. -/
def SeenM (w : World) (B n : Nat) (S : Int → Int → Bool) : Prop :=
  ∃ D, w.ownsMap Tryd.prog 72 (unitElem (H := Unit)) B n D ∧ ∀ a b : Int, (Lit.int .i64 a).wf = true → (Lit.int .i64 b).wf = true → Maps.has D (momL a b) = S a b
theorem SeenM.start (w : World) : SeenM (w.alloc (.map #[] 0)) w.heap.size 0 (fun _ _ => false) :=
  ⟨.map [], World.ownsMap_made _ _ _ _, fun a b _ _ => by simp [Maps.has]⟩
theorem SeenM.lt {w : World} {B n : Nat} {S : Int → Int → Bool} (h : SeenM w B n S) : B < w.heap.size := by
  obtain ⟨D, h, _⟩ := h
  exact h.lt
theorem SeenM.kept {w w' : World} {B n : Nat} {S : Int → Int → Bool} {row : Option Nat} (h : SeenM w B n S) (hg : w.grownBy w' row) (hne : some B ≠ row) : SeenM w' B n S := by
  obtain ⟨D, h, h2⟩ := h
  exact ⟨D, h.kept hg hne, h2⟩
theorem SeenM.congr {w : World} {B n : Nat} {S S' : Int → Int → Bool} (h : SeenM w B n S) (e : ∀ a b, S a b = S' a b) : SeenM w B n S' := by
  obtain ⟨D, h, h2⟩ := h
  exact ⟨D, h, fun a b ha hb => (h2 a b ha hb).trans (e a b)⟩
theorem SeenM.mono {w : World} {B n m : Nat} {S : Int → Int → Bool} (h : SeenM w B n S) (e : n ≤ m) : SeenM w B m S := by
  obtain ⟨D, h, h2⟩ := h
  exact ⟨D, h.mono e, h2⟩
theorem SeenM.of_block {w w' : World} {B n : Nat} {S : Int → Int → Bool} (h : SeenM w B n S) (hk : w'.heap[B]? = w.heap[B]?) : SeenM w' B n S := by
  obtain ⟨D, ⟨es, clock, hb, r⟩, h2⟩ := h
  exact ⟨D, ⟨es, clock, hk.trans hb, r⟩, h2⟩
theorem SeenM.ne {w : World} {B n : Nat} {S : Int → Int → Bool} (h : SeenM w B n S) {a : Addr} {u : Value} (hc : w.cell? a = some u) : some a.block ≠ some B := by
  intro e
  obtain ⟨D, ⟨es, clock, hb, _⟩, _⟩ := h
  rw [← Option.some.inj e] at hb
  simp [World.cell?, hb] at hc

theorem below_any (n bound : Int) (w : World) : Calls Tryd.prog 20 #[.int .i64 n, .int .i64 bound] w fun e w' => e = .returned (.bool (inRange n bound)) ∧ w' = w := by
  by_cases h1 : 0 ≤ n
  · by_cases h2 : n < bound
    · go_enter Tryd.func20, Tryd.ntmps20
      go_wp2
      go_ret
      exact ⟨by simp [inRange, h1, h2], rfl⟩
    · go_enter Tryd.func20, Tryd.ntmps20
      go_wp2
      go_ret
      exact ⟨by simp [inRange, h1, h2], rfl⟩
  · go_enter Tryd.func20, Tryd.ntmps20
    go_wp2
    go_ret
    exact ⟨by rw [show inRange n bound = false by simp [inRange]; omega]; rfl, rfl⟩

set_option maxRecDepth 100000 in
set_option maxHeartbeats 2000000 in
theorem again_any (B n : Nat) (S : Int → Int → Bool) (a b : Int) (w : World) (hn : n ≤ 1000000000000000) (ha : (Lit.int .i64 a).wf = true) (hb : (Lit.int .i64 b).wf = true) (hs : SeenM w B n S) :
    Calls Tryd.prog 25 #[.map (some B), .agg #[.int .i64 a, .int .i64 b]] w fun e w' => e = .returned (.bool (S a b)) ∧ SeenM w' B (n + 1) (fun x y => S x y || (decide (x = a) && decide (y = b))) ∧ w.grownBy w' (some B) := by
  have HS : Hid (SeenM w B n S) := hs
  obtain ⟨D, hown, hD⟩ := hs
  have hDx := hD a b ha hb
  have HD : Hid (∀ a b : Int, (Lit.int .i64 a).wf = true → (Lit.int .i64 b).wf = true → Maps.has D (momL a b) = S a b) := hD
  have hkey : keyOf Tryd.prog 72 (.agg #[.int .i64 a, .int .i64 b]) = some (momL a b) := mom_key ha hb
  have hml : n < maxLen := by unfold maxLen; omega
  have hown1 := hown.alloc (.cells #[.int .i64 a, .int .i64 b] 72)
  have hown2 := hown1.alloc (.cells #[] 91)
  have hsz := HS.out.lt
  have HN : Hid (∀ w1 : World, w1.ownsMap Tryd.prog 72 (unitElem (H := Unit)) B (n + 1) (D.put (momL a b) (.agg [])) → SeenM w1 B (n + 1) (fun x y => S x y || (decide (x = a) && decide (y = b)))) := by
    intro w1 h
    refine ⟨_, h, fun x y hx hy => ?_⟩
    by_cases e : x = a ∧ y = b
    · obtain ⟨rfl, rfl⟩ := e
      rw [Maps.has_put_same hown.isMap (by trivial)]; simp
    · rw [Maps.has_put_other (fun h => e (mom_inj hx hy ha hb h)), HD.out x y hx hy]
      by_cases e1 : x = a
      · have e2 : ¬ y = b := fun e2 => e ⟨e1, e2⟩
        simp [e1, e2]
      · simp [e1]
  have HG : Hid (w.grownBy ((w.alloc (.cells #[.int .i64 a, .int .i64 b] 72)).alloc (.cells #[] 91)) (some B)) := (World.grownBy_alloc _ _ _).trans (World.grownBy_alloc _ _ _)
  clear hD
  generalize S a b = was at *
  go_enter Tryd.func25, Tryd.ntmps25
  go_wp2_with (first | (at_lookup; refine wpList_lookup_own_unit _ rfl _ _ 60 rfl 72 91 keyed72 Tryd.underlying60 (zero91 _) B n D rfl hown1 _ _ rfl hkey ?_; rw [hDx]) | (at_mapUpdate; refine wpList_mapUpdate_own _ rfl _ _ _ 60 rfl 72 91 keyed72 Tryd.underlying60 (unitElem (H := Unit)) B n D rfl hown2 hml _ _ _ rfl rfl hkey (.agg []) [] unitElem_mk ?_; intro w1 hown3 hgrow1))
  go_ret
  exact ⟨rfl, HN.out _ hown3, HG.out.trans hgrow1⟩
end Go.Proofs.YtkgdhfdahafaoaaDoor
