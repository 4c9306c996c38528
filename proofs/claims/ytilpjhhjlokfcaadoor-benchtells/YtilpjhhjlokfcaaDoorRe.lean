/- Which tasks stand above which, by a table that is filled: in plain words, and how the table lies in memory. -/
import Derived.Test.YtilpjhhjlokfcaaDoorRa
namespace Go.Proofs.YtilpjhhjlokfcaaDoor
open Go.RowKit Go.Deep

/-- y is needed by x, over so many tasks between, each below m. -/
def PathN (ts : List (Int × List Int)) (m : Nat) : Nat → Nat → Nat → Prop
  | 0, x, y => Need ts x y
  | n + 1, x, z => ∃ y, PathN ts m n x y ∧ y < m ∧ Need ts y z
def Path (ts : List (Int × List Int)) (m x y : Nat) : Prop := ∃ n, PathN ts m n x y

theorem path_zero {ts : List (Int × List Int)} {x y : Nat} (h : Path ts 0 x y) : Need ts x y := by
  obtain ⟨n, h⟩ := h
  cases n with
  | zero => exact h
  | succ n => obtain ⟨z, _, hz, _⟩ := h; omega
theorem Path.more {ts : List (Int × List Int)} {m x y z : Nat} (h : Path ts m x y) (hy : y < m) (hn : Need ts y z) : Path ts m x z := by
  obtain ⟨n, h⟩ := h
  exact ⟨n + 1, y, h, hy, hn⟩
theorem path_split {ts : List (Int × List Int)} {m x z : Nat} (h : Path ts (m + 1) x z) : Path ts m x z ∨ (Path ts m x m ∧ Path ts m m z) := by
  obtain ⟨n, h⟩ := h
  induction n generalizing z with
  | zero => exact Or.inl ⟨0, h⟩
  | succ n ih =>
    obtain ⟨y, hy, hlt, hn⟩ := h
    by_cases e : y = m
    · subst e
      rcases ih hy with h1 | ⟨h1, _⟩
      · exact Or.inr ⟨h1, 0, hn⟩
      · exact Or.inr ⟨h1, 0, hn⟩
    · rcases ih hy with h1 | ⟨h1, h2⟩
      · exact Or.inl (h1.more (by omega) hn)
      · exact Or.inr ⟨h1, h2.more (by omega) hn⟩
theorem reach_path {ts : List (Int × List Int)} (hr : InRange ts) {x y : Nat} (hx : x < ts.length) (h : Reach ts x y) : y < ts.length ∧ Path ts ts.length x y := by
  induction h using Reach.ind with
  | one hn => exact ⟨need_lt hr hx hn, 0, hn⟩
  | more _ hn ih => exact ⟨need_lt hr ih.1 hn, ih.2.more ih.1 hn⟩

def needS (ts : List (Int × List Int)) (x y : Nat) : Bool := decide ((y : Int) ∈ needsOf ts x)
def setS (S : Nat → Nat → Bool) (i k : Nat) : Nat → Nat → Bool := fun x y => if x = i then (if y = k then true else S x y) else S x y
def Sound (ts : List (Int × List Int)) (S : Nat → Nat → Bool) : Prop := ∀ x y, x < ts.length → y < ts.length → S x y = true → Reach ts x y
def Full (ts : List (Int × List Int)) (m : Nat) (S : Nat → Nat → Bool) : Prop := ∀ x y, x < ts.length → y < ts.length → Path ts m x y → S x y = true
/-- Within the m-th going through: how far. -/
def Within (ts : List (Int × List Int)) (m : Nat) (S0 S : Nat → Nat → Bool) (i k : Nat) : Prop :=
  (∀ x y, S0 x y = true → S x y = true) ∧ Sound ts S ∧ ∀ x y, x < ts.length → y < ts.length → (x < i ∨ (x = i ∧ y < k)) → S0 x m = true → S0 m y = true → S x y = true

theorem needS_sound (ts : List (Int × List Int)) : Sound ts (needS ts) := fun x y _ _ h => Reach.one (show (y : Int) ∈ needsOf ts x by unfold needS at h; exact of_decide_eq_true h)
theorem needS_full (ts : List (Int × List Int)) : Full ts 0 (needS ts) := fun x y _ _ h => by
  have hn : (y : Int) ∈ needsOf ts x := path_zero h
  unfold needS
  exact decide_eq_true hn
theorem Within.start {ts : List (Int × List Int)} {m : Nat} {S : Nat → Nat → Bool} (h : Sound ts S) : Within ts m S S 0 0 := ⟨fun _ _ h => h, h, fun x y _ _ h => by omega⟩
theorem Within.row {ts : List (Int × List Int)} {m : Nat} {S0 S : Nat → Nat → Bool} {i k : Nat} (h : Within ts m S0 S i k) (hk : ts.length ≤ k) : Within ts m S0 S (i + 1) 0 :=
  ⟨h.1, h.2.1, fun x y hx hy hxy => h.2.2 x y hx hy (by omega)⟩
theorem Within.skip {ts : List (Int × List Int)} {m : Nat} {S0 S : Nat → Nat → Bool} {i k : Nat} (h : Within ts m S0 S i k) (hn : ¬ (S i m = true ∧ S m k = true)) : Within ts m S0 S i (k + 1) :=
  ⟨h.1, h.2.1, fun x y hx hy hxy h1 h2 => by
    by_cases e : x = i ∧ y = k
    · obtain ⟨rfl, rfl⟩ := e
      exact absurd ⟨h.1 _ _ h1, h.1 _ _ h2⟩ hn
    · exact h.2.2 x y hx hy (by omega) h1 h2⟩
theorem Within.put {ts : List (Int × List Int)} {m : Nat} {S0 S : Nat → Nat → Bool} {i k : Nat} (h : Within ts m S0 S i k) (hm : m < ts.length) (h1 : S i m = true) (h2 : S m k = true) : Within ts m S0 (setS S i k) i (k + 1) := by
  have hmono : ∀ x y, S x y = true → setS S i k x y = true := fun x y hs => by
    unfold setS; split
    · split
      · rfl
      · exact hs
    · exact hs
  refine ⟨fun x y hs => hmono x y (h.1 x y hs), fun x y hx hy hs => ?_, fun x y hx hy hxy g1 g2 => ?_⟩
  · unfold setS at hs
    by_cases e : x = i ∧ y = k
    · obtain ⟨rfl, rfl⟩ := e
      exact Reach.trans (h.2.1 x m hx hm h1) (h.2.1 m y hm hy h2)
    · refine h.2.1 x y hx hy ?_
      split at hs
      · split at hs
        · exact absurd ⟨‹x = i›, ‹y = k›⟩ e
        · exact hs
      · exact hs
  · by_cases e : x = i ∧ y = k
    · obtain ⟨rfl, rfl⟩ := e
      simp [setS]
    · exact hmono x y (h.2.2 x y hx hy (by omega) g1 g2)
theorem Within.ends {ts : List (Int × List Int)} {m : Nat} {S0 S : Nat → Nat → Bool} {i k : Nat} (h : Within ts m S0 S i k) (hi : ts.length ≤ i) (hm : m < ts.length) (hf : Full ts m S0) : Sound ts S ∧ Full ts (m + 1) S :=
  ⟨h.2.1, fun x y hx hy hp => by
    rcases path_split hp with h1 | ⟨h1, h2⟩
    · exact h.1 _ _ (hf x y hx hy h1)
    · exact h.2.2 x y hx hy (by omega) (hf x m hx hm h1) (hf m y hm hy h2)⟩
theorem full_reach {ts : List (Int × List Int)} {S : Nat → Nat → Bool} (hr : InRange ts) (hs : Sound ts S) (hf : Full ts ts.length S) {x y : Nat} (hx : x < ts.length) (hy : y < ts.length) : S x y = true ↔ Reach ts x y :=
  ⟨hs x y hx hy, fun h => hf x y hx hy (reach_path hr hx h).2⟩

/-- A table in memory: so many rows, each in a block of its own. -/
def Mat (N n : Nat) (w : World) (v : Value) (cnt : Nat) (bl : Nat → Nat) (S : Nat → Nat → Bool) : Prop :=
  w.ownsRow N 52 1 v cnt ((List.range cnt).map fun j => .slice (some ⟨bl j, 0, none⟩) n n) ∧ (∀ j, j < cnt → N ≤ bl j ∧ w.rowIs (bl j) 4 n (fun k => .bool (S j k))) ∧ ∀ i j, i < cnt → j < cnt → bl i = bl j → i = j

theorem Mat.nil (N n : Nat) (w : World) (bl : Nat → Nat) (S : Nat → Nat → Bool) : Mat N n w (.slice none 0 0) 0 bl S :=
  ⟨World.ownsRow_nil _ _ _ _, fun j hj => by omega, fun i j hi => by omega⟩
theorem Mat.later {N n : Nat} {w w' : World} {v : Value} {cnt : Nat} {bl : Nat → Nat} {S : Nat → Nat → Bool} (h : Mat N n w v cnt bl S) (hb : Below w.heap.size w w') : Mat N n w' v cnt bl S :=
  ⟨h.1.kept (row := none) ⟨hb.os, hb.tape, hb.output, hb.size, fun k hk _ => hb.block k hk⟩ (by cases v.ownBlock <;> simp), fun j hj => ⟨(h.2.1 j hj).1, (h.2.1 j hj).2.of_block (hb.block _ (h.2.1 j hj).2.lt)⟩, h.2.2⟩
theorem Mat.apart {N n : Nat} {w : World} {v : Value} {cnt : Nat} {bl : Nat → Nat} {S : Nat → Nat → Bool} (h : Mat N n w v cnt bl S) {j : Nat} (hj : j < cnt) : v.ownBlock ≠ some (bl j) := by
  intro e
  obtain ⟨_, c, hc, _⟩ := h.2.1 j hj
  rcases h.1.2 with ⟨hv, _⟩ | ⟨g, cap, cur, hv, _, hh, _⟩
  · rw [hv] at e; simp [Value.ownBlock] at e
  · rw [hv] at e
    simp [Value.ownBlock] at e
    subst e
    rw [hh] at hc
    simp at hc
theorem Mat.row {N n : Nat} {w : World} {v : Value} {cnt : Nat} {bl : Nat → Nat} {S : Nat → Nat → Bool} (h : Mat N n w v cnt bl S) {j : Nat} (hj : j < cnt) :
    ∃ g c, v = .slice (some ⟨g, 0, none⟩) cnt c ∧ g < w.heap.size ∧ ∀ j, j < cnt → w.cell? ⟨g, j, none⟩ = some (.slice (some ⟨bl j, 0, none⟩) n n) := by
  rcases h.1.2 with ⟨_, h0⟩ | ⟨g, cap, cur, hv, hg, hh, hn, hcap, hsz, htake⟩
  · omega
  · refine ⟨g, cap, hv, (Array.getElem?_eq_some_iff.1 hh).1, fun j hj => ?_⟩
    have h2 : cur[j]? = some (.slice (some ⟨bl j, 0, none⟩) n n) := by
      have h3 := congrArg (fun l => l[j]?) htake
      simp only [Nat.mul_one, List.getElem?_take, if_pos hj, List.getElem?_map, List.getElem?_range hj, Option.map_some] at h3
      simpa using h3
    simp [World.cell?, hh, h2]
theorem Mat.set {N n : Nat} {w : World} {v : Value} {cnt : Nat} {bl : Nat → Nat} {S : Nat → Nat → Bool} (h : Mat N n w v cnt bl S) {i : Nat} (hi : i < cnt) (k : Nat) : Mat N n (w.setCell ⟨bl i, k, none⟩ (.bool true)) v cnt bl (setS S i k) := by
  refine ⟨h.1.kept (row := some (bl i)) ⟨rfl, rfl, rfl, by simp [World.setCell], fun b _ hne => blk_setCell_other _ _ _ _ (fun e => hne (by rw [e]))⟩ (Or.inr (h.apart hi)), fun j hj => ⟨(h.2.1 j hj).1, ?_⟩, h.2.2⟩
  by_cases e : j = i
  · subst e
    exact ((h.2.1 j hj).2.set k (.bool true)).congr (fun y _ => by unfold setS; simp only [if_true]; split <;> simp_all)
  · have hne : bl j ≠ bl i := fun e' => e (h.2.2 j i hj hi e')
    exact ((h.2.1 j hj).2.setOther (a := ⟨bl i, k, none⟩) hne _).congr (fun y _ => by unfold setS; rw [if_neg e])
theorem Mat.append {N n : Nat} {w w' : World} {v v' : Value} {cnt r : Nat} {bl : Nat → Nat} {S : Nat → Nat → Bool} (h : Mat N n w v cnt bl S) (hr : w.rowIs r 4 n (fun k => .bool (S cnt k))) (hN : N ≤ r) (hnew : ∀ j, j < cnt → bl j ≠ r)
    (ho : w'.ownsRow N 52 1 v' (cnt + 1) (((List.range cnt).map fun j => .slice (some ⟨bl j, 0, none⟩) n n) ++ [.slice (some ⟨r, 0, none⟩) n n])) (hg : w.grownBy w' v.ownBlock) : ∃ bl', Mat N n w' v' (cnt + 1) bl' S := by
  refine ⟨fun j => if j = cnt then r else bl j, ?_, fun j hj => ?_, fun i j hi hj e => ?_⟩
  · rw [List.range_succ, List.map_append, List.map_singleton]
    simp only [if_true]
    rw [List.map_congr_left (g := fun j => .slice (some ⟨bl j, 0, none⟩) n n) (fun j hj => by rw [if_neg (by have := List.mem_range.1 hj; omega)])]
    exact ho
  · by_cases e : j = cnt
    · subst e
      simp only [if_true]
      refine ⟨hN, hr.of_block (hg.block _ hr.lt (fun e => ?_))⟩
      obtain ⟨c, hc, _⟩ := hr
      rcases h.1.2 with ⟨hv, _⟩ | ⟨g, cap, cur, hv, _, hh, _⟩
      · rw [hv] at e; simp [Value.ownBlock] at e
      · rw [hv] at e
        simp [Value.ownBlock] at e
        subst e
        rw [hh] at hc
        simp at hc
    · simp only [if_neg e]
      have hj' : j < cnt := by omega
      exact ⟨(h.2.1 j hj').1, (h.2.1 j hj').2.of_block (hg.block _ (h.2.1 j hj').2.lt (fun e => h.apart hj' e.symm))⟩
  · simp only at e
    split at e
    · split at e
      · omega
      · exact absurd e.symm (hnew j (by omega))
    · split at e
      · exact absurd e (hnew i (by omega))
      · exact h.2.2 i j (by omega) (by omega) e

/-- A row as it is filled: the first k of a task's needs are marked. -/
def rowK (zs : List Int) (k : Nat) (y : Nat) : Bool := decide ((y : Int) ∈ zs.take k)
theorem rowK_zero (zs : List Int) : rowK zs 0 = fun _ => false := by funext y; simp [rowK]
theorem rowK_succ (zs : List Int) (k y : Nat) (hk : k < zs.length) (hy : zs.getD k 0 = (y : Int)) (j : Nat) : rowK zs (k + 1) j = if j = y then true else rowK zs k j := by
  have he : zs.getD k 0 = zs[k] := by rw [List.getD_eq_getElem?_getD, List.getElem?_eq_getElem hk]; rfl
  unfold rowK
  rw [List.take_succ_eq_append_getElem hk, ← he, hy]
  by_cases e : j = y
  · subst e; simp
  · rw [if_neg e]
    have : ¬ ((j : Int) = (y : Int)) := by omega
    simp [this]
theorem rowK_all (ts : List (Int × List Int)) (i j : Nat) : rowK (needsOf ts i) (needsOf ts i).length j = needS ts i j := by
  unfold rowK needS
  rw [List.take_length]
end Go.Proofs.YtilpjhhjlokfcaaDoor
