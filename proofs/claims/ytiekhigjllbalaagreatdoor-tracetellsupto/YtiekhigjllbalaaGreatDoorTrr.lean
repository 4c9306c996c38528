/- The document's ReadDeeds. -/
import Derived.Test.YtiekhigjllbalaaGreatDoorTde
import Derived.Test.YtiekhigjllbalaaGreatDoorTrk
import Derived.Test.YtiekhigjllbalaaGreatDoorTda
import Derived.Deep.CutRange
import Derived.Deep.CutBlock
namespace Go.Proofs.YtiekhigjllbalaaGreatDoor
open Go.RowKit Go.Deep

/-- Texts in a row of their own, read. -/
theorem strs_cell {B : Nat} {w : World} {v : Value} {l : List (List UInt8)} (h : w.ownsRow B 9 1 v l.length (l.map strV)) {k : Nat} (hk : k < l.length) : ∃ g c, v = .slice (some ⟨g, 0, none⟩) l.length c ∧ B ≤ g ∧ g < w.heap.size ∧ w.cell? ⟨g, k, none⟩ = some (.string ⟨(l.getD k []).toArray⟩) := by
  rcases h.2 with ⟨_, h0⟩ | ⟨g, cap, cur, hv, hb, hh, _⟩
  · omega
  · subst hv
    refine ⟨g, cap, rfl, hb, (Array.getElem?_eq_some_iff.1 hh).1, ?_⟩
    rw [World.ownsRow.cellAt h k (by omega), List.getElem?_map, List.getElem?_eq_getElem hk, List.getD_eq_getElem?_getD, List.getElem?_eq_getElem hk]
    rfl
/-- The words of deeds, by their numbers. -/
def wordsRow : Nat → Value := fun k => .string ⟨(if k = 0 then [] else wordD (k : Int)).toArray⟩
theorem word_is {l : List UInt8} {k : Nat} (h1 : 1 ≤ k) (h6 : k ≤ 6) : l = wordD (k : Int) ↔ whatD l = (k : Int) := by
  constructor
  · rintro rfl; exact what_word (by omega)
  · intro h
    rcases whatD_cases l with h0 | ⟨_, hw⟩
    · omega
    · rw [h] at hw; exact hw.symm
def whatTo (l : List UInt8) (k : Nat) : Int := if whatD l < (k : Int) then whatD l else 0
theorem whatTo_hit {l : List UInt8} {k : Nat} (h : whatD l = (k : Int)) : whatTo l (k + 1) = (k : Int) := by unfold whatTo; rw [if_pos (by omega), h]
theorem whatTo_miss {l : List UInt8} {k : Nat} (_ : 1 ≤ k) (h : ¬ whatD l = (k : Int)) : whatTo l (k + 1) = whatTo l k := by
  unfold whatTo
  by_cases e : whatD l < (k : Int)
  · rw [if_pos e, if_pos (by omega)]
  · rw [if_neg e, if_neg (by omega)]
theorem whatTo_one (l : List UInt8) : whatTo l 1 = 0 := by
  unfold whatTo
  rcases whatD_cases l with h0 | ⟨h, _⟩
  · rw [h0]; simp
  · rw [if_neg (by omega)]
theorem whatTo_end (l : List UInt8) : whatTo l 7 = whatD l := by
  unfold whatTo
  rcases whatD_cases l with h0 | ⟨h, _⟩
  · rw [h0]; simp
  · rw [if_pos (by omega)]
/-- A row of texts, in memory. -/
def StrsAt (w : World) (v : Value) (xs : List (List UInt8)) : Prop :=
  ∃ g c, v = .slice (some ⟨g, 0, none⟩) xs.length c ∧ g < w.heap.size ∧ ∀ k, k < xs.length → w.cell? ⟨g, k, none⟩ = some (strV (xs.getD k []))
theorem StrsAt.later {w w' : World} {v : Value} {xs : List (List UInt8)} (h : StrsAt w v xs) (hb : Below w.heap.size w w') : StrsAt w' v xs := by
  obtain ⟨g, c, hv, hlt, hc⟩ := h
  exact ⟨g, c, hv, Nat.lt_of_lt_of_le hlt hb.size, fun k hk => (hb.cell (p := ⟨g, k, none⟩) hlt).trans (hc k hk)⟩
theorem strs_of_owns {w : World} {N : Nat} {v : Value} {xs : List (List UInt8)} (h : w.ownsRow N 9 1 v xs.length (xs.map strV)) (h0 : xs ≠ []) : StrsAt w v xs := by
  rcases h.2 with ⟨_, hn⟩ | ⟨g, cap, cur, hv, hg, hh, hn, hcap, hsz, htake⟩
  · exact absurd (List.eq_nil_of_length_eq_zero hn) h0
  · refine ⟨g, cap, hv, (Array.getElem?_eq_some_iff.1 hh).1, fun j hj => ?_⟩
    have h2 : cur[j]? = some (strV (xs.getD j [])) := by
      have h3 := congrArg (fun l => l[j]?) htake
      simp only [Nat.mul_one, List.getElem?_take, if_pos hj, List.getElem?_map, List.getElem?_eq_getElem hj, Option.map_some] at h3
      rw [List.getD_eq_getElem?_getD, List.getElem?_eq_getElem hj]
      simpa using h3
    simp [World.cell?, hh, h2]
theorem cutS_any (l : List UInt8) (c : UInt8) (w : World) (hs : l.length ≤ 1048576) :
    Calls Tryz.prog 26 #[.string ⟨l.toArray⟩, .int .u8 (c.toNat : Int)] w fun e w' => (∃ ov, e = .returned ov ∧ StrsAt w' ov (splitC c l)) ∧ Below w.heap.size w w' := by
  refine (cutR_any l c w hs).mono ?_
  rintro e w' ⟨⟨ov, he, ho⟩, hb⟩
  exact ⟨⟨ov, he, strs_of_owns ho (splitC_ne c l)⟩, hb⟩
theorem split_short (c : UInt8) (l : List UInt8) (p : List UInt8) (hp : p ∈ splitC c l) : p.length ≤ l.length := by
  induction l generalizing p with
  | nil => simp [splitC] at hp; subst hp; simp
  | cons b r ih =>
    rw [splitC_cons] at hp
    split at hp
    · rcases List.mem_cons.1 hp with rfl | hp
      · simp
      · have := ih p hp; simp; omega
    · cases hs : splitC c r with
      | nil => exact absurd hs (splitC_ne c r)
      | cons x xs =>
        rw [hs] at hp ih
        rcases List.mem_cons.1 hp with rfl | hp
        · have := ih x (by simp); simp; omega
        · have := ih p (by simp [hp]); simp; omega

theorem numsR_all : ∀ (n : Nat) (ws : List (List UInt8)) (ns : List Nat) (r : List (List UInt8)), numsR n ws = some (ns, r) → ws.length = n + r.length := by
  intro n
  induction n with
  | zero => intro ws ns r h; unfold numsR at h; cases h; omega
  | succ n ih =>
    intro ws ns r h
    cases ws with
    | nil => unfold numsR at h; cases h
    | cons x ws =>
      unfold numsR at h
      cases hm : num2 x with
      | none => rw [hm] at h; cases h
      | some m =>
        rw [hm] at h
        simp only [Option.map_eq_some_iff] at h
        obtain ⟨q, hq, e⟩ := h
        injection e with e1 e2
        have := ih ws q.1 q.2 hq
        simp only [List.length_cons]
        rw [← e2]; omega
/-- What is read of a line's numbers, so many of them. -/
def NumP (ws : List (List UInt8)) (j : Nat) (a b c : Int) : Prop :=
  ∃ ns : List Nat, numsR j ws = some (ns, ws.drop j) ∧ a = ((ns.getD 0 0 : Nat) : Int) ∧ b = ((ns.getD 1 0 : Nat) : Int) ∧ c = ((ns.getD 2 0 : Nat) : Int)
theorem NumP.zero (ws : List (List UInt8)) : NumP ws 0 0 0 0 := ⟨[], rfl, rfl, rfl, rfl⟩
theorem drop_at {ws : List (List UInt8)} {j : Nat} (h : j < ws.length) : ws.drop j = ws.getD j [] :: ws.drop (j + 1) := by
  rw [List.drop_eq_getElem_cons h, List.getD_eq_getElem?_getD, List.getElem?_eq_getElem h]; rfl
theorem NumP.first {ws : List (List UInt8)} {a b c : Int} (h : NumP ws 0 a b c) {m : Nat} (hl : 0 < ws.length) (hm : num2 (ws.getD 0 []) = some m) : NumP ws 1 (m : Int) b c := by
  obtain ⟨ns, h1, h2, h3, h4⟩ := h
  have hn := numsR_len _ _ _ _ h1
  rw [drop_at hl] at h1
  obtain rfl := List.eq_nil_of_length_eq_zero hn
  exact ⟨[] ++ [m], numsR_step _ _ _ _ _ _ h1 hm, rfl, h3, h4⟩
theorem NumP.second {ws : List (List UInt8)} {a b c : Int} (h : NumP ws 1 a b c) {m : Nat} (hl : 1 < ws.length) (hm : num2 (ws.getD 1 []) = some m) : NumP ws 2 a (m : Int) c := by
  obtain ⟨ns, h1, h2, h3, h4⟩ := h
  have hn := numsR_len _ _ _ _ h1
  rw [drop_at hl] at h1
  match ns, hn with
  | [x], _ => exact ⟨[x] ++ [m], numsR_step _ _ _ _ _ _ h1 hm, h2, rfl, h4⟩
theorem NumP.third {ws : List (List UInt8)} {a b c : Int} (h : NumP ws 2 a b c) {m : Nat} (hl : 2 < ws.length) (hm : num2 (ws.getD 2 []) = some m) : NumP ws 3 a b (m : Int) := by
  obtain ⟨ns, h1, h2, h3, h4⟩ := h
  have hn := numsR_len _ _ _ _ h1
  rw [drop_at hl] at h1
  match ns, hn with
  | [x, y], _ => exact ⟨[x, y] ++ [m], numsR_step _ _ _ _ _ _ h1 hm, h2, h3, rfl⟩
theorem NumP.bad {w : List UInt8} {ws : List (List UInt8)} {j : Nat} {a b c : Int} (h : NumP ws j a b c) (hl : j < ws.length) (hn : ws.length = numsD (whatD w)) (hm : num2 (ws.getD j []) = none) : deedW w ws = none := by
  obtain ⟨ns, h1, _⟩ := h
  rw [drop_at hl] at h1
  unfold deedW
  split
  · rfl
  · rw [numsR_bad _ _ _ _ _ h1 hm _ (by omega)]
theorem NumP.done {w : List UInt8} {ws : List (List UInt8)} {j : Nat} {a b c : Int} (h : NumP ws j a b c) (hl : j = ws.length) (hn : ws.length = numsD (whatD w)) (hw : whatD w ≠ 0) : deedW w ws = some (whatD w, a, b, c) := by
  obtain ⟨ns, h1, h2, h3, h4⟩ := h
  unfold deedW
  rw [if_neg hw, ← hn, ← hl, h1, hl, List.drop_length, h2, h3, h4]
theorem deedW_many {w : List UInt8} {ws : List (List UInt8)} (hn : ws.length ≠ numsD (whatD w)) : deedW w ws = none := by
  unfold deedW
  split
  · rfl
  · cases hs : numsR (numsD (whatD w)) ws with
    | none => rfl
    | some q =>
      obtain ⟨ns, r⟩ := q
      cases r with
      | nil => exact absurd (numsR_all _ _ _ _ hs) (by simpa using hn)
      | cons _ _ => rfl
theorem deedW_none {w : List UInt8} {ws : List (List UInt8)} (h : whatD w = 0) : deedW w ws = none := by unfold deedW; rw [if_pos h]
theorem allOf_len {α β : Type} (f : α → Option β) (l : List α) (ys : List β) (h : allOf f l = some ys) : ys.length = l.length := by
  induction l generalizing ys with
  | nil => unfold allOf at h; cases h; rfl
  | cons x l ih =>
    cases hx : f x with
    | none => rw [allOf_no (x := x) (by simp) hx] at h; cases h
    | some y =>
      unfold allOf at h
      rw [hx] at h
      cases hl : allOf f l with
      | none => rw [hl] at h; cases h
      | some zs => rw [hl] at h; cases h; simp [ih zs hl]
theorem take_snoc {l : List (List UInt8)} {i : Nat} (h : i < l.length) : l.take (i + 1) = l.take i ++ [l.getD i []] := by
  rw [List.take_add_one, List.getElem?_eq_getElem h, List.getD_eq_getElem?_getD, List.getElem?_eq_getElem h]; rfl
/-- What the lines of a text tell of its deeds. -/
theorem lines_facts {t : List UInt8} {n : Nat} (hn : (splitC 10 t).length = n + 1) :
    ((splitC 10 t).getD n [] ≠ [] → pErr t = 2 ∧ pDeeds t = []) ∧
    (∀ i, i < n → deedOf ((splitC 10 t).getD i []) = none → pErr t = 2 ∧ pDeeds t = []) ∧
    ((splitC 10 t).getD n [] = [] → ∀ ds, allOf deedOf ((splitC 10 t).take n) = some ds → pErr t = deedsErr ds ∧ pDeeds t = if deedsErr ds = 0 then ds else []) := by
  have hno : deedsOf t = none → pErr t = 2 ∧ pDeeds t = [] := fun h => by
    have hp : pErr t = 2 := by unfold pErr; rw [h]
    exact ⟨hp, by unfold pDeeds; rw [hp]; rfl⟩
  have hlast : (splitC 10 t).getLast? = some ((splitC 10 t).getD n []) := by
    rw [List.getLast?_eq_getElem?, hn, Nat.add_sub_cancel, List.getD_eq_getElem?_getD, List.getElem?_eq_getElem (by omega)]; rfl
  have hdl : (splitC 10 t).dropLast = (splitC 10 t).take n := by rw [List.dropLast_eq_take, hn]; rfl
  refine ⟨fun h => hno ?_, fun i hi h => hno ?_, fun h ds hd => ?_⟩
  · unfold deedsOf
    rw [hlast, if_neg (fun e => h (Option.some.inj e))]
  · unfold deedsOf
    split
    · rw [hdl]
      refine allOf_no (x := (splitC 10 t).getD i []) ?_ h
      rw [List.getD_eq_getElem?_getD, List.getElem?_eq_getElem (by omega)]
      exact List.mem_take_iff_getElem.2 ⟨i, by omega, rfl⟩
    · rfl
  · have he : deedsOf t = some ds := by
      unfold deedsOf
      rw [hlast, h, if_pos rfl, hdl, hd]
    have hp : pErr t = deedsErr ds := by unfold pErr; rw [he]
    refine ⟨hp, ?_⟩
    unfold pDeeds
    rw [hp, he]; rfl
end Go.Proofs.YtiekhigjllbalaaGreatDoor
