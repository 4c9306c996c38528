/- Plain: a session works. So many tasks beside each other, done by so many hands, each step by step: at the end none is left. No word of the program. -/
import Derived.Test.YtlfbdjeojgbniaaGreatDoorRcm17
import Derived.Test.YtlfbdjeojgbniaaGreatDoorRcm36

namespace Go.Proofs.YtlfbdjeojgbniaaGreatDoor
open Go.RowKit Go.Deep

/-- Lines as a text, each with its end. -/
def outsT (os : List (List UInt8)) : List UInt8 := os.flatMap (fun o => o ++ [10])
theorem outsT_app (a b : List (List UInt8)) : outsT (a ++ b) = outsT a ++ outsT b := by simp [outsT]
theorem split_outs (os : List (List UInt8)) (h : ∀ o, o ∈ os → (10 : UInt8) ∉ o) : splitC 10 (outsT os) = os ++ [[]] := by
  induction os with
  | nil => rfl
  | cons a r ih =>
    have e : outsT (a :: r) = a ++ 10 :: outsT r := by simp [outsT]
    rw [e, splitC_append 10 _ _ (h a (by simp)), ih (fun o ho => h o (by simp [ho]))]
    rfl
theorem lines_outs (os : List (List UInt8)) (h : ∀ o, o ∈ os → (10 : UInt8) ∉ o) : linesT (outsT os) = os := by
  unfold linesT
  rw [split_outs os h]
  simp
/-- Lines were answered, so many by so many, no answer with an end of line in it. -/
structure Ran (d : Desk) (ls : List (List UInt8)) (d' : Desk) (os : List (List UInt8)) : Prop where
  run : RunIs d ls d' (outsT os)
  len : os.length = ls.length
  cl : ∀ o, o ∈ os → (10 : UInt8) ∉ o
theorem Ran.none (d : Desk) : Ran d [] d [] := ⟨⟨rfl, rfl⟩, rfl, fun o h => by simp at h⟩
theorem Ran.both {d d1 d2 : Desk} {a b o1 o2 : List (List UInt8)} (h : Ran d a d1 o1) (h' : Ran d1 b d2 o2) : Ran d (a ++ b) d2 (o1 ++ o2) := by
  refine ⟨?_, by simp [h.len, h'.len], fun o ho => (List.mem_append.1 ho).elim (h.cl o) (h'.cl o)⟩
  rw [outsT_app]
  exact h.run.both h'.run
theorem Ran.one {d d' : Desk} {l o : List UInt8} (h : LineIs d l d' o) (hc : (10 : UInt8) ∉ o) : Ran d [l] d' [o] :=
  ⟨⟨d', o, [], h, ⟨rfl, rfl⟩, by simp [outsT]⟩, rfl, fun x hx => by simp at hx; rw [hx]; exact hc⟩

theorem dec_dig : ∀ (n : Nat) (x : UInt8), x ∈ Lib.decDigits n → 48 ≤ x.toNat := by
  intro n
  induction n using Nat.strongRecOn with
  | ind n ih =>
    intro x hx
    by_cases h : n < 10
    · rw [dec_small n h] at hx
      rw [List.mem_singleton.1 hx, UInt8.toNat_ofNat']; omega
    · rw [dec_more n (by omega)] at hx
      rcases List.mem_append.1 hx with hx | hx
      · exact ih (n / 10) (by omega) x hx
      · rw [List.mem_singleton.1 hx, UInt8.toNat_ofNat']; omega
theorem digsR_ten (z : Int) : (10 : UInt8) ∉ digs z := fun h => absurd (dec_dig _ _ h) (by decide)
theorem two_ten (a b : Int) : (10 : UInt8) ∉ twoT a b := by
  unfold twoT
  intro h
  rcases List.mem_append.1 h with h | h
  · exact digsR_ten _ h
  · rcases List.mem_cons.1 h with h | h
    · exact absurd h (by decide)
    · exact digsR_ten _ h
theorem row_ten {l : List Deed} (h : ∀ d, d ∈ l → deedE d = 0) : (10 : UInt8) ∉ rowT l := by
  unfold rowT
  split
  · decide
  · intro hx
    obtain ⟨x, hx, hm⟩ := List.mem_flatMap.1 hx
    rcases List.mem_append.1 hm with hm | hm
    · exact deedText_ten (h x hx) hm
    · simp at hm

/-- "step k 0". -/
def stepL (k : Nat) : List UInt8 := [115, 116, 101, 112, 32] ++ digs (k : Int) ++ [32, 48]
theorem stepL_small {k : Nat} (h : k < 10) : stepL k = [115, 116, 101, 112, 32, UInt8.ofNat (48 + k), 32, 48] := by
  unfold stepL digs
  rw [show ((k : Nat) : Int).toNat = k from by omega, dec_small k h]; rfl
theorem stepL_parts {k : Nat} (h : k < 4) : stepL k ≠ showT ∧ stepL k ≠ leftT ∧ (32 : UInt8) ∈ stepL k ∧ (cutB 32 (stepL k)).1 = stepT ∧ allOf numOf (splitC 32 (cutB 32 (stepL k)).2.1) = some [k, 0] ∧ (10 : UInt8) ∉ stepL k := by
  rw [stepL_small (by omega)]
  have hk : k = 0 ∨ k = 1 ∨ k = 2 ∨ k = 3 := by omega
  rcases hk with rfl | rfl | rfl | rfl <;> decide
theorem step_line {ts ts0 : List (Int × List Int)} {hands : Nat} {g : Gs} {k : Nat} (hk : k < 4) (hh : k < hands) : LineIs ⟨ts, some (ts0, hands, g)⟩ (stepL k) ⟨ts, some (ts0, hands, gstep ts0 4 hands g k 0)⟩ (rowT (gdeeds ts0 hands g k 0)) := by
  obtain ⟨h1, h2, h3, h4, h5, -⟩ := stepL_parts hk
  unfold LineIs
  rw [if_neg h1, if_neg h2, if_neg (fun h => h h3)]
  unfold WordIs
  rw [h4, if_neg (by decide), if_neg (by decide), h5]
  show NumsIs _ _ [k, 0] _ _
  unfold NumsIs
  rw [if_neg (fun h => absurd h.1 (by decide)), if_neg (fun h => absurd h.1 (by decide)), if_pos ⟨rfl, rfl⟩]
  unfold StepIs
  dsimp only
  rw [if_neg (show ¬ hands ≤ [k, 0].getD 0 0 from by show ¬ hands ≤ k; omega)]
  exact ⟨rfl, rfl⟩

/-- Each hand's turn. -/
def turnLs (hands : Nat) : List (List UInt8) := (List.range hands).map stepL
theorem turn_ran {ts ts0 : List (Int × List Int)} {hands : Nat} {g : Gs} (hc : CheckIs ts0 0 0) (h4 : hands ≤ 4) (hI : Inv ts0 4 hands g) : ∀ k, k ≤ hands → ∃ os, Ran ⟨ts, some (ts0, hands, g)⟩ (turnLs k) ⟨ts, some (ts0, hands, grun ts0 4 hands 0 g k)⟩ os := by
  intro k
  induction k with
  | zero => intro _; exact ⟨[], Ran.none _⟩
  | succ k ih =>
    intro hk
    obtain ⟨os, h⟩ := ih (by omega)
    have hI2 := hI.run hc.good (run_work hc) (by omega) 0 k (by omega)
    have e : turnLs (k + 1) = turnLs k ++ [stepL k] := by simp [turnLs, List.range_succ]
    rw [e]
    exact ⟨_, h.both (Ran.one (step_line (by omega) (by omega)) (row_ten (deeds_right hI2 hc.good (by omega) (by omega) 0)))⟩
/-- So many rounds. -/
def roundLs (hands : Nat) : Nat → List (List UInt8)
  | 0 => []
  | r + 1 => roundLs hands r ++ turnLs hands
theorem round_len (hands : Nat) : ∀ r, (roundLs hands r).length = r * hands := by
  intro r
  induction r with
  | zero => simp [roundLs]
  | succ r ih => simp [roundLs, ih, turnLs, Nat.succ_mul]
theorem rounds_ran {ts ts0 : List (Int × List Int)} {hands : Nat} {g : Gs} (hc : CheckIs ts0 0 0) (h4 : hands ≤ 4) (hI : Inv ts0 4 hands g) {R : Nat → Nat} (hR : Rem ts0 hands g R) : ∀ r, ∃ os, Ran ⟨ts, some (ts0, hands, g)⟩ (roundLs hands r) ⟨ts, some (ts0, hands, grounds ts0 4 hands (fun _ => 0) g r)⟩ os := by
  intro r
  induction r with
  | zero => exact ⟨[], Ran.none _⟩
  | succ r ih =>
    obtain ⟨os, h⟩ := ih
    have hI2 := (rounds_dec hR hI hc.good (run_work hc) (by omega) (fun _ => 0) r).1
    obtain ⟨o2, h2⟩ := turn_ran (ts := ts) hc h4 hI2 hands (Nat.le_refl _)
    exact ⟨_, h.both h2⟩

/-- n + 1 of the same beside each other. -/
def besideT (d : UInt8) : Nat → List UInt8
  | 0 => [d]
  | n + 1 => besideT d n ++ [124, d]
theorem beside_len (d : UInt8) : ∀ n, (besideT d n).length = 2 * n + 1 := by
  intro n
  induction n with
  | zero => rfl
  | succ n ih => simp [besideT, ih]; omega
theorem beside_whole {d : UInt8} (hd : Whole [d] (.num [d])) : ∀ n, ∃ T, Whole (besideT d n) T ∧ T.leaves = List.replicate (n + 1) [d] := by
  intro n
  induction n with
  | zero => exact ⟨_, hd, rfl⟩
  | succ n ih =>
    obtain ⟨T, h1, h2⟩ := ih
    obtain ⟨T2, g1, g2⟩ := whole_beside h1 hd
    exact ⟨T2, g1, by rw [g2.leaves, h2]; show _ ++ [[d]] = _; rw [← List.replicate_succ']⟩
theorem digit_whole {w : Nat} (h1 : 1 ≤ w) (h3 : w ≤ 3) : Whole [UInt8.ofNat (48 + w)] (.num [UInt8.ofNat (48 + w)]) ∧ V1 [UInt8.ofNat (48 + w)] = (w : Int) := by
  have hk : w = 1 ∨ w = 2 ∨ w = 3 := by omega
  rcases hk with rfl | rfl | rfl
  · exact ⟨Gr.whole (Gr.num (by decide)), by decide⟩
  · exact ⟨Gr.whole (Gr.num (by decide)), by decide⟩
  · exact ⟨Gr.whole (Gr.num (by decide)), by decide⟩
theorem beside_ok {w : Nat} (h1 : 1 ≤ w) (h3 : w ≤ 3) {n : Nat} (hn : n < 8) : ∃ T, WeaveOk (besideT (UInt8.ofNat (48 + w)) n) T ∧ (T.lay V1 []).length = n + 1 ∧ ∀ i, i < n + 1 → workOf (T.lay V1 []) i = (w : Int) := by
  obtain ⟨hd, hv⟩ := digit_whole h1 h3
  obtain ⟨T, hT, hl⟩ := beside_whole hd n
  have hcn : T.count = n + 1 := by rw [← T.leaves_length, hl, List.length_replicate]
  have hw := T.lay_works V1 []
  refine ⟨T, ⟨by rw [beside_len]; omega, hT, boundErr_zero.2 ⟨by omega, fun ds hds => ?_⟩⟩, by rw [T.lay_length, hcn]; simp, fun i hi => ?_⟩
  · rw [hl] at hds
    rw [List.eq_of_mem_replicate hds, hv]; omega
  · rw [hl, List.map_replicate, hv] at hw
    have hg : (worksOf (T.lay V1 [])).getD i 0 = (w : Int) := by
      rw [hw]
      simp [worksOf, List.getD_eq_getElem?_getD, hi]
    unfold worksOf at hg
    unfold workOf
    rw [List.getD_eq_getElem?_getD, List.getElem?_map] at hg
    rw [List.getD_eq_getElem?_getD]
    revert hg
    cases (T.lay V1 [])[i]? with
    | none => intro hg; have : (0 : Int) = w := hg; omega
    | some x => exact id

/-- The lines. -/
def weaveL (d : UInt8) (n : Nat) : List UInt8 := weaveT ++ 32 :: besideT d n
def gangL (h : Nat) : List UInt8 := gangT ++ 32 :: digs (h : Int)
theorem beside_ten {d : UInt8} (hd : d ≠ 10 ∧ d ≠ 32) : ∀ n, (10 : UInt8) ∉ besideT d n := by
  intro n
  induction n with
  | zero => simp [besideT]; exact fun h => hd.1 h.symm
  | succ n ih =>
    simp only [besideT, List.mem_append, not_or]
    refine ⟨ih, ?_⟩
    simp
    exact fun h => hd.1 h.symm
theorem weave_line {d0 : Desk} {d : UInt8} {n : Nat} {T : Tree} (hT : WeaveOk (besideT d n) T) : LineIs d0 (weaveL d n) { d0 with ts := T.lay V1 [] } (twoT (T.work V1) (T.span V1)) := by
  have hc : cutB 32 (weaveL d n) = (weaveT, besideT d n, true) := cutB_at 32 weaveT _ (by decide)
  unfold LineIs
  rw [if_neg (fun h => by unfold weaveL weaveT showT at h; simp at h), if_neg (fun h => by unfold weaveL weaveT leftT at h; simp at h), if_neg (fun h => h (by simp [weaveL]))]
  unfold WordIs
  rw [hc, if_pos rfl]
  exact Or.inr ⟨T, hT, rfl, rfl⟩
theorem gangL_parts {h : Nat} (h1 : 1 ≤ h) (h4 : h ≤ 4) : gangL h ≠ showT ∧ gangL h ≠ leftT ∧ (32 : UInt8) ∈ gangL h ∧ (cutB 32 (gangL h)).1 = gangT ∧ allOf numOf (splitC 32 (cutB 32 (gangL h)).2.1) = some [h] ∧ (10 : UInt8) ∉ gangL h := by
  unfold gangL digs
  rw [show ((h : Nat) : Int).toNat = h from by omega, dec_small h (by omega)]
  have hk : h = 1 ∨ h = 2 ∨ h = 3 ∨ h = 4 := by omega
  rcases hk with rfl | rfl | rfl | rfl <;> decide
theorem gang_line {d0 : Desk} {h : Nat} (h1 : 1 ≤ h) (h4 : h ≤ 4) : LineIs d0 (gangL h) { d0 with gang := some (d0.ts, h, gnew d0.ts) } okT := by
  obtain ⟨g1, g2, g3, g4, g5, -⟩ := gangL_parts h1 h4
  unfold LineIs
  rw [if_neg g1, if_neg g2, if_neg (fun h => h g3)]
  unfold WordIs
  rw [g4, if_neg (by decide), if_neg (by decide), g5]
  show NumsIs _ _ [h] _ _
  unfold NumsIs
  rw [if_neg (fun h => absurd h.1 (by decide)), if_pos ⟨rfl, rfl⟩]
  unfold GangIs
  rw [if_pos (show 1 ≤ [h].getD 0 0 ∧ [h].getD 0 0 ≤ 6 from ⟨h1, by show h ≤ 6; omega⟩)]
  exact ⟨rfl, rfl⟩

/-- All lines but the last. -/
def workLs (n w h : Nat) : List (List UInt8) := weaveL (UInt8.ofNat (48 + w)) n :: gangL h :: roundLs h ((n + 1) * (w + 1))
theorem work_len (n w h : Nat) : (workLs n w h).length = 2 + (n + 1) * (w + 1) * h := by
  unfold workLs
  rw [List.length_cons, List.length_cons, round_len]; omega
theorem roundLs_ten {h : Nat} (h4 : h ≤ 4) : ∀ r l, l ∈ roundLs h r → (10 : UInt8) ∉ l := by
  intro r
  induction r with
  | zero => intro l hl; simp [roundLs] at hl
  | succ r ih =>
    intro l hl
    rcases List.mem_append.1 hl with hl | hl
    · exact ih l hl
    · unfold turnLs at hl
      obtain ⟨k, hk, rfl⟩ := List.mem_map.1 hl
      exact (stepL_parts (by have := List.mem_range.1 hk; omega)).2.2.2.2.2
theorem workLs_ten {n w h : Nat} (w1 : 1 ≤ w) (w3 : w ≤ 3) (h1 : 1 ≤ h) (h4 : h ≤ 4) : ∀ l, l ∈ workLs n w h ++ [leftT] → (10 : UInt8) ∉ l := by
  intro l hl
  rcases List.mem_append.1 hl with hl | hl
  · unfold workLs at hl
    rcases List.mem_cons.1 hl with rfl | hl
    · unfold weaveL
      intro hm
      rcases List.mem_append.1 hm with hm | hm
      · exact absurd hm (by decide)
      · rcases List.mem_cons.1 hm with hm | hm
        · exact absurd hm (by decide)
        · refine beside_ten ?_ n hm
          have hk : w = 1 ∨ w = 2 ∨ w = 3 := by omega
          rcases hk with rfl | rfl | rfl <;> decide
    · rcases List.mem_cons.1 hl with rfl | hl
      · exact (gangL_parts h1 h4).2.2.2.2.2
      · exact roundLs_ten h4 _ l hl
  · simp at hl
    rw [hl]; decide
theorem sumN_const {R : Nat → Nat} {c : Nat} : ∀ n, (∀ i, i < n → R i = c) → sumN R n = n * c := by
  intro n
  induction n with
  | zero => intro _; simp [sumN]
  | succ n ih => intro h; rw [sumN, ih (fun i hi => h i (by omega)), h n (by omega), Nat.succ_mul]
/-- A session works. -/
theorem session_works {n w h : Nat} (hn : n < 8) (w1 : 1 ≤ w) (w3 : w ≤ 3) (h1 : 1 ≤ h) (h4 : h ≤ 4) {out : List UInt8} (hl : (outsT (workLs n w h ++ [leftT])).length ≤ 3000) (hs : SessionIs (outsT (workLs n w h ++ [leftT])) out) :
    (splitC 10 out).length = (workLs n w h).length + 2 ∧ (splitC 10 out).getD (workLs n w h).length [] = [48] := by
  obtain ⟨T, hT, hlen, hwk⟩ := beside_ok w1 w3 hn
  have hc := hT.check
  have hw : ∀ i, i < (T.lay V1 []).length → 1 ≤ workOf (T.lay V1 []) i := fun i hi => by rw [hwk i (by omega)]; omega
  have hI : Inv (T.lay V1 []) 4 h (gnew (T.lay V1 [])) := Inv.new h1
  have hR := (Rem.new (hands := h) (ts := T.lay V1 [])).resolve_right (fun hx => hx hw)
  have hsum : sumN (fun i => (1 + workOf (T.lay V1 []) i).toNat) (T.lay V1 []).length = (n + 1) * (w + 1) := by
    rw [hlen]
    exact sumN_const (n + 1) (fun i hi => by show (1 + workOf (T.lay V1 []) i).toNat = _; rw [hwk i hi]; omega)
  obtain ⟨hd, -⟩ := all_done hR hI hc.good hw (show 1 ≤ 4 by omega) (fun _ => 0) (Nat.le_of_eq hsum)
  obtain ⟨os, hr⟩ := rounds_ran (ts := T.lay V1 []) hc h4 hI hR ((n + 1) * (w + 1))
  have a1 : Ran Desk.new [weaveL (UInt8.ofNat (48 + w)) n] ⟨T.lay V1 [], none⟩ [twoT (T.work V1) (T.span V1)] := Ran.one (weave_line hT) (two_ten _ _)
  have a2 : Ran ⟨T.lay V1 [], none⟩ [gangL h] ⟨T.lay V1 [], some (T.lay V1 [], h, gnew (T.lay V1 []))⟩ [okT] := Ran.one (gang_line h1 h4) (by decide)
  have a3 := (a1.both a2).both hr
  have a4 : LineIs ⟨T.lay V1 [], some (T.lay V1 [], h, grounds (T.lay V1 []) 4 h (fun _ => 0) (gnew (T.lay V1 [])) ((n + 1) * (w + 1)))⟩ leftT ⟨T.lay V1 [], some (T.lay V1 [], h, grounds (T.lay V1 []) 4 h (fun _ => 0) (gnew (T.lay V1 [])) ((n + 1) * (w + 1)))⟩ [48] := by
    unfold LineIs
    rw [if_neg (by decide), if_pos rfl]
    refine ⟨rfl, ?_⟩
    unfold LeftIs
    dsimp only
    rw [unseen_zero _ _ hd]
    exact (dec_small 0 (by omega)).symm
  have a5 := a3.both (Ran.one a4 (by decide))
  unfold SessionIs at hs
  rw [if_neg (by omega), lines_outs _ (workLs_ten w1 w3 h1 h4)] at hs
  obtain ⟨dx, hs⟩ := hs
  obtain ⟨-, rfl⟩ := RunIs.det Desk.Ok.new hs a5.run
  have hlo : ([twoT (T.work V1) (T.span V1)] ++ [okT] ++ os).length = (workLs n w h).length := a3.len
  rw [split_outs _ a5.cl]
  refine ⟨by rw [List.length_append, List.length_append, hlo]; rfl, ?_⟩
  rw [← hlo]
  simp
end Go.Proofs.YtlfbdjeojgbniaaGreatDoor
