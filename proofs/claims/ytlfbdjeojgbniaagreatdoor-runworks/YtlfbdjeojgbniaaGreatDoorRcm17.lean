/- Plain: what keeps a desk right; lines one behind the other; the answers to a beginning. No word of the program. Plain: numerals of at most four digits, by trial of each. Plain: numbers of at most four digits as strconv.Atoi and Itoa tell them; pieces of a text. No word of the program. The contract of yardsame.Ints. -/
import Derived.Test.YtlfbdjeojgbniaaGreatDoorRcm16
import Derived.Test.YtlfbdjeojgbniaaGreatDoorRcm11
import Derived.Lib.AtoiAll
import Derived.Lib.SplitLaws
import Derived.Lib.Replace
import Derived.Test.YtlfbdjeojgbniaaGreatDoorRcm05

namespace Go.Proofs.YtlfbdjeojgbniaaGreatDoor
open Go.RowKit Go.Deep

theorem run_work {ts : List (Int × List Int)} (hc : CheckIs ts 0 0) : ∀ i, i < ts.length → 1 ≤ workOf ts i := fun i hi => by
  have h2 := (hc.ok rfl).2.2.1 i hi
  unfold errOf taskErr at h2
  have h3 : ¬ ((ts.getD i (0, [])).1 < 1 ∨ 20 < (ts.getD i (0, [])).1) := fun e => by rw [if_pos e] at h2; omega
  unfold workOf
  omega
theorem WeaveIs.ok {d d' : Desk} {r o : List UInt8} (hok : d.Ok) (h : WeaveIs d r d' o) : d'.Ok := by
  rcases h with ⟨q, -, -, rfl, -⟩ | ⟨t, ht, rfl, -⟩
  · exact hok
  · exact ⟨ht.check, hok.gg⟩
theorem PlanIs.ok {d d' : Desk} {r o : List UInt8} (hok : d.Ok) (h : PlanIs d r d' o) : d'.Ok := by
  rcases h with ⟨-, rfl, -⟩ | ⟨ts, p, q, -, hc, ⟨-, rfl, -⟩ | ⟨rfl, rfl, -⟩⟩
  · exact hok
  · exact hok
  · obtain ⟨rfl, -⟩ := hc.ok rfl
    exact ⟨hc, hok.gg⟩
theorem GangIs.ok {d d' : Desk} {n : Nat} {o : List UInt8} (hok : d.Ok) (h : GangIs d n d' o) : d'.Ok := by
  unfold GangIs at h
  by_cases e : 1 ≤ n ∧ n ≤ 6
  · rw [if_pos e] at h
    obtain ⟨rfl, -⟩ := h
    refine ⟨hok.pl, fun t hands g hg => ?_⟩
    cases hg
    exact ⟨hok.pl, e.1, e.2, Inv.new e.1⟩
  · rw [if_neg e] at h
    obtain ⟨rfl, -⟩ := h
    exact hok
theorem StepIs.ok {d d' : Desk} {h k : Nat} {o : List UInt8} (hok : d.Ok) (hs : StepIs d h k d' o) : d'.Ok := by
  obtain ⟨ts, gang⟩ := d
  unfold StepIs at hs
  cases gang with
  | none =>
    obtain ⟨rfl, -⟩ := hs
    exact hok
  | some x =>
    obtain ⟨t, hands, g⟩ := x
    dsimp only at hs
    by_cases e : hands ≤ h
    · rw [if_pos e] at hs
      obtain ⟨rfl, -⟩ := hs
      exact hok
    · rw [if_neg e] at hs
      obtain ⟨rfl, -⟩ := hs
      refine ⟨hok.pl, fun t' hands' g' hg => ?_⟩
      obtain ⟨h1, h2, h3, h4⟩ := hok.gg t hands g rfl
      cases hg
      exact ⟨h1, h2, h3, h4.step h1.good (run_work h1) (by omega) (by omega) k⟩
theorem LineIs.ok {d d' : Desk} {l o : List UInt8} (hok : d.Ok) (h : LineIs d l d' o) : d'.Ok := by
  unfold LineIs at h
  by_cases e1 : l = showT
  · rw [if_pos e1] at h
    exact h.1 ▸ hok
  rw [if_neg e1] at h
  by_cases e2 : l = leftT
  · rw [if_pos e2] at h
    exact h.1 ▸ hok
  rw [if_neg e2] at h
  by_cases e3 : (32 : UInt8) ∉ l
  · rw [if_pos e3] at h
    exact h.1 ▸ hok
  rw [if_neg e3] at h
  unfold WordIs at h
  by_cases e4 : (cutB 32 l).1 = weaveT
  · rw [if_pos e4] at h; exact h.ok hok
  rw [if_neg e4] at h
  by_cases e5 : (cutB 32 l).1 = planT
  · rw [if_pos e5] at h; exact h.ok hok
  rw [if_neg e5] at h
  revert h
  cases allOf numOf (splitC 32 (cutB 32 l).2.1) with
  | none => exact fun h => h.1 ▸ hok
  | some ns =>
    intro h
    have h : NumsIs d (cutB 32 l).1 ns d' o := h
    unfold NumsIs at h
    by_cases e6 : (cutB 32 l).1 = greedyT ∧ ns.length = 1
    · rw [if_pos e6] at h; exact h.1 ▸ hok
    rw [if_neg e6] at h
    by_cases e7 : (cutB 32 l).1 = gangT ∧ ns.length = 1
    · rw [if_pos e7] at h; exact h.ok hok
    rw [if_neg e7] at h
    by_cases e8 : (cutB 32 l).1 = stepT ∧ ns.length = 2
    · rw [if_pos e8] at h; exact h.ok hok
    rw [if_neg e8] at h
    exact h.1 ▸ hok

theorem RunIs.ok : ∀ {ls : List (List UInt8)} {d d' : Desk} {o : List UInt8}, d.Ok → RunIs d ls d' o → d'.Ok := by
  intro ls
  induction ls with
  | nil => intro d d' o hok h; exact h.1 ▸ hok
  | cons l r ih =>
    intro d d' o hok h
    obtain ⟨d1, o1, o2, h1, h2, -⟩ := h
    exact ih (h1.ok hok) h2
theorem RunIs.det : ∀ {ls : List (List UInt8)} {d d1 d2 : Desk} {o1 o2 : List UInt8}, d.Ok → RunIs d ls d1 o1 → RunIs d ls d2 o2 → d1 = d2 ∧ o1 = o2 := by
  intro ls
  induction ls with
  | nil => intro d d1 d2 o1 o2 hok h h'; exact ⟨h.1.trans h'.1.symm, h.2.trans h'.2.symm⟩
  | cons l r ih =>
    intro d d1 d2 o1 o2 hok h h'
    obtain ⟨x, a, b, h1, h2, rfl⟩ := h
    obtain ⟨x', a', b', h1', h2', rfl⟩ := h'
    obtain ⟨rfl, rfl⟩ := LineIs.det hok h1 h1'
    obtain ⟨rfl, rfl⟩ := ih (h1.ok hok) h2 h2'
    exact ⟨rfl, rfl⟩
theorem RunIs.parts : ∀ {a b : List (List UInt8)} {d d2 : Desk} {o : List UInt8}, RunIs d (a ++ b) d2 o → ∃ d1 o1 o2, RunIs d a d1 o1 ∧ RunIs d1 b d2 o2 ∧ o = o1 ++ o2 := by
  intro a
  induction a with
  | nil => intro b d d2 o h; exact ⟨d, [], o, ⟨rfl, rfl⟩, h, rfl⟩
  | cons l r ih =>
    intro b d d2 o h
    obtain ⟨x, p, q, h1, h2, rfl⟩ := h
    obtain ⟨y, o1, o2, g1, g2, rfl⟩ := ih h2
    exact ⟨y, p ++ 10 :: o1, o2, ⟨x, p, o1, h1, g1, rfl⟩, g2, by simp⟩
theorem RunIs.both : ∀ {a b : List (List UInt8)} {d d1 d2 : Desk} {o1 o2 : List UInt8}, RunIs d a d1 o1 → RunIs d1 b d2 o2 → RunIs d (a ++ b) d2 (o1 ++ o2) := by
  intro a
  induction a with
  | nil => intro b d d1 d2 o1 o2 h h'; obtain ⟨rfl, rfl⟩ := h; exact h'
  | cons l r ih =>
    intro b d d1 d2 o1 o2 h h'
    obtain ⟨x, p, q, h1, h2, rfl⟩ := h
    exact ⟨x, p, q ++ o2, h1, ih h2 h', by simp⟩

theorem splitC_both (c : UInt8) (x y : List UInt8) : splitC c (x ++ c :: y) = splitC c x ++ splitC c y := by
  induction x with
  | nil => simp [splitC]
  | cons b r ih =>
    rw [List.cons_append, splitC_cons, splitC_cons, ih]
    by_cases hb : b = c
    · rw [if_pos hb, if_pos hb]; rfl
    · rw [if_neg hb, if_neg hb]
      obtain ⟨a, s, hs⟩ := List.exists_cons_of_ne_nil (splitC_ne c r)
      rw [hs]; rfl
theorem linesT_nil : linesT [] = [] := by decide
theorem linesT_both (x y : List UInt8) : linesT (x ++ 10 :: y) = linesT (x ++ [10]) ++ linesT y := by
  have h1 : linesT (x ++ [10]) = splitC 10 x := by
    unfold linesT
    rw [splitC_both, show splitC (10 : UInt8) [] = [[]] from rfl]
    simp
  rw [h1]
  unfold linesT
  rw [splitC_both]
  have hn := splitC_ne 10 y
  have hl : (splitC 10 x ++ splitC 10 y).getLast? = (splitC 10 y).getLast? := by
    rw [List.getLast?_append]
    rw [List.getLast?_eq_some_getLast hn]; rfl
  rw [hl]
  split
  · rw [List.dropLast_append_of_ne_nil hn]
  · rfl

theorem SessionIs.det {t a b : List UInt8} (h : SessionIs t a) (h' : SessionIs t b) : a = b := by
  unfold SessionIs at h h'
  split at h
  · rename_i e; rw [if_pos e] at h'; exact h.trans h'.symm
  · rename_i e; rw [if_neg e] at h'
    obtain ⟨d, h⟩ := h
    obtain ⟨d', h'⟩ := h'
    exact (RunIs.det Desk.Ok.new h h').2
/-- The answers to a beginning of whole lines are a beginning of the answers. -/
theorem session_begins {x y a b : List UInt8} (hl : (x ++ y).length ≤ 3000) (hx : x = [] ∨ ∃ z, x = z ++ [10]) (ha : SessionIs x a) (hb : SessionIs (x ++ y) b) : ∃ c, b = a ++ c := by
  have hlx : ¬ 3000 < x.length := by simp at hl; omega
  have hlb : ¬ 3000 < (x ++ y).length := by omega
  unfold SessionIs at ha hb
  rw [if_neg hlx] at ha
  rw [if_neg hlb] at hb
  obtain ⟨da, ha⟩ := ha
  obtain ⟨db, hb⟩ := hb
  have hs : linesT (x ++ y) = linesT x ++ linesT y := by
    rcases hx with rfl | ⟨z, rfl⟩
    · rw [linesT_nil]; rfl
    · rw [List.append_assoc]; exact linesT_both z y
  rw [hs] at hb
  obtain ⟨d1, o1, o2, h1, -, rfl⟩ := hb.parts
  obtain ⟨-, rfl⟩ := RunIs.det Desk.Ok.new ha h1
  exact ⟨o2, rfl⟩

/-- "weave 2;3", "fly", "gang 1", "step 0 0". -/
def beginT : List UInt8 := [119, 101, 97, 118, 101, 32, 50, 59, 51, 10, 102, 108, 121, 10, 103, 97, 110, 103, 32, 49, 10, 115, 116, 101, 112, 32, 48, 32, 48, 10]
def beginO : List UInt8 := [53, 32, 53, 10, 98, 97, 100, 10, 111, 107, 10, 102, 101, 116, 99, 104, 101, 100, 32, 48, 32, 48, 59, 10]
def beginTree : Tree := .seq (.num [50]) (.num [51])
theorem begin_ok : WeaveOk [50, 59, 51] beginTree := by
  refine ⟨by decide, ?_, by decide⟩
  exact Gr.weaveOf (Gr.chainOf (Gr.num (s := [50, 59, 51]) (by decide)) (Gr.chainMore (Gr.num (s := [51]) (by decide)) (Gr.chainEnd (by decide)))) (Gr.weaveEnd (by decide))
theorem begin_lay : beginTree.lay V1 [] = [(2, []), (3, [0])] := by rfl
theorem begin_run : SessionIs beginT beginO := by
  unfold SessionIs
  rw [if_neg (by decide)]
  have hl : linesT beginT = [[119, 101, 97, 118, 101, 32, 50, 59, 51], [102, 108, 121], [103, 97, 110, 103, 32, 49], [115, 116, 101, 112, 32, 48, 32, 48]] := by decide
  rw [hl]
  have d5 : digs 5 = [53] := dec_small 5 (by omega)
  have hc : ({ Desk.new with ts := beginTree.lay V1 [] } : Desk) = ⟨[(2, []), (3, [0])], none⟩ := by rw [begin_lay]; rfl
  have h1 : LineIs Desk.new [119, 101, 97, 118, 101, 32, 50, 59, 51] ⟨[(2, []), (3, [0])], none⟩ [53, 32, 53] := by
    unfold LineIs
    rw [if_neg (by decide), if_neg (by decide), if_neg (by decide)]
    unfold WordIs
    rw [if_pos (by decide)]
    refine Or.inr ⟨beginTree, begin_ok, hc.symm, ?_⟩
    rw [show beginTree.work V1 = 5 from rfl, show beginTree.span V1 = 5 from rfl]
    unfold twoT
    rw [d5]; rfl
  have h2 : ∀ d, LineIs d [102, 108, 121] d [98, 97, 100] := fun d => by
    unfold LineIs
    rw [if_neg (by decide), if_neg (by decide), if_pos (by decide)]
    exact ⟨rfl, rfl⟩
  have h3 : LineIs ⟨[(2, []), (3, [0])], none⟩ [103, 97, 110, 103, 32, 49] ⟨[(2, []), (3, [0])], some ([(2, []), (3, [0])], 1, gnew [(2, []), (3, [0])])⟩ [111, 107] := by
    unfold LineIs
    rw [if_neg (by decide), if_neg (by decide), if_neg (by decide)]
    unfold WordIs
    rw [if_neg (by decide), if_neg (by decide), show allOf numOf (splitC 32 (cutB 32 [103, 97, 110, 103, 32, 49]).2.1) = some [1] by decide]
    show NumsIs _ _ [1] _ _
    unfold NumsIs
    rw [if_neg (by decide), if_pos (by decide)]
    unfold GangIs
    rw [if_pos (by decide)]
    exact ⟨rfl, rfl⟩
  have h4 : LineIs ⟨[(2, []), (3, [0])], some ([(2, []), (3, [0])], 1, gnew [(2, []), (3, [0])])⟩ [115, 116, 101, 112, 32, 48, 32, 48] ⟨[(2, []), (3, [0])], some ([(2, []), (3, [0])], 1, gstep [(2, []), (3, [0])] 4 1 (gnew [(2, []), (3, [0])]) 0 0)⟩ [102, 101, 116, 99, 104, 101, 100, 32, 48, 32, 48, 59] := by
    unfold LineIs
    rw [if_neg (by decide), if_neg (by decide), if_neg (by decide)]
    unfold WordIs
    rw [if_neg (by decide), if_neg (by decide), show allOf numOf (splitC 32 (cutB 32 [115, 116, 101, 112, 32, 48, 32, 48]).2.1) = some [0, 0] by decide]
    show NumsIs _ _ [0, 0] _ _
    unfold NumsIs
    rw [if_neg (by decide), if_neg (by decide), if_pos (by decide)]
    unfold StepIs
    dsimp only
    rw [if_neg (by decide)]
    refine ⟨rfl, ?_⟩
    have hg : gdeeds [(2, []), (3, [0])] 1 (gnew [(2, []), (3, [0])]) ([0, 0].getD 0 0) ([0, 0].getD 1 0) = [(3, 0, 0, 0)] := by decide
    rw [hg]
    have d0 : digs 0 = [48] := dec_small 0 (by omega)
    have ht : deedText (3, 0, 0, 0) = [102, 101, 116, 99, 104, 101, 100, 32, 48, 32, 48] := by
      unfold deedText deedWs
      simp [d0]
      decide
    unfold rowT
    rw [if_neg (by decide)]
    simp [ht]
  exact ⟨_, ⟨_, _, _, h1, ⟨_, _, _, h2 _, ⟨_, _, _, h3, ⟨_, _, _, h4, ⟨rfl, rfl⟩, rfl⟩, rfl⟩, rfl⟩, rfl⟩⟩
end Go.Proofs.YtlfbdjeojgbniaaGreatDoor

namespace Go.Proofs.YtlfbdjeojgbniaaGreatDoor
open Go

theorem dec_num4 : ∀ m, m < 10000 → Lib.atoiAll (Lib.decDigits m) = .ok (m : Int) ∧ numOf (Lib.decDigits m) = some m := by
  intro m hm
  have key : ∀ a b : Fin 100, Lib.atoiAll (Lib.decDigits (a.val * 100 + b.val)) = .ok ((a.val * 100 + b.val : Nat) : Int) ∧ numOf (Lib.decDigits (a.val * 100 + b.val)) = some (a.val * 100 + b.val) := by decide +kernel
  have h := key ⟨m / 100, by omega⟩ ⟨m % 100, by omega⟩
  rw [show m / 100 * 100 + m % 100 = m by omega] at h
  exact h
end Go.Proofs.YtlfbdjeojgbniaaGreatDoor

namespace Go.Proofs.YtlfbdjeojgbniaaGreatDoor
open Go

theorem puint_any : ∀ (l : List UInt8) (acc : Nat), (acc + 1) * 10 ^ l.length ≤ 1000000 → Lib.parseUint10 acc l = .syntax ∨ ∃ u, Lib.parseUint10 acc l = .ok u ∧ u < (acc + 1) * 10 ^ l.length := by
  intro l
  induction l with
  | nil => intro acc _; exact Or.inr ⟨acc, rfl, by simp⟩
  | cons c r ih =>
    intro acc h
    rw [List.length_cons, Nat.pow_succ, Nat.mul_comm _ 10, ← Nat.mul_assoc] at h ⊢
    unfold Lib.parseUint10
    by_cases hd : 48 ≤ c.toNat ∧ c.toNat ≤ 57
    · have hp : 1 ≤ 10 ^ r.length := Nat.pow_pos (by omega)
      have hacc : (acc + 1) * 10 ≤ 1000000 := Nat.le_trans (Nat.le_mul_of_pos_right _ hp) h
      have hle : (acc * 10 + (c.toNat - 48) + 1) * 10 ^ r.length ≤ (acc + 1) * 10 * 10 ^ r.length := Nat.mul_le_mul_right _ (by omega)
      rw [if_pos hd, if_neg (by omega), if_neg (by omega)]
      rcases ih (acc * 10 + (c.toNat - 48)) (Nat.le_trans hle h) with e | ⟨u, e, hu⟩
      · exact Or.inl e
      · exact Or.inr ⟨u, e, Nat.lt_of_lt_of_le hu hle⟩
    · rw [if_neg hd]; exact Or.inl rfl
theorem ten_pow_four {n : Nat} (h : n ≤ 4) : 10 ^ n ≤ 10000 := by
  have := Nat.pow_le_pow_right (n := 10) (by omega) h
  simpa using this
theorem pmag_four (l : List UInt8) (h : l.length ≤ 4) : Lib.parseMag l = .syntax ∨ ∃ u, Lib.parseMag l = .ok u ∧ u < 10000 := by
  unfold Lib.parseMag
  split
  · exact Or.inl rfl
  · have h4 := ten_pow_four h
    rcases puint_any l 0 (by omega) with e | ⟨u, e, hu⟩
    · exact Or.inl e
    · exact Or.inr ⟨u, e, by omega⟩
theorem atoi_four (l : List UInt8) (h : l.length ≤ 4) : Lib.atoiAll l = .syntax ∨ ∃ v : Int, Lib.atoiAll l = .ok v ∧ v < 10000 := by
  cases l with
  | nil => exact Or.inl rfl
  | cons c r =>
    have hs : (if c.toNat = 43 ∨ c.toNat = 45 then r else c :: r).length ≤ 4 := by
      simp at h
      split
      · omega
      · simp; omega
    unfold Lib.atoiAll
    dsimp only
    rcases pmag_four _ hs with e | ⟨u, e, hu⟩
    · rw [e]; exact Or.inl rfl
    · rw [e]
      dsimp only
      right
      rw [if_neg (by omega), if_neg (by omega)]
      refine ⟨_, rfl, ?_⟩
      split <;> omega
theorem decFrom_any : ∀ (l : List UInt8) (acc m : Nat), Lib.decFrom acc l = some m → m < (acc + 1) * 10 ^ l.length := by
  intro l
  induction l with
  | nil => intro acc m h; simp [Lib.decFrom] at h; simp; omega
  | cons c r ih =>
    intro acc m h
    unfold Lib.decFrom at h
    cases hc : Lib.digitVal c with
    | none => rw [hc] at h; cases h
    | some d =>
      rw [hc] at h
      have hd : d ≤ 9 := by
        unfold Lib.digitVal at hc
        split at hc
        · simp at hc; omega
        · cases hc
      have h1 := ih _ m h
      rw [List.length_cons, Nat.pow_succ, Nat.mul_comm _ 10, ← Nat.mul_assoc]
      exact Nat.lt_of_lt_of_le h1 (Nat.mul_le_mul_right _ (by omega))
theorem num4_small {l : List UInt8} {m : Nat} (h : numOf l = some m) : m < 10000 := by
  unfold numOf at h
  split at h
  · cases h
  · rename_i hc
    unfold Lib.decNat at h
    split at h
    · cases h
    · have h1 := decFrom_any _ _ _ h
      have h2 := ten_pow_four (n := l.length) (by omega)
      omega
theorem num4_atoi {l : List UInt8} {m : Nat} (h : numOf l = some m) : Lib.atoiAll l = .ok (m : Int) := by
  rw [num_inv l m h]
  exact (dec_num4 m (num4_small h)).1
theorem num4_syntax {l : List UInt8} (h : Lib.atoiAll l = .syntax) : numOf l = none := by
  cases e : numOf l with
  | none => rfl
  | some m => rw [num4_atoi e] at h; cases h
theorem num4_no {l : List UInt8} {v : Int} (h : Lib.atoiAll l = .ok v) (hn : ¬ (0 ≤ v ∧ digs v = l)) : numOf l = none := by
  cases e : numOf l with
  | none => rfl
  | some m =>
    have h1 := num4_atoi e
    rw [h] at h1
    simp only [Lib.NumEnd.ok.injEq] at h1
    refine absurd ⟨by omega, ?_⟩ hn
    rw [h1]
    unfold digs
    rw [Int.toNat_natCast]
    exact (num_inv l m e).symm
theorem num4_yes {v : Int} (h0 : 0 ≤ v) (h1 : v < 10000) : numOf (digs v) = some v.toNat := (dec_num4 v.toNat (by omega)).2
theorem num4_long {l : List UInt8} (h : 4 < l.length) : numOf l = none := by unfold numOf; rw [if_pos (Or.inl h)]

theorem index_parts {c : UInt8} {l : List UInt8} (h : c ∈ l) : ∃ x y, l = x ++ c :: y ∧ c ∉ x ∧ Lib.index l [c] = (x.length : Int) := by
  obtain ⟨x, y, e, hx⟩ := List.eq_append_cons_of_mem h
  refine ⟨x, y, e, hx, ?_⟩
  rw [Lib.index_one, e]
  clear e h
  induction x with
  | nil => simp [Lib.indexByte]
  | cons b r ih =>
    have hb : b ≠ c := fun e => hx (by simp [e])
    have hr := ih (fun e => hx (by simp [e]))
    rw [List.cons_append]
    unfold Lib.indexByte
    rw [hr]
    simp [hb]
theorem count_parts {c : UInt8} {x y : List UInt8} {k : Nat} (hx : c ∉ x) (h : Lib.count (x ++ c :: y) [c] = k + 1) : Lib.count y [c] = k := by
  rw [Lib.count_one, List.count_append, List.count_cons_self, List.count_eq_zero.2 hx] at h
  rw [Lib.count_one]; omega
/-- strings.Split at one byte, as pieces. -/
theorem splitK_one (c : UInt8) : ∀ (k : Nat) (l : List UInt8), Lib.count l [c] = k → Lib.splitK [c] 0 k l = splitC c l := by
  intro k
  induction k with
  | zero =>
    intro l h
    rw [Lib.count_one, List.count_eq_zero] at h
    rw [splitC_clean c l h]
    rfl
  | succ k ih =>
    intro l h
    have hm : c ∈ l := by
      rw [Lib.count_one] at h
      exact List.count_pos_iff.1 (by omega)
    obtain ⟨x, y, rfl, hx, hi⟩ := index_parts hm
    unfold Lib.splitK
    rw [hi]
    have h1 : ((x.length : Int) == -1) = false := by rw [beq_eq_false_iff_ne]; omega
    rw [h1, if_neg (by decide), Int.toNat_natCast, Nat.add_zero, List.take_left', List.length_singleton]
    rw [splitC_append c x y hx, show x ++ c :: y = (x ++ [c]) ++ y by simp, List.drop_left' (by simp), ih y (count_parts hx h)]
    rfl
theorem splitC_short (c : UInt8) : ∀ (l x : List UInt8), x ∈ splitC c l → x.length ≤ l.length := by
  intro l
  induction l with
  | nil => intro x hx; simp [splitC] at hx; rw [hx]; simp
  | cons b r ih =>
    intro x hx
    rw [splitC_cons] at hx
    by_cases hb : b = c
    · rw [if_pos hb] at hx
      rcases List.mem_cons.1 hx with rfl | hx
      · simp
      · have := ih x hx; simp; omega
    · rw [if_neg hb] at hx
      obtain ⟨a, s, hs⟩ := List.exists_cons_of_ne_nil (splitC_ne c r)
      rw [hs] at hx ih
      rcases List.mem_cons.1 hx with rfl | hx
      · have := ih a (by simp); simp; omega
      · have := ih x (by simp [hx]); simp; omega
/-- One byte for another. -/
theorem replaceK_one (c d : UInt8) : ∀ (k : Nat) (l : List UInt8), Lib.count l [c] = k → Lib.replaceK [c] [d] k l = l.map (fun b => if b = c then d else b) := by
  have hcl : ∀ x : List UInt8, c ∉ x → x.map (fun b => if b = c then d else b) = x := fun x hx => by
    conv => rhs; rw [← List.map_id x]
    exact List.map_congr_left (fun b hb => by rw [if_neg (fun e => hx (by rw [← e]; exact hb))]; rfl)
  intro k
  induction k with
  | zero =>
    intro l h
    rw [Lib.count_one, List.count_eq_zero] at h
    rw [hcl l h]
    rfl
  | succ k ih =>
    intro l h
    have hm : c ∈ l := by
      rw [Lib.count_one] at h
      exact List.count_pos_iff.1 (by omega)
    obtain ⟨x, y, rfl, hx, hi⟩ := index_parts hm
    unfold Lib.replaceK
    rw [hi]
    have h1 : ((x.length : Int) == -1) = false := by rw [beq_eq_false_iff_ne]; omega
    rw [h1, if_neg (by decide), Int.toNat_natCast, List.take_left', List.length_singleton]
    · rw [show x ++ c :: y = (x ++ [c]) ++ y by simp, List.drop_left' (by simp), ih y (count_parts hx h)]
      rw [List.map_append, List.map_append, hcl x hx]
      simp
    · rfl
theorem replaceAll_one (c d : UInt8) (hcd : c ≠ d) (l : List UInt8) : Lib.replaceAll l [c] [d] = l.map (fun b => if b = c then d else b) := by
  unfold Lib.replaceAll Lib.replace
  rw [if_neg (by simp [hcd])]
  unfold Lib.replaceNum
  rw [if_pos (Or.inl (by decide))]
  exact replaceK_one c d _ l rfl
theorem deeds_semis {ds : List Deed} (h : ∀ d, d ∈ ds → deedE d = 0) : (deedsText ds).map (fun b => if b = (10 : UInt8) then 59 else b) = ds.flatMap (fun x => deedText x ++ [59]) := by
  unfold deedsText
  induction ds with
  | nil => rfl
  | cons x r ih =>
    have hx := deedText_ten (h x (by simp))
    rw [List.flatMap_cons, List.flatMap_cons, List.map_append, List.map_append, ih (fun d hd => h d (by simp [hd]))]
    congr 2
    · conv => rhs; rw [← List.map_id (deedText x)]
      exact List.map_congr_left (fun b hb => by rw [if_neg (fun e => hx (by rw [← e]; exact hb))]; rfl)
end Go.Proofs.YtlfbdjeojgbniaaGreatDoor

namespace Go.Proofs.YtlfbdjeojgbniaaGreatDoor
open Go.RowKit Go.Deep

end Go.Proofs.YtlfbdjeojgbniaaGreatDoor
