/- Plain: a log: its records, half of one, how many bytes are safe, when it stops. No word of the program. -/
import Derived.Test.YtbknbakbfblbiaaDoorU
namespace Go.Proofs.YtbknbakbfblbiaaDoor

/-- Those that are in a list. -/
def inL (l : List Nat) : Nat → Bool := fun k => decide (k ∈ l)
theorem inL_nil : inL [] = fun _ => false := by funext k; simp [inL]
theorem inL_snoc (l : List Nat) (i : Nat) : inL (l ++ [i]) = mark (inL l) i := by
  funext k
  unfold inL mark
  by_cases h : k = i <;> simp [h]
/-- Each is ready behind those ahead of it. -/
def SeqOk (ts : List (Int × List Int)) (l : List Nat) : Prop := ∀ m, m < l.length → l.getD m 0 < ts.length ∧ readyB ts (inL (l.take m)) (l.getD m 0) = true
theorem SeqOk.nil (ts : List (Int × List Int)) : SeqOk ts [] := fun m h => by simp at h
theorem SeqOk.take {ts : List (Int × List Int)} {l : List Nat} (h : SeqOk ts l) (n : Nat) : SeqOk ts (l.take n) := fun m hm => by
  simp only [List.length_take] at hm
  have := h m (by omega)
  have e : (l.take n).getD m 0 = l.getD m 0 := by
    rw [List.getD_eq_getElem?_getD, List.getD_eq_getElem?_getD, List.getElem?_take_of_lt (by omega)]
  rw [e, List.take_take, show min m n = m by omega]
  exact this
theorem SeqOk.snoc {ts : List (Int × List Int)} {l : List Nat} (h : SeqOk ts l) {i : Nat} (hi : i < ts.length) (hr : readyB ts (inL l) i = true) : SeqOk ts (l ++ [i]) := fun m hm => by
  rw [List.length_append, List.length_singleton] at hm
  by_cases e : m = l.length
  · subst e
    have : (l ++ [i]).getD l.length 0 = i := by rw [List.getD_eq_getElem?_getD, List.getElem?_append_right (Nat.le_refl _)]; simp
    rw [this, List.take_left]
    exact ⟨hi, hr⟩
  · have e1 : (l ++ [i]).getD m 0 = l.getD m 0 := by
      rw [List.getD_eq_getElem?_getD, List.getD_eq_getElem?_getD, List.getElem?_append_left (by omega)]
    rw [e1, List.take_append_of_le_length (by omega)]
    exact h m (by omega)
theorem SeqOk.lt {ts : List (Int × List Int)} {l : List Nat} (h : SeqOk ts l) {x : Nat} (hx : x ∈ l) : x < ts.length := by
  obtain ⟨m, hm, rfl⟩ := List.getElem_of_mem hx
  have := (h m hm).1
  rwa [List.getD_eq_getElem?_getD, List.getElem?_eq_getElem hm] at this
theorem SeqOk.nodup {ts : List (Int × List Int)} : ∀ {l : List Nat}, SeqOk ts l → l.Nodup := by
  intro l
  induction hl : l.length generalizing l with
  | zero => intro _; rw [List.eq_nil_of_length_eq_zero hl]; exact List.nodup_nil
  | succ n ih =>
    intro h
    have h1 := ih (l := l.take n) (by simp; omega) (h.take n)
    have h2 := h n (by omega)
    have e : l = l.take n ++ [l.getD n 0] := by
      rw [List.getD_eq_getElem?_getD, List.getElem?_eq_getElem (by omega)]
      show l = l.take n ++ [l[n]]
      rw [List.take_append_getElem, List.take_of_length_le (by omega)]
    rw [e, List.nodup_append]
    refine ⟨h1, by simp, fun a ha b hb => ?_⟩
    rw [List.mem_singleton.1 hb]
    intro e2
    have := (ready_parts h2.2).1
    rw [← e2] at this
    simp [inL, ha] at this
theorem erase_len (l : List Nat) (n : Nat) : l.length ≤ (l.erase n).length + 1 := by
  rw [List.length_erase]; split <;> omega
theorem nodup_bound : ∀ (n : Nat) (l : List Nat), l.Nodup → (∀ x, x ∈ l → x < n) → l.length ≤ n := by
  intro n
  induction n with
  | zero => intro l _ h; cases l with
    | nil => simp
    | cons a r => exact absurd (h a (List.mem_cons_self ..)) (by omega)
  | succ n ih =>
    intro l hd h
    have h1 := ih (l.erase n) (hd.erase n) (fun x hx => by
      have h2 := h x (List.mem_of_mem_erase hx)
      have h3 := (hd.mem_erase_iff.1 hx).1
      omega)
    have := erase_len l n
    omega
theorem SeqOk.len {ts : List (Int × List Int)} {l : List Nat} (h : SeqOk ts l) : l.length ≤ ts.length := nodup_bound _ _ h.nodup (fun _ hx => h.lt hx)

/-- The bytes: two a record, and half of one. -/
def dataOf (l h : List Nat) : List Nat := l.flatMap (fun d => [d, 255]) ++ h
theorem recs_length (l : List Nat) : (l.flatMap (fun d => [d, 255])).length = 2 * l.length := by
  induction l with
  | nil => rfl
  | cons a r ih => rw [List.flatMap_cons, List.length_append, ih]; simp; omega
theorem dataOf_length (l h : List Nat) : (dataOf l h).length = 2 * l.length + h.length := by rw [dataOf, List.length_append, recs_length]
theorem dataOf_snoc (l : List Nat) (i : Nat) : dataOf (l ++ [i]) [] = dataOf l [] ++ [i, 255] := by simp [dataOf]
theorem dataOf_half (l : List Nat) (i : Nat) : dataOf l [i] = dataOf l [] ++ [i] := by simp [dataOf]
theorem dataOf_take (l h : List Nat) (m : Nat) (hm : m ≤ l.length) : (dataOf l h).take (2 * m) = dataOf (l.take m) [] := by
  induction l generalizing m with
  | nil => obtain rfl : m = 0 := by simpa using hm
           simp [dataOf]
  | cons a r ih =>
    cases m with
    | zero => simp [dataOf]
    | succ m =>
      have := ih m (by simpa using hm)
      unfold dataOf at this ⊢
      rw [List.flatMap_cons, List.append_assoc, List.take_succ_cons, List.flatMap_cons]
      rw [show 2 * (m + 1) = 2 * m + 2 by omega]
      simp only [List.append_nil] at this
      simp [this]
theorem dataOf_at (l h : List Nat) (m : Nat) (hm : m < l.length) : (dataOf l h).getD (2 * m) 0 = l.getD m 0 ∧ (dataOf l h).getD (2 * m + 1) 0 = 255 := by
  induction l generalizing m with
  | nil => simp at hm
  | cons a r ih =>
    have e : dataOf (a :: r) h = a :: 255 :: dataOf r h := by simp [dataOf]
    rw [e]
    cases m with
    | zero => exact ⟨rfl, rfl⟩
    | succ m =>
      have := ih m (by simpa using hm)
      rw [show 2 * (m + 1) = 2 * m + 1 + 1 by omega]
      exact this
theorem dataOf_last (l : List Nat) (i : Nat) : (dataOf l [i]).getD (2 * l.length) 0 = i := by
  rw [List.getD_eq_getElem?_getD, dataOf, List.getElem?_append_right (by rw [recs_length]; exact Nat.le_refl _), recs_length]
  simp

/-- How far the first n reach up to the last one that is c. -/
def lastP (bs : List Nat) (c : Nat) : Nat → Nat
  | 0 => 0
  | n + 1 => if bs.getD n 0 = c then n + 1 else lastP bs c n
theorem lastP_le (bs : List Nat) (c : Nat) : ∀ n, lastP bs c n ≤ n := by
  intro n
  induction n with
  | zero => exact Nat.le_refl _
  | succ n ih => unfold lastP; split <;> omega
theorem lastP_congr (cs bs : List Nat) (c : Nat) : ∀ n, (∀ k, k < n → cs.getD k 0 = bs.getD k 0) → lastP cs c n = lastP bs c n := by
  intro n
  induction n with
  | zero => intro _; rfl
  | succ n ih => intro h; unfold lastP; rw [h n (by omega), ih (fun k hk => h k (by omega))]
theorem lastP_take (bs : List Nat) (c n : Nat) (_hn : n ≤ bs.length) : lastP (bs.take n) c n = lastP bs c n :=
  lastP_congr _ _ c n (fun k hk => by rw [List.getD_eq_getElem?_getD, List.getD_eq_getElem?_getD, List.getElem?_take_of_lt hk])
/-- What is whole of the first n bytes. -/
theorem lastP_data {l h : List Nat} (hl : ∀ x, x ∈ l → x < 30) (hh : h.length ≤ 1) (hx : ∀ x, x ∈ h → x < 30) {n : Nat} (hn : n ≤ (dataOf l h).length) : lastP (dataOf l h) 255 n = 2 * (n / 2) := by
  rw [dataOf_length] at hn
  have even : ∀ m, m ≤ l.length → lastP (dataOf l h) 255 (2 * m) = 2 * m := fun m hm => by
    cases m with
    | zero => rfl
    | succ m =>
      show lastP (dataOf l h) 255 (2 * m + 1 + 1) = _
      rw [lastP, if_pos (dataOf_at l h m (by omega)).2]
      omega
  rcases Nat.mod_two_eq_zero_or_one n with e | e
  · have := even (n / 2) (by omega)
    rwa [show 2 * (n / 2) = n by omega] at this ⊢
  · have hlt : (dataOf l h).getD (2 * (n / 2)) 0 < 30 := by
      by_cases hm : n / 2 < l.length
      · rw [(dataOf_at l h _ hm).1, List.getD_eq_getElem?_getD, List.getElem?_eq_getElem hm]
        exact hl _ (List.getElem_mem hm)
      · obtain ⟨i, rfl⟩ : ∃ i, h = [i] := by
          match h, hh with
          | [], _ => simp at hn; omega
          | [i], _ => exact ⟨i, rfl⟩
        rw [show n / 2 = l.length by simp at hn; omega, dataOf_last]
        exact hx i (by simp)
    have e2 : n = 2 * (n / 2) + 1 := by omega
    rw [e2, lastP, if_neg (by omega), even _ (by omega)]
    omega

/-- A log, without its memory. -/
structure Ls where
  recs : List Nat
  half : List Nat
  safe : Nat
  ahead : Int
  stopped : Bool
/-- What of a log is always so. -/
structure Ls.Ok (ts : List (Int × List Int)) (s : Ls) : Prop where
  seq : SeqOk ts s.recs
  safe : s.safe ≤ 2 * s.recs.length
  even : s.safe % 2 = 0
  half : s.half.length ≤ 1
  low : ∀ x, x ∈ s.half → x < 30
  stop : s.half ≠ [] → s.stopped = true
  wf : -9223372036854775808 ≤ s.ahead ∧ s.ahead < 9223372036854775808
def Ls.new : Ls := ⟨[], [], 0, -1, false⟩
theorem Ls.new_ok (ts : List (Int × List Int)) : Ls.Ok ts Ls.new := ⟨SeqOk.nil ts, Nat.le_refl _, rfl, by simp [Ls.new], by simp [Ls.new], by simp [Ls.new], by simp [Ls.new]⟩
def Ls.fail (s : Ls) (n : Int) : Ls := { s with ahead := n }
/-- Behind a step. -/
def Ls.tick (s : Ls) : Ls := if 0 < s.ahead then { s with ahead := s.ahead - 1 } else { s with stopped := decide (s.ahead = 0) }
/-- What a join says of a task that is done. -/
def doneErr (ts : List (Int × List Int)) (S : Nat → Bool) (i : Int) : Int := if i < 0 ∨ (ts.length : Int) ≤ i then 1 else if readyB ts S i.toNat then 0 else 6
def Ls.doneE (ts : List (Int × List Int)) (s : Ls) (i : Int) : Int := if s.stopped then 6 else if doneErr ts (inL s.recs) i = 0 then (if s.ahead = 0 then 6 else 0) else doneErr ts (inL s.recs) i
def Ls.done (ts : List (Int × List Int)) (s : Ls) (i : Int) : Ls :=
  if s.stopped then s else if doneErr ts (inL s.recs) i = 0 then (if s.ahead = 0 then { s with half := [i.toNat], stopped := true } else { s.tick with recs := s.recs ++ [i.toNat] }) else s
def Ls.syncE (s : Ls) : Int := if s.stopped then 6 else if s.ahead = 0 then 6 else 0
def Ls.sync (s : Ls) : Ls := if s.stopped then s else if s.ahead = 0 then { s with stopped := true } else { s.tick with safe := (dataOf s.recs s.half).length }
/-- How many bytes are left. -/
def Ls.kept (s : Ls) (keep : Int) : Nat := s.safe + min keep.toNat ((dataOf s.recs s.half).length - s.safe)
def Ls.crash (s : Ls) (keep : Int) : Ls := ⟨s.recs.take (s.kept keep / 2), [], 2 * (s.kept keep / 2), -1, false⟩

variable {ts : List (Int × List Int)} {s : Ls}
theorem doneErr_zero {S : Nat → Bool} {i : Int} (h : doneErr ts S i = 0) : i.toNat < ts.length ∧ 0 ≤ i ∧ readyB ts S i.toNat = true := by
  unfold doneErr at h
  split at h
  · simp at h
  · split at h
    · rename_i h1 h2; exact ⟨by omega, by omega, h2⟩
    · simp at h
theorem Ls.Ok.lt (h : Ls.Ok ts s) (h30 : ts.length ≤ 30) {x : Nat} (hx : x ∈ s.recs) : x < 30 := by have := h.seq.lt hx; omega
theorem Ls.Ok.none (h : Ls.Ok ts s) (hs : s.stopped = false) : s.half = [] := by
  by_cases e : s.half = []
  · exact e
  · have := h.stop e; rw [hs] at this; simp at this
theorem Ls.Ok.fail (h : Ls.Ok ts s) {n : Int} (hn : -9223372036854775808 ≤ n ∧ n < 9223372036854775808) : Ls.Ok ts (s.fail n) := ⟨h.seq, h.safe, h.even, h.half, h.low, h.stop, hn⟩
theorem Ls.tick_run (hs : s.stopped = false) (ha : ¬ s.ahead = 0) : s.tick = { s with ahead := if 0 < s.ahead then s.ahead - 1 else s.ahead } := by
  unfold Ls.tick
  split
  · rfl
  · rw [decide_eq_false ha, ← hs]
theorem Ls.tick_stop (ha : s.ahead = 0) : s.tick = { s with stopped := true } := by
  unfold Ls.tick
  rw [if_neg (by omega), decide_eq_true ha]
theorem Ls.Ok.done (h : Ls.Ok ts s) (h30 : ts.length ≤ 30) (i : Int) : Ls.Ok ts (s.done ts i) := by
  unfold Ls.done
  split
  · exact h
  · rename_i hs
    split
    · rename_i hd
      obtain ⟨hi, _, hr⟩ := doneErr_zero hd
      split
      · exact ⟨h.seq, h.safe, h.even, by simp, by simp; omega, fun _ => rfl, h.wf⟩
      · rename_i ha
        have hs' : s.stopped = false := by simpa using hs
        rw [Ls.tick_run hs' ha]
        refine ⟨h.seq.snoc hi hr, ?_, h.even, h.half, h.low, h.stop, ?_⟩
        · have := h.safe; simp; omega
        · have := h.wf; show _ ∧ _; dsimp only; split <;> omega
    · exact h
theorem Ls.Ok.sync (h : Ls.Ok ts s) : Ls.Ok ts s.sync := by
  unfold Ls.sync
  split
  · exact h
  · rename_i hs
    have hs' : s.stopped = false := by simpa using hs
    have hn := h.none hs'
    split
    · exact ⟨h.seq, h.safe, h.even, h.half, h.low, fun _ => rfl, h.wf⟩
    · rename_i ha
      rw [Ls.tick_run hs' ha]
      refine ⟨h.seq, ?_, ?_, h.half, h.low, h.stop, ?_⟩
      · dsimp only; rw [dataOf_length, hn]; simp
      · dsimp only; rw [dataOf_length, hn]; simp
      · have := h.wf; show _ ∧ _; dsimp only; split <;> omega
theorem Ls.Ok.kept_le (h : Ls.Ok ts s) (keep : Int) : s.safe ≤ s.kept keep ∧ s.kept keep ≤ (dataOf s.recs s.half).length := by
  have := h.safe
  unfold Ls.kept
  rw [dataOf_length]
  omega
theorem Ls.Ok.crash (h : Ls.Ok ts s) (keep : Int) : Ls.Ok ts (s.crash keep) := by
  have h2 := (h.kept_le keep).2
  rw [dataOf_length] at h2
  have h3 := h.half
  refine ⟨h.seq.take _, ?_, ?_, by simp [Ls.crash], by simp [Ls.crash], by simp [Ls.crash], by simp [Ls.crash]⟩
  · show 2 * (s.kept keep / 2) ≤ 2 * (s.recs.take (s.kept keep / 2)).length
    rw [List.length_take]
    omega
  · show 2 * (s.kept keep / 2) % 2 = 0
    omega
/-- What is left is as whole. -/
theorem Ls.Ok.whole (h : Ls.Ok ts s) (h30 : ts.length ≤ 30) : lastP (dataOf s.recs s.half) 255 (dataOf s.recs s.half).length = 2 * s.recs.length := by
  rw [lastP_data (fun x hx => h.lt h30 hx) h.half h.low (Nat.le_refl _), dataOf_length]
  have := h.half
  omega
end Go.Proofs.YtbknbakbfblbiaaDoor
