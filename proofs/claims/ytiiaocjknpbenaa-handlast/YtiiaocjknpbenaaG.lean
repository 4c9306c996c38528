/- Plain: what HandLast counts; and what it keeps in memory between two steps. -/
import Derived.Test.YtiiaocjknpbenaaE
namespace Go.Proofs.Ytiiaocjknpbenaa
open Go.RowKit Go.Deep

def updB (f : Nat → Bool) (x : Nat) : Nat → Bool := fun y => if y = x then true else f y
theorem updB_ne (f : Nat → Bool) {x y : Nat} (h : y ≠ x) : updB f x y = f y := by simp [updB, h]
/-- How many below n have not come out. -/
def cnt (is : Nat → Bool) : Nat → Nat
  | 0 => 0
  | n + 1 => cnt is n + (if is n then 0 else 1)
theorem cnt_le (is : Nat → Bool) (n : Nat) : cnt is n ≤ n := by
  induction n with
  | zero => exact Nat.le_refl _
  | succ n ih => simp only [cnt]; split <;> omega
theorem cnt_above (is : Nat → Bool) (x n : Nat) (h : n ≤ x) : cnt (updB is x) n = cnt is n := by
  induction n with
  | zero => rfl
  | succ n ih => simp only [cnt]; rw [ih (by omega), updB_ne _ (by omega)]
theorem cnt_mark (is : Nat → Bool) (x n : Nat) (h : x < n) (hf : is x = false) : cnt (updB is x) n + 1 = cnt is n := by
  induction n with
  | zero => omega
  | succ n ih =>
    simp only [cnt]
    by_cases e : x = n
    · subst e
      rw [cnt_above _ _ _ (Nat.le_refl _), hf]
      simp [updB]
    · rw [updB_ne _ (by omega : n ≠ x)]
      have := ih (by omega)
      omega

/-- Those of o are out and not marked yet; those of r are there; of both there is each once. -/
structure Mk (n : Nat) (is : Nat → Bool) (o r : List Int) : Prop where
  rng : ∀ x, x ∈ o ++ r → 0 ≤ x ∧ x < n ∧ is x.toNat = false
  uniq : (o ++ r).Nodup
  count : cnt is n = (o ++ r).length
  new : ∀ k, n ≤ k → is k = false
theorem Mk.perm {n : Nat} {is : Nat → Bool} {o r o' r' : List Int} (h : Mk n is o r) (hp : (o' ++ r').Perm (o ++ r)) : Mk n is o' r' :=
  ⟨fun x hx => h.rng x (hp.mem_iff.1 hx), hp.nodup_iff.2 h.uniq, h.count.trans hp.length_eq.symm, h.new⟩
theorem Mk.same {n : Nat} {is : Nat → Bool} {o r o' r' : List Int} (h : Mk n is o r) (hp : o' ++ r' = o ++ r) : Mk n is o' r' := h.perm (by rw [hp])
theorem Mk.mark {n : Nat} {is : Nat → Bool} {x : Int} {o r : List Int} (h : Mk n is (x :: o) r) : Mk n (updB is x.toNat) o r := by
  obtain ⟨hx0, hxn, hxf⟩ := h.rng x (by simp)
  have hu := h.uniq
  rw [List.cons_append, List.nodup_cons] at hu
  refine ⟨fun y hy => ?_, hu.2, ?_, fun k hk => ?_⟩
  · obtain ⟨h0, hn, hf⟩ := h.rng y (by rw [List.cons_append]; exact List.mem_cons_of_mem _ hy)
    refine ⟨h0, hn, ?_⟩
    rw [updB_ne]
    · exact hf
    · intro e
      have e' : y = x := by omega
      exact hu.1 (e' ▸ hy)
  · have := cnt_mark is x.toNat n (by omega) hxf
    have hc := h.count
    simp only [List.cons_append, List.length_cons] at hc
    omega
  · rw [updB_ne _ (by omega)]; exact h.new k hk
theorem Mk.start : Mk 0 (fun _ => false) [] [] := ⟨fun x h => by simp at h, List.nodup_nil, rfl, fun _ _ => rfl⟩
theorem Mk.push {n : Nat} {is : Nat → Bool} {l : List Int} (h : Mk n is [] l) : Mk (n + 1) is [] (l ++ [(n : Int)]) := by
  refine ⟨fun x hx => ?_, ?_, ?_, fun k hk => h.new k (by omega)⟩
  · rw [List.nil_append] at hx
    rcases List.mem_append.1 hx with hx | hx
    · obtain ⟨h0, h1, h2⟩ := h.rng x (by simpa using hx)
      exact ⟨h0, by omega, h2⟩
    · obtain rfl := List.mem_singleton.1 hx
      exact ⟨by omega, by omega, h.new _ (by omega)⟩
  · have hu := h.uniq
    rw [List.nil_append] at hu ⊢
    rw [List.nodup_append]
    refine ⟨hu, by simp, fun a ha b hb => ?_⟩
    obtain rfl := List.mem_singleton.1 hb
    have := (h.rng a (by simpa using ha)).2.1
    omega
  · have := h.count
    simp only [cnt, h.new n (Nat.le_refl _), List.nil_append, List.length_append, List.length_singleton] at this ⊢
    simp; omega
theorem Mk.put {n room : Nat} {is : Nat → Bool} {nr : Int} {xs : List Int} (h : Mk n is [] (allH nr xs)) : Mk (n + 1) is (putO room nr xs) (allH n (putR room nr xs)) := by
  refine h.push.same ?_
  have h0 : ¬ (n : Int) = -1 := by omega
  unfold putO putR allH
  rw [if_neg h0]
  by_cases h1 : nr = -1
  · simp [h1]
  · by_cases h2 : xs.length < room
    · simp [h1, h2]
    · simp [h1, h2, ← List.append_assoc]
theorem Mk.near {n : Nat} {is : Nat → Bool} {nr : Int} {xs : List Int} (h : Mk n is [] (allH nr xs)) (hn : nr ≠ -1) : Mk n is [nr] (allH (-1) xs) := by
  refine h.perm ?_
  simp only [allH, if_neg hn, if_true, List.nil_append]
  exact List.perm_append_comm
theorem Mk.pop {n : Nat} {is : Nat → Bool} {x : Int} {xs : List Int} (h : Mk n is [] (allH (-1) (xs ++ [x]))) : Mk n is [x] (allH (-1) xs) := by
  refine h.perm ?_
  simp only [allH, if_true, List.nil_append]
  exact List.perm_append_comm
theorem Mk.rob {n : Nat} {is : Nat → Bool} {nr : Int} {xs : List Int} (h : Mk n is [] (allH nr xs)) (k : Nat) : Mk n is (xs.take k) (allH nr (xs.drop k)) := by
  refine h.same ?_
  unfold allH
  by_cases h1 : nr = -1
  · simp [h1]
  · simp [h1, ← List.append_assoc]

def boolRow (f : Nat → Bool) : Nat → Value := fun k => .bool (f k)
theorem row_updB {w : World} {b t n x : Nat} {f : Nat → Bool} (h : w.rowIs b t n (boolRow f)) : (w.setCell ⟨b, x, none⟩ (.bool true)).rowIs b t n (boolRow (updB f x)) :=
  (h.set x _).congr (fun k _ => by unfold boolRow updB; split <;> rfl)

/-- Memory between two steps: the hand, the marks, what was there before. -/
structure LMem (H R I room B : Nat) (is : Nat → Bool) (nr : Int) (xs : List Int) (w0 wr : World) : Prop where
  hand : Hd H R room nr xs wr
  marks : wr.rowIs I 32 100 (boolRow is)
  below : Below B w0 wr
  bH : B ≤ H
  bR : B ≤ R
  bI : B ≤ I
  neH : H ≠ I
  neR : R ≠ I
theorem LMem.size {H R I room B : Nat} {is : Nat → Bool} {nr : Int} {xs : List Int} {w0 wr : World} (h : LMem H R I room B is nr xs w0 wr) : B ≤ wr.heap.size := by
  have := h.marks.lt
  have := h.bI
  omega
theorem LMem.kh {H R I room B : Nat} {is : Nat → Bool} {nr nr' : Int} {xs xs' : List Int} {w0 wr w' : World} (h : LMem H R I room B is nr xs w0 wr) (hr : Hd H R room nr' xs' w') (hk : Kh H R wr w') : LMem H R I room B is nr' xs' w0 w' :=
  ⟨hr, h.marks.of_block (hk.block I h.marks.lt (fun e => h.neH e.symm) (fun e => h.neR e.symm)), h.below.trans (hk.below h.bH h.bR h.size), h.bH, h.bR, h.bI, h.neH, h.neR⟩
theorem LMem.later {H R I room B : Nat} {is : Nat → Bool} {nr : Int} {xs : List Int} {w0 wr w' : World} (h : LMem H R I room B is nr xs w0 wr) (hb : Below wr.heap.size wr w') : LMem H R I room B is nr xs w0 w' :=
  ⟨h.hand.of_blocks (hb.block _ h.hand.row.lt) (hb.block _ h.hand.ring.lt), h.marks.of_block (hb.block _ h.marks.lt), h.below.trans (hb.mono h.size), h.bH, h.bR, h.bI, h.neH, h.neR⟩
theorem LMem.mark {H R I room B x : Nat} {is : Nat → Bool} {nr : Int} {xs : List Int} {w0 wr : World} (h : LMem H R I room B is nr xs w0 wr) : LMem H R I room B (updB is x) nr xs w0 (wr.setCell ⟨I, x, none⟩ (.bool true)) :=
  ⟨h.hand.of_blocks (Below.heap_setCell _ _ _ _ (by show H ≠ I; exact h.neH)) (Below.heap_setCell _ _ _ _ (by show R ≠ I; exact h.neR)), row_updB h.marks, h.below.setCell (p := ⟨I, x, none⟩) h.bI _, h.bH, h.bR, h.bI, h.neH, h.neR⟩
/-- One number, appended to nothing. -/
theorem OutZ.one {C B : Nat} {w : World} {v : Value} {x : Int} (h : w.ownsRow B 3 1 v 1 [.int .i64 x]) (hC : C ≤ B) : OutZ C w v [x] := by
  obtain ⟨_, ⟨rfl, h0⟩ | ⟨g, cap, cur, rfl, hb, hh, _⟩⟩ := id h
  · omega
  · refine Or.inr ⟨g, cap, rfl, Nat.le_trans hC hb, ?_, fun k hk => ?_⟩
    · rcases Nat.lt_or_ge g w.heap.size with h1 | h1
      · exact h1
      · rw [Array.getElem?_eq_none h1] at hh; cases hh
    · simp only [List.length_singleton] at hk
      obtain rfl : k = 0 := by omega
      rw [World.ownsRow.cellAt h 0 (by omega)]
      rfl
theorem allH_le {room : Nat} {nr : Int} {xs : List Int} (h : xs.length ≤ room) : (allH nr xs).length ≤ room + 1 := by
  unfold allH
  split
  · omega
  · simp; omega
end Go.Proofs.Ytiiaocjknpbenaa
