/- A hand in memory: its block has what is near, and the ring; the contracts of New, push, Put, Take, Rob, Near, Len. -/
import Derived.Test.YthbcgehmnhlahaaHndD
namespace Go.Proofs.Ythbcgehmnhlahaa.Hnd
open Go.RowKit Go.Deep

/-- What came out: nothing, or a row of its own. -/
def OutZ (C : Nat) (w : World) (v : Value) (o : List Int) : Prop := (o = [] ∧ v = .slice none 0 0) ∨ RowZ C w v o
theorem OutZ.shape {C : Nat} {w : World} {v : Value} {o : List Int} (h : OutZ C w v o) : ∃ a c, v = .slice a o.length c ∧ ∀ k, k < o.length → ∃ b, a = some ⟨b, 0, none⟩ ∧ C ≤ b ∧ b < w.heap.size ∧ w.cell? ⟨b, k, none⟩ = some (.int .i64 (o.getD k 0)) := by
  rcases h with ⟨rfl, rfl⟩ | ⟨b, c, rfl, hcap, hb, hl, hc⟩
  · exact ⟨none, 0, rfl, fun k hk => by simp at hk⟩
  · exact ⟨_, c, rfl, fun k hk => ⟨b, rfl, hb, hl, hc k hk⟩⟩
theorem OutZ.at {C k n c : Nat} {w : World} {a : Option Addr} {o : List Int} (h : OutZ C w (.slice a n c) o) (hk : k < o.length) : ∃ b, a = some ⟨b, 0, none⟩ ∧ C ≤ b ∧ b < w.heap.size ∧ w.cell? ⟨b, k, none⟩ = some (.int .i64 (o.getD k 0)) := by
  rcases h with ⟨rfl, _⟩ | ⟨b, c', hv, hcap, hb, hl, hc⟩
  · simp at hk
  · simp only [Value.slice.injEq] at hv
    exact ⟨b, hv.1, hb, hl, hc k hk⟩
theorem RowZ.mono {B B' : Nat} {w : World} {v : Value} {zs : List Int} (h : RowZ B w v zs) (hb : B' ≤ B) : RowZ B' w v zs := by
  obtain ⟨b, c, hv, hcap, h1, hl, hc⟩ := h
  exact ⟨b, c, hv, hcap, Nat.le_trans hb h1, hl, hc⟩
theorem OutZ.mono {B B' : Nat} {w : World} {v : Value} {zs : List Int} (h : OutZ B w v zs) (hb : B' ≤ B) : OutZ B' w v zs := h.imp id (fun h => h.mono hb)
theorem OutZ.set {C I x : Nat} {w : World} {v : Value} {o : List Int} (h : OutZ C w v o) (hI : I < C) (u : Value) : OutZ C (w.setCell ⟨I, x, none⟩ u) v o := by
  rcases h with h | ⟨b, c, hv, hcap, hb, hl, hc⟩
  · exact Or.inl h
  · exact Or.inr ⟨b, c, hv, hcap, hb, by simpa using hl, fun k hk => (World.cell?_of_block (Below.heap_setCell w ⟨I, x, none⟩ u b (by show b ≠ I; omega))).trans (hc k hk)⟩
theorem OutZ.kr {B R : Nat} {w w' : World} {v : Value} {zs : List Int} (h : OutZ B w v zs) (hk : Kr R w w') (hR : R < B) : OutZ B w' v zs := h.imp id (fun h => h.kr hk hR)

/-- What is kept by a call of a hand: all but its two blocks, and new blocks. -/
structure Kh (H R : Nat) (w w' : World) : Prop where
  os : w'.os = w.os
  tape : w'.tape = w.tape
  output : w'.output = w.output
  size : w.heap.size ≤ w'.heap.size
  block : ∀ k, k < w.heap.size → k ≠ H → k ≠ R → w'.heap[k]? = w.heap[k]?
theorem Kh.refl (H R : Nat) (w : World) : Kh H R w w := ⟨rfl, rfl, rfl, Nat.le_refl _, fun _ _ _ _ => rfl⟩
theorem Kh.trans {H R : Nat} {a b c : World} (h : Kh H R a b) (k : Kh H R b c) : Kh H R a c :=
  ⟨k.os.trans h.os, k.tape.trans h.tape, k.output.trans h.output, Nat.le_trans h.size k.size, fun i hi hH hR => (k.block i (Nat.lt_of_lt_of_le hi h.size) hH hR).trans (h.block i hi hH hR)⟩
theorem Kr.kh {R : Nat} {w w' : World} (h : Kr R w w') (H : Nat) : Kh H R w w' := ⟨h.os, h.tape, h.output, h.size, fun k hk _ hR => h.block k hk hR⟩
theorem Kh.setH {H R : Nat} {w0 w : World} (h : Kh H R w0 w) (j : Nat) (u : Value) : Kh H R w0 (w.setCell ⟨H, j, none⟩ u) :=
  ⟨h.os, h.tape, h.output, by simpa using h.size, fun k hk hH hR => (Below.heap_setCell _ _ _ _ (by show k ≠ H; exact hH)).trans (h.block k hk hH hR)⟩
theorem Kh.below {H R B : Nat} {w w' : World} (h : Kh H R w w') (hH : B ≤ H) (hR : B ≤ R) (hB : B ≤ w.heap.size) : Below B w w' :=
  ⟨h.os, h.tape, h.output, h.size, fun k hk => h.block k (by omega) (by omega) (by omega)⟩

def handRow (nr : Int) (R : Nat) : Nat → Value := fun k => if k = 0 then .int .i64 nr else .pointer (some ⟨R, 0, none⟩)
/-- A hand lies in block H: what is near, and its ring in block R. -/
structure Hd (H R room : Nat) (nr : Int) (xs : List Int) (w : World) : Prop where
  row : w.rowIs H 89 2 (handRow nr R)
  ring : Rg R room xs w
  ne : H ≠ R
  one : 1 ≤ room
  near : nr = -1 ∨ 0 ≤ nr
theorem Hd.c0 {H R room : Nat} {nr : Int} {xs : List Int} {w : World} (h : Hd H R room nr xs w) : w.cell? ⟨H, 0, none⟩ = some (.int .i64 nr) := by
  have := h.row.cell (i := 0) (by omega)
  simpa [handRow] using this
theorem Hd.c1 {H R room : Nat} {nr : Int} {xs : List Int} {w : World} (h : Hd H R room nr xs w) : w.cell? ⟨H, 1, none⟩ = some (.pointer (some ⟨R, 0, none⟩)) := by
  have := h.row.cell (i := 1) (by omega)
  simpa [handRow] using this
theorem Hd.set {H R room : Nat} {nr : Int} {xs : List Int} {w : World} (h : Hd H R room nr xs w) (n : Int) (hn : n = -1 ∨ 0 ≤ n) : Hd H R room n xs (w.setCell ⟨H, 0, none⟩ (.int .i64 n)) :=
  ⟨(h.row.set 0 _).congr (fun k _ => by unfold handRow; split <;> simp_all), h.ring.setOther (fun e => h.ne e.symm) _ _, h.ne, h.one, hn⟩
theorem Hd.kr {H R room : Nat} {nr : Int} {xs xs' : List Int} {w w' : World} (h : Hd H R room nr xs w) (hr : Rg R room xs' w') (hk : Kr R w w') : Hd H R room nr xs' w' :=
  ⟨h.row.of_block (hk.block H h.row.lt h.ne), hr, h.ne, h.one, h.near⟩
theorem Hd.of_blocks {H R room : Nat} {nr : Int} {xs : List Int} {w w' : World} (h : Hd H R room nr xs w) (e1 : w'.heap[H]? = w.heap[H]?) (e2 : w'.heap[R]? = w.heap[R]?) : Hd H R room nr xs w' :=
  ⟨h.row.of_block e1, h.ring.of_block e2, h.ne, h.one, h.near⟩

theorem hNew_bad (room : Int) (w : World) (h : room < 1 ∨ 16 < room) : Calls Try.prog 18 #[.int .i64 room] w fun e w' => e = .returned (.tuple #[.pointer none, errV 1]) ∧ w' = w := by
  have hn := New_bad room w h
  go_enter Try.func18, Try.ntmps18
  go_wp2_with (first | (go_at_call 29; refine hn.mono ?_; clear hn; rintro e w' ⟨rfl, rfl⟩))
  go_ret2
  exact ⟨rfl, rfl⟩
theorem hNew_good (room : Nat) (w : World) (h1 : 1 ≤ room) (h2 : room ≤ 16) : Calls Try.prog 18 #[.int .i64 room] w fun e w' => e = .returned (.tuple #[.pointer (some ⟨w.heap.size + 1, 0, none⟩), .nilIface]) ∧ Hd (w.heap.size + 1) w.heap.size room (-1) [] w' ∧ Below w.heap.size w w' ∧ w'.heap.size = w.heap.size + 2 := by
  have hn := New_good room w h1 h2
  go_enter Try.func18, Try.ntmps18
  go_wp2_with (first | (go_at_call 29; refine hn.mono ?_; clear hn; rintro e w1 ⟨rfl, hr, hb, hs⟩))
  go_ret2
  refine ⟨rfl, ⟨?_, hr.alloc _, by omega, h1, Or.inl rfl⟩, hb.alloc (by omega) _, by simp [hs]⟩
  rw [← hs]
  refine World.rowIs_alloc _ _ _ _ ?_
  intro i hi
  change i < 2 at hi
  rcases (by omega : i = 0 ∨ i = 1) with rfl | rfl <;> rfl

theorem push_room (H R room : Nat) (nr n : Int) (xs : List Int) (w : World) (h : Hd H R room nr xs w) (hl : xs.length < room) :
    Calls Try.prog 43 #[.pointer (some ⟨H, 0, none⟩), .int .i64 n] w fun e w' => e = .returned (.slice none 0 0) ∧ Hd H R room nr (xs ++ [n]) w' ∧ Kr R w w' := by
  have hp := Push_one R room xs n w h.ring hl
  have hc := h.c1
  have HH : Hid (Hd H R room nr xs w) := h
  clear h
  go_enter Try.func43, Try.ntmps43
  go_wp2_with (first | (go_at_call 48; refine hp.mono ?_; clear hp; rintro e w' ⟨rfl, hr, hk⟩))
  go_ret
  exact ⟨rfl, HH.out.kr hr hk, hk⟩
theorem push_full (H R room : Nat) (nr n : Int) (xs : List Int) (w : World) (h : Hd H R room nr xs w) (hl : xs.length = room) :
    Calls Try.prog 43 #[.pointer (some ⟨H, 0, none⟩), .int .i64 n] w fun e w' => (∃ v, e = .returned v ∧ RowZ w.heap.size w' v (xs.take ((xs.length + 1) / 2))) ∧ Hd H R room nr (xs.drop ((xs.length + 1) / 2) ++ [n]) w' ∧ Kr R w w' := by
  have hp := Push_full R room xs n w h.ring hl
  have hc := h.c1
  have hll : (xs.drop ((xs.length + 1) / 2)).length < room := by have := h.one; simp; omega
  have HH : Hid (Hd H R room nr xs w) := h
  have HF : Hid (∀ w1, Rg R room xs w1 → Calls Try.prog 46 #[.pointer (some ⟨R, 0, none⟩)] w1 fun e w' => (∃ v, e = .returned v ∧ RowZ w1.heap.size w' v (xs.take ((xs.length + 1) / 2))) ∧ Rg R room (xs.drop ((xs.length + 1) / 2)) w' ∧ Kr R w1 w') := fun w1 => Half_any R room xs w1
  clear h hl
  generalize xs.take ((xs.length + 1) / 2) = o at *
  generalize xs.drop ((xs.length + 1) / 2) = r at *
  go_enter Try.func43, Try.ntmps43
  go_wp2_with fail
  refine hp.mono ?_
  clear hp hc
  rintro e w1 ⟨rfl, hr1, hk1⟩
  unfold errV
  have hH1 := HH.out.kr hr1 hk1
  have hc := hH1.c1
  have hha := HF.out w1 hr1
  have HH1 : Hid (Hd H R room nr xs w1) := hH1
  clear hH1
  go_wp2_with fail
  refine hha.mono ?_
  clear hha hc
  rintro e w2 ⟨⟨v, rfl, hv⟩, hr2, hk2⟩
  have hH2 := HH1.out.kr hr2 hk2
  have hc := hH2.c1
  have hp := Push_one R room _ n w2 hr2 hll
  have HH2 : Hid (Hd H R room nr r w2) := hH2
  have HV : Hid (RowZ w1.heap.size w2 v o) := hv
  clear hH2 hv
  obtain ⟨a, c, rfl⟩ : ∃ a c, v = .slice a o.length c := by obtain ⟨b, c, hv, _⟩ := HV.out; exact ⟨_, c, hv⟩
  go_wp2_with fail
  refine hp.mono ?_
  clear hp hc
  rintro e w3 ⟨rfl, hr3, hk3⟩
  go_wp2
  go_ret
  exact ⟨⟨_, rfl, (HV.out.kr hk3 (HH1.out.ring.lt)).mono hk1.size⟩, HH2.out.kr hr3 hk3, (hk1.trans hk2).trans hk3⟩

/-- What goes out at a Put, and the ring behind it. -/
def putO (room : Nat) (nr : Int) (xs : List Int) : List Int := if nr = -1 ∨ xs.length < room then [] else xs.take ((xs.length + 1) / 2)
def putR (room : Nat) (nr : Int) (xs : List Int) : List Int := if nr = -1 then xs else if xs.length < room then xs ++ [nr] else xs.drop ((xs.length + 1) / 2) ++ [nr]

theorem Put_any (H R room : Nat) (nr : Int) (xs : List Int) (n : Nat) (w : World) (h : Hd H R room nr xs w) :
    Calls Try.prog 32 #[.pointer (some ⟨H, 0, none⟩), .int .i64 n] w fun e w' => (∃ v, e = .returned v ∧ OutZ w.heap.size w' v (putO room nr xs)) ∧ Hd H R room n (putR room nr xs) w' ∧ Kh H R w w' := by
  have hn0 : ¬ (n : Int) < 0 := by omega
  have hc := h.c0
  have hf := h.row.frozen 0
  have HH : Hid (Hd H R room nr xs w) := h
  have hHlt := h.row.lt
  by_cases hnr : nr = -1
  · subst hnr
    clear h
    go_enter Try.func32, Try.ntmps32
    go_wp2
    go_ret
    refine ⟨⟨_, rfl, Or.inl ⟨by simp [putO], rfl⟩⟩, ?_, (Kh.refl _ _ _).setH _ _⟩
    simp only [putR, if_true]
    exact HH.out.set _ (Or.inr (by omega))
  · have hne : (nr != -1) = true := by simp [hnr]
    by_cases hl : xs.length < room
    · have hp := push_room H R room nr nr xs w h hl
      have HL : Hid (¬ nr = -1 ∧ xs.length < room) := ⟨hnr, hl⟩
      clear h hl hnr
      go_enter Try.func32, Try.ntmps32
      go_wp2_with fail
      refine hp.mono ?_
      clear hp hc hf
      rintro e w1 ⟨rfl, hH1, hk1⟩
      have hf := hH1.row.frozen 0
      have hc := hH1.c0
      have HH1 : Hid (Hd H R room nr (xs ++ [nr]) w1) := hH1
      clear hH1
      go_wp2
      go_ret
      refine ⟨⟨_, rfl, Or.inl ⟨by simp [putO, HL.out], rfl⟩⟩, ?_, (hk1.kh H).setH _ _⟩
      simp only [putR, HL.out, if_false, if_true]
      exact HH1.out.set _ (Or.inr (by omega))
    · have hp := push_full H R room nr nr xs w h (by have := h.ring.le; omega)
      have HL : Hid (¬ nr = -1 ∧ ¬ xs.length < room) := ⟨hnr, hl⟩
      have hpo : putO room nr xs = xs.take ((xs.length + 1) / 2) := by simp [putO, HL.out]
      have hpr : putR room nr xs = xs.drop ((xs.length + 1) / 2) ++ [nr] := by simp [putR, HL.out]
      rw [hpo, hpr]
      clear h hl hnr hpo hpr
      generalize xs.take ((xs.length + 1) / 2) = o at *
      generalize xs.drop ((xs.length + 1) / 2) ++ [nr] = r at *
      go_enter Try.func32, Try.ntmps32
      go_wp2_with fail
      refine hp.mono ?_
      clear hp hc hf
      rintro e w1 ⟨⟨v, rfl, hv⟩, hH1, hk1⟩
      have hf := hH1.row.frozen 0
      have hc := hH1.c0
      have HH1 : Hid (Hd H R room nr r w1) := hH1
      have HV : Hid (OutZ w.heap.size w1 v o) := Or.inr hv
      obtain ⟨a, c, rfl⟩ : ∃ a c, v = .slice a o.length c := by obtain ⟨b, c, hv, _⟩ := hv; exact ⟨_, c, hv⟩
      clear hH1 hv
      go_wp2
      go_ret
      exact ⟨⟨_, rfl, HV.out.set hHlt _⟩, HH1.out.set _ (Or.inr (by omega)), (hk1.kh H).setH _ _⟩

theorem Take_near (H R room : Nat) (nr : Int) (xs : List Int) (w : World) (h : Hd H R room nr xs w) (hnr : nr ≠ -1) :
    Calls Try.prog 22 #[.pointer (some ⟨H, 0, none⟩)] w fun e w' => e = .returned (.tuple #[.int .i64 nr, .nilIface]) ∧ Hd H R room (-1) xs w' ∧ Kh H R w w' := by
  have hc := h.c0
  have hf := h.row.frozen 0
  have HH : Hid (Hd H R room nr xs w) := h
  have hne : (nr == -1) = false := by simp [hnr]
  clear h hnr
  go_enter Try.func22, Try.ntmps22
  go_wp2
  go_ret2
  exact ⟨rfl, HH.out.set _ (Or.inl rfl), (Kh.refl _ _ _).setH _ _⟩
theorem Take_one (H R room : Nat) (x : Int) (xs : List Int) (w : World) (h : Hd H R room (-1) (xs ++ [x]) w) :
    Calls Try.prog 22 #[.pointer (some ⟨H, 0, none⟩)] w fun e w' => e = .returned (.tuple #[.int .i64 x, .nilIface]) ∧ Hd H R room (-1) xs w' ∧ Kh H R w w' := by
  have hc := h.c0
  have hc1 := h.c1
  have hp := Pop_one R room x xs w h.ring
  have HH : Hid (Hd H R room (-1) (xs ++ [x]) w) := h
  clear h
  go_enter Try.func22, Try.ntmps22
  go_wp2_with (first | (go_at_call 34; refine hp.mono ?_; clear hp; rintro e w' ⟨rfl, hr, hk⟩))
  go_ret2
  exact ⟨rfl, HH.out.kr hr hk, hk.kh H⟩
theorem Take_none (H R room : Nat) (w : World) (h : Hd H R room (-1) [] w) :
    Calls Try.prog 22 #[.pointer (some ⟨H, 0, none⟩)] w fun e w' => e = .returned (.tuple #[.int .i64 0, errV 5]) ∧ w' = w := by
  have hc := h.c0
  have hc1 := h.c1
  have hp := Pop_none R room w h.ring
  clear h
  go_enter Try.func22, Try.ntmps22
  go_wp2_with (first | (go_at_call 34; refine hp.mono ?_; clear hp; rintro e w' ⟨rfl, rfl⟩))
  go_ret2
  exact ⟨rfl, rfl⟩
theorem Rob_any (H R room : Nat) (nr : Int) (xs : List Int) (w : World) (h : Hd H R room nr xs w) :
    Calls Try.prog 36 #[.pointer (some ⟨H, 0, none⟩)] w fun e w' => (∃ v, e = .returned v ∧ RowZ w.heap.size w' v (xs.take ((xs.length + 1) / 2))) ∧ Hd H R room nr (xs.drop ((xs.length + 1) / 2)) w' ∧ Kh H R w w' := by
  have hc1 := h.c1
  have hp := Half_any R room xs w h.ring
  have HH : Hid (Hd H R room nr xs w) := h
  clear h
  go_enter Try.func36, Try.ntmps36
  go_wp2_with (first | (go_at_call 46; refine hp.mono ?_; clear hp; rintro e w' ⟨⟨v, rfl, hv⟩, hr, hk⟩))
  go_ret
  exact ⟨⟨_, rfl, hv⟩, HH.out.kr hr hk, hk.kh H⟩
/-- All that a hand has. -/
def allH (nr : Int) (xs : List Int) : List Int := if nr = -1 then xs else xs ++ [nr]
end Go.Proofs.Ythbcgehmnhlahaa.Hnd
