/- Which part of memory a block belongs to: labels; deeds in memory. -/
import Derived.Test.YtlfbdjeojgbniaaGreatDoorRcm26
import Derived.Test.YtlfbdjeojgbniaaGreatDoorRcm27
import Derived.Test.YtlfbdjeojgbniaaGreatDoorRcm28
import Derived.Test.YtlfbdjeojgbniaaGreatDoorRcm29
import Derived.Test.YtlfbdjeojgbniaaGreatDoorRcm21
import Derived.BigQuiet

namespace Go.Proofs.YtlfbdjeojgbniaaGreatDoor
open Go.RowKit Go.Deep

theorem RowI.setAt {b g n c k : Nat} {w : World} {zs : List Int} (h : RowI b w (.slice (some ⟨g, 0, none⟩) n c) zs) (_hk : k < zs.length) (x : Int) : RowI b (w.setCell ⟨g, k, none⟩ (.int .i64 x)) (.slice (some ⟨g, 0, none⟩) n c) (zs.set k x) := by
  rcases h.2 with ⟨hv, _⟩ | ⟨g', cap, cur, hv, hb, hh, hcp, hm, hsz, ht⟩
  · simp at hv
  · simp only [Value.slice.injEq, Option.some.injEq, Addr.mk.injEq, and_true] at hv
    obtain ⟨rfl, rfl, rfl⟩ := hv
    refine ⟨by simp, Or.inr ⟨g, c, cur.setIfInBounds k (.int .i64 x), by simp, hb, ?_, by simpa using hcp, hm, by simpa using hsz, ?_⟩⟩
    · rw [setCell_eq_setRow w g k cur 3 (0, 0) _ hh, setRow_heap w g cur _ 3 _ hh]
    · rw [List.length_set]
      rw [Array.toList_setIfInBounds, List.take_set, ht, List.map_set]

/-- A row's block bears a label. -/
def Lb (own : Nat → Nat) (c : Nat) (v : Value) : Prop := ∀ k, v.ownBlock = some k → own k = c
/-- New blocks bear this one. -/
def relabel (own : Nat → Nat) (n c : Nat) : Nat → Nat := fun k => if k < n then own k else c
theorem relabel_lt {own : Nat → Nat} {n c k : Nat} (h : k < n) : relabel own n c k = own k := by simp [relabel, h]
theorem relabel_ge {own : Nat → Nat} {n c k : Nat} (h : n ≤ k) : relabel own n c k = c := by simp [relabel]; omega
/-- What is kept: all blocks but those of some labels, and new ones. -/
structure Kc (own : Nat → Nat) (C : Nat → Prop) (w w' : World) : Prop where
  os : w'.os = w.os
  tape : w'.tape = w.tape
  output : w'.output = w.output
  size : w.heap.size ≤ w'.heap.size
  block : ∀ k, k < w.heap.size → ¬ C (own k) → w'.heap[k]? = w.heap[k]?
theorem RowI.kc {own : Nat → Nat} {C : Nat → Prop} {b d : Nat} {w w' : World} {v : Value} {xs : List Int} (h : RowI b w v xs) (hl : Lb own d v) (hd : ¬ C d) (hk : Kc own C w w') : RowI b w' v xs :=
  h.of_blocks (fun k e => hk.block k (h.low e).2 (by rw [hl k e]; exact hd))
theorem Lb.re {own : Nat → Nat} {b d c : Nat} {w : World} {v : Value} {xs : List Int} (hl : Lb own d v) (h : RowI b w v xs) : Lb (relabel own w.heap.size c) d v :=
  fun k e => by rw [relabel_lt (h.low e).2]; exact hl k e
/-- A row that is near where it was, or new. -/
theorem Lb.near {own : Nat → Nat} {d n : Nat} {v v' : Value} (hl : Lb own d v) (hlt : ∀ k, v.ownBlock = some k → k < n) (hn : ∀ k, v'.ownBlock = some k → v.ownBlock = some k ∨ n ≤ k) : Lb (relabel own n d) d v' := fun k e => by
  rcases hn k e with h | h
  · rw [relabel_lt (hlt k h)]; exact hl k h
  · exact relabel_ge h

/-- The first so many of what is told hand by hand. -/
def upto (hands : Nat) (f : Nat → Int) : List Int := (List.range hands).map f
theorem upto_length (hands : Nat) (f : Nat → Int) : (upto hands f).length = hands := by simp [upto]
theorem upto_getD {hands k : Nat} (f : Nat → Int) (h : k < hands) : (upto hands f).getD k 0 = f k := by simp [upto, List.getD_eq_getElem?_getD, h]
theorem upto_set {hands h : Nat} (f : Nat → Int) (x : Int) : (upto hands f).set h x = upto hands (updG f h x) := by
  apply List.ext_getElem?
  intro i
  rw [List.getElem?_set]
  unfold upto
  simp only [List.length_map, List.length_range, List.getElem?_map]
  by_cases hi : i < hands
  · rw [List.getElem?_range hi]
    by_cases e : h = i
    · subst e; simp [hi, updG_self]
    · simp [e, updG_ne f x (fun e2 => e e2.symm)]
  · have : (List.range hands)[i]? = none := List.getElem?_eq_none (by simpa using hi)
    rw [this]
    by_cases e : h = i
    · subst e; simp [hi]
    · simp [e]

theorem RowI.frozen {b g n c : Nat} {w : World} {zs : List Int} (h : RowI b w (.slice (some ⟨g, 0, none⟩) n c) zs) (k : Nat) : w.frozen? ⟨g, k, none⟩ = false := by
  rcases h.2 with ⟨hv, _⟩ | ⟨g', cap, cur, hv, hb, hh, _⟩
  · simp at hv
  · simp only [Value.slice.injEq, Option.some.injEq, Addr.mk.injEq, and_true] at hv
    obtain ⟨rfl, rfl, rfl⟩ := hv
    simp [World.frozen?, hh]
/-- A store into a block that bears a label. -/
theorem Kc.store {own : Nat → Nat} {C : Nat → Prop} {w : World} {b : Nat} (hb : C (own b)) (x : Nat) (u : Value) : Kc own C w (w.setCell ⟨b, x, none⟩ u) :=
  ⟨rfl, rfl, rfl, by simp, fun k _ hk => Below.heap_setCell _ _ _ _ (by show k ≠ b; intro e; subst e; exact hk hb)⟩
theorem Kc.of_below {own : Nat → Nat} {C : Nat → Prop} {w w' : World} (hb : Below w.heap.size w w') : Kc own C w w' := ⟨hb.os, hb.tape, hb.output, hb.size, fun k hk _ => hb.block k hk⟩

/-- What stays as it was in a world: blocks of a set, and what is outside. -/
structure Bs where
  X : Nat → Prop
  w1 : World

theorem upd_id {α : Type} (f : Nat → α) (h : Nat) : updG f h (f h) = f := by
  funext k
  unfold updG
  split
  · rename_i e; rw [e]
  · rfl
theorem RowD.kc {own : Nat → Nat} {C : Nat → Prop} {b d : Nat} {w w' : World} {v : Value} {l : List Deed} (h : RowD b w v l) (hl : Lb own d v) (hd : ¬ C d) (hk : Kc own C w w') : RowD b w' v l :=
  h.of_blocks (fun k e => hk.block k (h.low e).2 (by rw [hl k e]; exact hd))
theorem Lb.reD {own : Nat → Nat} {b d c : Nat} {w : World} {v : Value} {l : List Deed} (hl : Lb own d v) (h : RowD b w v l) : Lb (relabel own w.heap.size c) d v :=
  fun k e => by rw [relabel_lt (h.low e).2]; exact hl k e
theorem putAll_snoc (room : Nat) (s : Hs) (l : List Int) (n : Int) : putAll room s (l ++ [n]) = putOne room (putAll room s l) n := by simp [putAll]
theorem upd_upd {α : Type} (f : Nat → α) (h : Nat) (x y : α) : updG (updG f h x) h y = updG f h y := by
  funext k
  unfold updG
  split <;> rfl
/-- What a hand is behind so many puts. -/
def puts (room : Nat) (g : Gs) (h : Nat) (l : List Int) : Gs := { g with near := updG g.near h (putAll room (g.near h, g.ring h, []) l).1, ring := updG g.ring h (putAll room (g.near h, g.ring h, []) l).2.1 }
theorem puts_nil (room : Nat) (g : Gs) (h : Nat) : puts room g h [] = g := by
  unfold puts putAll
  simp only [List.foldl_nil, upd_id]
theorem puts_snoc (room : Nat) (g : Gs) (h : Nat) (l : List Int) (n : Int) : puts room g h (l ++ [n]) = { puts room g h l with near := updG (puts room g h l).near h n, ring := updG (puts room g h l).ring h (putR room ((puts room g h l).near h) ((puts room g h l).ring h)) } := by
  unfold puts
  simp only [putAll_snoc, upd_upd, updG_self]
  rfl

/-- Those of a list that are not in another one. -/
def fresh (was now : List Int) : List Int := now.filter (fun x => !decide (x ∈ was))
theorem fresh_snoc (was l : List Int) (x : Int) : fresh was (l ++ [x]) = fresh was l ++ if x ∈ was then [] else [x] := by
  unfold fresh
  rw [List.filter_append]
  by_cases h : x ∈ was <;> simp [h]
theorem fresh_new {ts : List (Int × List Int)} (hg : Good ts) {S : Nat → Bool} (hd : Down ts S) {i : Nat} (hi : i < ts.length) (hr : readyB ts S i = true) :
    fresh (intsOf (readyTo ts S ts.length)) (intsOf (readyTo ts (mark S i) ts.length)) = intsOf (newL ts S i) := by
  rw [newL_eq hg hd hi (ready_parts hr).1]
  unfold fresh intsOf readyTo
  rw [List.filter_map, List.filter_filter]
  congr 1
  apply List.filter_congr
  intro k hk
  have hk' : k < ts.length := List.mem_range.1 hk
  have : ((k : Nat) : Int) ∈ List.map (fun (k : Nat) => (k : Int)) ((List.range ts.length).filter (readyB ts S)) ↔ readyB ts S k = true := by
    rw [List.mem_map]
    constructor
    · rintro ⟨j, hj, e⟩
      obtain rfl : j = k := by omega
      exact (List.mem_filter.1 hj).2
    · intro e
      exact ⟨k, List.mem_filter.2 ⟨hk, e⟩, rfl⟩
  simp only [Function.comp, this]
  cases readyB ts S k <;> simp [Bool.and_comm]
/-- A hand and the spill behind so many puts. -/
def gput (room : Nat) (g : Gs) (h : Nat) (l : List Int) : Gs := { g with near := updG g.near h (putAll room (g.near h, g.ring h, g.sp) l).1, ring := updG g.ring h (putAll room (g.near h, g.ring h, g.sp) l).2.1, sp := (putAll room (g.near h, g.ring h, g.sp) l).2.2 }
theorem gput_nil (room : Nat) (g : Gs) (h : Nat) : gput room g h [] = g := by
  unfold gput putAll
  simp only [List.foldl_nil, upd_id]
theorem gput_snoc (room : Nat) (g : Gs) (h : Nat) (l : List Int) (n : Int) : gput room g h (l ++ [n]) = { gput room g h l with near := updG (gput room g h l).near h n, ring := updG (gput room g h l).ring h (putR room ((gput room g h l).near h) ((gput room g h l).ring h)), sp := (gput room g h l).sp ++ putO room ((gput room g h l).near h) ((gput room g h l).ring h) } := by
  unfold gput
  simp only [putAll_snoc, upd_upd, updG_self]
  rfl
theorem gput_len (room : Nat) (g : Gs) (h : Nat) (l : List Int) (hl : ∀ n, n ∈ l → n ≠ -1) : (gput room g h l).sp.length ≤ g.sp.length + (allH (g.near h) (g.ring h)).length + l.length := by
  have := (putAll_perm room l (g.near h, g.ring h, g.sp) hl).length_eq
  simp only [List.length_append] at this
  show (putAll room (g.near h, g.ring h, g.sp) l).2.2.length ≤ _
  omega
end Go.Proofs.YtlfbdjeojgbniaaGreatDoor
