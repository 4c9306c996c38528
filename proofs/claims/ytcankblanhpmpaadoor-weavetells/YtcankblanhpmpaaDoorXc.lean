/- What each of the document's readers answers; what stays of its reader. -/
import Derived.Test.YtcankblanhpmpaaDoorXa
import Derived.Test.YtcankblanhpmpaaDoorXb
namespace Go.Proofs.YtcankblanhpmpaaDoor
open Go.RowKit Go.Deep

theorem Rw.lt {R i : Nat} {l : List UInt8} {e : Int} {ts : List (Int × List Int)} {w : World} (h : Rw R l i e ts w) : R < w.heap.size := by
  obtain ⟨tv, h, _⟩ := h
  exact lt_of_block h
theorem Rw.of_below {R i : Nat} {l : List UInt8} {e : Int} {ts : List (Int × List Int)} {w w' : World} (h : Rw R l i e ts w) (hb : Below w.heap.size w w') : Rw R l i e ts w' := by
  obtain ⟨tv, h1, h2⟩ := h
  exact ⟨tv, (hb.block R (lt_of_block h1)).trans h1, h2.of_kinds (fun k _ _ hk => hb.block k (lt_of_block hk)) (fun k _ _ hk => hb.block k (lt_of_block hk))⟩
theorem Rw.alloc {R i : Nat} {l : List UInt8} {e : Int} {ts : List (Int × List Int)} {w : World} (h : Rw R l i e ts w) (o : Obj) : Rw R l i e ts (w.alloc o) := h.of_below ((Below.refl _ _).alloc (Nat.le_refl _) _)
/-- A cell of a cloth is written: the reader is as it was. -/
theorem set_cloth {w : World} {b : Nat} {c0 : Array Value} {f0 : Nat × Nat} (hb : w.heap[b]? = some (.cells c0 46 f0)) (j : Nat) (u : Value) {k : Nat} {cs : Array Value} {t : TypeId} {fr : Nat × Nat} (ht : t ≠ 46) (hk : w.heap[k]? = some (.cells cs t fr)) : (w.setCell ⟨b, j, none⟩ u).heap[k]? = w.heap[k]? :=
  Below.heap_setCell _ _ _ _ (fun e => by
    have e' : k = b := e
    rw [e', hb] at hk
    simp only [Option.some.injEq, Obj.cells.injEq] at hk
    exact ht hk.2.1.symm)
theorem Rw.setCloth {R i : Nat} {l : List UInt8} {e : Int} {ts : List (Int × List Int)} {w : World} {b : Nat} {c0 : Array Value} {f0 : Nat × Nat} (h : Rw R l i e ts w) (hb : w.heap[b]? = some (.cells c0 46 f0)) (j : Nat) (u : Value) : Rw R l i e ts (w.setCell ⟨b, j, none⟩ u) := by
  obtain ⟨tv, h1, h2⟩ := h
  exact ⟨tv, (set_cloth hb j u (by decide) h1).trans h1, h2.of_kinds (fun k cs fr hk => set_cloth hb j u (by decide) hk) (fun k cs fr hk => set_cloth hb j u (by decide) hk)⟩
theorem RowI.setCloth {b : Nat} {w : World} {v : Value} {zs : List Int} {g : Nat} {c0 : Array Value} {f0 : Nat × Nat} (h : RowI b w v zs) (hb : w.heap[g]? = some (.cells c0 46 f0)) (j : Nat) (u : Value) : RowI b (w.setCell ⟨g, j, none⟩ u) v zs := h.of_kinds (fun k cs fr hk => set_cloth hb j u (by decide) hk)
theorem rowI_nil (b : Nat) (w : World) : RowI b w (.slice none 0 0) [] := World.ownsRow_nil _ _ _ _

def clothV (fv lv : Value) (wk sp : Int) : Value := .agg #[fv, lv, .int .i64 wk, .int .i64 sp]
/-- What a reader of a kind tells, read from i to k: two rows, work and span, of bounded size whether the text is well read or not. -/
structure Cloths (b : Nat) (w : World) (fv lv : Value) (zf zl : List Int) (wk sp : Int) (i k : Nat) : Prop where
  first : RowI b w fv zf
  last : RowI b w lv zl
  lf : zf.length ≤ k - i
  ll : zl.length ≤ k - i
  w0 : 0 ≤ wk
  w1 : wk ≤ 10300 * ((k - i : Nat) : Int)
  s0 : 0 ≤ sp
  s1 : sp ≤ 10300 * ((k - i : Nat) : Int)
/-- The answer. -/
def TellsTo (K : Kind) (R : Nat) (l : List UInt8) (i : Nat) (ts : List (Int × List Int)) (w : World) (e : Ending) (w' : World) : Prop :=
  Kp R w w' ∧ ∃ k fv lv zf zl wk sp, e = .returned (clothV fv lv wk sp) ∧ i ≤ k ∧ k ≤ l.length ∧ Cloths w.heap.size w' fv lv zf zl wk sp i k ∧
    ((Gr K (l.drop i) none ∧ ∃ ts', ts'.length ≤ k ∧ Rw R l k 2 ts' w') ∨
     (∃ t, Gr K (l.drop i) (some (t, l.drop k)) ∧ ts.length + t.count ≤ k ∧ zf = ofNats (t.first ts.length) ∧ zl = ofNats (t.last ts.length) ∧ wk = t.work V2 ∧ sp = t.span V2 ∧ Rw R l k 0 (t.lay V2 ts) w'))
def TellOk (f : Nat) (K : Kind) (n : Nat) : Prop := ∀ R l i ts w, l.length ≤ 200 → i ≤ l.length → l.length - i ≤ n → ts.length ≤ i → Rw R l i 0 ts w → Calls Tryd.prog f #[.pointer (some ⟨R, 0, none⟩)] w (TellsTo K R l i ts w)
/-- A fault, with an empty cloth. -/
theorem tells_fault {K : Kind} {R : Nat} {l : List UInt8} {i k : Nat} {ts ts' : List (Int × List Int)} {w w' : World} (hk : Kp R w w') (hik : i ≤ k) (hkl : k ≤ l.length) (hg : Gr K (l.drop i) none) (hts : ts'.length ≤ k) (hr : Rw R l k 2 ts' w') :
    TellsTo K R l i ts w (.returned (clothV (.slice none 0 0) (.slice none 0 0) 0 0)) w' :=
  ⟨hk, k, _, _, [], [], 0, 0, rfl, hik, hkl, ⟨rowI_nil _ _, rowI_nil _ _, by simp, by simp, by omega, by omega, by omega, by omega⟩, Or.inl ⟨hg, ts', hts, hr⟩⟩
end Go.Proofs.YtcankblanhpmpaaDoor
