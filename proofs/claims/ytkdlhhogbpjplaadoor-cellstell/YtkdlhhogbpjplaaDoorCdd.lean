/- Each call of package cells by one contract; what CellsTell knows of memory. -/
import Derived.Test.YtkdlhhogbpjplaaDoorCdc
import Derived.Test.YtkdlhhogbpjplaaDoorClo
namespace Go.Proofs.YtkdlhhogbpjplaaDoor
open Go.RowKit Go.Deep

open Classical in
/-- The cells that All tells. -/
noncomputable def allL (q : Int) (ts : List (Int × List Int)) (os : List Opn) : List Cl :=
  if h : allErr q ts.length os = 0 ∧ ∃ ord, OrdIs ts ord then outL ts.length (alongC ts (fun k => os.getD k (0, 0)) (Classical.choose h.2)) else []
theorem allL_bad {q : Int} {ts : List (Int × List Int)} {os : List Opn} (h : allErr q ts.length os ≠ 0) : allL q ts os = [] := by
  unfold allL
  rw [dif_neg (fun h2 => h h2.1)]
theorem allL_ok {p q : Int} {ts : List (Int × List Int)} {os : List Opn} (hck : CheckIs ts p q) (h : allErr q ts.length os = 0) {ord : List Nat} (ho : OrdIs ts ord) : outL ts.length (alongC ts (fun k => os.getD k (0, 0)) ord) = allL q ts os := by
  have h2 : allErr q ts.length os = 0 ∧ ∃ ord, OrdIs ts ord := ⟨h, ord, ho⟩
  unfold allL
  rw [dif_pos h2]
  obtain ⟨hq, _⟩ := allErr_zero h
  obtain ⟨-, -, herr, hno⟩ := hck.ok hq
  have hr := inRange_of herr
  have hc := Classical.choose_spec h2.2
  exact same_out hr hno ho.nodup ho.behind ho.below (ho.mem hr hno) hc.nodup hc.behind hc.below (hc.mem hr hno)
/-- The cells that Along tells. -/
noncomputable def alL (q : Int) (ts : List (Int × List Int)) (os : List Opn) (zs : List Int) : List Cl :=
  if alErr q ts os zs = 0 then outL ts.length (alongC ts (fun k => os.getD k (0, 0)) (natsOf zs)) else []
theorem all_one {pv ov : Value} {ts : List (Int × List Int)} {os : List Opn} {w : World} {p q : Int} (hp : PlanAt w pv ts) (ho : OpsAt w ov os) (hck : CheckIs ts p q) :
    Calls Tryd.prog 12 #[pv, ov] w fun e w' => ∃ xv, e = .returned (.tuple #[xv, errV (allErr q ts.length os)]) ∧ CellsAt w' xv (allL q ts os) ∧ Below w.heap.size w w' := by
  refine (cAll_any pv ov ts os w hp ho).mono ?_
  rintro e w' ⟨⟨p', q', hck', hcase⟩, hb⟩
  obtain ⟨-, rfl⟩ := chk_det hck' hck
  rcases hcase with ⟨hne, rfl⟩ | ⟨h0, hops, ord, g, hord, rfl, hrow⟩
  · rw [allL_bad hne]
    exact ⟨_, rfl, CellsAt.nil _, hb⟩
  · have hz : allErr q' ts.length os = 0 := by unfold allErr; rw [if_pos h0]; exact hops
    obtain ⟨-, h30, -, -⟩ := hck.ok h0
    rw [← allL_ok hck hz hord, hz]
    exact ⟨_, rfl, cells_of_row hrow (by omega), hb⟩
theorem along_one {pv ov rv : Value} {ts : List (Int × List Int)} {os : List Opn} {zs : List Int} {w : World} {p q : Int} (hp : PlanAt w pv ts) (ho : OpsAt w ov os) (hz : IntsAt w rv zs) (hck : CheckIs ts p q) :
    Calls Tryd.prog 15 #[pv, ov, rv] w fun e w' => ∃ xv, e = .returned (.tuple #[xv, errV (alErr q ts os zs)]) ∧ CellsAt w' xv (alL q ts os zs) ∧ Below w.heap.size w w' := by
  refine (cAlong_any pv ov rv ts os zs w hp ho hz).mono ?_
  rintro e w' ⟨⟨p', q', hck', hcase⟩, hb⟩
  obtain ⟨-, rfl⟩ := chk_det hck' hck
  unfold alL
  rcases hcase with ⟨hne, rfl⟩ | ⟨h0, ha, g, rfl, hrow⟩
  · rw [if_neg hne]
    exact ⟨_, rfl, CellsAt.nil _, hb⟩
  · obtain ⟨-, h30, -, -⟩ := hck.ok (allErr_zero ha).1
    rw [if_pos h0, h0]
    exact ⟨_, rfl, cells_of_row hrow (by omega), hb⟩
/-- The document's Along, of an order of its own. -/
theorem docAll_one {pv ov rv : Value} {ts : List (Int × List Int)} {os : List Opn} {ord : List Nat} {w : World} {p q : Int} (hp : PlanAt w pv ts) (ho : OpsAt w ov os) (hz : IntsAt w rv (intsOf ord)) (hck : CheckIs ts p q) (ha : allErr q ts.length os = 0) (hord : OrdIs ts ord) :
    Calls Tryd.prog 10 #[pv, ov, rv] w fun e w' => ∃ xv, e = .returned (.tuple #[xv, .bool true]) ∧ CellsAt w' xv (allL q ts os) ∧ Below w.heap.size w w' := by
  obtain ⟨hq, hops⟩ := allErr_zero ha
  obtain ⟨-, h30, herr, hno⟩ := hck.ok hq
  obtain ⟨hm, hop⟩ := opsErr_zero hops
  refine (alongR_any pv ov rv ts os ord w hp ho hz h30 (inRange_of herr) hm hord.below hop (fun k hk => Nat.le_trans (needs_len herr hk) (by omega))).mono ?_
  rintro e w' ⟨hcase, hb⟩
  rcases hcase with ⟨hn, _⟩ | ⟨_, g, rfl, hrow⟩
  · exact absurd hord.behind hn
  · rw [← allL_ok hck ha hord]
    exact ⟨_, rfl, cells_of_row hrow (by omega), hb⟩
/-- The document's Along, of an order that names each once. -/
theorem docAlong_one {pv ov rv : Value} {ts : List (Int × List Int)} {os : List Opn} {zs : List Int} {w : World} {p q : Int} (hp : PlanAt w pv ts) (ho : OpsAt w ov os) (hz : IntsAt w rv zs) (hck : CheckIs ts p q) (ha : allErr q ts.length os = 0) (hE : EachZ ts.length zs) :
    Calls Tryd.prog 10 #[pv, ov, rv] w fun e w' => ((alErr q ts os zs = 6 ∧ alL q ts os zs = [] ∧ e = .returned (.tuple #[.slice none 0 0, .bool false])) ∨ (alErr q ts os zs = 0 ∧ ∃ xv, e = .returned (.tuple #[xv, .bool true]) ∧ CellsAt w' xv (alL q ts os zs))) ∧ Below w.heap.size w w' := by
  obtain ⟨hq, hops⟩ := allErr_zero ha
  obtain ⟨-, h30, herr, hno⟩ := hck.ok hq
  obtain ⟨hm, hop⟩ := opsErr_zero hops
  have hin := natsOf_ints (fun x hx => (hE.2.2 x hx).1)
  refine (alongR_any pv ov rv ts os (natsOf zs) w hp ho (by rw [hin]; exact hz) h30 (inRange_of herr) hm hE.nats.2.2.1 hop (fun k hk => Nat.le_trans (needs_len herr hk) (by omega))).mono ?_
  rintro e w' ⟨hcase, hb⟩
  refine ⟨?_, hb⟩
  rcases hcase with ⟨hn, rfl⟩ | ⟨hB, g, rfl, hrow⟩
  · have h6 : alErr q ts os zs = 6 := by rw [alErr_ok ha]; exact ordErr_state hE hn
    refine Or.inl ⟨h6, ?_, rfl⟩
    unfold alL
    rw [if_neg (by rw [h6]; omega)]
  · have h0 : alErr q ts os zs = 0 := by rw [alErr_ok ha]; exact ordErr_ok hE hB
    refine Or.inr ⟨h0, _, rfl, ?_⟩
    unfold alL
    rw [if_pos h0]
    exact cells_of_row hrow (by omega)
theorem error_one (q : Int) (w : World) (hg : Typed w) : Calls Tryd.prog 8 #[errV q, .int .i64 q] w fun ev w' => ev = .returned (.bool true) ∧ Below w.heap.size w w' := by
  have h := error_any q q w hg
  rw [show (q == q) = true from beq_self_eq_true q] at h
  exact h

/-- The op lies in a block of its own. -/
def ctW (w : World) (t n : Int) : World := w.alloc (.cells #[.int .i64 t, .int .i64 n] 23)
structure KnC (w : World) (t n : Int) (wx : World) : Prop where
  low : Below (w.heap.size + 1) (ctW w t n) wx
theorem KnC.old {w wx : World} {t n : Int} (h : KnC w t n wx) : Below w.heap.size w wx := ((Below.refl w.heap.size w).alloc (Nat.le_refl _) _).trans (h.low.mono (by omega))
theorem KnC.size {w wx : World} {t n : Int} (h : KnC w t n wx) : w.heap.size < wx.heap.size := by
  have := h.low.size
  simp [ctW] at this
  omega
theorem KnC.op {w wx : World} {t n : Int} (h : KnC w t n wx) : wx.cell? ⟨w.heap.size, 0, none⟩ = some (.int .i64 t) ∧ wx.cell? ⟨w.heap.size, 1, none⟩ = some (.int .i64 n) := by
  have hb := (h.low.block w.heap.size (by omega)).trans (new_pair w (.int .i64 t) (.int .i64 n) 23)
  obtain ⟨q0, q1, _⟩ := pair_cells hb
  exact ⟨q0, q1⟩
theorem KnC.later {w wx wy : World} {t n : Int} (h : KnC w t n wx) (hb : Below wx.heap.size wx wy) : KnC w t n wy := ⟨h.low.trans (hb.mono (by have := h.size; omega))⟩
theorem KnC.start (w : World) (t n : Int) : KnC w t n (ctW w t n) := ⟨Below.refl _ _⟩
/-- What is wrong so far with an op, and how many cells there are. -/
def fstD (o : Opn) (cs : List Cl) : Int := if opErr o = 0 ∧ 30 < cs.length then 4 else opErr o
theorem fstD_full {o : Opn} {cs : List Cl} (h1 : opErr o = 0) (h2 : 30 < cs.length) : fstD o cs = 4 := if_pos ⟨h1, h2⟩
theorem fstD_op {o : Opn} {cs : List Cl} (h : ¬ (opErr o = 0 ∧ 30 < cs.length)) : fstD o cs = opErr o := if_neg h
theorem doErr_by (o : Opn) (cs : List Cl) : doErr o cs = if fstD o cs = 0 then firstBad cellErr cs else fstD o cs := by
  unfold doErr
  by_cases h1 : opErr o = 0
  · rw [if_pos h1]
    by_cases h2 : 30 < cs.length
    · rw [if_pos h2, fstD_full h1 h2, if_neg (by omega)]
    · rw [if_neg h2, fstD_op (fun h => h2 h.2), if_pos h1]
  · rw [if_neg h1, fstD_op (fun h => h1 h.1), if_neg h1]
end Go.Proofs.YtkdlhhogbpjplaaDoor
