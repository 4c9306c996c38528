/- The contracts of bits.Mul, slices.Repeat of one number, places. -/
import Derived.Test.YtjojfnppegfmnaaClk
import Derived.Deep.RegionLaw
namespace Go.Proofs.Ytjojfnppegfmnaa
open Go.RowKit Go.Deep

set_option maxRecDepth 100000 in
theorem mul_any (n : Nat) (w : World) (hn : n ≤ 30) :
    Calls Try.prog 64 #[.int .u64 1, .int .u64 (n : Int)] w fun e w' => e = .returned (.tuple #[.int .u64 0, .int .u64 (n : Int)]) ∧ w' = w := by
  have hm := mul64_any n w hn
  go_enter Try.func64, Try.ntmps64
  go_wp2_with (go_at_call 66; refine hm.mono ?_; rintro e w2 ⟨rfl, rfl⟩)
  go_ret2
  exact ⟨rfl, rfl⟩
/-- A row half filled. -/
def halfL (n m : Nat) : List Value := List.replicate m (.int .i64 (-1)) ++ List.replicate (n - m) (.int .i64 0)
theorem halfL_length {n m : Nat} (h : m ≤ n) : (halfL n m).length = n := by simp [halfL]; omega
theorem halfL_splice {n m c : Nat} (h : m + c ≤ n) : splice (halfL n m) m (List.replicate c (.int .i64 (-1))) = halfL n (m + c) := by
  unfold splice halfL
  rw [List.take_left' (by simp), List.length_replicate, List.drop_append, List.drop_eq_nil_of_le (by simp), List.nil_append, List.length_replicate, List.drop_replicate, ← List.append_assoc, List.replicate_append_replicate]
  congr 2
  omega
theorem halfL_zero (n : Nat) : halfL n 0 = List.replicate n (.int .i64 0) := by simp [halfL]
theorem halfL_full (n : Nat) : halfL n n = List.replicate n (.int .i64 (-1)) := by simp [halfL]
theorem madeCells_zero (n : Nat) : madeCells #[.int .i64 0] n = (halfL n 0).toArray := by
  rw [halfL_zero]
  refine Array.ext_getElem? fun i => ?_
  by_cases hi : i < n
  · simp [madeCells, hi, Nat.mod_one]
  · simp [madeCells, hi]
theorem Try.size3 : (Try.prog.info? 3).map (·.size) = some 1 := by kernel_rfl

set_option maxRecDepth 100000 in
set_option maxHeartbeats 2000000 in
theorem repeat_any (n b : Nat) (w : World) (hn : n ≤ 30) (hc : w.cell? ⟨b, 0, none⟩ = some (.int .i64 (-1))) (hb : b < w.heap.size) :
    Calls Try.prog 56 #[.slice (some ⟨b, 0, none⟩) 1 1, .int .i64 (n : Int)] w fun e w' => e = .returned (.slice (some ⟨w.heap.size, 0, none⟩) n n) ∧ w'.rowIs w.heap.size 3 n (fun _ => .int .i64 (-1)) ∧ Below w.heap.size w w' := by
  have hmu := mul_any n w hn
  have hmk := fun wx => run_make_row' (P := Try.prog) 34 3 (.int .i64 0) 8 Try.underlying34 Try.info3 rfl .i64 .i64 n (by omega) (by omega) wx
  have hblk : (w.alloc (.cells (madeCells #[.int .i64 0] n) 3)).heap[w.heap.size]? = some (.cells (halfL n 0).toArray 3 (0, 0)) := by
    rw [← madeCells_zero]
    exact blk_alloc_new w _
  have hbA : Below w.heap.size w (w.alloc (.cells (madeCells #[.int .i64 0] n) 3)) := (Below.refl _ _).alloc (Nat.le_refl _) _
  have hcA := (hbA.cell (p := ⟨b, 0, none⟩) hb).trans hc
  obtain ⟨c0, hc0⟩ : ∃ c0, c0 = Nat.min 1 n := ⟨_, rfl⟩
  have hc01 : c0 ≤ 1 ∧ c0 ≤ n := by rw [hc0]; exact ⟨Nat.min_le_left _ _, Nat.min_le_right _ _⟩
  have HSR : Hid (∀ j v, (List.replicate c0 (Value.int .i64 (-1)))[j]? = some v → (w.alloc (.cells (madeCells #[.int .i64 0] n) 3)).cell? ((⟨b, 0, none⟩ : Addr).add j) = some v) := fun j v hj => by
    have hjl : j < c0 := by have := (List.getElem?_eq_some_iff.1 hj).1; simpa using this
    obtain rfl : j = 0 := by omega
    rw [List.getElem?_replicate, if_pos hjl] at hj
    rw [add_lit, Nat.zero_add, hcA]
    exact hj
  have HB : Hid (Below w.heap.size w (w.alloc (.cells (madeCells #[.int .i64 0] n) 3))) := hbA
  have HC0 : Hid (c0 = Nat.min 1 n) := hc0
  have HK : Hid ((w.alloc (.cells (madeCells #[.int .i64 0] n) 3)).heap[w.heap.size]? = some (.cells (halfL n 0).toArray 3 (0, 0))) := hblk
  clear hc hb hcA hblk hbA hc0
  go_enter Try.func56, Try.ntmps56
  go_wp2_with (first | (go_at_call 64; refine hmu.mono ?_; clear hmu; rintro e w ⟨rfl, rfl⟩) | (refine wpList_copy_splice rfl (.tmp 31) (.tmp 32) 34 34 rfl 3 Try.underlying34 Try.size3 (some ⟨w.heap.size, 0, none⟩) (some ⟨b, 0, none⟩) n n 1 1 rfl rfl w.heap.size 0 (halfL n 0) 3 HK.out (List.replicate c0 (.int .i64 (-1))) (by rw [List.length_replicate]; exact HC0.out) (fun _ => ⟨rfl, _, rfl, HSR.out⟩) (by rw [List.length_replicate, halfL_length (Nat.zero_le _)]; omega) (fun v hv => by rw [List.eq_of_mem_replicate hv]; rfl) w.heap.size w HB.out (Nat.le_refl _) ?_; intro w2 HG2 hB2; have HG3 : Hid (w2.heap[w.heap.size]? = some (.cells (halfL n c0).toArray 3 (0, 0))) := (by have h := HG2.out; rw [halfL_splice (n := n) (m := 0) (c := c0) (by omega), Nat.zero_add] at h; exact h); rw [List.length_replicate]; clear HG2))
  have hc1 : n = 0 ∨ 1 ≤ c0 := by
    have := HC0.out
    rcases Nat.eq_zero_or_pos n with h | h
    · exact Or.inl h
    · right; rw [this]; exact Nat.le_min.2 ⟨Nat.le_refl _, h⟩
  clear hmk HSR HK HC0 HB
  go_loopw [8] (fun s8 wr => ∃ m : Nat, m ≤ n ∧ (n = 0 ∨ 1 ≤ m) ∧ s8 = .int .i64 m ∧ Hid (wr.heap[w.heap.size]? = some (.cells (halfL n m).toArray 3 (0, 0))) ∧ Below w.heap.size w wr) (fun s8 _ => n - (intOf s8).toNat)
  case atStart => exact ⟨c0, hc01.2, hc1, rfl, HG3, hB2⟩
  case round =>
    clear HG3 hB2 hc1 hc01
    obtain ⟨m, hm, hm1, rfl, hK, hb⟩ := hrel
    by_cases hmn : m < n
    · obtain ⟨c, hc⟩ : ∃ c, c = Nat.min m (n - m) := ⟨_, rfl⟩
      have hcm : c ≤ m ∧ c ≤ n - m ∧ 1 ≤ c := by
        rw [hc]
        exact ⟨Nat.min_le_left _ _, Nat.min_le_right _ _, Nat.le_min.2 ⟨by omega, by omega⟩⟩
      have HC : Hid (c = Nat.min m (n - m)) := hc
      have HKD : Hid (wr.drew.heap[w.heap.size]? = some (.cells (halfL n m).toArray 3 (0, 0))) := hK.out
      have HBD : Hid (Below w.heap.size w wr.drew) := ⟨hb.os, hb.tape, hb.output, hb.size, hb.block⟩
      have HSR : Hid (∀ j v, (List.replicate c (Value.int .i64 (-1)))[j]? = some v → wr.drew.cell? ((⟨w.heap.size, 0, none⟩ : Addr).add j) = some v) := fun j v hj => by
        have hjl : j < c := by have := (List.getElem?_eq_some_iff.1 hj).1; simpa using this
        rw [List.getElem?_replicate, if_pos hjl] at hj
        rw [add_lit, Nat.zero_add]
        show wr.cell? _ = _
        unfold World.cell?
        dsimp only
        rw [hK.out]
        simp [halfL, List.getElem?_append_left, show j < m by omega]
        exact Option.some.inj hj
      have hne : ¬ n = m := by omega
      obtain ⟨w4, hw4⟩ : ∃ w4, w4 = wr.drew.setRow w.heap.size ((halfL n m).toArray.toList.take m ++ List.replicate c (Value.int .i64 (-1)) ++ (halfL n m).toArray.toList.drop (m + (List.replicate c (Value.int .i64 (-1))).length)).toArray := ⟨_, rfl⟩
      have hcp := run_copy_row (P := Try.prog) wr.drew 34 34 3 3 w.heap.size m (n - m) (n - m) ⟨w.heap.size, 0, none⟩ m n (halfL n m).toArray 3 (List.replicate c (.int .i64 (-1))) Try.underlying34 Try.size3 HKD.out (by rw [List.length_replicate]; exact HC.out) HSR.out (by rw [List.length_replicate]; simp [halfL_length (show m ≤ n by omega)]; omega) (fun v hv => by rw [List.eq_of_mem_replicate hv]; rfl)
      rw [← hw4, List.length_replicate] at hcp
      have HK4 : Hid (w4.heap[w.heap.size]? = some (.cells (halfL n (m + c)).toArray 3 (0, 0))) := by
        show _ = _
        rw [hw4, setRow_heap wr.drew w.heap.size _ _ 3 _ HKD.out]
        have := halfL_splice (n := n) (m := m) (c := c) (by omega)
        unfold splice at this
        rw [← List.append_assoc] at this
        rw [← this]
      have HB4 : Hid (Below w.heap.size w w4) := by rw [hw4]; exact below_setRow HBD.out (Nat.le_refl _) _
      clear hc hw4 HSR HKD HBD HC hK hb
      go_wp2
      go_region
      all_goals go_wp2
      all_goals go_roundw
      case rel => exact ⟨m + c, by omega, Or.inr (by omega), by go_num, HK4, HB4⟩
      case measure => simp [intOf]; omega
    · have hme : m = n := by omega
      subst hme
      have HR : Hid (wr.rowIs w.heap.size 3 m (fun _ => .int .i64 (-1))) := by
        refine ⟨_, hK.out, by simp [halfL], fun i hi => ?_⟩
        simp [halfL, hi]
      clear hK
      go_wp2
      go_ret
      exact ⟨rfl, HR.out, hb⟩

def posRow (A : Nat → Int) : Nat → Value := fun k => .int .i64 (A k)
/-- What places hands back. -/
def PlacesOut (n : Nat) (zs : List Int) (e : Ending) (w' : World) : Prop :=
  (¬ EachZ n zs ∧ e = .returned (.tuple #[.slice none 0 0, .bool false])) ∨ (EachZ n zs ∧ ∃ A g, e = .returned (.tuple #[.slice (some ⟨g, 0, none⟩) n n, .bool true]) ∧ w'.rowIs g 3 n (posRow A) ∧ PosR n zs A)

set_option maxRecDepth 100000 in
set_option maxHeartbeats 2000000 in
theorem places_any (v : Value) (zs : List Int) (n : Nat) (w : World) (hz : IntsAt w v zs) (hn : n ≤ 30) :
    Calls Try.prog 40 #[v, .int .i64 (n : Int)] w fun e w' => PlacesOut n zs e w' ∧ Below w.heap.size w w' := by
  obtain ⟨hl, a, c, rfl, hz⟩ := hz
  by_cases hln : zs.length = n
  · subst hln
    have hb1 : Below w.heap.size w (w.alloc (.cells #[.int .i64 (-1)] 3)) := (Below.refl _ _).alloc (Nat.le_refl _) _
    have hc1 : (w.alloc (.cells #[.int .i64 (-1)] 3)).cell? ⟨w.heap.size, 0, none⟩ = some (.int .i64 (-1)) := by
      unfold World.cell?
      dsimp only
      rw [blk_alloc_new]
      rfl
    have hrp := repeat_any zs.length w.heap.size _ hn hc1 (by simp)
    have hsz : (w.alloc (.cells #[.int .i64 (-1)] 3)).heap.size = w.heap.size + 1 := by simp
    rw [hsz] at hrp
    have HB1 : Hid (Below w.heap.size w (w.alloc (.cells #[.int .i64 (-1)] 3))) := hb1
    clear hb1 hc1 hsz
    go_enter Try.func40, Try.ntmps40
    go_wp2_with (go_at_call 56; refine hrp.mono ?_; clear hrp; rintro e w1 ⟨rfl, hrow, hb2⟩; have HR1 : Hid (w1.rowIs (w.heap.size + 1) 3 zs.length (posRow (fun _ => -1))) := hrow; have HB2 : Hid (Below w.heap.size w w1) := HB1.out.trans (hb2.mono (by omega)); clear hrow hb2)
    go_loopw [18] (fun s18 wr => ∃ (k : Nat) (A : Nat → Int), k ≤ zs.length ∧ s18 = .int .i64 k ∧ Hid (wr.rowIs (w.heap.size + 1) 3 zs.length (posRow A)) ∧ Hid (PosR zs.length (zs.take k) A) ∧ Hid (∀ j, j < k → ¬ badZ zs.length zs j) ∧ Below w.heap.size w wr) (fun s18 _ => zs.length - (intOf s18).toNat)
    case atStart => exact ⟨0, _, Nat.zero_le _, rfl, HR1, PosR.nil _, fun j hj => by omega, HB2.out⟩
    case round =>
      clear HR1 HB2 HB1
      obtain ⟨k, A, hk, rfl, hR, hP, hno, hb⟩ := hrel
      by_cases hkl : k < zs.length
      · rcases hz with rfl | ⟨b, o, rfl, hbl, hc⟩
        · simp at hkl
        have hck := (hb.cell (p := ⟨b, o + k, none⟩) hbl).trans (hc k hkl)
        have HBD : Hid (badZ zs.length zs k ↔ zs.getD k 0 < 0 ∨ (zs.length : Int) ≤ zs.getD k 0 ∨ zs.getD k 0 ∈ zs.take k) := Iff.rfl
        have HNE : Hid (badZ zs.length zs k → ¬ EachZ zs.length zs) := fun h => each_not hkl h
        have HTK : Hid (zs.take (k + 1) = zs.take k ++ [zs.getD k 0]) := by
          show _ = _
          rw [List.take_succ_eq_append_getElem hkl, List.getD_eq_getElem?_getD, List.getElem?_eq_getElem hkl]
          rfl
        clear hc
        generalize zs.getD k 0 = x at *
        by_cases hx0 : x < 0
        · have HE : Hid (PlacesOut zs.length zs (.returned (.tuple #[.slice none 0 0, .bool false])) wr) := Or.inl ⟨HNE.out (HBD.out.2 (Or.inl hx0)), rfl⟩
          clear hR hP hno
          go_wp2
          go_ret2
          exact ⟨HE.out, hb⟩
        · obtain ⟨y, rfl⟩ := Int.eq_ofNat_of_zero_le (show 0 ≤ x by omega)
          by_cases hxn : (y : Int) < (zs.length : Int)
          · have hyl : y < zs.length := by omega
            have hcy := hR.out.cell hyl
            have hfy := hR.out.frozen y
            unfold posRow at hcy
            by_cases hA : 0 ≤ A y
            · have HE : Hid (PlacesOut zs.length zs (.returned (.tuple #[.slice none 0 0, .bool false])) wr) := Or.inl ⟨HNE.out (HBD.out.2 (Or.inr (Or.inr ((hP.out.neg hyl).1 hA)))), rfl⟩
              generalize A y = z at *
              clear hR hP hno
              go_wp2
              go_ret2
              exact ⟨HE.out, hb⟩
            · have HR2 : Hid ((wr.setCell ⟨w.heap.size + 1, y, none⟩ (.int .i64 (k : Int))).rowIs (w.heap.size + 1) 3 zs.length (posRow (fun i => if i = y then ((zs.take k).length : Int) else A i))) := by
                refine (hR.out.set y (.int .i64 (k : Int))).congr (fun j _ => ?_)
                unfold posRow
                dsimp only
                by_cases e : j = y
                · rw [if_pos e, if_pos e, List.length_take, Nat.min_eq_left (by omega)]
                · rw [if_neg e, if_neg e]
              have HP2 : Hid (PosR zs.length (zs.take (k + 1)) (fun i => if i = y then ((zs.take k).length : Int) else A i)) := by
                show PosR _ _ _
                rw [HTK.out]
                exact hP.out.snoc y
              have HN2 : Hid (∀ j, j < k + 1 → ¬ badZ zs.length zs j) := fun j hj => by
                by_cases e : j = k
                · subst e
                  intro h
                  rcases HBD.out.1 h with h | h | h
                  · omega
                  · omega
                  · exact hA ((hP.out.neg hyl).2 h)
                · exact hno.out j (by omega)
              have hB2 : Below w.heap.size w (wr.setCell ⟨w.heap.size + 1, y, none⟩ (.int .i64 (k : Int))) := hb.setCell (p := ⟨w.heap.size + 1, y, none⟩) (by show _ ≤ w.heap.size + 1; omega) _
              generalize A y = z at *
              clear hR hP hno HTK HNE HBD
              go_wp2
              go_roundw
              case rel => exact ⟨k + 1, _, by omega, by go_num, HR2, HP2, HN2, hB2⟩
              case measure => simp [intOf]; omega
          · have HE : Hid (PlacesOut zs.length zs (.returned (.tuple #[.slice none 0 0, .bool false])) wr) := Or.inl ⟨HNE.out (HBD.out.2 (Or.inr (Or.inl (by omega)))), rfl⟩
            clear hR hP hno
            go_wp2
            go_ret2
            exact ⟨HE.out, hb⟩
      · have hke : k = zs.length := by omega
        have HE : Hid (PlacesOut zs.length zs (.returned (.tuple #[.slice (some ⟨w.heap.size + 1, 0, none⟩) zs.length zs.length, .bool true])) wr) := Or.inr ⟨each_of rfl (fun j hj => hno.out j (by omega)), A, _, rfl, hR.out, by
          have := hP.out
          rw [List.take_of_length_le (by omega)] at this
          exact this⟩
        clear hR hP hno hz hke
        go_wp2
        go_ret2
        exact ⟨HE.out, hb⟩
  · have hi : ((zs.length : Int) == (n : Int)) = false := by simp; omega
    have HE : Hid (∀ w', PlacesOut n zs (.returned (.tuple #[.slice none 0 0, .bool false])) w') := fun _ => Or.inl ⟨fun h => hln h.1, rfl⟩
    clear hz hln
    go_enter Try.func40, Try.ntmps40
    go_wp2
    go_ret2
    exact ⟨HE.out _, Below.refl _ _⟩
end Go.Proofs.Ytjojfnppegfmnaa
