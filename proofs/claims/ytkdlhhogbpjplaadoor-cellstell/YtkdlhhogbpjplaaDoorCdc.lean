/- The contracts of the document's Ops and Along. -/
import Derived.Test.YtkdlhhogbpjplaaDoorCdb
namespace Go.Proofs.YtkdlhhogbpjplaaDoor
open Go.RowKit Go.Deep

set_option maxRecDepth 100000 in
set_option maxHeartbeats 2000000 in
theorem dOps_any (pv ov : Value) (ts : List (Int × List Int)) (os : List Opn) (w : World) (hp : PlanAt w pv ts) (ho : OpsAt w ov os) :
    Calls Tryd.prog 9 #[pv, ov] w fun e w' => (∃ p q, CheckIs ts p q ∧ e = .returned (.int .i64 (allErr q ts.length os))) ∧ Below w.heap.size w w' := by
  have hri := rightR_any pv ts w hp
  have HO : Hid (OpsAt w ov os) := ho
  obtain ⟨_, pa, pc, rfl, _⟩ := hp
  obtain ⟨hl, oa, oc, rfl, ho⟩ := ho
  clear ho
  go_enter Tryd.func9, Tryd.ntmps9
  go_wp2_with fail
  refine hri.mono ?_
  clear hri
  rintro e w1 ⟨⟨p, q, rfl, hck⟩, hb1⟩
  have HCK : Hid (CheckIs ts p q) := hck
  clear hck
  -- what is known of a fault that stands
  have hstand : ∀ (q2 : Int), q2 ≠ 0 → (q2 == (0 : Int)) = false := fun q2 h => by simp [h]
  by_cases hq : q = 0
  · subst hq
    by_cases hn : os.length = ts.length
    · have HA : Hid (allErr 0 ts.length os = firstBad opErr os) := by show opsErr ts.length os = _; unfold opsErr; rw [if_pos hn]
      have hne : ((os.length : Int) == (ts.length : Int)) = true := by rw [hn]; simp
      generalize hm : ts.length = m at *
      subst hn
      clear hstand hne
      go_wp2
      go_loopw [5, 6] (fun s5 s6 wr => ∃ (e : Int) (k : Nat), k ≤ os.length ∧ s5 = .int .i64 e ∧ s6 = .int .i64 k ∧ Hid ((e = 0 ∧ ∀ j, j < k → opErr (os.getD j (0, 0)) = 0) ∨ (e ≠ 0 ∧ firstBad opErr os = e)) ∧ Below w.heap.size w wr) (fun s5 s6 _ => if intOf s5 = 0 then os.length + 1 - (intOf s6).toNat else 0)
      case atStart => exact ⟨0, 0, Nat.zero_le _, rfl, rfl, Or.inl ⟨rfl, fun j hj => by omega⟩, hb1⟩
      case round =>
        clear hb1
        obtain ⟨e, k, hk, rfl, rfl, hE, hb⟩ := hrel
        by_cases he : e = 0
        · subst he
          have hno : ∀ j, j < k → opErr (os.getD j (0, 0)) = 0 := by
            rcases hE.out with ⟨_, h⟩ | ⟨h, _⟩
            · exact h
            · exact absurd rfl h
          clear hE
          by_cases hkl : k < os.length
          · have how := HO.out.later hb
            obtain ⟨_, a', c', hva, hoc⟩ := how
            cases hva
            rcases hoc with h0 | ⟨b, o, rfl, hbl, hc⟩
            · rw [h0] at hkl; simp at hkl
            obtain ⟨hc1, hc2⟩ := hc k hkl
            clear hc
            have hop := dOp_any (whtO os k) (numO os k) wr
            have HO2 : Hid (opErr (os.getD k (0, 0)) = opErr (whtO os k, numO os k)) := rfl
            have HNX : Hid ((opErr (whtO os k, numO os k) = 0 ∧ ∀ j, j < k + 1 → opErr (os.getD j (0, 0)) = 0) ∨ (opErr (whtO os k, numO os k) ≠ 0 ∧ firstBad opErr os = opErr (whtO os k, numO os k))) := by
              by_cases hz : opErr (whtO os k, numO os k) = 0
              · refine Or.inl ⟨hz, fun j hj => ?_⟩
                by_cases ej : j = k
                · rw [ej, HO2.out]; exact hz
                · exact hno j (by omega)
              · exact Or.inr ⟨hz, by rw [← HO2.out]; exact firstBad_at opErr (0, 0) os k hkl hno (by rw [HO2.out]; exact hz)⟩
            clear hno HO2
            generalize whtO os k = x at *
            generalize numO os k = y at *
            generalize opErr (x, y) = e2 at *
            go_wp2_with (go_at_call 4; refine hop.mono ?_; clear hop; rintro e w2 ⟨rfl, hb2⟩)
            go_roundw
            case rel => exact ⟨e2, k + 1, by omega, rfl, by go_num, HNX, hb.trans (hb2.mono hb.size)⟩
            case measure => simp [intOf]; split <;> omega
          · have HF : Hid (allErr 0 os.length os = 0) := HA.out.trans (firstBad_none opErr (0, 0) os (fun j hj => hno j (by omega)))
            clear hno
            go_wp2
            go_ret
            exact ⟨⟨p, 0, HCK.out, by rw [hm, HF.out]; rfl⟩, hb⟩
        · have HF : Hid (allErr 0 os.length os = e) := by
            rcases hE.out with ⟨h, _⟩ | ⟨_, h⟩
            · exact absurd h he
            · exact HA.out.trans h
          have hez : (e == (0 : Int)) = false := by simp [he]
          clear hE he
          by_cases hkl : k < os.length
          all_goals
            go_wp2
            go_ret
            exact ⟨⟨p, 0, HCK.out, by rw [hm, HF.out]; rfl⟩, hb⟩
    · have HA : Hid (allErr 0 ts.length os = 3) := by show opsErr ts.length os = _; unfold opsErr; rw [if_neg hn]
      have hne : ((os.length : Int) == (ts.length : Int)) = false := by simp; omega
      clear hstand hn
      by_cases h0 : (0 : Int) < (os.length : Int)
      all_goals
        go_wp2
        refine wp_loop_rounds 1 ?_
        rw [rounds_succ]
        go_wp2
        go_ret
        exact ⟨⟨p, 0, HCK.out, by rw [HA.out]; rfl⟩, hb1⟩
  · have HA : Hid (allErr q ts.length os = q) := by show _ = _; unfold allErr; rw [if_neg hq]
    have hqz := hstand q hq
    clear hstand hq
    by_cases h0 : (0 : Int) < (os.length : Int)
    all_goals
      go_wp2
      refine wp_loop_rounds 1 ?_
      rw [rounds_succ]
      go_wp2
      go_ret
      exact ⟨⟨p, q, HCK.out, by rw [HA.out]; rfl⟩, hb1⟩

theorem missing_take {ts : List (Int × List Int)} {ord : List Nat} (hr : InRange ts) {k : Nat} (hk : k < ts.length) : missing ts (has ord) k = true ↔ ∃ y, Need ts k y ∧ ¬ y ∈ ord := by
  unfold missing
  rw [List.any_eq_true]
  constructor
  · rintro ⟨y, hy, h⟩
    have h0 := (hr k hk y hy).1
    refine ⟨y.toNat, ?_, fun hm => ?_⟩
    · unfold Need
      rw [Int.toNat_of_nonneg h0]
      exact hy
    · have : has ord y.toNat = true := by unfold has; exact List.contains_iff_mem.2 hm
      rw [this] at h
      simp at h
  · rintro ⟨y, hy, h⟩
    refine ⟨(y : Int), hy, ?_⟩
    rw [Int.toNat_natCast]
    cases e : has ord y with
    | false => rfl
    | true => unfold has at e; exact absurd (List.contains_iff_mem.1 e) h
theorem Behind.snoc {ts : List (Int × List Int)} {l : List Nat} {i : Nat} (h : Behind ts l) (hy : ∀ y, Need ts i y → y ∈ l) : Behind ts (l ++ [i]) := by
  intro m hm y hn
  by_cases e : m < l.length
  · rw [List.take_append_of_le_length (by omega)]
    refine h m e y ?_
    rw [List.getD_eq_getElem?_getD, List.getElem?_append_left e, ← List.getD_eq_getElem?_getD] at hn
    exact hn
  · have hme : m = l.length := by simp at hm; omega
    subst hme
    rw [List.take_left' rfl]
    refine hy y ?_
    simpa using hn
/-- What the document's Along hands back. -/
def AlongR (ts : List (Int × List Int)) (os : List Opn) (ord : List Nat) (e : Ending) (w' : World) : Prop :=
  (¬ Behind ts ord ∧ e = .returned (.tuple #[.slice none 0 0, .bool false])) ∨
  (Behind ts ord ∧ ∃ g, e = .returned (.tuple #[.slice (some ⟨g, 0, none⟩) ts.length ts.length, .bool true]) ∧ w'.rowIs g 32 (ts.length * 2) (cellRow (alongC ts (fun k => os.getD k (0, 0)) ord)))

set_option maxRecDepth 100000 in
set_option maxHeartbeats 8000000 in
theorem alongR_any (pv ov rv : Value) (ts : List (Int × List Int)) (os : List Opn) (ord : List Nat) (w : World) (hp : PlanAt w pv ts) (ho : OpsAt w ov os) (hi : IntsAt w rv (intsOf ord))
    (h30 : ts.length ≤ 30) (hr : InRange ts) (hm : os.length = ts.length) (hx : ∀ x, x ∈ ord → x < ts.length) (hop : ∀ k, k < ts.length → opErr (os.getD k (0, 0)) = 0) (h8 : ∀ k, k < ts.length → (needsOf ts k).length ≤ 1000) :
    Calls Tryd.prog 10 #[pv, ov, rv] w fun e w' => AlongR ts os ord e w' ∧ Below w.heap.size w w' := by
  obtain ⟨i36, hi36, hz0, hz1, hz2⟩ := info_parts Tryd.info32
  have hmk : ∀ wx : World, (Instr.makeSlice 24 (.int .i64 (ts.length : Int)) (.int .i64 (ts.length : Int))).run Tryd.prog wx = .ok (.slice (some ⟨wx.heap.size, 0, none⟩) ts.length ts.length) (wx.alloc (.cells (madeCells #[.int .i64 0, .bool false] (ts.length * 2)) 32)) := by
    intro wx
    have hr := run_make (P := Tryd.prog) wx 24 32 i36 _ Tryd.underlying24 hi36 hz0 .i64 .i64 ts.length ts.length (by omega) (by omega) (by rw [hz2]; omega) (by omega)
    simp only [hz1, Int.toNat_natCast] at hr
    exact hr
  have hmb := fun wx => run_make_row' (P := Tryd.prog) 55 4 (.bool false) 1 Tryd.underlying55 Tryd.info4 rfl .i64 .i64 ts.length (by omega) (by omega) wx
  have HP : Hid (PlanAt w pv ts) := hp
  have HO : Hid (OpsAt w ov os) := ho
  have HI : Hid (IntsAt w rv (intsOf ord)) := hi
  have HR : Hid (InRange ts) := hr
  have HX : Hid (∀ x, x ∈ ord → x < ts.length) := hx
  have HOP : Hid (∀ k, k < ts.length → opErr (os.getD k (0, 0)) = 0) := hop
  have H8 : Hid (∀ k, k < ts.length → (needsOf ts k).length ≤ 1000) := h8
  have HM : Hid (os.length = ts.length) := hm
  obtain ⟨_, pa, pc, rfl, _⟩ := hp
  obtain ⟨_, oa, oc, rfl, _⟩ := ho
  obtain ⟨_, ra, rc, rfl, _⟩ := hi
  obtain ⟨zl, hzl⟩ : ∃ zl, zl = (intsOf ord).length := ⟨_, rfl⟩
  obtain ⟨ol, hol⟩ : ∃ ol, ol = os.length := ⟨_, rfl⟩
  rw [← hzl, ← hol]
  have HZ : Hid (zl = ord.length) := hzl.trans (intsOf_length ord)
  have hzb : zl ≤ 20000000000000 := by omega
  have HQ : Hid (ol = ts.length) := hol.trans hm
  have hrow0 := (row_made w ts.length).alloc (.cells (madeCells #[.bool false] ts.length) 4)
  have hdn0 := World.rowIs_made (w.alloc (.cells (madeCells #[.int .i64 0, .bool false] (ts.length * 2)) 32)) (.bool false) ts.length 4
  have hsz0 : (w.alloc (.cells (madeCells #[.int .i64 0, .bool false] (ts.length * 2)) 32)).heap.size = w.heap.size + 1 := by simp
  rw [hsz0] at hdn0
  have HR00 : Hid (((w.alloc (.cells (madeCells #[.int .i64 0, .bool false] (ts.length * 2)) 32)).alloc (.cells (madeCells #[.bool false] ts.length) 4)).rowIs w.heap.size 32 (ts.length * 2) (cellRow (fun _ => (0, false)))) := hrow0
  have HD00 : Hid (((w.alloc (.cells (madeCells #[.int .i64 0, .bool false] (ts.length * 2)) 32)).alloc (.cells (madeCells #[.bool false] ts.length) 4)).rowIs (w.heap.size + 1) 4 ts.length (fun _ => .bool false)) := hdn0
  have HB00 : Hid (Below w.heap.size w ((w.alloc (.cells (madeCells #[.int .i64 0, .bool false] (ts.length * 2)) 32)).alloc (.cells (madeCells #[.bool false] ts.length) 4))) := ((Below.refl _ _).alloc (Nat.le_refl _) _).alloc (by simp) _
  clear hr hx hop h8 hm hzl hol hrow0 hdn0 hsz0
  go_enter Tryd.func10, Tryd.ntmps10
  go_wp2
  clear hmk hmb
  go_loopw [10] (fun s10 wr => ∃ k : Nat, k ≤ zl ∧ s10 = .int .i64 k ∧ Hid (wr.rowIs w.heap.size 32 (ts.length * 2) (cellRow (alongC ts (fun k => os.getD k (0, 0)) (ord.take k)))) ∧ Hid (wr.rowIs (w.heap.size + 1) 4 ts.length (fun j => .bool (has (ord.take k) j))) ∧ Hid (Behind ts (ord.take k)) ∧ Below w.heap.size w wr) (fun s10 _ => zl - (intOf s10).toNat)
  case atStart => exact ⟨0, Nat.zero_le _, rfl, HR00, HD00, fun m hm => by simp at hm, HB00.out⟩
  case round =>
    clear HR00 HD00 HB00
    obtain ⟨k, hk, rfl, hrow, hdn, hbh, hb⟩ := hrel
    by_cases hkl : k < zl
    · have hko : k < ord.length := by rw [← HZ.out]; exact hkl
      obtain ⟨i, hie⟩ : ∃ i, i = ord.getD k 0 := ⟨_, rfl⟩
      have him : i ∈ ord := by rw [hie]; exact getD_mem 0 hko
      have hit := HX.out i him
      obtain ⟨rb, ro, rfl, hri⟩ : ∃ rb ro, ra = some ⟨rb, ro, none⟩ ∧ w.cell? ⟨rb, ro + k, none⟩ = some (.int .i64 (i : Int)) ∧ rb < w.heap.size := by
        obtain ⟨_, a', c', hva, hz⟩ := HI.out
        cases hva
        rcases hz with h0 | ⟨rb, ro, h1, h2, h3⟩
        · rw [List.eq_nil_iff_length_eq_zero, intsOf_length] at h0; omega
        · refine ⟨rb, ro, h1, ?_, h2⟩
          have := h3 k (by rw [intsOf_length]; exact hko)
          rw [intsOf_getD, ← hie] at this
          exact this
      have hri1 := (hb.cell (p := ⟨rb, ro + k, none⟩) hri.2).trans hri.1
      have HTK : Hid (ord.take (k + 1) = ord.take k ++ [i]) := by
        show _ = _
        rw [List.take_succ_eq_append_getElem hko, hie, List.getD_eq_getElem?_getD, List.getElem?_eq_getElem hko]
        rfl
      have hfr := freeR_any _ (.slice (some ⟨w.heap.size + 1, 0, none⟩) ts.length ts.length) ts (has (ord.take k)) i wr (HP.out.later hb) hit HR.out ⟨_, 0, _, rfl, hdn.out.lt, fun j hj => by rw [Nat.zero_add]; exact hdn.out.cell hj⟩
      have hbs := hb.size
      cases hms : missing ts (has (ord.take k)) i
      · have hall : ∀ y, Need ts i y → y ∈ ord.take k := fun y hy => by
          apply Classical.byContradiction
          intro hc
          have := (missing_take HR.out hit).2 ⟨y, hy, hc⟩
          rw [hms] at this
          cases this
        have HBN : Hid (Behind ts (ord.take (k + 1))) := by
          show Behind _ _
          rw [HTK.out]
          exact hbh.out.snoc hall
        rw [hms] at hfr
        obtain ⟨F, hF⟩ : ∃ F, F = alongC ts (fun k => os.getD k (0, 0)) (ord.take k) := ⟨_, rfl⟩
        rw [← hF] at hrow
        have HF : Hid (F = alongC ts (fun k => os.getD k (0, 0)) (ord.take k)) := hF
        have HFR : Hid (∀ j, cellErr (F j) = 0) := fun j => by
          rw [hF]
          exact alongC_right (fun x hx => HOP.out x (HX.out x (List.mem_of_mem_take hx))) j
        clear hF hms hall hbh hri hie him
        obtain ⟨_, a', c', hva, hpc⟩ := HP.out
        cases hva
        rcases hpc with h0 | ⟨pb, po, rfl, hpb, hpc⟩
        · rw [h0] at hit; simp at hit
        obtain ⟨_, nv, hn2, hin⟩ := hpc i hit
        have HN2 : Hid (w.cell? ⟨pb, po + i * 2 + 1, none⟩ = some nv) := hn2
        have HIN : Hid (IntsAt w nv (needsOf ts i)) := hin
        obtain ⟨nl8, na, nc, rfl, _⟩ := hin
        have hnr := HR.out i hit
        have h8i := H8.out i hit
        obtain ⟨ns, hns⟩ : ∃ ns, ns = needsOf ts i := ⟨_, rfl⟩
        rw [← hns] at HIN hnr h8i HN2
        have HNS : Hid (ns = needsOf ts i) := hns
        have HNR : Hid (∀ y, y ∈ ns → 0 ≤ y ∧ y < ts.length) := hnr
        clear hpc hn2 hns hnr nl8
        have HRW : Hid (wr.rowIs w.heap.size 32 (ts.length * 2) (cellRow F)) := hrow
        have HDW : Hid (wr.rowIs (w.heap.size + 1) 4 ts.length (fun j => .bool (has (ord.take k) j))) := hdn
        have HBW : Hid (Below w.heap.size w wr) := hb
        clear hrow hdn hb
        go_wp2_with (go_at_call 22; refine hfr.mono ?_; clear hfr; rintro e w0 ⟨rfl, hb0⟩; have HR0 : Hid (w0.rowIs w.heap.size 32 (ts.length * 2) (cellRow F)) := HRW.out.of_block (hb0.block _ HRW.out.lt); have HD0 : Hid (w0.rowIs (w.heap.size + 1) 4 ts.length (fun j => .bool (has (ord.take k) j))) := HDW.out.of_block (hb0.block _ HDW.out.lt); have HB0 : Hid (Below w.heap.size w w0) := HBW.out.trans (hb0.mono HBW.out.size); clear hb0 hri1)
        have h0lt : w.heap.size < w0.heap.size := HR0.out.lt
        have h1lt : w.heap.size + 1 < w0.heap.size := HD0.out.lt
        clear HRW HDW HBW hbs
        go_loopw [13, 14] (fun s13 s14 wr => ∃ j : Nat, j ≤ ns.length ∧ s14 = .int .i64 j ∧ Hid (RowC w0.heap.size wr s13 ((ns.take j).map (fun y => F y.toNat))) ∧ Below w0.heap.size w0 wr) (fun _ s14 _ => ns.length - (intOf s14).toNat)
        case atStart => exact ⟨0, Nat.zero_le _, rfl, RowC.nil _ _, Below.refl _ _⟩
        case round =>
          obtain ⟨j, hj, rfl, hR, hb⟩ := hrel
          have hrow := HR0.out.of_block (hb.block _ h0lt)
          have hbw := HB0.out.trans (hb.mono HB0.out.size)
          have hn2' := (hbw.cell (p := ⟨pb, po + i * 2 + 1, none⟩) hpb).trans HN2.out
          by_cases hjl : j < ns.length
          · obtain ⟨nb, no, rfl, hnc, hnb⟩ : ∃ nb no, na = some ⟨nb, no, none⟩ ∧ w.cell? ⟨nb, no + j, none⟩ = some (.int .i64 (ns.getD j 0)) ∧ nb < w.heap.size := by
              obtain ⟨_, a', c', hva, hz⟩ := HIN.out
              cases hva
              rcases hz with h0 | ⟨rb, ro, h1, h2, h3⟩
              · rw [h0] at hjl; simp at hjl
              · exact ⟨rb, ro, h1, h3 j hjl, h2⟩
            have hnc' := (hbw.cell (p := ⟨nb, no + j, none⟩) hnb).trans hnc
            have hym := getD_mem 0 hjl
            obtain ⟨y1, y2⟩ := HNR.out _ hym
            have HT : Hid ((ns.take (j + 1)).map (fun y => F y.toNat) = (ns.take j).map (fun y => F y.toNat) ++ [F (ns.getD j 0).toNat]) := by
              show _ = _
              rw [List.take_succ_eq_append_getElem hjl, List.map_append, List.getD_eq_getElem?_getD, List.getElem?_eq_getElem hjl]
              rfl
            clear hnc hym
            generalize ns.getD j 0 = y at *
            obtain ⟨m, rfl⟩ := Int.eq_ofNat_of_zero_le y1
            have hmt : m < ts.length := by omega
            rw [Int.toNat_natCast] at HT
            have hv1 := hrow.cell (i := m * 2) (by omega)
            have hv2 := hrow.cell (i := m * 2 + 1) (by omega)
            rw [cellRow_num] at hv1
            rw [cellRow_flt] at hv2
            obtain ⟨la, lc, rfl⟩ := hR.out.any
            have hl1 : ((ns.take j).map (fun y => F y.toNat)).length ≤ 1000 := by simp; omega
            obtain ⟨cs, hcs⟩ : ∃ cs, cs = (ns.take j).map (fun y => F y.toNat) := ⟨_, rfl⟩
            rw [← hcs] at hR hl1 HT
            have hR2 := hR.out.later (((Below.refl _ _).alloc (Nat.le_refl _) (.cells #[.int .i64 (F m).1, .bool (F m).2] 32)) : Below wr.heap.size wr (wr.alloc (.cells #[.int .i64 (F m).1, .bool (F m).2] 32)))
            rw [← hcs]
            have hsrc := cell_two_at wr (.int .i64 (F m).1) (.bool (F m).2) 32
            have hbA : Below w0.heap.size w0 (wr.alloc (.cells #[.int .i64 (F m).1, .bool (F m).2] 32)) := hb.alloc hb.size _
            have hwsz := hb.size
            unfold RowC at hR2
            have HFM : Hid (flatC cs ++ [.int .i64 (F m).1, .bool (F m).2] = flatC (cs ++ [F m])) := by show _ = _; rw [flatC_append]; rfl
            clear hcs hR hrow hbw
            generalize (F m).1 = x at *
            generalize (F m).2 = f at *
            go_wp2_with (at_builtin; refine wpList_append_own _ rfl (.tmp 48) (.tmp 60) 24 rfl w0.heap.size 32 i36 (.agg #[.int .i64 0, .bool false]) 2 16 Tryd.underlying24 hi36 hz0 hz1 hz2 rfl (by decide) _ cs.length (flatC cs) rfl hR2 ⟨wr.heap.size, 0, none⟩ 1 1 [.int .i64 x, .bool f] rfl rfl hsrc ?d2 ?d3 ?d4 ?d5 ?_)
            case d2 => first | exact ⟨rfl, rfl⟩ | (intro u hu; simp at hu; rcases hu with rfl | rfl <;> rfl)
            case d3 => unfold maxLen; omega
            case d4 => omega
            case d5 => first | omega | (simp; omega)
            intro v' w1 hown' hgrow _
            have hB1 : Below w0.heap.size w0 w1 := hbA.grown hgrow (by simp; omega) (fun k e => (hR2.lt k e).1)
            have HN1 : Hid (RowC w0.heap.size w1 v' ((ns.take (j + 1)).map (fun y => F y.toNat))) := by
              show RowC _ _ _ _
              rw [HT.out]
              unfold RowC
              rw [List.length_append, ← HFM.out]
              exact hown'
            clear hown' hgrow hR2 hbA
            go_wp2
            go_roundw
            case rel => exact ⟨j + 1, by omega, by go_num, HN1, hB1⟩
            case measure => simp [intOf]; omega
          · have hall : ns.take j = ns := List.take_of_length_le (by omega)
            rw [hall] at hR
            have hcl : ((ns.map (fun y => F y.toNat)).length) * 16 ≤ 140737488351232 := by rw [List.length_map]; omega
            have hca := hR.out.at hcl
            have hrt : ∀ c, c ∈ ns.map (fun y => F y.toNat) → cellErr c = 0 := fun c hc => by
              obtain ⟨y, _, rfl⟩ := List.mem_map.1 hc
              exact HFR.out _
            have hopi := HOP.out i hit
            obtain ⟨la, lc, rfl⟩ := hR.out.any
            obtain ⟨⟨x, f⟩, hxf⟩ : ∃ c, doC (os.getD i (0, 0)) (ns.map (fun y => F y.toNat)) = c := ⟨_, rfl⟩
            have hdo0 := dDo_any (os.getD i (0, 0)) _ _ wr hca hopi hrt
            rw [hxf] at hdo0
            have HNX : Hid (alongC ts (fun k => os.getD k (0, 0)) (ord.take (k + 1)) = putC F i (x, f)) := by
              show _ = _
              rw [HTK.out, alongC_snoc, ← HF.out, ← HNS.out, hxf]
            have hdo : Calls Tryd.prog 6 #[.agg #[.int .i64 (whtO os i), .int .i64 (numO os i)], .slice la (ns.map (fun y => F y.toNat)).length lc] wr fun e w' => e = .returned (.agg #[.int .i64 x, .bool f]) ∧ Below wr.heap.size wr w' := hdo0
            obtain ⟨ob, oo, rfl, ho1, ho2⟩ : ∃ ob oo, oa = some ⟨ob, oo, none⟩ ∧ wr.cell? ⟨ob, oo + i * 2, none⟩ = some (.int .i64 (whtO os i)) ∧ wr.cell? ⟨ob, oo + i * 2 + 1, none⟩ = some (.int .i64 (numO os i)) := by
              obtain ⟨_, a', c', hva, hz⟩ := HO.out
              cases hva
              have hio : i < os.length := by rw [HM.out]; exact hit
              rcases hz with h0 | ⟨rb, ro, h1, h2, h3⟩
              · rw [h0] at hio; simp at hio
              · exact ⟨rb, ro, h1, (hbw.cell (p := ⟨rb, ro + i * 2, none⟩) h2).trans (h3 i hio).1, (hbw.cell (p := ⟨rb, ro + i * 2 + 1, none⟩) h2).trans (h3 i hio).2⟩
            have hiol : i < ol := by rw [HQ.out]; exact hit
            have HRW : Hid (wr.rowIs w.heap.size 32 (ts.length * 2) (cellRow F)) := hrow
            have HDW : Hid (wr.rowIs (w.heap.size + 1) 4 ts.length (fun j => .bool (has (ord.take k) j))) := HD0.out.of_block (hb.block _ h1lt)
            have HBW : Hid (Below w.heap.size w wr) := hbw
            have HC1 : Hid (cellRow F (i * 2) = .int .i64 (F i).1) := cellRow_num F i
            have HC2 : Hid (cellRow F (i * 2 + 1) = .bool (F i).2) := cellRow_flt F i
            have HHS : Hid (∀ j, has (ord.take (k + 1)) j = (if j = i then true else has (ord.take k) j)) := fun j => by
              rw [HTK.out, ← mark_has]
              rfl
            clear hdo0 hall hcl hca hrt hopi hR hbw hb hrow hxf
            generalize whtO os i = ow at *
            generalize numO os i = on at *
            generalize (ns.map (fun y => F y.toNat)).length = nl at *
            have HZ3 : Hid (∀ w3 : World, Below wr.heap.size wr w3 → w3.rowIs w.heap.size 32 (ts.length * 2) (cellRow F) ∧ w3.rowIs (w.heap.size + 1) 4 ts.length (fun j => .bool (has (ord.take k) j)) ∧ Below w.heap.size w w3) := fun w3 h3 => ⟨HRW.out.of_block (h3.block _ HRW.out.lt), HDW.out.of_block (h3.block _ HDW.out.lt), HBW.out.trans (h3.mono HBW.out.size)⟩
            go_wp2_with (go_at_call 6; refine hdo.mono ?_; clear hdo; rintro e w3 ⟨rfl, hb3⟩; have hz3 := HZ3.out w3 hb3; have q0 := hz3.1.cell (i := i * 2) (by omega); have q1 := hz3.1.cell (i := i * 2 + 1) (by omega); have f0 := hz3.1.frozen (i * 2); have f1 := hz3.1.frozen (i * 2 + 1); rw [HC1.out] at q0; rw [HC2.out] at q1; have hg3 := hz3.1.lt; have d0 := hz3.2.1.cell hit; have df := hz3.2.1.frozen i; have hd3 := hz3.2.1.lt; have HZ4 : Hid (w3.rowIs w.heap.size 32 (ts.length * 2) (cellRow F) ∧ w3.rowIs (w.heap.size + 1) 4 ts.length (fun j => .bool (has (ord.take k) j)) ∧ Below w.heap.size w w3) := hz3; clear hz3 hb3)
            go_roundw
            case rel =>
              obtain ⟨z1, z2, z3⟩ := HZ4.out
              refine ⟨k + 1, by omega, by go_num, ?_, ?_, HBN, ?_⟩
              · show World.rowIs _ _ _ _ _
                rw [HNX.out]
                exact ((row_put z1 i x f).setOther (a := ⟨w.heap.size + 1, i, none⟩) (by show w.heap.size ≠ w.heap.size + 1; omega) _).alloc _
              · refine ((((z2.setOther (a := ⟨w.heap.size, i * 2, none⟩) (by show w.heap.size + 1 ≠ w.heap.size; omega) _).setOther (a := ⟨w.heap.size, i * 2 + 1, none⟩) (by show w.heap.size + 1 ≠ w.heap.size; omega) _).set i (.bool true)).alloc _).congr (fun j _ => ?_)
                rw [HHS.out]
                by_cases e : j = i
                · rw [if_pos e, if_pos e]
                · rw [if_neg e, if_neg e]
              · exact ((((z3.setCell (p := ⟨w.heap.size, i * 2, none⟩) (Nat.le_refl _) _).setCell (p := ⟨w.heap.size, i * 2 + 1, none⟩) (Nat.le_refl _) _).setCell (p := ⟨w.heap.size + 1, i, none⟩) (by show _ ≤ w.heap.size + 1; omega) _)).alloc (by simp; have := z3.size; omega) _
            case measure => simp [intOf]; omega
      · have HE : Hid (∀ w', AlongR ts os ord (.returned (.tuple #[.slice none 0 0, .bool false])) w') := fun w' => Or.inl ⟨fun hB => by
          obtain ⟨y, hy, hn⟩ := (missing_take HR.out hit).1 hms
          exact hn (hB k hko y (by rw [← hie]; exact hy)), rfl⟩
        rw [hms] at hfr
        clear hms hrow hdn hbh hri hie him
        go_wp2_with (go_at_call 22; refine hfr.mono ?_; clear hfr; rintro e w0 ⟨rfl, hb0⟩)
        go_ret2
        exact ⟨HE.out _, hb.trans (hb0.mono hb.size)⟩
    · have hke : k = ord.length := by have := HZ.out; omega
      have HE : Hid (AlongR ts os ord (.returned (.tuple #[.slice (some ⟨w.heap.size, 0, none⟩) ts.length ts.length, .bool true])) wr) := by
        have h1 := hrow.out
        have h2 := hbh.out
        rw [List.take_of_length_le (by omega)] at h1 h2
        exact Or.inr ⟨h2, _, rfl, h1⟩
      clear hrow hdn hbh hke
      go_wp2
      go_ret2
      exact ⟨HE.out, hb⟩
end Go.Proofs.YtkdlhhogbpjplaaDoor
