/- The walk of DepthWay. -/
import Derived.Test.YtbmjhdjklpkhnaaDl
namespace Go.Proofs.Ytbmjhdjklpkhnaa
open Go.RowKit Go.Deep

/-- What is read of a list of numbers in memory. -/
theorem IntsAt.at_ {w : World} {a : Option Addr} {n c : Nat} {f : Nat → Int} (h : IntsAt w (.slice a n c) (listOf f n)) {k : Nat} (hk : k < n) : ∃ b o, a = some ⟨b, o, none⟩ ∧ b < w.heap.size ∧ ∀ j, j < n → w.cell? ⟨b, o + j, none⟩ = some (.int .i64 (f j)) := by
  obtain ⟨_, a', c', he, hz⟩ := h
  simp only [Value.slice.injEq] at he
  obtain ⟨rfl, _, _⟩ := he
  rcases hz with hz | ⟨b, o, h1, h2, h3⟩
  · have := congrArg List.length hz
    rw [listOf_length, List.length_nil] at this
    omega
  · refine ⟨b, o, h1, h2, fun j hj => ?_⟩
    have := h3 j (by rw [listOf_length]; exact hj)
    rwa [listOf_getD f hj] at this

theorem wayTo_bound {ts : List (Int × List Int)} {R T : Nat → Int} {l : List Nat} (hd : Deep ts R T) (h : Ways ts T l) {m : Nat} (hm : m ≤ l.length) : 0 ≤ wayTo ts l m ∧ wayTo ts l m ≤ 600 := by
  have h0 : ∀ m, m ≤ l.length → 0 ≤ wayTo ts l m := by
    intro m
    induction m with
    | zero => intro _; simp [wayTo]
    | succ m ih =>
      intro hm
      have := ih (by omega)
      have := hd.wk _ (h.at_ (m := m) (by omega)).1
      unfold wayTo; omega
  have h1 := wayTo_left h m hm
  have h2 := maxTo_le T ts.length 600 (by omega) (fun x _ => (hd.tlow x).2)
  have h3 : 0 ≤ leftOf ts T (l.take m).getLast? := by
    cases hL : (l.take m).getLast? with
    | none => exact maxTo_nonneg _ _
    | some x =>
      have hx : x ∈ l.take m := List.mem_of_getLast? hL
      obtain ⟨j, hj, he⟩ := List.getElem_of_mem hx
      have hjl : j < l.length := by rw [List.length_take] at hj; omega
      have hgx : l.getD j 0 = x := by rw [getD_eq hjl]; simpa using he
      have := hd.twk x (by rw [← hgx]; exact (h.at_ hjl).1)
      simp only [leftOf]; omega
  exact ⟨h0 m hm, by omega⟩

/-- What is read of a plan in memory. -/
theorem PlanAt.at_ {w : World} {a : Option Addr} {c : Nat} {ts : List (Int × List Int)} (h : PlanAt w (.slice a ts.length c) ts) {k : Nat} (hk : k < ts.length) :
    ∃ b o, a = some ⟨b, o, none⟩ ∧ b < w.heap.size ∧ ∀ j, j < ts.length → w.cell? ⟨b, o + j * 2, none⟩ = some (.int .i64 (wkOf ts j)) ∧ ∃ na nc, w.cell? ⟨b, o + j * 2 + 1, none⟩ = some (.slice na (needsOf ts j).length nc) ∧ IntsAt w (.slice na (needsOf ts j).length nc) (needsOf ts j) := by
  obtain ⟨_, a', c', he, hz⟩ := h
  simp only [Value.slice.injEq] at he
  obtain ⟨rfl, _, _⟩ := he
  rcases hz with hz | ⟨b, o, h1, h2, h3⟩
  · subst hz; simp at hk
  · refine ⟨b, o, h1, h2, fun j hj => ?_⟩
    obtain ⟨g1, nv, g2, g3⟩ := h3 j hj
    have g4 := g3
    obtain ⟨_, na, nc, rfl, _⟩ := g3
    exact ⟨g1, na, nc, g2, g4⟩
theorem IntsAt.way_ {w : World} {a : Option Addr} {c : Nat} {l : List Nat} (h : IntsAt w (.slice a l.length c) (intsOf l)) {k : Nat} (hk : k < l.length) : ∃ b o, a = some ⟨b, o, none⟩ ∧ b < w.heap.size ∧ ∀ j, j < l.length → w.cell? ⟨b, o + j, none⟩ = some (.int .i64 (l.getD j 0 : Nat)) := by
  obtain ⟨_, a', c', he, hz⟩ := h
  simp only [Value.slice.injEq] at he
  obtain ⟨rfl, _, _⟩ := he
  rcases hz with hz | ⟨b, o, h1, h2, h3⟩
  · have := congrArg List.length hz
    rw [intsOf_length, List.length_nil] at this
    omega
  · refine ⟨b, o, h1, h2, fun j hj => ?_⟩
    have := h3 j (by rw [intsOf_length]; exact hj)
    rwa [intsOf_getD] at this

set_option maxRecDepth 100000 in
set_option maxHeartbeats 8000000 in
theorem way_any (v : Value) (ts : List (Int × List Int)) (w : World) (hp : PlanAt w v ts) :
    Calls Try.prog 4 #[v] w fun e w' => e = .returned (.bool true) ∧ Below w.heap.size w w' := by
  have HP : Hid (PlanAt w v ts) := hp
  obtain ⟨hl, a, c, rfl, hp⟩ := hp
  clear hp
  go_enter Try.func4, Try.ntmps4
  go_wp2_with fail
  refine (fact_longest w).mono ?_
  rintro e w1 ⟨⟨fb, fo, fc, rfl, hf0, hf1⟩, hb1⟩
  go_wp2_with fail
  refine (longest_back _ ts w1 (HP.out.later hb1)).mono ?_
  rintro e w2 ⟨h, hb2⟩
  clear hf0 hf1
  have hB2 : Below w.heap.size w w2 := hb1.trans (hb2.mono hb1.size)
  clear hb1 hb2
  rcases h with ⟨q, hq, rfl⟩ | ⟨ord, way, wa, wc, hc, ho, hw, rfl, hwl, hwi⟩
  · have hev := errV_some hq
    rw [hev]
    clear hev
    go_wp2
    go_ret
    exact ⟨rfl, hB2⟩
  · have HD : Hid (Deep ts (ranksOf ts ord) (tailsOf ts ord)) := (Ready.of hc ho).deep
    have h30 := (Ready.of hc ho).small
    have HW : Hid (WayIs ts (tailsOf ts ord) way) := hw
    have HC : Hid (CheckIs ts 0 0) := hc
    have HO : Hid (OrdIs ts ord) := ho
    have HWI : Hid (IntsAt w2 (.slice wa way.length wc) (intsOf way)) := hwi
    clear hw hc ho hwi
    go_wp2_with fail
    refine (span_right _ ts ord w2 (HP.out.later hB2) HC.out HO.out).mono ?_
    rintro e w3 ⟨rfl, hb3⟩
    have hB3 : Below w.heap.size w w3 := hB2.trans (hb3.mono hB2.size)
    go_wp2_with fail
    refine (ranks_right _ ts ord w3 (HP.out.later hB3) HC.out HO.out).mono ?_
    rintro e w4 ⟨⟨ra, rc, rfl, hri⟩, hb4⟩
    have HRI : Hid (IntsAt w4 (.slice ra ts.length rc) (listOf (ranksOf ts ord) ts.length)) := hri
    clear hri
    have hB4 : Below w.heap.size w w4 := hB3.trans (hb4.mono hB3.size)
    go_wp2_with fail
    refine (tails_right _ ts ord w4 (HP.out.later hB4) HC.out HO.out).mono ?_
    rintro e w5 ⟨⟨ta, tc, rfl, hti⟩, hb5⟩
    have hB5 : Below w.heap.size w w5 := hB4.trans (hb5.mono hB4.size)
    have HTI : Hid (IntsAt w5 (.slice ta ts.length tc) (listOf (tailsOf ts ord) ts.length)) := hti
    have HRI5 : Hid (IntsAt w5 (.slice ra ts.length rc) (listOf (ranksOf ts ord) ts.length)) := HRI.out.later hb5
    have HWI5 : Hid (IntsAt w5 (.slice wa way.length wc) (intsOf way)) := ((HWI.out.later hb3).later hb4).later hb5
    have HP5 : Hid (PlanAt w5 (.slice a ts.length c) ts) := HP.out.later hB5
    clear hti HRI HWI hb3 hb4 hb5 hB2 hB3 hB4 HP
    generalize tailsOf ts ord = TT at *
    generalize ranksOf ts ord = RR at *
    have hnn : ((ts.length : Int) == (ts.length : Int)) = true := by simp
    go_wp2
    go_loopw [14, 15] (fun s14 s15 wr => ∃ i : Nat, i ≤ way.length ∧ s15 = .int .i64 i ∧ s14 = .int .i64 (wayTo ts way i) ∧ Below w5.heap.size w5 wr) (fun _ s15 _ => way.length - (intOf s15).toNat)
    case atStart => exact ⟨0, Nat.zero_le _, rfl, rfl, Below.refl _ _⟩
    case round =>
      obtain ⟨i, hi, rfl, rfl, hB⟩ := hrel
      by_cases hil : i < way.length
      · obtain ⟨wb, wo, rfl, hwb, hwc⟩ := HWI5.out.way_ hil
        obtain ⟨hxl, hneed⟩ := HW.out.1.at_ hil
        obtain ⟨pb, po, rfl, hpb, hpc⟩ := HP5.out.at_ hxl
        have hci := (hB.cell (p := ⟨wb, wo + i, none⟩) hwb).trans (hwc i hil)
        obtain ⟨hp1, na, nc, hp2, hin⟩ := hpc (way.getD i 0) hxl
        have hp1' := (hB.cell (p := ⟨pb, po + way.getD i 0 * 2, none⟩) hpb).trans hp1
        have hp2' := (hB.cell (p := ⟨pb, po + way.getD i 0 * 2 + 1, none⟩) hpb).trans hp2
        have hbd := wayTo_bound HD.out HW.out.1 hi
        have hwk := HD.out.wk _ hxl
        have HE : Hid (wayTo ts way (i + 1) = wayTo ts way i + wkOf ts (way.getD i 0)) := rfl
        by_cases hi0 : i = 0
        · have hiz : ¬ (0 : Int) < (i : Int) := by omega
          clear hneed hin hpc hwc hp1 hp2 hi0
          generalize wayTo ts way i = sm at *
          generalize wkOf ts (way.getD i 0) = wk at *
          generalize way.getD i 0 = x at *
          go_wp2
          go_roundw
          case rel => exact ⟨i + 1, by omega, by go_num, by rw [HE.out], hB⟩
          case measure => simp [intOf]; omega
        · have hiz : (0 : Int) < (i : Int) := by omega
          have hcj := (hB.cell (p := ⟨wb, wo + (i - 1), none⟩) hwb).trans (hwc (i - 1) (by omega))
          have hm : memB (needsOf ts (way.getD i 0)) (way.getD (i - 1) 0 : Nat) = true := decide_eq_true (hneed (by omega))
          have hcall := fun m => in_any _ (needsOf ts (way.getD i 0)) (way.getD (i - 1) 0 : Nat) (wr.drewN m) (hin.later (below_drewN hB m))
          rw [hm] at hcall
          clear hneed hin hpc hwc hp1 hp2 hm hi0
          generalize (needsOf ts (way.getD i 0)).length = nl at *
          generalize wayTo ts way i = sm at *
          generalize wkOf ts (way.getD i 0) = wk at *
          generalize way.getD i 0 = x at *
          generalize way.getD (i - 1) 0 = y at *
          go_wp2
          go_quiet ((go_at_call 10; refine Calls.quiet_of_same (hcall _)))
          go_wp2
          go_roundw
          case rel => exact ⟨i + 1, by omega, by go_num, by rw [HE.out], below_drewN hB _⟩
          case measure => simp [intOf]; omega
      · have hie : i = way.length := by omega
        subst hie
        have hsum := HW.out.sum HD.out
        rw [hsum]
        clear hsum hi hil
        have HBO : Hid (∀ x, x < ts.length → RR x + TT x ≤ maxTo TT ts.length) := HD.out.both
        have hsp0 := maxTo_nonneg TT ts.length
        have hsp1 := maxTo_le TT ts.length 600 (by omega) (fun x _ => (HD.out.tlow x).2)
        generalize maxTo TT ts.length = sp at *
        go_wp2
        go_loopw [17] (fun s17 wr => ∃ i : Nat, i ≤ ts.length ∧ s17 = .int .i64 i ∧ Below w5.heap.size w5 wr) (fun s17 _ => ts.length - (intOf s17).toNat)
        case atStart => exact ⟨0, Nat.zero_le _, rfl, hB⟩
        case round =>
          clear hB
          obtain ⟨i, hi, rfl, hB⟩ := hrel
          by_cases hil : i < ts.length
          · obtain ⟨rb, ro, rfl, hrb, hrc⟩ := HRI5.out.at_ hil
            obtain ⟨tb, to, rfl, htb, htc⟩ := HTI.out.at_ hil
            obtain ⟨pb, po, rfl, hpb, hpc⟩ := HP5.out.at_ hil
            have hr1 := (hB.cell (p := ⟨rb, ro + i, none⟩) hrb).trans (hrc i hil)
            have ht1 := (hB.cell (p := ⟨tb, to + i, none⟩) htb).trans (htc i hil)
            obtain ⟨hp1, na, nc, hp2, hin⟩ := hpc i hil
            have hp1' := (hB.cell (p := ⟨pb, po + i * 2, none⟩) hpb).trans hp1
            have hp2' := (hB.cell (p := ⟨pb, po + i * 2 + 1, none⟩) hpb).trans hp2
            have hbo := HBO.out i hil
            have hlr := HD.out.rlow i
            have hlt := HD.out.tlow i
            have htw := HD.out.twk i hil
            have hwk := HD.out.wk i hil
            have HRC : Hid (∀ j, j < ts.length → w5.cell? ⟨rb, ro + j, none⟩ = some (.int .i64 (RR j))) := hrc
            have HTC : Hid (∀ j, j < ts.length → w5.cell? ⟨tb, to + j, none⟩ = some (.int .i64 (TT j))) := htc
            have HPC : Hid (∀ j, j < ts.length → w5.cell? ⟨pb, po + j * 2, none⟩ = some (.int .i64 (wkOf ts j))) := fun j hj => (hpc j hj).1
            have HNB : Hid (∀ k, k < (needsOf ts i).length → ∃ y : Nat, y < ts.length ∧ Need ts i y ∧ (needsOf ts i).getD k 0 = (y : Int)) := fun k hk => by
              obtain ⟨h1, h2, h3⟩ := need_at HD.out.rng hil hk
              exact ⟨_, h1, h2, (Int.toNat_of_nonneg h3).symm⟩
            have HUP : Hid (∀ y, Need ts i y → RR y + wkOf ts y ≤ RR i ∧ wkOf ts y + TT i ≤ TT y) := fun y hy => ⟨HD.out.rup i hil y hy, HD.out.tup i hil y hy⟩
            have HRI : Hid (w5.cell? ⟨rb, ro + i, none⟩ = some (.int .i64 (RR i)) ∧ w5.cell? ⟨tb, to + i, none⟩ = some (.int .i64 (TT i)) ∧ w5.cell? ⟨pb, po + i * 2 + 1, none⟩ = some (.slice na (needsOf ts i).length nc)) := ⟨hrc i hil, htc i hil, hp2⟩
            obtain ⟨hln, na', nc', hne, hnz⟩ := hin
            simp only [Value.slice.injEq] at hne
            obtain ⟨rfl, _, rfl⟩ := hne
            have HNZ : Hid (needsOf ts i = [] ∨ ∃ b o, na = some ⟨b, o, none⟩ ∧ b < w5.heap.size ∧ ∀ k, k < (needsOf ts i).length → w5.cell? ⟨b, o + k, none⟩ = some (.int .i64 ((needsOf ts i).getD k 0))) := hnz
            clear hrc htc hpc hp1 hp2 hnz
            generalize hRi : RR i = ri at *
            generalize hTi : TT i = ti at *
            generalize hWi : wkOf ts i = wi at *
            generalize hNl : (needsOf ts i).length = nl at *
            have HRi : Hid (RR i = ri) := hRi
            have HTi : Hid (TT i = ti) := hTi
            have HNl : Hid ((needsOf ts i).length = nl) := hNl
            clear hRi hTi hWi hNl
            have g1 : decide (sp < ri + ti) = false := by simp; omega
            have g2 : decide (ri < 0) = false := by simp; omega
            have g3 : decide (ti < wi) = false := by simp; omega
            go_wp2
            go_quiet (fail)
            go_wp2
            clear hr1 ht1 hp1' hp2' g1 g2 g3
            go_loopw [18] (fun s18 wr => ∃ k : Nat, k ≤ nl ∧ s18 = .int .i64 k ∧ Below w5.heap.size w5 wr) (fun s18 _ => nl - (intOf s18).toNat)
            case atStart => exact ⟨0, Nat.zero_le _, rfl, below_drewN hB _⟩
            case round =>
              clear hB
              obtain ⟨k, hk, rfl, hB⟩ := hrel
              have hp2' := (hB.cell (p := ⟨pb, po + i * 2 + 1, none⟩) hpb).trans HRI.out.2.2
              by_cases hkl : k < nl
              · obtain ⟨y, hyl, hny, hyk⟩ := HNB.out k hkl
                rcases HNZ.out with hz | ⟨nb, no, hna, hnb, hnc⟩
                · have := congrArg List.length hz
                  rw [HNl.out, List.length_nil] at this
                  omega
                have hck := (hB.cell (p := ⟨nb, no + k, none⟩) hnb).trans (hnc k hkl)
                rw [hyk] at hck
                rw [hna] at hp2'
                have hr1 := (hB.cell (p := ⟨rb, ro + i, none⟩) hrb).trans HRI.out.1
                have ht1 := (hB.cell (p := ⟨tb, to + i, none⟩) htb).trans HRI.out.2.1
                have hr2 := (hB.cell (p := ⟨rb, ro + y, none⟩) hrb).trans (HRC.out y hyl)
                have ht2 := (hB.cell (p := ⟨tb, to + y, none⟩) htb).trans (HTC.out y hyl)
                have hpy := (hB.cell (p := ⟨pb, po + y * 2, none⟩) hpb).trans (HPC.out y hyl)
                have hup := HUP.out y hny
                have hlry := HD.out.rlow y
                have hlty := HD.out.tlow y
                have hwky := HD.out.wk y hyl
                clear hyk hnc hna hny
                generalize RR y = ry at *
                generalize TT y = ty at *
                generalize wkOf ts y = wy at *
                have g0 : decide ((y : Int) < 0) = false := decide_eq_false (by omega)
                have g1 : decide ((ts.length : Int) ≤ (y : Int)) = false := decide_eq_false (by omega)
                have g1n : decide (ts.length ≤ y) = false := decide_eq_false (by omega)
                have g1i : (y : Int) < (ts.length : Int) := by omega
                have g2 : decide (ri < ry + wy) = false := by simp; omega
                have g3 : decide (ty < ti + wy) = false := by simp; omega
                go_wp2
                go_quiet (fail)
                go_wp2
                go_roundw
                case rel => exact ⟨k + 1, by omega, by go_num, below_drewN hB _⟩
                case measure => simp [intOf]; omega
              · go_wp2
                go_roundw
                case rel => exact ⟨i + 1, by omega, by go_num, hB⟩
                case measure => simp [intOf]; omega
          · have hmm : (sp == sp) = true := by simp
            go_wp2
            go_ret
            exact ⟨rfl, hB5.trans (hB.mono hB5.size)⟩
end Go.Proofs.Ytbmjhdjklpkhnaa
