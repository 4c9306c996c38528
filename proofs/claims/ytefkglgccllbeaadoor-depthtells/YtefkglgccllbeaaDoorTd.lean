/- The document's own Span and Longest. -/
import Derived.Test.YtefkglgccllbeaaDoorTc
namespace Go.Proofs.YtefkglgccllbeaaDoor
open Go.RowKit Go.Deep

set_option maxRecDepth 100000 in
set_option maxHeartbeats 2000000 in
theorem spanR_any (v : Value) (ts : List (Int × List Int)) (w : World) (hp : PlanAt w v ts) (hck : CheckIs ts 0 0) :
    Calls Tryd.prog 17 #[v] w fun e w' => (∃ ord, OrdIs ts ord ∧ e = .returned (.int .i64 (maxTo (tailsOf ts ord) ts.length))) ∧ Below w.heap.size w w' := by
  have ht := tailsR_any v ts w hp hck
  obtain ⟨hl, a, c, rfl, hp⟩ := hp
  clear hp
  go_enter Tryd.func17, Tryd.ntmps17
  go_wp2_with fail
  refine ht.mono ?_
  rintro e w1 ⟨⟨ord, rv, ho, rfl, hi⟩, hb1⟩
  clear ht
  have HO : Hid (OrdIs ts ord) := ho
  clear ho
  obtain ⟨T, hT⟩ : ∃ T, tailsOf ts ord = T := ⟨_, rfl⟩
  have HT : Hid (tailsOf ts ord = T) := hT
  rw [hT] at hi
  clear hT
  obtain ⟨hl2, ra, rc, rfl, hrc⟩ := hi
  rw [listOf_length] at hl2 hrc ⊢
  have HC : Hid (∀ k, k < ts.length → ∃ b o, ra = some ⟨b, o, none⟩ ∧ w1.cell? ⟨b, o + k, none⟩ = some (.int .i64 (T k))) := fun k hk => by
    rcases hrc with h | ⟨b, o, h1, _, h3⟩
    · have := congrArg List.length h
      rw [listOf_length, List.length_nil] at this
      omega
    · exact ⟨b, o, h1, by have := h3 k hk; rwa [listOf_getD T hk] at this⟩
  clear hrc
  go_wp2
  go_loopw [4, 5] (fun s4 s5 wr => ∃ k : Nat, k ≤ ts.length ∧ s5 = .int .i64 k ∧ s4 = .int .i64 (maxTo T k) ∧ wr = w1) (fun _ s5 _ => ts.length - (intOf s5).toNat)
  case atStart => exact ⟨0, Nat.zero_le _, rfl, rfl, rfl⟩
  case round =>
    obtain ⟨k, hk, rfl, rfl, rfl⟩ := hrel
    by_cases hkl : k < ts.length
    · obtain ⟨b, o, rfl, hc⟩ := HC.out k hkl
      have HE : Hid (maxTo T (k + 1) = max (maxTo T k) (T k)) := rfl
      generalize maxTo T k = mk at *
      generalize T k = tk at *
      by_cases hgt : mk < tk
      · have HMX : Hid (max mk tk = tk) := Int.max_eq_right (by omega)
        go_wp2
        go_roundw
        case rel => exact ⟨k + 1, by omega, by go_num, by rw [HE.out, HMX.out], trivial⟩
        case measure => simp [intOf]; omega
      · have HMX : Hid (max mk tk = mk) := Int.max_eq_left (by omega)
        go_wp2
        go_roundw
        case rel => exact ⟨k + 1, by omega, by go_num, by rw [HE.out, HMX.out], trivial⟩
        case measure => simp [intOf]; omega
    · have hke : k = ts.length := by omega
      subst hke
      go_wp2
      go_ret
      exact ⟨⟨ord, HO.out, by rw [HT.out]; rfl⟩, hb1⟩

def lastI : Option Nat → Int
  | none => -1
  | some x => (x : Nat)
def okB (ts : List (Int × List Int)) : Option Nat → Nat → Bool
  | none, _ => true
  | some x, k => memB (needsOf ts k) x
theorem goesOn_ok (ts : List (Int × List Int)) (T : Nat → Int) (o : Option Nat) (k : Nat) : goesOn ts T o k = (okB ts o k && decide (T k = leftOf ts T o)) := by
  cases o with
  | none => rw [Bool.eq_iff_iff]; simp [goesOn, okB, leftOf]; exact ⟨fun h => decide_eq_true h, fun h => of_decide_eq_true h⟩
  | some x => rw [Bool.eq_iff_iff]; simp [goesOn, okB, leftOf, memB, and_comm]; exact fun _ => ⟨fun h => decide_eq_true h, fun h => of_decide_eq_true h⟩

set_option maxRecDepth 100000 in
set_option maxHeartbeats 8000000 in
theorem longestR_any (v : Value) (ts : List (Int × List Int)) (w : World) (hp : PlanAt w v ts) (hck : CheckIs ts 0 0) :
    Calls Tryd.prog 20 #[v] w fun e w' => (∃ ord way wv, OrdIs ts ord ∧ WayIs ts (tailsOf ts ord) way ∧ e = .returned wv ∧ IntsAt w' wv (intsOf way)) ∧ Below w.heap.size w w' := by
  have HP : Hid (PlanAt w v ts) := hp
  have HCK : Hid (CheckIs ts 0 0) := hck
  have ht := tailsR_any v ts w hp hck
  obtain ⟨hl, a, c, rfl, hp⟩ := hp
  clear hp hck
  obtain ⟨i3, hi3, hz0, hz1, hz2⟩ := info_parts Tryd.info3
  go_enter Tryd.func20, Tryd.ntmps20
  go_wp2_with fail
  refine ht.mono ?_
  rintro e w1 ⟨⟨ord, rv, ho, rfl, hi⟩, hb1⟩
  clear ht
  have hs := spanR_any _ ts w1 (HP.out.later hb1) HCK.out
  obtain ⟨T, hT⟩ : ∃ T, tailsOf ts ord = T := ⟨_, rfl⟩
  have HT : Hid (tailsOf ts ord = T) := hT
  have HD : Hid (Deep ts (ranksOf ts ord) T) := by show Deep _ _ _; rw [← hT]; exact (Ready.of HCK.out ho).deep
  have HO : Hid (OrdIs ts ord) := ho
  rw [hT] at hi
  clear hT ho
  obtain ⟨hl2, ra, rc, rfl, hrc⟩ := hi
  rw [listOf_length] at hl2 hrc ⊢
  have HRC : Hid (∀ k, k < ts.length → ∃ b o, ra = some ⟨b, o, none⟩ ∧ b < w1.heap.size ∧ w1.cell? ⟨b, o + k, none⟩ = some (.int .i64 (T k))) := fun k hk => by
    rcases hrc with h | ⟨b, o, h1, h2, h3⟩
    · have := congrArg List.length h
      rw [listOf_length, List.length_nil] at this
      omega
    · exact ⟨b, o, h1, h2, by have := h3 k hk; rwa [listOf_getD T hk] at this⟩
  clear hrc
  go_wp2_with fail
  refine hs.mono ?_
  rintro e w2 ⟨⟨ord2, ho2, rfl⟩, hb2⟩
  clear hs
  obtain rfl := HO.out.det ho2 HCK.out
  clear ho2
  rw [HT.out]
  have hB2 : Below w.heap.size w w2 := hb1.trans (hb2.mono hb1.size)
  have HC : Hid (∀ k, k < ts.length → ∃ b o, ra = some ⟨b, o, none⟩ ∧ b < w2.heap.size ∧ w2.cell? ⟨b, o + k, none⟩ = some (.int .i64 (T k))) := fun k hk => by
    obtain ⟨b, o, h1, h2, h3⟩ := HRC.out k hk
    exact ⟨b, o, h1, Nat.lt_of_lt_of_le h2 hb2.size, (hb2.cell (p := ⟨b, o + k, none⟩) h2).trans h3⟩
  have HPC : Hid (∀ k, k < ts.length → ∃ b o nv, a = some ⟨b, o, none⟩ ∧ b < w2.heap.size ∧ w2.cell? ⟨b, o + k * 2, none⟩ = some (.int .i64 (wkOf ts k)) ∧ w2.cell? ⟨b, o + k * 2 + 1, none⟩ = some nv ∧ IntsAt w2 nv (needsOf ts k)) := fun k hk => by
    obtain ⟨_, a', c', hva, hpc⟩ := HP.out.later hB2
    obtain rfl : a = a' := by simp at hva; exact hva.1
    rcases hpc with h | ⟨b, o, h1, h2, h3⟩
    · subst h; simp at hk
    · obtain ⟨g1, nv, g2, g3⟩ := h3 k hk
      exact ⟨b, o, nv, h1, h2, g1, g2, g3⟩
  clear HRC hb1 hb2
  have hmx : maxTo T ts.length ≤ 600 := maxTo_le T ts.length 600 (by omega) (fun x _ => (HD.out.tlow x).2)
  have hmn := maxTo_nonneg T ts.length
  go_wp2
  go_loopg [4, 5, 6] 601 (fun gg s4 s5 s6 wr => ∃ way : List Nat, s4 = .int .i64 (leftOf ts T way.getLast?) ∧ s5 = .int .i64 (lastI way.getLast?) ∧ Hid (wr.ownsRow w2.heap.size 3 1 s6 way.length (way.map natV)) ∧ Hid (Ways ts T way) ∧ Below w2.heap.size w2 wr ∧ Hid (0 ≤ leftOf ts T way.getLast? ∧ leftOf ts T way.getLast? ≤ gg) ∧ way.length + gg ≤ 601 ∧ Hid (∀ x, way.getLast? = some x → x < ts.length))
  case atStart => exact ⟨[], rfl, rfl, World.ownsRow_nil _ _ _ _, Ways.nil _ _, Below.refl _ _, ⟨hmn, by show maxTo T ts.length ≤ _; omega⟩, by simp, fun x h => by simp at h⟩
  case round =>
    obtain ⟨way, rfl, rfl, hown, hw, hB, hlf, hlen, hlast⟩ := hrel
    obtain ⟨o, ho⟩ : ∃ o, way.getLast? = o := ⟨_, rfl⟩
    have HL : Hid (way.getLast? = o) := ho
    rw [ho] at hlf hlast ⊢
    clear ho
    have hl1 := hlf.out
    have HG : Hid (∀ k, goesOn ts T o k = (okB ts o k && decide (T k = leftOf ts T o))) := goesOn_ok ts T o
    have HE : Hid (leftOf ts T o ≤ 0 → ∀ k, k < ts.length → goesOn ts T o k = false) := fun h k hk => HD.out.ends o h k hk
    have HS : Hid (0 < leftOf ts T o → ∃ k, k < ts.length ∧ goesOn ts T o k = true) := fun h => HD.out.goes o hlast.out h
    generalize leftOf ts T o = lf at *
    obtain ⟨oa, oc, rfl⟩ := owned_shape hown.out
    by_cases hpos : 0 < lf
    · go_wp2
      go_loopw [4, 5, 6, 7] (fun s4 s5 s6 s7 wr' => ∃ k : Nat, k ≤ ts.length ∧ s4 = .int .i64 lf ∧ s5 = .int .i64 (lastI o) ∧ s6 = .slice oa way.length oc ∧ s7 = .int .i64 k ∧ wr' = wr ∧ Hid (∀ j, j < k → goesOn ts T o j = false)) (fun _ _ _ s7 _ => ts.length - (intOf s7).toNat)
      case atStart => exact ⟨0, Nat.zero_le _, rfl, rfl, rfl, rfl, rfl, fun j hj => by omega⟩
      case round =>
        obtain ⟨k, hk, rfl, rfl, rfl, rfl, rfl, hno⟩ := hrel
        by_cases hkl : k < ts.length
        · obtain ⟨rb, ro, rfl, hrb, hrcell⟩ := HC.out k hkl
          obtain ⟨pb, po, nv, rfl, hpb, hp1, hp2, hin⟩ := HPC.out k hkl
          have hr' := (hB.cell (p := ⟨rb, ro + k, none⟩) hrb).trans hrcell
          have hp2' := (hB.cell (p := ⟨pb, po + k * 2 + 1, none⟩) hpb).trans hp2
          have HIN : Hid (IntsAt wr nv (needsOf ts k)) := hin.later ⟨hB.os, hB.tape, hB.output, hB.size, hB.block⟩
          have hgk := HG.out k
          have hTk := HD.out.tlow k
          have hwk := HD.out.wk k hkl
          have htw := HD.out.twk k hkl
          have HLT : Hid (leftOf ts T (some k) = T k - wkOf ts k) := rfl
          clear hrcell hp2 hin
          obtain ⟨na, nc, rfl⟩ : ∃ na nc, nv = .slice na (needsOf ts k).length nc := by
            obtain ⟨_, x, y, h, _⟩ := HIN.out
            exact ⟨x, y, h⟩
          generalize wkOf ts k = wx at *
          generalize T k = tk at *
          cases o with
          | none =>
            have hok : okB ts none k = true := rfl
            rw [hok, Bool.true_and] at hgk
            clear hok HIN
            by_cases hq : tk = lf
            · have HF : Hid (goesOn ts T none k = true) := hgk.trans (decide_eq_true hq)
              clear hgk
              subst hq
              dsimp only [lastI]
              have HGO : Hid (goesOn ts T way.getLast? k = true) := by show goesOn _ _ _ _ = true; rw [HL.out]; exact HF.out
              have HLI : Hid (LeastIs ts.length (goesOn ts T way.getLast?) (k : Nat)) := Or.inl ⟨k, hkl, fun j hj => by rw [HL.out]; exact hno.out j hj, HGO.out, rfl⟩
              clear HGO HF hno
              have hoa := hown.out.alloc (.cells #[.int .i64 (k : Nat)] 3)
              go_wp2_with (at_builtin; refine wpList_append_own _ rfl (.tmp 41) (.tmp 43) 28 rfl w2.heap.size 3 i3 (.int .i64 0) 1 8 Tryd.underlying28 hi3 hz0 hz1 hz2 rfl (by decide) _ way.length (way.map natV) rfl hoa ⟨wr.heap.size, 0, none⟩ 1 1 [.int .i64 (k : Nat)] rfl rfl ?c1 ?c2 ?c3 ?c4 ?c5 ?_)
              case c1 =>
                have hone := cell_one_new wr (.int .i64 (k : Nat)) 3
                simpa using hone
              case c2 => intro u hu; simp at hu; subst hu; rfl
              case c3 => unfold maxLen; omega
              case c4 => omega
              case c5 => have := hB.size; simp; omega
              intro v' w3 hown' hgrow _
              have hB3 : Below w2.heap.size w2 w3 := (hB.alloc hB.size _).grown hgrow (by have := hB.size; simp; omega) (fun j e => (hown.out.lt j e).1)
              have HOWN : Hid (w3.ownsRow w2.heap.size 3 1 v' (way ++ [k]).length ((way ++ [k]).map natV)) := by
                show w3.ownsRow _ _ _ _ _ _
                rw [List.length_append, List.map_append]; exact hown'
              have hp13 := (hB3.cell (p := ⟨pb, po + k * 2, none⟩) hpb).trans hp1
              clear hown' hgrow hoa hown hB hr' hp2'
              go_wp2
              go_roundg (gk - 1)
              case measure => omega
              case rel =>
                refine ⟨way ++ [k], ?_, ?_, HOWN, hw.out.snoc HLI.out, hB3, ?_, by simp; omega, fun y hy => ?_⟩
                · rw [getLast?_snoc, HLT.out]
                · rw [getLast?_snoc]; rfl
                · show 0 ≤ _ ∧ _
                  rw [getLast?_snoc, HLT.out]
                  omega
                · rw [getLast?_snoc] at hy
                  cases hy
                  exact hkl
            · have HF : Hid (goesOn ts T none k = false) := hgk.trans (decide_eq_false hq)
              have hne : (tk == lf) = false := by simp [hq]
              clear hgk
              dsimp only [lastI]
              go_wp2
              go_roundw
              case rel =>
                refine ⟨k + 1, by omega, rfl, rfl, rfl, by go_num, trivial, fun j hj => ?_⟩
                by_cases e : j = k
                · subst e; exact HF.out
                · exact hno.out j (by omega)
              case measure => simp [intOf]; omega
          | some x =>
            have hcf := (in_any _ (needsOf ts k) x wr HIN.out).mono (fun e w' h => (⟨h.1, h.2.symm⟩ : e = .returned (.bool (memB (needsOf ts k) x)) ∧ wr = w'))
            have hok : okB ts (some x) k = memB (needsOf ts k) x := rfl
            rw [hok] at hgk
            have hxn : ¬ ((x : Int) < 0) := by omega
            clear hok HIN
            cases hm : memB (needsOf ts k) x
            · rw [hm] at hgk hcf
              have HF : Hid (goesOn ts T (some x) k = false) := hgk
              clear hgk hm
              dsimp only [lastI]
              go_wp2_with (go_at_call 12; refine hcf.mono ?_; rintro e w' ⟨rfl, rfl⟩)
              go_roundw
              case rel =>
                refine ⟨k + 1, by omega, rfl, rfl, rfl, by go_num, trivial, fun j hj => ?_⟩
                by_cases e : j = k
                · subst e; exact HF.out
                · exact hno.out j (by omega)
              case measure => simp [intOf]; omega
            · rw [hm, Bool.true_and] at hgk
              rw [hm] at hcf
              by_cases hq : tk = lf
              · have HF : Hid (goesOn ts T (some x) k = true) := hgk.trans (decide_eq_true hq)
                clear hgk
                subst hq
                dsimp only [lastI]
                have HGO : Hid (goesOn ts T way.getLast? k = true) := by show goesOn _ _ _ _ = true; rw [HL.out]; exact HF.out
                have HLI : Hid (LeastIs ts.length (goesOn ts T way.getLast?) (k : Nat)) := Or.inl ⟨k, hkl, fun j hj => by rw [HL.out]; exact hno.out j hj, HGO.out, rfl⟩
                clear HGO HF hno
                have hoa := hown.out.alloc (.cells #[.int .i64 (k : Nat)] 3)
                go_wp2_with (first | (go_at_call 12; refine hcf.mono ?_; rintro e w' ⟨rfl, rfl⟩) | (at_builtin; refine wpList_append_own _ rfl (.tmp 41) (.tmp 43) 28 rfl w2.heap.size 3 i3 (.int .i64 0) 1 8 Tryd.underlying28 hi3 hz0 hz1 hz2 rfl (by decide) _ way.length (way.map natV) rfl hoa ⟨wr.heap.size, 0, none⟩ 1 1 [.int .i64 (k : Nat)] rfl rfl ?c1 ?c2 ?c3 ?c4 ?c5 ?_))
                case c1 =>
                  have hone := cell_one_new wr (.int .i64 (k : Nat)) 3
                  simpa using hone
                case c2 => intro u hu; simp at hu; subst hu; rfl
                case c3 => unfold maxLen; omega
                case c4 => omega
                case c5 => have := hB.size; simp; omega
                intro v' w3 hown' hgrow _
                have hB3 : Below w2.heap.size w2 w3 := (hB.alloc hB.size _).grown hgrow (by have := hB.size; simp; omega) (fun j e => (hown.out.lt j e).1)
                have HOWN : Hid (w3.ownsRow w2.heap.size 3 1 v' (way ++ [k]).length ((way ++ [k]).map natV)) := by
                  show w3.ownsRow _ _ _ _ _ _
                  rw [List.length_append, List.map_append]; exact hown'
                have hp13 := (hB3.cell (p := ⟨pb, po + k * 2, none⟩) hpb).trans hp1
                clear hown' hgrow hoa hown hB hr' hp2'
                go_wp2
                go_roundg (gk - 1)
                case measure => omega
                case rel =>
                  refine ⟨way ++ [k], ?_, ?_, HOWN, hw.out.snoc HLI.out, hB3, ?_, by simp; omega, fun y hy => ?_⟩
                  · rw [getLast?_snoc, HLT.out]
                  · rw [getLast?_snoc]; rfl
                  · show 0 ≤ _ ∧ _
                    rw [getLast?_snoc, HLT.out]
                    omega
                  · rw [getLast?_snoc] at hy
                    cases hy
                    exact hkl
              · have HF : Hid (goesOn ts T (some x) k = false) := hgk.trans (decide_eq_false hq)
                have hne : (tk == lf) = false := by simp [hq]
                clear hgk
                dsimp only [lastI]
                go_wp2_with (go_at_call 12; refine hcf.mono ?_; rintro e w' ⟨rfl, rfl⟩)
                go_roundw
                case rel =>
                  refine ⟨k + 1, by omega, rfl, rfl, rfl, by go_num, trivial, fun j hj => ?_⟩
                  by_cases e : j = k
                  · subst e; exact HF.out
                  · exact hno.out j (by omega)
                case measure => simp [intOf]; omega
        · exfalso
          obtain ⟨j, hj, hg⟩ := HS.out hpos
          rw [hno.out j (by omega)] at hg
          cases hg
    · go_wp2
      go_ret
      exact ⟨⟨ord, HO.out, way, by rw [HT.out]; exact ⟨hw.out, Or.inr ⟨by rw [HL.out]; exact HE.out (by omega), rfl⟩⟩, _, rfl, ints_of_owns hown.out (by omega)⟩, hB2.trans (hB.mono hB2.size)⟩
end Go.Proofs.YtefkglgccllbeaaDoor
