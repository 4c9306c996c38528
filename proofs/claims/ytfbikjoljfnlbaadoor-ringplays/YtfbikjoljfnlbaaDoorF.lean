/- The walk of RingPlays. -/
import Derived.Test.YtfbikjoljfnlbaaDoorE
import Derived.Test.YtfbikjoljfnlbaaDoorI
import Derived.Deep.CutRange
import Derived.Deep.CutBlock
namespace Go.Proofs.YtfbikjoljfnlbaaDoor
open Go.RowKit Go.Deep

theorem nil_or_snoc (xs : List Int) : xs = [] ∨ ∃ ys x, xs = ys ++ [x] := by
  rcases List.eq_nil_or_concat xs with h | ⟨ys, x, h⟩
  · exact Or.inl h
  · exact Or.inr ⟨ys, x, by rw [h]; simp⟩

/-- Between two steps: the ring has what the list reads. -/
structure PM (R room : Nat) (xs : List Int) (w wr : World) (m : Value) : Prop where
  ring : Rg R room xs wr
  list : Rds (R + 1) wr m xs
  below : Below w.heap.size w wr
  bR : w.heap.size ≤ R
theorem PM.kr {R room : Nat} {xs xs' : List Int} {w wr w' : World} {m m' : Value} (h : PM R room xs w wr m) (hr : Rg R room xs' w') (hl : Rds (R + 1) w' m' xs') (hk : Kr R wr w') : PM R room xs' w w' m' :=
  ⟨hr, hl, h.below.trans (hk.below h.bR h.below.size), h.bR⟩
theorem PM.later {R room : Nat} {xs : List Int} {w wr w' : World} {m : Value} (h : PM R room xs w wr m) (hb : Below wr.heap.size wr w') : PM R room xs w w' m :=
  ⟨h.ring.of_block (hb.block _ h.ring.lt), h.list.later hb, h.below.trans (hb.mono h.below.size), h.bR⟩

theorem err_ok (w : World) (hg : Typed w) : Calls Tryd.prog 5 #[.nilIface, .int .i64 0] w fun ev w' => ev = .returned (.bool true) ∧ Below w.heap.size w w' := error_any 0 0 w hg
theorem err_is (q : Int) (hq : q ≠ 0) (w : World) (hg : Typed w) : Calls Tryd.prog 5 #[errV q, .int .i64 q] w fun ev w' => ev = .returned (.bool true) ∧ Below w.heap.size w w' := by
  have := error_any q q w hg
  rw [errQ_some hq] at this
  simpa [errV] using this

set_option maxRecDepth 100000 in
theorem plays_bad (room : Int) (sv : Value) (w : World) (hg : Typed w) (h : room < 1 ∨ 16 < room) :
    Calls Tryd.prog 3 #[.int .i64 room, sv] w fun e w' => e = .returned (.bool true) ∧ Below w.heap.size w w' := by
  have hn := New_bad room w h
  have he := err_is 1 (by decide) w hg
  unfold errV at he
  by_cases h1 : room < 1
  · go_enter Tryd.func3, Tryd.ntmps3
    go_wp2_with (first | (go_at_call 4; refine hn.mono ?_; clear hn; rintro e w' ⟨rfl, rfl⟩) | (go_at_call 5; refine he.mono ?_; clear he; rintro e w2 ⟨rfl, hb⟩))
    go_ret
    exact ⟨rfl, hb⟩
  · have h2 : 16 < room := by omega
    go_enter Tryd.func3, Tryd.ntmps3
    go_wp2_with (first | (go_at_call 4; refine hn.mono ?_; clear hn; rintro e w' ⟨rfl, rfl⟩) | (go_at_call 5; refine he.mono ?_; clear he; rintro e w2 ⟨rfl, hb⟩))
    go_ret
    exact ⟨rfl, hb⟩

set_option maxRecDepth 100000 in
set_option maxHeartbeats 8000000 in
theorem plays_in (room : Nat) (zs : List Int) (sa : Option Addr) (sc : Nat) (w : World) (hg : Typed w) (h1 : 1 ≤ room) (h2 : room ≤ 16) (hs : ∀ k, k < zs.length → ∃ b off, sa = some ⟨b, off, none⟩ ∧ b < w.heap.size ∧ w.cell? ⟨b, off + k, none⟩ = some (.int .i64 (zs.getD k 0))) :
    Calls Tryd.prog 3 #[.int .i64 room, .slice sa zs.length sc] w fun e w' => e = .returned (.bool true) ∧ Below w.heap.size w w' := by
  have HS : Hid (∀ k, k < zs.length → ∃ b off, sa = some ⟨b, off, none⟩ ∧ b < w.heap.size ∧ w.cell? ⟨b, off + k, none⟩ = some (.int .i64 (zs.getD k 0))) := hs
  have HG : Hid (Typed w) := hg
  have hn := New_good room w h1 h2
  obtain ⟨i3, hi3, hy0, hy1, hy2⟩ := info_parts Tryd.info3
  clear hs hg
  have g1 : ¬ (room : Int) < 1 := by omega
  have g2 : ¬ (16 : Int) < (room : Int) := by omega
  go_enter Tryd.func3, Tryd.ntmps3
  go_wp2_with fail
  refine hn.mono ?_; clear hn; rintro e w1 ⟨rfl, hr1, hb1, hs1⟩
  obtain ⟨R, hR⟩ : ∃ R, R = w.heap.size := ⟨_, rfl⟩
  rw [← hR] at hr1 ⊢
  have he := err_ok w1 (HG.out.later hb1)
  have HW : Hid (PM R room [] w w1 (.slice none 0 0)) := ⟨hr1, Rds.nil _ _, hb1, by omega⟩
  clear hR hb1 hs1 hr1
  go_wp2_with fail
  refine he.mono ?_; clear he; rintro e w2 ⟨rfl, hb2⟩
  have HW2 : Hid (PM R room [] w w2 (.slice none 0 0)) := HW.out.later hb2
  clear HW hb2
  go_wp2
  go_loopg [9, 10] 100 (fun gg s9 s10 wr => ∃ (i : Nat) (xs : List Int), s10 = .int .i64 i ∧ i ≤ 100 ∧ Hid (PM R room xs w wr s9) ∧ 100 - i ≤ gg)
  case atStart => exact ⟨0, [], rfl, by omega, HW2, by omega⟩
  case round =>
    clear HW2
    obtain ⟨i, xs, rfl, hi, hM, hgg⟩ := hrel
    obtain ⟨G, rfl⟩ : ∃ G, G = gk := ⟨_, rfl⟩
    by_cases hgo : i < zs.length ∧ i < 100
    · obtain ⟨hil, hi100⟩ := hgo
      have hil' : (i : Int) < (zs.length : Int) := by omega
      have hi100' : (i : Int) < 100 := by omega
      obtain ⟨sb, so, rfl, hsb, hsc⟩ := HS.out i hil
      have hsc' := (hM.out.below.cell (p := ⟨sb, so + i, none⟩) hsb).trans hsc
      have HSC : Hid (w.cell? ⟨sb, so + i, none⟩ = some (.int .i64 (zs.getD i 0)) ∧ sb < w.heap.size) := ⟨hsc, hsb⟩
      clear hsc
      generalize zs.getD i 0 = z at *
      have hxl := hM.out.ring.le
      obtain ⟨ma, mc, hmv, hcap, hml⟩ := hM.out.list
      subst hmv
      have HML : Hid (∀ k, k < xs.length → ∃ b o, ma = some ⟨b, o, none⟩ ∧ R + 1 ≤ b ∧ b < wr.heap.size ∧ wr.cell? ⟨b, o + k, none⟩ = some (.int .i64 (xs.getD k 0))) := hml
      clear hml
      go_upto_block 2 with fail
      go_cut [5, 8, 9, 11, 12, 13, 14, 15, 16, 17, 18, 19, 20] from 43 to 164 (fun _ s8 s9 _ _ _ _ _ _ _ _ _ _ wx => ∃ xs' : List Int, s8 = .bool true ∧ Hid (PM R room xs' w wx s9))
      case first => as_aux_lemma =>
        by_cases h0 : z = 0
        · subst h0
          rcases nil_or_snoc xs with rfl | ⟨ys, x, rfl⟩
          · have hp := Pop_none R room wr hM.out.ring
            have he := err_is 5 (by decide) wr (HG.out.later hM.out.below)
            unfold errV at hp he
            simp only [List.length_nil] at *
            go_wp2_with (first | (go_at_call 6; refine hp.mono ?_; clear hp; rintro e w1 ⟨rfl, rfl⟩) | (go_at_call 5; refine he.mono ?_; clear he; rintro e w3 ⟨rfl, hb3⟩))
            go_meet
            exact ⟨[], rfl, hM.out.later hb3⟩
          · have hp := Pop_one R room x ys wr hM.out.ring
            obtain ⟨b, o, rfl, hb, hbl, hc⟩ := HML.out ys.length (by simp)
            rw [getD_snoc_at] at hc
            have hl2 := hM.out.list
            simp only [List.length_append, List.length_singleton] at *
            have hl3 : Hid (Rds (R + 1) wr (.slice (some ⟨b, o, none⟩) ys.length mc) ys) := hl2.init
            clear hl2
            go_wp2_with fail
            refine hp.mono ?_; clear hp; rintro e w1 ⟨rfl, hr1, hk1⟩
            have hM1 : Hid (PM R room ys w w1 (.slice (some ⟨b, o, none⟩) ys.length mc)) := hM.out.kr hr1 (hl3.out.kr hk1 (by omega)) hk1
            have he := err_ok w1 (HG.out.later hM1.out.below)
            have hxx : (x == x) = true := by simp
            clear hM hr1 hk1 hl3
            go_wp2_with (first | (go_at_call 5; refine he.mono ?_; clear he; rintro e w3 ⟨rfl, hb3⟩))
            go_meet
            exact ⟨ys, by simp, hM1.out.later hb3⟩
        by_cases h1z : z = 1
        · subst h1z
          rcases xs with _ | ⟨x, ys⟩
          · have hp := Steal_none R room wr hM.out.ring
            have he := err_is 5 (by decide) wr (HG.out.later hM.out.below)
            unfold errV at hp he
            simp only [List.length_nil] at *
            go_wp2_with (first | (go_at_call 7; refine hp.mono ?_; clear hp; rintro e w1 ⟨rfl, rfl⟩) | (go_at_call 5; refine he.mono ?_; clear he; rintro e w3 ⟨rfl, hb3⟩))
            go_meet
            exact ⟨[], rfl, hM.out.later hb3⟩
          · have hp := Steal_one R room x ys wr hM.out.ring
            obtain ⟨b, o, rfl, hb, hbl, hc⟩ := HML.out 0 (by simp)
            rw [Nat.add_zero] at hc
            simp only [List.getD_cons_zero] at hc
            have hl2 : Hid (Rds (R + 1) wr (.slice (some ⟨b, o, none⟩) (ys.length + 1) mc) (x :: ys)) := hM.out.list
            simp only [List.length_cons] at *
            by_cases hmc : mc = 1
            · subst hmc
              obtain rfl : ys = [] := List.eq_nil_of_length_eq_zero (by omega)
              have hl3 : Hid (Rds (R + 1) wr (.slice (some ⟨b, o, none⟩) 0 0) []) := hl2.out.tail (fun h => absurd rfl h) (by simp)
              simp only [List.length_nil] at *
              clear hl2
              go_wp2_with fail
              refine hp.mono ?_; clear hp; rintro e w1 ⟨rfl, hr1, hk1⟩
              have hM1 : Hid (PM R room [] w w1 (.slice (some ⟨b, o, none⟩) 0 0)) := hM.out.kr hr1 (hl3.out.kr hk1 (by omega)) hk1
              have he := err_ok w1 (HG.out.later hM1.out.below)
              have hxx : (x == x) = true := by simp
              clear hM hr1 hk1 hl3
              go_wp2_with (first | (go_at_call 5; refine he.mono ?_; clear he; rintro e w3 ⟨rfl, hb3⟩))
              go_meet
              exact ⟨[], by simp, hM1.out.later hb3⟩
            · have hl3 : Hid (Rds (R + 1) wr (.slice (some ⟨b, o + 1, none⟩) ys.length (mc - 1)) ys) := hl2.out.tail (fun _ => rfl) (by omega)
              have hmc1 : 1 < mc := by omega
              clear hl2
              go_wp2_with fail
              refine hp.mono ?_; clear hp; rintro e w1 ⟨rfl, hr1, hk1⟩
              have hM1 : Hid (PM R room ys w w1 (.slice (some ⟨b, o + 1, none⟩) ys.length (mc - 1))) := hM.out.kr hr1 (hl3.out.kr hk1 (by omega)) hk1
              have he := err_ok w1 (HG.out.later hM1.out.below)
              have hxx : (x == x) = true := by simp
              clear hM hr1 hk1 hl3
              go_wp2_with (first | (go_at_call 5; refine he.mono ?_; clear he; rintro e w3 ⟨rfl, hb3⟩))
              go_meet
              exact ⟨ys, by simp, hM1.out.later hb3⟩
        by_cases h2z : z = 2
        · subst h2z
          obtain ⟨n, hn⟩ : ∃ n, n = (xs.length + 1) / 2 := ⟨_, rfl⟩
          have hq : ((xs.length : Int) + 1).tdiv 2 = (n : Int) := by rw [Int.tdiv_eq_ediv_of_nonneg (by omega)]; omega
          have hq2 : ((xs.length : Int) + 1) / 2 = (n : Int) := by omega
          have hcu := cutting_any _ xs n wr (hM.out.list.mono (Nat.zero_le _)) (by omega)
          have HN : Hid (n = (xs.length + 1) / 2) := hn
          clear hn
          go_wp2_with fail
          refine hcu.mono ?_; clear hcu; rintro e w1 ⟨va, vb, rfl, hva, hvb, hb1⟩
          have hRl : R < wr.heap.size := hM.out.ring.lt
          have hh := Half_any R room xs w1 (hM.out.ring.of_block (hb1.block _ hRl))
          rw [← HN.out] at hh
          have hM1 : Hid (PM R room xs w w1 (.slice ma xs.length mc)) := hM.out.later hb1
          clear hM hq hq2
          go_wp2_with fail
          refine hh.mono ?_; clear hh; rintro e w2 ⟨⟨v, rfl, hv⟩, hr2, hk2⟩
          have hin := ints_same v va (xs.take n) w2 (hv.rds (Nat.zero_le _)) ((hva.kr hk2 hRl).mono (Nat.zero_le _)) (by simp; omega)
          have hM2 : Hid (PM R room (xs.drop n) w w2 vb) := hM1.out.kr hr2 ((hvb.kr hk2 hRl).mono (by omega)) hk2
          clear hM1 hva hvb hb1 hv hr2 hk2
          go_wp2_with (first | (go_at_call 10; refine hin.mono ?_; clear hin; rintro e w3 ⟨rfl, q, rfl⟩))
          go_meet
          exact ⟨_, rfl, hM2.out.later ⟨rfl, rfl, rfl, Nat.le_refl _, fun _ _ => rfl⟩⟩
        · have hz0 : (z == 0) = false := by simp [h0]
          have hz1 : (z == 1) = false := by simp [h1z]
          have hz2 : (z == 2) = false := by simp [h2z]
          by_cases hfull : xs.length = room
          · have hp := Push_full R room xs z wr hM.out.ring hfull
            have hrr : ((xs.length : Int) == (room : Int)) = true := by simp [hfull]
            unfold errV at hp
            clear hfull
            go_wp2_with fail
            refine hp.mono ?_; clear hp; rintro e w1 ⟨rfl, hr1, hk1⟩
            have hM1 : Hid (PM R room xs w w1 (.slice ma xs.length mc)) := hM.out.kr hr1 (hM.out.list.kr hk1 (by omega)) hk1
            have he := err_is 4 (by decide) w1 (HG.out.later hM1.out.below)
            unfold errV at he
            clear hM hr1 hk1
            go_wp2_with (first | (go_at_call 5; refine he.mono ?_; clear he; rintro e w3 ⟨rfl, hb3⟩))
            go_meet
            exact ⟨xs, rfl, hM1.out.later hb3⟩
          · have hrr : ((xs.length : Int) == (room : Int)) = false := by simp; omega
            have hxr : xs.length < room := by omega
            clear hfull
            rcases ma with _ | ad
            · have hx0 : xs = [] := by
                rcases xs with _ | ⟨x, ys⟩
                · rfl
                · obtain ⟨b, o, h, _⟩ := HML.out 0 (by simp)
                  cases h
              subst hx0
              have hown1 : wr.ownsRow wr.heap.size 3 1 (.slice none 0 0) 0 [] := World.ownsRow_nil _ _ _ _
              have hb1 : Below wr.heap.size wr wr := Below.refl _ _
              have hoa := hown1.alloc (.cells #[.int .i64 z] 3)
              simp only [List.length_nil] at *
              go_wp2_with (first | (at_builtin; refine wpList_append_own_at _ rfl (.tmp 64) (.tmp 69) 22 rfl wr.heap.size 3 i3 (.int .i64 0) 1 8 Tryd.underlying22 hi3 hy0 hy1 hy2 rfl (by decide) _ _ _ rfl hoa ⟨wr.heap.size, 0, none⟩ 1 1 [.int .i64 z] rfl rfl (cell_one_new wr (.int .i64 z) 3) ?c2 ?c3 ?c4 ?c5 ?_))
              case c2 => first | rfl | (intro u hu; simp at hu; subst hu; rfl)
              case c3 => unfold maxLen; omega
              case c4 => omega
              case c5 => first | omega | (simp; done) | (have := hb1.size; simp; omega)
              intro v2 w2 hown2 hgr2 _ _
              have hb2 : Below wr.heap.size wr w2 := (hb1.alloc hb1.size _).grown hgr2 (by simp) (fun j e => (hown1.lt j e).1)
              have hM2 : Hid (PM R room [] w w2 (.slice none 0 mc)) := hM.out.later hb2
              have hv2 : Hid (Rds (R + 1) w2 v2 ([z])) := owns_rds (n := 1) (B := wr.heap.size) (by simpa using hown2) (by have := hM.out.ring.lt; omega)
              have hsc2 := (hM2.out.below.cell (p := ⟨sb, so + i, none⟩) HSC.out.2).trans HSC.out.1
              have hp := Push_one R room [] z w2 hM2.out.ring (by omega)
              clear hM hown2 hgr2 hown1 hb1 hb2 hsc'
              go_wp2_with fail
              refine hp.mono ?_; clear hp; rintro e w3 ⟨rfl, hr3, hk3⟩
              have hM3 : Hid (PM R room ([z]) w w3 v2) := hM2.out.kr hr3 (hv2.out.kr hk3 (by omega)) hk3
              have he := err_ok w3 (HG.out.later hM3.out.below)
              clear hM2 hv2 hr3 hk3 hsc2
              go_wp2_with (first | (go_at_call 5; refine he.mono ?_; clear he; rintro e w4 ⟨rfl, hb4⟩))
              go_meet
              exact ⟨_, rfl, hM3.out.later hb4⟩
            · have hcl : ∀ j u, (xs.map (Value.int .i64))[j]? = some u → wr.cell? (ad.add j) = some u := by
                intro j u hu
                rw [List.getElem?_map] at hu
                obtain ⟨x, hx, rfl⟩ := Option.map_eq_some_iff.1 hu
                obtain ⟨hj, hx2⟩ := List.getElem?_eq_some_iff.1 hx
                obtain ⟨b, o, hao, _, _, hc⟩ := HML.out j hj
                obtain rfl := Option.some.inj hao
                rw [Addr.add_lit, hc, List.getD_eq_getElem?_getD, hx]
                rfl
              go_wp2_with (first | (at_builtin; refine wpList_append_own_at _ rfl (.tmp 61) (.tmp 62) 22 rfl wr.heap.size 3 i3 (.int .i64 0) 1 8 Tryd.underlying22 hi3 hy0 hy1 hy2 rfl (by decide) _ 0 [] rfl (World.ownsRow_nil _ _ _ _) ad xs.length mc (xs.map (Value.int .i64)) rfl (by simp) hcl ?d2 ?d3 ?d4 ?d5 ?_))
              case d2 => intro u hu; obtain ⟨x, _, rfl⟩ := List.mem_map.1 hu; rfl
              case d3 => unfold maxLen; omega
              case d4 => omega
              case d5 => exact Nat.le_refl _
              intro v1 w1 hown1' hgr1 _ _
              have hown1 : w1.ownsRow wr.heap.size 3 1 v1 xs.length (xs.map (Value.int .i64)) := by simpa using hown1'
              have hb1 : Below wr.heap.size wr w1 := (Below.refl _ _).grown hgr1 (Nat.le_refl _) (fun j e => by simp [Value.ownBlock] at e)
              obtain ⟨a1, c1, rfl⟩ := owned_shape hown1
              have hoa := hown1.alloc (.cells #[.int .i64 z] 3)
              have hsc1 := ((hM.out.later hb1).below.cell (p := ⟨sb, so + i, none⟩) HSC.out.2).trans HSC.out.1
              clear hown1' hgr1 hcl
              go_wp2_with (first | (at_builtin; refine wpList_append_own_at _ rfl (.tmp 64) (.tmp 69) 22 rfl wr.heap.size 3 i3 (.int .i64 0) 1 8 Tryd.underlying22 hi3 hy0 hy1 hy2 rfl (by decide) _ _ _ rfl hoa ⟨w1.heap.size, 0, none⟩ 1 1 [.int .i64 z] rfl rfl (cell_one_new w1 (.int .i64 z) 3) ?c2 ?c3 ?c4 ?c5 ?_))
              case c2 => first | rfl | (intro u hu; simp at hu; subst hu; rfl)
              case c3 => unfold maxLen; omega
              case c4 => omega
              case c5 => first | omega | (simp; done) | (have := hb1.size; simp; omega)
              intro v2 w2 hown2 hgr2 _ _
              clear hsc1
              have hb2 : Below wr.heap.size wr w2 := (hb1.alloc hb1.size _).grown hgr2 (by have := hb1.size; simp; omega) (fun j e => (hown1.lt j e).1)
              have hM2 : Hid (PM R room xs w w2 (.slice (some ad) xs.length mc)) := hM.out.later hb2
              have hv2 : Hid (Rds (R + 1) w2 v2 (xs ++ [z])) := owns_rds (n := xs.length + 1) (B := wr.heap.size) (by simpa using hown2) (by have := hM.out.ring.lt; omega)
              have hsc2 := (hM2.out.below.cell (p := ⟨sb, so + i, none⟩) HSC.out.2).trans HSC.out.1
              have hp := Push_one R room xs z w2 hM2.out.ring (by omega)
              clear hM hown2 hgr2 hown1 hb1 hb2 hsc'
              go_wp2_with fail
              refine hp.mono ?_; clear hp; rintro e w3 ⟨rfl, hr3, hk3⟩
              have hM3 : Hid (PM R room (xs ++ [z]) w w3 v2) := hM2.out.kr hr3 (hv2.out.kr hk3 (by omega)) hk3
              have he := err_ok w3 (HG.out.later hM3.out.below)
              clear hM2 hv2 hr3 hk3 hsc2
              go_wp2_with (first | (go_at_call 5; refine he.mono ?_; clear he; rintro e w4 ⟨rfl, hb4⟩))
              go_meet
              exact ⟨_, rfl, hM3.out.later hb4⟩
      case rest => as_aux_lemma =>
        obtain ⟨xs', rfl, hM2⟩ := hcut
        clear hM HML hsc' hcap hxl
        obtain ⟨ma, mc, hmv, hcap, hml⟩ := hM2.out.list
        subst hmv
        clear hml
        have hxl := hM2.out.ring.le
        have ha := All_any R room xs' wc hM2.out.ring
        go_wp2_with fail
        refine ha.mono ?_; clear ha; rintro e w1 ⟨⟨v, rfl, hv⟩, hr1, hk1⟩
        have hM3 : Hid (PM R room xs' w w1 (.slice ma xs'.length mc)) := hM2.out.kr hr1 (hM2.out.list.kr hk1 (by omega)) hk1
        have hin := ints_same v _ xs' w1 (hv.rds (Nat.zero_le _)) (hM3.out.list.mono (Nat.zero_le _)) (by omega)
        clear hM2 hv hr1 hk1
        go_wp2_with fail
        refine hin.mono ?_; clear hin; rintro e w2 ⟨rfl, q, rfl⟩
        have hM4 : Hid (PM R room xs' w (w1.drewN q) (.slice ma xs'.length mc)) := hM3.out.later ⟨rfl, rfl, rfl, Nat.le_refl _, fun _ _ => rfl⟩
        have hle := Len_any R room xs' _ hM4.out.ring
        have hrr : ((xs'.length : Int) != (xs'.length : Int)) = false := by simp
        clear hM3
        go_wp2_with (first | (go_at_call 13; refine hle.mono ?_; clear hle; rintro e w3 ⟨rfl, rfl⟩))
        go_roundg (100 - (i + 1))
        case measure => omega
        case rel => exact ⟨i + 1, xs', by go_num, by omega, hM4, Nat.le_refl _⟩
    · have hB : Below w.heap.size w wr := hM.out.below
      by_cases hil : i < zs.length
      · have hil' : (i : Int) < (zs.length : Int) := by omega
        have hi100' : ¬ (i : Int) < 100 := by omega
        go_wp2
        go_ret
        exact ⟨rfl, hB⟩
      · have hil' : ¬ (i : Int) < (zs.length : Int) := by omega
        go_wp2
        go_ret
        exact ⟨rfl, hB⟩
end Go.Proofs.YtfbikjoljfnlbaaDoor
