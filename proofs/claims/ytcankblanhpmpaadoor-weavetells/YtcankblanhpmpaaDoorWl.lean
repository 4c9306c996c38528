/- The walk of WeaveDeep. -/
import Derived.Test.YtcankblanhpmpaaDoorWk
import Derived.Test.YtcankblanhpmpaaDoorI
import Derived.Test.YtcankblanhpmpaaDoorM
namespace Go.Proofs.YtcankblanhpmpaaDoor
open Go.RowKit Go.Deep

theorem bytes_app (l m : List UInt8) : (⟨l.toArray⟩ : ByteArray) ++ ⟨m.toArray⟩ = ⟨(l ++ m).toArray⟩ := by
  apply ByteArray.ext
  simp [ByteArray.data_append]
theorem val_string {a b : ByteArray} (h : a = b) : Value.string a = .string b := by rw [h]

theorem lay_count (t : Tree) : (t.lay V1 []).length = t.count := by rw [t.lay_length]; simp

theorem parse_ok {l : List UInt8} {t : Tree} (w : World) (hok : WeaveOk l t) :
    Calls Tryd.prog 7 #[.string ⟨l.toArray⟩] w fun e w' => (∃ a c, e = .returned (.tuple #[.slice a t.count c, .int .i64 (t.work V1), .int .i64 (t.span V1), .nilIface]) ∧ PlanAt w' (.slice a t.count c) (t.lay V1 [])) ∧ Below w.heap.size w w' := by
  refine (parse_any l w (by have := hok.1; omega)).mono ?_
  rintro e w' ⟨hb, h⟩
  refine ⟨?_, hb⟩
  rcases h with ⟨q, hq, he, _⟩ | ⟨t', tv, hok', rfl, hp⟩
  · exact (he.not_ok hq hok).elim
  · obtain rfl := hok.det hok'
    have hp2 := hp
    obtain ⟨_, a, c, rfl, _⟩ := hp
    rw [lay_count] at hp2 ⊢
    exact ⟨a, c, rfl, hp2⟩
theorem parse_long {l : List UInt8} (w : World) (h200 : 200 < l.length) (hl : l.length ≤ 9223372036854775807) :
    Calls Tryd.prog 7 #[.string ⟨l.toArray⟩] w fun e w' => e = .returned (.tuple #[.slice none 0 0, .int .i64 0, .int .i64 0, errV 4]) ∧ Below w.heap.size w w' := by
  refine (parse_any l w hl).mono ?_
  rintro e w' ⟨hb, h⟩
  refine ⟨?_, hb⟩
  rcases h with ⟨q, hq, he, rfl⟩ | ⟨t', tv, hok', rfl, hp⟩
  · rcases he with ⟨_, rfl⟩ | ⟨h, _⟩ | ⟨_, h, _⟩
    · rfl
    · omega
    · omega
  · have := hok'.1; omega

theorem same_world {w w' : World} {n : Nat} (h : w' = w.drewN n) : Below w.heap.size w w' := by subst h; exact ⟨rfl, rfl, rfl, Nat.le_refl _, fun _ _ => rfl⟩

set_option maxRecDepth 100000 in
set_option maxHeartbeats 4000000 in
theorem weaveDeep_any (l : List UInt8) (n : Int) (w : World) (hl : l.length ≤ 9223372036854775807) (hg : Typed w) :
    Calls Tryd.prog 5 #[.string ⟨l.toArray⟩, .int .i64 n] w fun e w' => e = .returned (.bool true) ∧ Below w.heap.size w w' := by
  have HG : Hid (Typed w) := hg
  clear hg
  go_enter Tryd.func5, Tryd.ntmps5
  go_wp2_with fail
  refine (parse_ok (l := [40, 40, 50, 41, 41]) w two_ok).mono ?_
  rintro e w1 ⟨⟨fa, fc, rfl, _⟩, hb1⟩
  have e1 : (Tree.num [50]).work V1 = 2 := by decide
  have e2 : (Tree.num [50]).span V1 = 2 := by decide
  have e3 : (Tree.num [50]).count = 1 := rfl
  rw [e1, e2, e3]
  clear e1 e2 e3
  go_wp2_with fail
  refine (parse_any l w1 hl).mono ?_
  rintro e w2 ⟨hb2, h⟩
  have hB2 : Below w.heap.size w w2 := hb1.trans (hb2.mono hb1.size)
  clear hb1 hb2
  rcases h with ⟨q, hq, _, rfl⟩ | ⟨t, tv, hok, rfl, hp⟩
  · rw [errV_some hq]
    go_wp2
    go_ret
    exact ⟨rfl, hB2⟩
  have HP : Hid (PlanAt w2 tv (t.lay V1 [])) := hp
  obtain ⟨_, pa, pc, rfl, _⟩ := hp
  by_cases h0 : n < 0
  · go_wp2
    go_ret
    exact ⟨rfl, hB2⟩
  by_cases h20 : 20 < n
  · go_wp2
    go_ret
    exact ⟨rfl, hB2⟩
  obtain ⟨m, rfl⟩ := Int.eq_ofNat_of_zero_le (show 0 ≤ n by omega)
  have hm : m ≤ 20 := by omega
  have hl200 := hok.1
  have HOK : Hid (WeaveOk l t) := hok
  clear hok
  go_wp2
  go_loopw [13, 14] (fun s13 s14 wr => ∃ j : Nat, j ≤ m ∧ s14 = .int .i64 j ∧ s13 = .string ⟨(wrapN j l).toArray⟩ ∧ Below w2.heap.size w2 wr) (fun _ s14 _ => m - (intOf s14).toNat)
  case atStart => exact ⟨0, Nat.zero_le _, rfl, rfl, Below.refl _ _⟩
  case round =>
    obtain ⟨j, hj, rfl, rfl, hB⟩ := hrel
    have hlen := wrapN_length j l
    by_cases hjm : j < m
    · have hlen2 : (wrapN j l).length ≤ 300 := by omega
      have HS : Hid ((⟨#[40]⟩ : ByteArray) ++ ⟨(wrapN j l).toArray⟩ ++ ⟨#[41]⟩ = ⟨(wrapN (j + 1) l).toArray⟩) := by
        show _ = _
        rw [show (⟨#[40]⟩ : ByteArray) = ⟨[40].toArray⟩ from rfl, show (⟨#[41]⟩ : ByteArray) = ⟨[41].toArray⟩ from rfl, bytes_app, bytes_app]
        rfl
      clear hlen
      generalize wrapN j l = u at *
      go_wp2
      go_roundw
      case rel => exact ⟨j + 1, by omega, by go_num, val_string HS.out, hB⟩
      case measure => simp [intOf]; omega
    · have hje : j = m := by omega
      subst hje
      have hBr : Below w.heap.size w wr := hB2.trans (hB.mono hB2.size)
      have HPr : Hid (PlanAt wr (.slice pa (t.lay V1 []).length pc) (t.lay V1 [])) := HP.out.later hB
      clear HP hB
      by_cases hlong : 200 < (wrapN j l).length
      · have hlI : (200 : Int) < ((wrapN j l).length : Int) := by omega
        go_wp2_with fail
        refine (parse_long wr hlong (by omega)).mono ?_
        rintro e w3 ⟨rfl, hb3⟩
        have hB3 : Below w.heap.size w w3 := hBr.trans (hb3.mono hBr.size)
        have herr := error_any 4 4 w3 (HG.out.later hB3)
        clear hb3 HPr
        go_wp2_with (go_at_call 8; refine herr.mono ?_; rintro e w4 ⟨rfl, hb4⟩)
        go_ret
        exact ⟨rfl, hB3.trans (hb4.mono hB3.size)⟩
      · have hlI : ¬ (200 : Int) < ((wrapN j l).length : Int) := by omega
        have hok2 : WeaveOk (wrapN j l) t := ⟨by omega, HOK.out.2.1.wrap j, HOK.out.2.2⟩
        go_wp2_with fail
        refine (parse_ok wr hok2).mono ?_
        rintro e w3 ⟨⟨qa, qc, rfl, hq⟩, hb3⟩
        have hB3 : Below w.heap.size w w3 := hBr.trans (hb3.mono hBr.size)
        have hsame := samePlan_any _ _ _ _ w3 (HPr.out.later hb3) hq
        rw [decide_eq_true rfl] at hsame
        have hx : (t.work V1 == t.work V1) = true := by simp
        have hy : (t.span V1 == t.span V1) = true := by simp
        clear hq hb3 HPr hok2
        go_wp2_with (go_at_call 9; refine hsame.mono ?_; rintro e w4 ⟨rfl, m4, hw4⟩)
        have hB4 : Below w.heap.size w (w3.drewN m4) := hB3.trans ((same_world rfl).mono hB3.size)
        go_ret
        exact ⟨rfl, hB4⟩
end Go.Proofs.YtcankblanhpmpaaDoor
