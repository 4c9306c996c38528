/- The walk of TraceWords. -/
import Derived.Test.YtpodlingdodphaaDoorTpr
import Derived.Test.YtpodlingdodphaaDoorTcu
import Derived.Test.YtpodlingdodphaaDoorTb
namespace Go.Proofs.YtpodlingdodphaaDoor
open Go.RowKit Go.Deep

theorem woke_text : (if deedsErr [(6, 3, 0, 0)] = 0 then deedsText [(6, 3, 0, 0)] else []) = [119, 111, 107, 101, 32, 51, 10] := by decide +kernel
theorem woke_ok : deedsErr [(6, 3, 0, 0)] = 0 := by decide +kernel
set_option maxRecDepth 100000 in
set_option maxHeartbeats 4000000 in
theorem traceWords_any (v : Value) (ds : List Deed) (w : World) (hv : DeedsAt w v ds) (hf : FormsAt w) :
    Calls Tryd.prog 4 #[v] w fun e w' => e = .returned (.bool true) ∧ Below w.heap.size w w' := by
  have hb1 : Below w.heap.size w (w.alloc (.cells #[.int .i64 6, .int .i64 3, .int .i64 0, .int .i64 0] 30)) := (Below.refl _ _).alloc (Nat.le_refl _) _
  have hp1 := print_any _ [(6, 3, 0, 0)] _ ((RowD.one w (6, 3, 0, 0)).at (by decide)) (hf.later hb1)
  rw [woke_text, woke_ok, errV_zero] at hp1
  have HB1 : Hid (Below w.heap.size w (w.alloc (.cells #[.int .i64 6, .int .i64 3, .int .i64 0, .int .i64 0] 30))) := hb1
  have HP2 : Hid (∀ w2, Below w.heap.size w w2 → Calls Tryd.prog 6 #[v] w2 fun e w' => e = .returned (.tuple #[.string ⟨(if deedsErr ds = 0 then deedsText ds else []).toArray⟩, errV (deedsErr ds)]) ∧ Below w2.heap.size w2 w') := fun w2 hb => print_any v ds w2 (hv.later hb) (hf.later hb)
  obtain ⟨_, a, c, rfl, _⟩ := hv
  clear hf hb1
  by_cases he : deedsErr ds = 0
  case neg =>
    rw [if_neg he, errV_some he] at HP2
    generalize deedsErr ds = de at *
    clear he
    go_enter Tryd.func4, Tryd.ntmps4
    go_wp2_with fail
    refine hp1.mono ?_
    clear hp1
    rintro e w1 ⟨rfl, hb1⟩
    have HB2 : Hid (Below w.heap.size w w1) := HB1.out.trans (hb1.mono (by simp))
    have hp2 := HP2.out w1 HB2.out
    clear HP2 hb1 HB1
    go_wp2_with fail
    refine hp2.mono ?_
    clear hp2
    rintro e w2 ⟨rfl, hb2⟩
    have HB3 : Hid (Below w.heap.size w w2) := HB2.out.trans (hb2.mono HB2.out.size)
    clear hb2
    go_wp2
    go_ret
    exact ⟨rfl, HB3.out⟩
  case pos =>
    rw [if_pos he, he, errV_zero] at HP2
    obtain ⟨hl, hok⟩ := deedsErr_zero he
    have hlm := lines_many hok
    have hcu := fun wx => cutR_any (deedsText ds) 10 wx (by have := deedsText_len ds hok; omega)
    rw [hlm] at hcu
    rw [show (((10 : UInt8).toNat : Nat) : Int) = 10 from rfl] at hcu
    clear he hok hlm
    go_enter Tryd.func4, Tryd.ntmps4
    go_wp2_with fail
    refine hp1.mono ?_
    clear hp1
    rintro e w1 ⟨rfl, hb1⟩
    have HB2 : Hid (Below w.heap.size w w1) := HB1.out.trans (hb1.mono (by simp))
    have hp2 := HP2.out w1 HB2.out
    clear HP2 hb1 HB1
    go_wp2_with fail
    refine hp2.mono ?_
    clear hp2
    rintro e w2 ⟨rfl, hb2⟩
    have HB3 : Hid (Below w.heap.size w w2) := HB2.out.trans (hb2.mono HB2.out.size)
    clear hb2
    go_wp2_with fail
    refine (hcu w2).mono ?_
    clear hcu
    rintro e w3 ⟨⟨ov, rfl, hov⟩, hb3⟩
    obtain ⟨ao, co, rfl⟩ : ∃ ao co, ov = .slice ao (ds.length + 1) co := by
      rcases hov.2 with ⟨_, h0⟩ | ⟨g, cap, cur, hv, _⟩
      · omega
      · exact ⟨_, _, hv⟩
    have HB4 : Hid (Below w.heap.size w w3) := HB3.out.trans (hb3.mono HB3.out.size)
    clear hov hb3
    go_wp2
    go_ret
    exact ⟨by simp, HB4.out⟩
end Go.Proofs.YtpodlingdodphaaDoor
