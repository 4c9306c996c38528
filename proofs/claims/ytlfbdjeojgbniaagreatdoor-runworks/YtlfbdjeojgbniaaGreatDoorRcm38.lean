/- What a line asks: the closures of withText, withNumbers; do; answer. do, answer: what a line answers. strings.Builder: what else is kept, block by block. strings.Builder: WriteString, WriteByte, and what else is kept. -/
import Derived.Test.YtlfbdjeojgbniaaGreatDoorRcm37
import Derived.Test.YtlfbdjeojgbniaaGreatDoorRcm19

namespace Go.Proofs.YtlfbdjeojgbniaaGreatDoor
open Go.RowKit Go.Deep

variable {q : Addr} {W0 : World} {Y X : Nat → Prop} {S : Nat} {d : Desk} {w : World}
/-- What asks with a text, and with so many numbers. -/
def textR (f : Nat) (d : Desk) (rest : List UInt8) : Desk → List UInt8 → Prop := if f = 49 then WeaveIs d rest else PlanIs d rest
theorem metT_any (h : DeskAt W0 Y X S d w) (hv : Vars q W0) (f : Nat) (hf : f = 49 ∨ f = 50) (l : List UInt8) (hl : l.length ≤ 1048576) :
    Calls Tryz.prog f #[.pointer (some ⟨S, 0, none⟩), .string ⟨l.toArray⟩] w (LineEnd q W0 Y X S (textR f d l) w) := by
  rcases hf with rfl | rfl
  · exact readWeave_any h hv l hl
  · exact readPlan_any h hv l hl
def numR2 (f : Nat) (d : Desk) (ns : List Nat) : Desk → List UInt8 → Prop :=
  if f = 52 then fun d' o => d' = d ∧ o = planText d.ts
  else if f = 53 then GreedyIs d (ns.getD 0 0)
  else if f = 54 then GangIs d (ns.getD 0 0)
  else if f = 55 then StepIs d (ns.getD 0 0) (ns.getD 1 0)
  else fun d' o => d' = d ∧ LeftIs d o
/-- So many numbers does it ask for. -/
def CountIs (c f : Nat) : Prop := (f = 52 ∧ c = 0) ∨ (f = 53 ∧ c = 1) ∨ (f = 54 ∧ c = 1) ∨ (f = 55 ∧ c = 2) ∨ (f = 56 ∧ c = 0)
theorem metN_any (h : DeskAt W0 Y X S d w) (hv : Vars q W0) (c f : Nat) (hf : CountIs c f) (B : Nat) (v : Value) (ns : List Nat) (hn : NumsIn B w v ns) (hc : ns.length = c) (hs : ∀ n, n ∈ ns → n < 10000) :
    Calls Tryz.prog f #[.pointer (some ⟨S, 0, none⟩), v] w (LineEnd q W0 Y X S (numR2 f d ns) w) := by
  rcases hf with ⟨rfl, rfl⟩ | ⟨rfl, rfl⟩ | ⟨rfl, rfl⟩ | ⟨rfl, rfl⟩ | ⟨rfl, rfl⟩
  · exact show_any h v
  · obtain ⟨n, rfl⟩ := List.length_eq_one_iff.1 hc
    exact greedyS_any h hv v n (hn.args (by simp))
  · obtain ⟨n, rfl⟩ := List.length_eq_one_iff.1 hc
    exact newGang_any h v n (hn.args (by simp))
  · obtain ⟨n, k, rfl⟩ : ∃ n k, ns = [n, k] := by
      match ns, hc with
      | [n, k], _ => exact ⟨n, k, rfl⟩
    exact stepS_any h hv v n k (hn.args (by simp)) (hs k (by simp))
  · exact leftS_any h hv v
theorem metF_enter (f : Nat) (hf : f = 49 ∨ f = 50 ∨ f = 52 ∨ f = 53 ∨ f = 54 ∨ f = 55 ∨ f = 56) : ∀ args w, (callFunc f args).run Tryz.prog w = .ok (.enter f args) w := by
  rcases hf with rfl | rfl | rfl | rfl | rfl | rfl | rfl
  · exact enters_of Tryz.func49 (by kernel_rfl) rfl
  · exact enters_of Tryz.func50 (by kernel_rfl) rfl
  · exact enters_of Tryz.func52 (by kernel_rfl) rfl
  · exact enters_of Tryz.func53 (by kernel_rfl) rfl
  · exact enters_of Tryz.func54 (by kernel_rfl) rfl
  · exact enters_of Tryz.func55 (by kernel_rfl) rfl
  · exact enters_of Tryz.func56 (by kernel_rfl) rfl
theorem LineEnd.mono {R R' : Desk → List UInt8 → Prop} {e : Ending} {w' : World} (h : LineEnd q W0 Y X S R w e w') (hR : ∀ d o, R d o → R' d o) : LineEnd q W0 Y X S R' w e w' := by
  obtain ⟨d', o, ev, he, ht, hl, hm⟩ := h
  refine ⟨d', o, ev, he, ?_, hl, hm⟩
  rcases ht with ⟨h1, h2⟩ | ⟨n, h1, h2, h3, h4⟩ | ⟨h1, h2⟩
  · exact Or.inl ⟨h1, hR _ _ h2⟩
  · exact Or.inr (Or.inl ⟨n, h1, h2, h3, hR _ _ h4⟩)
  · exact Or.inr (Or.inr ⟨h1, hR _ _ h2⟩)
theorem LineEnd.ahead {R : Desk → List UInt8 → Prop} {w1 w2 : World} {e : Ending} (h : LineEnd q W0 Y (andNew X w.heap.size w1.heap.size) S R w1 e w2) (hb : Below w.heap.size w w1) (hl : ∀ k, X k → k < w.heap.size) : LineEnd q W0 Y X S R w e w2 := by
  obtain ⟨d', o, ev, he, ht, hlen, hm⟩ := h
  exact ⟨d', o, ev, he, ht, hlen, hm.ahead hb hl⟩
/-- An ask of a text. -/
def textA (f : Nat) (d : Desk) (rest : List UInt8) (more : Bool) : Desk → List UInt8 → Prop := if more then textR f d rest else fun d' o => d' = d ∧ o = badT
set_option maxRecDepth 100000 in
theorem closT_any (h : DeskAt W0 Y X S d w) (hv : Vars q W0) (f : Nat) (hf : f = 49 ∨ f = 50) (b : Nat) (hc : w.cell? ⟨b, 0, none⟩ = some (metV S f)) (rest : List UInt8) (more : Bool) (hl : rest.length ≤ 1048576) :
    Calls Tryz.prog 85 #[.string ⟨rest.toArray⟩, .bool more, .pointer (some ⟨b, 0, none⟩)] w (LineEnd q W0 Y X S (textA f d rest more) w) := by
  cases more with
  | false =>
    have hbad := (h.belowV hv).bad
    have HD : Hid (DeskAt W0 Y X S d w) := h
    have HR : Hid (textA f d rest false d badT) := ⟨rfl, rfl⟩
    clear h hv hc hf
    go_enter Tryz.func85, Tryz.ntmps85
    go_wp2
    go_quiet (fail)
    go_wp2
    go_ret2
    exact LineEnd.bad HR.out (HD.out.stays (drewS w _))
  | true =>
    have hm := metT_any h hv f hf rest hl
    have hen := metF_enter f (by rcases hf with rfl | rfl <;> simp)
    have HR : Hid (textA f d rest true = textR f d rest) := rfl
    unfold metV at hc
    clear h hv hf
    go_enter Tryz.func85, Tryz.ntmps85
    go_wp2_with (first | (go_at_fn f; refine hm.mono ?_; clear hm; rintro e w2 ⟨d', o, ev, rfl, ht, hlen, hmv⟩; have HF : Hid (LineEnd q W0 Y X S (textR f d rest) w (.returned (.tuple #[.string ⟨o.toArray⟩, ev])) w2) := ⟨d', o, ev, rfl, ht, hlen, hmv⟩; clear ht hlen hmv))
    go_ret2
    rw [HR.out]
    exact HF.out
/-- An ask of so many numbers. -/
def numA (c f : Nat) (d : Desk) (rest : List UInt8) (more : Bool) : Desk → List UInt8 → Prop :=
  match argsOf rest more with
  | none => fun d' o => d' = d ∧ o = badT
  | some ns => if ns.length = c then numR2 f d ns else fun d' o => d' = d ∧ o = badT
theorem args_small {rest : List UInt8} {more : Bool} {ns : List Nat} (h : argsOf rest more = some ns) : ∀ n, n ∈ ns → n < 10000 := by
  cases more with
  | false => cases h; intro n hn; simp at hn
  | true =>
    have h2 : allOf numOf (splitC 32 rest) = some ns := h
    clear h
    revert h2
    generalize splitC 32 rest = ws
    induction ws generalizing ns with
    | nil => intro h; simp [allOf] at h; subst h; intro n hn; simp at hn
    | cons x r ih =>
      intro h
      unfold allOf at h
      cases hx : numOf x with
      | none => rw [hx] at h; cases h
      | some m =>
        cases hr : allOf numOf r with
        | none => rw [hx, hr] at h; cases h
        | some ms =>
          rw [hx, hr] at h
          cases h
          intro n hn
          rcases List.mem_cons.1 hn with rfl | hn
          · exact num4_small hx
          · exact ih hr n hn
set_option maxRecDepth 100000 in
set_option maxHeartbeats 2000000 in
theorem closN_any (h : DeskAt W0 Y X S d w) (hv : Vars q W0) (c f : Nat) (hf : CountIs c f) (b : Nat) (hcc : w.cell? ⟨b, 0, none⟩ = some (.int .i64 (c : Int))) (hc : w.cell? ⟨b + 1, 0, none⟩ = some (metV S f)) (rest : List UInt8) (more : Bool) (hl : rest.length ≤ 1048576) :
    Calls Tryz.prog 88 #[.string ⟨rest.toArray⟩, .bool more, .pointer (some ⟨b, 0, none⟩), .pointer (some ⟨b + 1, 0, none⟩)] w (LineEnd q W0 Y X S (numA c f d rest more) w) := by
  have hrn := readNumsR_any rest more hl q w (h.belowV hv)
  have HD : Hid (DeskAt W0 Y X S d w) := h
  have HV : Hid (Vars q W0) := hv
  have HC : Hid (w.cell? ⟨b, 0, none⟩ = some (.int .i64 (c : Int)) ∧ w.cell? ⟨b + 1, 0, none⟩ = some (metV S f)) := ⟨hcc, hc⟩
  have hen := metF_enter f (by rcases hf with ⟨rfl, -⟩ | ⟨rfl, -⟩ | ⟨rfl, -⟩ | ⟨rfl, -⟩ | ⟨rfl, -⟩ <;> simp)
  have HK : Hid (CountIs c f) := hf
  have hcb : c ≤ 2 := by rcases hf with ⟨-, rfl⟩ | ⟨-, rfl⟩ | ⟨-, rfl⟩ | ⟨-, rfl⟩ | ⟨-, rfl⟩ <;> omega
  clear h hv hcc hc hf
  go_enter Tryz.func88, Tryz.ntmps88
  go_wp2_with fail
  refine hrn.mono ?_
  clear hrn
  rintro e w1 ⟨⟨ns, v, hargs, rfl, hnum⟩ | ⟨hargs, rfl⟩, hb1⟩
  · have hcc := (hb1.cell (p := ⟨b, 0, none⟩) (cell_lt HC.out.1)).trans HC.out.1
    have hc1 := (hb1.cell (p := ⟨b + 1, 0, none⟩) (cell_lt HC.out.2)).trans HC.out.2
    have HB : Hid (Below w.heap.size w w1) := hb1
    obtain ⟨a, cp, rfl⟩ : ∃ a cp, v = .slice a ns.length cp := by
      rcases hnum.2 with ⟨rfl, hz⟩ | ⟨g, cap, cur, rfl, _⟩
      · exact ⟨none, 0, by rw [hz]⟩
      · exact ⟨_, _, rfl⟩
    by_cases hlen : ns.length = c
    · have HR : Hid (numA c f d rest more = numR2 f d ns) := (by
        show _ = _
        unfold numA
        rw [hargs]
        exact if_pos hlen)
      have hm := metN_any (HD.out.later hb1) HV.out c f HK.out _ _ ns hnum hlen (args_small hargs)
      have HX := HD.out.low
      unfold metV at hc1
      subst hlen
      clear hb1 hnum hargs
      generalize hgl : ns.length = len at *
      go_wp2_with (first | (go_at_fn f; refine hm.mono ?_; clear hm; rintro e w2 ⟨d', o, ev, rfl, ht, hlen2, hmv⟩; have HF : Hid (LineEnd q W0 Y (andNew X w.heap.size w1.heap.size) S (numR2 f d ns) w1 (.returned (.tuple #[.string ⟨o.toArray⟩, ev])) w2) := ⟨d', o, ev, rfl, ht, hlen2, hmv⟩; clear ht hlen2 hmv))
      go_ret2
      rw [HR.out]
      exact HF.out.ahead HB.out HD.out.low
    · have HR : Hid (numA c f d rest more d badT) := (by
        show numA _ _ _ _ _ _ _
        unfold numA
        rw [hargs]
        dsimp only
        rw [if_neg hlen]
        exact ⟨rfl, rfl⟩)
      have hne : ¬ (ns.length : Int) = (c : Int) := by omega
      have hbad := ((HD.out.belowV HV.out).later HB.out).bad
      clear hb1 hnum hargs hc1 hlen
      generalize ns.length = len at *
      go_wp2
      go_quiet (fail)
      go_wp2
      go_ret2
      exact LineEnd.bad HR.out (HD.out.stays (HB.out.trans ((drewS w1 _).mono HB.out.size)))
  · have HB : Hid (Below w.heap.size w w1) := hb1
    have HR : Hid (numA c f d rest more d badT) := (by
      show numA _ _ _ _ _ _ _
      unfold numA
      rw [hargs]
      exact ⟨rfl, rfl⟩)
    have hbad := ((HD.out.belowV HV.out).later HB.out).bad
    clear hb1 hargs
    go_wp2
    go_quiet (fail)
    go_wp2
    go_ret2
    exact LineEnd.bad HR.out (HD.out.stays (HB.out.trans ((drewS w1 _).mono HB.out.size)))
end Go.Proofs.YtlfbdjeojgbniaaGreatDoor

namespace Go.Proofs.YtlfbdjeojgbniaaGreatDoor
open Go.RowKit Go.Deep

variable {q : Addr} {W0 : World} {Y X : Nat → Prop} {S : Nat} {d : Desk} {w : World}
/-- What is asked by a line. -/
def askR (a : Option Ask) (d : Desk) (rest : List UInt8) (more : Bool) : Desk → List UInt8 → Prop :=
  match a with
  | none => fun d' o => d' = d ∧ o = badT
  | some (.text f) => textA f d rest more
  | some (.num c f) => numA c f d rest more
theorem cut_whole {c : UInt8} {l : List UInt8} (h : (cutB c l).2.2 = false) : (cutB c l).1 = l ∧ c ∉ l := by
  refine ⟨(cutB_none c l h).1, fun hm => ?_⟩
  obtain ⟨x, y, rfl, hx⟩ := List.eq_append_cons_of_mem hm
  rw [cutB_at c x y hx] at h
  cases h
theorem cut_more {c : UInt8} {l : List UInt8} (h : (cutB c l).2.2 = true) : c ∈ l := by
  apply Classical.byContradiction
  intro hn
  rw [cutB_clean c l hn] at h
  cases h
theorem line_asked {d d' : Desk} {l o : List UInt8} (h : askR (askOf (cutB 32 l).1) d (cutB 32 l).2.1 (cutB 32 l).2.2 d' o) : LineIs d l d' o := by
  cases hm : (cutB 32 l).2.2 with
  | false =>
    obtain ⟨he, hno⟩ := cut_whole hm
    rw [he, hm] at h
    unfold LineIs
    by_cases e1 : l = showT
    · subst e1
      rw [if_pos rfl]
      exact h
    by_cases e2 : l = leftT
    · subst e2
      rw [if_neg (by decide), if_pos rfl]
      exact h
    rw [if_neg e1, if_neg e2, if_pos hno]
    unfold askOf at h
    by_cases e3 : l = weaveT
    · rw [if_pos e3] at h; exact h
    rw [if_neg e3] at h
    by_cases e4 : l = planT
    · rw [if_pos e4] at h; exact h
    rw [if_neg e4, if_neg e1] at h
    by_cases e5 : l = greedyT
    · rw [if_pos e5] at h; exact h
    rw [if_neg e5] at h
    by_cases e6 : l = gangT
    · rw [if_pos e6] at h; exact h
    rw [if_neg e6] at h
    by_cases e7 : l = stepT
    · rw [if_pos e7] at h; exact h
    rw [if_neg e7, if_neg e2] at h
    exact h
  | true =>
    have hin := cut_more hm
    rw [hm] at h
    have e1 : l ≠ showT := fun e => by rw [e] at hin; exact absurd hin (by decide)
    have e2 : l ≠ leftT := fun e => by rw [e] at hin; exact absurd hin (by decide)
    unfold LineIs
    rw [if_neg e1, if_neg e2, if_neg (fun e => e hin)]
    unfold WordIs
    generalize (cutB 32 l).1 = wd at *
    generalize (cutB 32 l).2.1 = rest at *
    clear hin hm e1 e2
    have hargs : argsOf rest true = allOf numOf (splitC 32 rest) := rfl
    have hpos : ∀ ns, allOf numOf (splitC 32 rest) = some ns → ns.length ≠ 0 := fun ns hns e => by
      have h1 := allOf_len _ _ _ hns
      exact absurd (List.eq_nil_of_length_eq_zero (by omega)) (splitC_ne 32 rest)
    unfold askOf at h
    by_cases e3 : wd = weaveT
    · rw [if_pos e3] at h ⊢; exact h
    rw [if_neg e3] at h ⊢
    by_cases e4 : wd = planT
    · rw [if_pos e4] at h ⊢; exact h
    rw [if_neg e4] at h ⊢
    have num : ∀ c f, askR (some (.num c f)) d rest true d' o → (allOf numOf (splitC 32 rest) = none ∧ d' = d ∧ o = badT) ∨ (∃ ns, allOf numOf (splitC 32 rest) = some ns ∧ ((ns.length = c ∧ numR2 f d ns d' o) ∨ (ns.length ≠ c ∧ d' = d ∧ o = badT))) := fun c f hx => by
      have hx : numA c f d rest true d' o := hx
      unfold numA at hx
      rw [hargs] at hx
      cases hc : allOf numOf (splitC 32 rest) with
      | none => rw [hc] at hx; exact Or.inl ⟨rfl, hx⟩
      | some ns =>
        rw [hc] at hx
        dsimp only at hx
        by_cases e : ns.length = c
        · rw [if_pos e] at hx; exact Or.inr ⟨ns, rfl, Or.inl ⟨e, hx⟩⟩
        · rw [if_neg e] at hx; exact Or.inr ⟨ns, rfl, Or.inr ⟨e, hx⟩⟩
    by_cases e5 : wd = showT
    · rw [if_pos e5] at h
      subst e5
      rcases num _ _ h with ⟨hn, hx⟩ | ⟨ns, hn, ⟨hc, -⟩ | ⟨-, hx⟩⟩
      · rw [hn]; exact hx
      · exact absurd hc (hpos ns hn)
      · rw [hn]
        show NumsIs _ _ _ _ _
        unfold NumsIs
        rw [if_neg (fun e => absurd e.1 (by decide)), if_neg (fun e => absurd e.1 (by decide)), if_neg (fun e => absurd e.1 (by decide))]
        exact hx
    rw [if_neg e5] at h
    by_cases e6 : wd = greedyT
    · rw [if_pos e6] at h
      subst e6
      rcases num _ _ h with ⟨hn, hx⟩ | ⟨ns, hn, ⟨hc, hx⟩ | ⟨hc, hx⟩⟩
      · rw [hn]; exact hx
      · rw [hn]
        show NumsIs _ _ _ _ _
        unfold NumsIs
        rw [if_pos ⟨rfl, hc⟩]
        exact hx
      · rw [hn]
        show NumsIs _ _ _ _ _
        unfold NumsIs
        rw [if_neg (fun e => hc e.2), if_neg (fun e => absurd e.1 (by decide)), if_neg (fun e => absurd e.1 (by decide))]
        exact hx
    rw [if_neg e6] at h
    by_cases e7 : wd = gangT
    · rw [if_pos e7] at h
      subst e7
      rcases num _ _ h with ⟨hn, hx⟩ | ⟨ns, hn, ⟨hc, hx⟩ | ⟨hc, hx⟩⟩
      · rw [hn]; exact hx
      · rw [hn]
        show NumsIs _ _ _ _ _
        unfold NumsIs
        rw [if_neg (fun e => absurd e.1 (by decide)), if_pos ⟨rfl, hc⟩]
        exact hx
      · rw [hn]
        show NumsIs _ _ _ _ _
        unfold NumsIs
        rw [if_neg (fun e => absurd e.1 (by decide)), if_neg (fun e => hc e.2), if_neg (fun e => absurd e.1 (by decide))]
        exact hx
    rw [if_neg e7] at h
    by_cases e8 : wd = stepT
    · rw [if_pos e8] at h
      subst e8
      rcases num _ _ h with ⟨hn, hx⟩ | ⟨ns, hn, ⟨hc, hx⟩ | ⟨hc, hx⟩⟩
      · rw [hn]; exact hx
      · rw [hn]
        show NumsIs _ _ _ _ _
        unfold NumsIs
        rw [if_neg (fun e => absurd e.1 (by decide)), if_neg (fun e => absurd e.1 (by decide)), if_pos ⟨rfl, hc⟩]
        exact hx
      · rw [hn]
        show NumsIs _ _ _ _ _
        unfold NumsIs
        rw [if_neg (fun e => absurd e.1 (by decide)), if_neg (fun e => absurd e.1 (by decide)), if_neg (fun e => hc e.2)]
        exact hx
    rw [if_neg e8] at h
    have other : d' = d ∧ o = badT → (match allOf numOf (splitC 32 rest) with
        | none => d' = d ∧ o = badT
        | some ns => NumsIs d wd ns d' o) := fun hx => by
      cases allOf numOf (splitC 32 rest) with
      | none => exact hx
      | some ns =>
        show NumsIs _ _ _ _ _
        unfold NumsIs
        rw [if_neg (fun e => e6 e.1), if_neg (fun e => e7 e.1), if_neg (fun e => e8 e.1)]
        exact hx
    by_cases e9 : wd = leftT
    · rw [if_pos e9] at h
      rcases num _ _ h with ⟨hn, hx⟩ | ⟨ns, hn, ⟨hc, -⟩ | ⟨-, hx⟩⟩
      · exact other hx
      · exact absurd hc (hpos ns hn)
      · exact other hx
    rw [if_neg e9] at h
    exact other h

theorem ask_cases (wd : List UInt8) : askOf wd = some (.text 49) ∨ askOf wd = some (.text 50) ∨ askOf wd = some (.num 0 52) ∨ askOf wd = some (.num 1 53) ∨ askOf wd = some (.num 1 54) ∨ askOf wd = some (.num 2 55) ∨ askOf wd = some (.num 0 56) ∨ askOf wd = none := by
  unfold askOf
  by_cases e1 : wd = weaveT
  · rw [if_pos e1]; simp
  rw [if_neg e1]
  by_cases e2 : wd = planT
  · rw [if_pos e2]; simp
  rw [if_neg e2]
  by_cases e3 : wd = showT
  · rw [if_pos e3]; simp
  rw [if_neg e3]
  by_cases e4 : wd = greedyT
  · rw [if_pos e4]; simp
  rw [if_neg e4]
  by_cases e5 : wd = gangT
  · rw [if_pos e5]; simp
  rw [if_neg e5]
  by_cases e6 : wd = stepT
  · rw [if_pos e6]; simp
  rw [if_neg e6]
  by_cases e7 : wd = leftT
  · rw [if_pos e7]; simp
  rw [if_neg e7]; simp
theorem ask_text {wd : List UInt8} {f : Nat} (h : askOf wd = some (.text f)) : f = 49 ∨ f = 50 := by
  rcases ask_cases wd with e | e | e | e | e | e | e | e <;> (rw [e] at h; simp at h)
  · exact Or.inl h.symm
  · exact Or.inr h.symm
theorem ask_num {wd : List UInt8} {c f : Nat} (h : askOf wd = some (.num c f)) : CountIs c f := by
  unfold CountIs
  rcases ask_cases wd with e | e | e | e | e | e | e | e <;> (rw [e] at h; simp at h)
  all_goals (obtain ⟨rfl, rfl⟩ := h; simp)
set_option maxRecDepth 100000 in
set_option maxHeartbeats 2000000 in
theorem do_any (h : DeskAt W0 Y X S d w) (hv : Vars q W0) (M : Nat) (hM : AsksY Y M S w) (l : List UInt8) (hl : l.length ≤ 1000000) :
    Calls Tryz.prog 60 #[.map (some M), .string ⟨l.toArray⟩] w (LineEnd q W0 Y X S (LineIs d l) w) := by
  have hcut := cut_any l 32 w (by omega) (h.belowV hv).len
  have HD : Hid (DeskAt W0 Y X S d w) := h
  have HV : Hid (Vars q W0) := hv
  have HM : Hid (AsksY Y M S w) := hM
  have HR : Hid (∀ d' o, askR (askOf (cutB 32 l).1) d (cutB 32 l).2.1 (cutB 32 l).2.2 d' o → LineIs d l d' o) := fun d' o => line_asked
  have h1 := cutB_le1 32 l
  have h2 := cutB_le2 32 l
  clear h hv hM
  generalize (cutB 32 l).1 = wd at *
  generalize (cutB 32 l).2.1 = rest at *
  generalize (cutB 32 l).2.2 = more at *
  go_enter Tryz.func60, Tryz.ntmps60
  go_wp2_with fail
  refine hcut.mono ?_
  clear hcut
  rintro e w1 ⟨rfl, hb1⟩
  have HB : Hid (Below w.heap.size w w1) := hb1
  have hd1 := HD.out.later hb1
  have hMk := HM.out.kept (w' := w1) (fun k hk => hb1.block k (HD.out.low k (HD.out.yX k hk).1))
  obtain ⟨v, hlk, hv⟩ := hMk.at wd (by omega)
  cases ha : askOf wd with
  | none =>
    rw [ha] at hlk HR
    have hbad := ((HD.out.belowV HV.out).later HB.out).bad
    replace hlk : (Instr.lookup 48 (.map (some M)) (.string ⟨wd.toArray⟩) true).run Tryz.prog w1 = .ok (.tuple #[v, .bool false]) w1 := hlk
    clear hd1 hMk hv hb1
    go_wp2
    go_quiet (fail)
    go_wp2
    go_ret2
    exact LineEnd.bad (HR.out d badT ⟨rfl, rfl⟩) (HD.out.stays (HB.out.trans ((drewS w1 _).mono HB.out.size)))
  | some a =>
    have hai := hv a ha
    rw [ha] at hlk HR
    replace hlk : (Instr.lookup 48 (.map (some M)) (.string ⟨wd.toArray⟩) true).run Tryz.prog w1 = .ok (.tuple #[v, .bool true]) w1 := hlk
    cases a with
    | text f =>
      obtain ⟨b, rfl, hc⟩ := hai
      have hf := ask_text ha
      have hcl := closT_any hd1 HV.out f hf b hc rest more (by omega)
      unfold fnT at hlk
      clear hd1 hMk hv hb1 hc ha
      go_wp2_with (first | (go_at_call 85; refine hcl.mono ?_; clear hcl; rintro e w2 ⟨d', o, ev, rfl, ht, hlen, hmv⟩; have HF : Hid (LineEnd q W0 Y (andNew X w.heap.size w1.heap.size) S (textA f d rest more) w1 (.returned (.tuple #[.string ⟨o.toArray⟩, ev])) w2) := ⟨d', o, ev, rfl, ht, hlen, hmv⟩; clear ht hlen hmv))
      go_ret2
      exact (HF.out.ahead HB.out HD.out.low).mono HR.out
    | num c f =>
      obtain ⟨b, rfl, hc0, hc⟩ := hai
      have hf := ask_num ha
      have hcl := closN_any hd1 HV.out c f hf b hc0 hc rest more (by omega)
      unfold fnN at hlk
      clear hd1 hMk hv hb1 hc hc0 ha
      go_wp2_with (first | (go_at_call 88; refine hcl.mono ?_; clear hcl; rintro e w2 ⟨d', o, ev, rfl, ht, hlen, hmv⟩; have HF : Hid (LineEnd q W0 Y (andNew X w.heap.size w1.heap.size) S (numA c f d rest more) w1 (.returned (.tuple #[.string ⟨o.toArray⟩, ev])) w2) := ⟨d', o, ev, rfl, ht, hlen, hmv⟩; clear ht hlen hmv))
      go_ret2
      exact (HF.out.ahead HB.out HD.out.low).mono HR.out

/-- A line is answered. -/
def AnsEnd (W0 : World) (Y X : Nat → Prop) (S : Nat) (d : Desk) (l : List UInt8) (w : World) (e : Ending) (w' : World) : Prop :=
  ∃ d' o, e = .returned (.string ⟨o.toArray⟩) ∧ LineIs d l d' o ∧ o.length ≤ 20000 ∧ Moved W0 Y X S d' w w'
theorem nameT_len (n : Int) : (nameT n).length ≤ 20000 := by
  unfold nameT
  rw [List.length_append]
  repeat' split
  all_goals simp
set_option maxRecDepth 100000 in
theorem answer_any (h : DeskAt W0 Y X S d w) (hv : Vars q W0) (M : Nat) (hM : AsksY Y M S w) (l : List UInt8) (hl : l.length ≤ 1000000) :
    Calls Tryz.prog 19 #[.map (some M), .string ⟨l.toArray⟩] w (AnsEnd W0 Y X S d l w) := by
  have hdo := do_any h hv M hM l hl
  have HV : Hid (Vars q W0) := hv
  clear h hv hM
  go_enter Tryz.func19, Tryz.ntmps19
  go_wp2_with fail
  refine hdo.mono ?_
  clear hdo
  rintro e w1 ⟨d', o, ev, rfl, ⟨rfl, hr⟩ | ⟨n, h1, h8, rfl, hr⟩ | ⟨rfl, hr⟩, hlen, hmv⟩
  · have HF : Hid (AnsEnd W0 Y X S d l w (.returned (.string ⟨o.toArray⟩)) w1) := ⟨d', o, rfl, hr, hlen, hmv⟩
    clear hr hlen hmv
    go_wp2
    go_ret
    exact HF.out
  · have hva : Vars q w1 := by
      obtain ⟨Y', X', hd', -⟩ := hmv
      exact hd'.belowV HV.out
    have hae := ansErr_any n h1 h8 w1 hva
    have HF : Hid (∀ w2, Below w1.heap.size w1 w2 → AnsEnd W0 Y X S d l w (.returned (.string ⟨(nameT n).toArray⟩)) w2) := fun w2 hb => ⟨d', nameT n, rfl, hr, nameT_len n, hmv.later hb⟩
    clear hr hlen hmv hva
    go_wp2_with (first | (go_at_call 61; refine hae.mono ?_; clear hae; rintro e w2 ⟨rfl, hb2⟩; have HF2 : Hid (AnsEnd W0 Y X S d l w (.returned (.string ⟨(nameT n).toArray⟩)) w2) := HF.out w2 hb2; clear hb2))
    go_ret
    exact HF2.out
  · have hva : Vars q w1 := by
      obtain ⟨Y', X', hd', -⟩ := hmv
      exact hd'.belowV HV.out
    have hae := ansBad_any w1 hva
    have HF : Hid (∀ w2, Below w1.heap.size w1 w2 → AnsEnd W0 Y X S d l w (.returned (.string ⟨badT.toArray⟩)) w2) := fun w2 hb => ⟨d', badT, rfl, hr, by decide, hmv.later hb⟩
    unfold badV at hae ⊢
    clear hr hlen hmv hva
    go_wp2_with (first | (go_at_call 61; refine hae.mono ?_; clear hae; rintro e w2 ⟨rfl, hb2⟩; have HF2 : Hid (AnsEnd W0 Y X S d l w (.returned (.string ⟨badT.toArray⟩)) w2) := HF.out w2 hb2; clear hb2))
    go_ret
    exact HF2.out
end Go.Proofs.YtlfbdjeojgbniaaGreatDoor

namespace Go.Proofs.YtlfbdjeojgbniaaGreatDoor
open Go.RowKit Go.Deep

theorem append_str_at {P : Program} (w : World) (base : Nat) (t u ty e : TypeId) (i : TypeInfo) (ht : P.underlying t = some (.slice e)) (hu : P.underlying u = some .string) (hi : P.info? e = some i) (hz : i.zero = some (.int .u8 0))
    (hsize : i.size = 1) (hby : i.bytes = 1) (v : Value) (n : Nat) (xs : List Value) (hown : w.ownsRow base e 1 v n xs) (s : ByteArray)
    (h63 : n + s.size ≤ maxLen) (hbytes : n + s.size ≤ 140737488355328) (hbase : base ≤ w.heap.size) :
    ∃ v' w', (Builtin.append_ #[t, u] ty #[v, .string s]).run P w = .ok v' w' ∧ w'.ownsRow base e 1 v' (n + s.size) (xs ++ Lib.strCells s) ∧ w.grownBy w' v.ownBlock ∧ (v'.ownBlock = v.ownBlock ∨ ∀ k, v'.ownBlock = some k → w.heap.size ≤ k) := by
  obtain ⟨v', w', hr, h2, h3, -⟩ := Lib.run_append_own_string (P := P) w base t u ty e i ht hu hi hz hsize hby v n xs hown s h63 hbytes hbase
  refine ⟨v', w', hr, h2, h3, ?_⟩
  have hxl : xs.length = n := by simpa using hown.1
  rcases hown.2 with ⟨rfl, rfl⟩ | ⟨g, cap, cur, rfl, hbg, hg, hnc, hcm, hcs, htake⟩
  · obtain rfl : xs = [] := List.eq_nil_of_length_eq_zero hxl
    obtain ⟨v2, w2, hr2, g2, -, -⟩ := Lib.run_append_own_string (P := P) w w.heap.size t u ty e i ht hu hi hz hsize hby (.slice none 0 0) 0 [] (World.ownsRow_nil _ _ _ _) s h63 hbytes (Nat.le_refl _)
    rw [hr] at hr2
    injection hr2 with e1 e2
    subst e1
    exact Or.inr (fun k hk => (g2.lt k hk).1)
  · by_cases hroom : n + s.size ≤ cap
    · have hcs' : cur.size = cap := by simpa using hcs
      have hr2 := Lib.run_append_room_string (P := P) w t u ty e i ht hu hi hsize g n cap cur hg s hroom (by omega)
      rw [hr] at hr2
      injection hr2 with e1 e2
      subst e1
      exact Or.inl rfl
    · have holds : ∀ j u, xs[j]? = some u → w.cell? ((⟨g, 0, none⟩ : Addr).add j) = some u := hown.cells (g := g) rfl
      have hr2 := Lib.run_append_grow_string (P := P) w t u ty e i (.int .u8 0) ht hu hi hz ⟨g, 0, none⟩ n cap xs (by rw [hsize]; simpa using hxl) holds s (by omega) (by unfold maxLen at h63; omega) (by rw [hby]; exact growslice_fits (by omega) (by omega))
      rw [hr] at hr2
      injection hr2 with e1 e2
      subst e1
      exact Or.inr (fun k hk => by simp only [Value.ownBlock, Option.some.injEq] at hk; omega)
theorem wpList_append_str_at {P : Program} {w : World} {ops : Array Oper} {rest : List Oper} {o : Oper} {a : Act} {Q : Exit → Act → World → Prop} (hgd : o.guard = none) (sl x : Operand) (t u : TypeId)
    (ho : o.op = .call { callee := .builtin .append, args := #[sl, x], argTypes := #[t, u] })
    (base : Nat) (e : TypeId) (i : TypeInfo) (ht : P.underlying t = some (.slice e)) (hu : P.underlying u = some .string) (hi : P.info? e = some i) (hz : i.zero = some (.int .u8 0))
    (hsize : i.size = 1) (hby : i.bytes = 1)
    (v : Value) (n : Nat) (xs : List Value) (hs : a.eval sl = v) (hown : w.ownsRow base e 1 v n xs) (s : ByteArray) (hx : a.eval x = .string s)
    (h63 : n + s.size ≤ maxLen) (hbytes : n + s.size ≤ 140737488355328) (hbase : base ≤ w.heap.size)
    (h : ∀ v' w', w'.ownsRow base e 1 v' (n + s.size) (xs ++ Lib.strCells s) → w.grownBy w' v.ownBlock → (v'.ownBlock = v.ownBlock ∨ ∀ k, v'.ownBlock = some k → w.heap.size ≤ k) → wpList P ops Q rest (a.put o.dst v') w') : wpList P ops Q (o :: rest) a w := by
  refine wpList_plain hgd fun K hK => ?_
  obtain ⟨v', w', hr, h2, h3, h4⟩ := append_str_at (P := P) w base t u o.type e i ht hu hi hz hsize hby v n xs hown s h63 hbytes hbase
  unfold Oper.wp execOp
  simp only [ho, resolve, invoke, builtin, Sem.run_bind, Sem.run_pure, Result.andThen_ok, List.map_toArray, List.map_cons, List.map_nil, hs, hx, hr]
  exact hK _ _ (h v' w' h2 h3 h4)

/-- A builder in block b, its bytes in blocks of Z. -/
structure Bld (Z : Nat → Prop) (b : Nat) (acc : List UInt8) (w : World) : Prop where
  low : ∀ k, Z k → b ≤ k
  zb : Z b
  mem : ∃ p v, (p = .pointer none ∨ p = .pointer (some ⟨b, 0, none⟩)) ∧ w.heap[b]? = some (.cells #[p, v] 56 (0, 0)) ∧ w.ownsRow b 5 1 v acc.length (Lib.byteCells acc) ∧ v.ownBlock ≠ some b ∧ ∀ k, v.ownBlock = some k → Z k
theorem Bld.lt {Z : Nat → Prop} {b : Nat} {acc : List UInt8} {w : World} (h : Bld Z b acc w) : b < w.heap.size := by
  obtain ⟨p, v, -, h2, -⟩ := h.mem
  exact lt_of_block h2
theorem Bld.is {Z : Nat → Prop} {b : Nat} {acc : List UInt8} {w : World} (h : Bld Z b acc w) : BuildsAt b b w acc := by
  obtain ⟨p, v, h1, h2, h3, h4, -⟩ := h.mem
  have e : (Lib.byteCells acc).length = acc.length := by simp [Lib.byteCells]
  rcases h1 with rfl | rfl
  · exact Or.inl ⟨Nat.le_refl _, v, h2, by rw [e]; exact h3, h4⟩
  · exact Or.inr ⟨Nat.le_refl _, v, h2, by rw [e]; exact h3, h4⟩
theorem Bld.kept {Z : Nat → Prop} {b : Nat} {acc : List UInt8} {w w' : World} (h : Bld Z b acc w) (hk : ∀ k, Z k → k < w.heap.size → w'.heap[k]? = w.heap[k]?) : Bld Z b acc w' := by
  have hlt := h.lt
  obtain ⟨p, v, h1, h2, h3, h4, h5⟩ := h.mem
  refine ⟨h.low, h.zb, p, v, h1, (hk b h.zb hlt).trans h2, ?_, h4, h5⟩
  refine ⟨h3.1, ?_⟩
  rcases h3.2 with h0 | ⟨g, cap, cur, hv, hb, hh, hr⟩
  · exact Or.inl h0
  · exact Or.inr ⟨g, cap, cur, hv, hb, (hk g (h5 g (by rw [hv]; rfl)) (lt_of_block hh)).trans hh, hr⟩
theorem Bld.more {Z Z' : Nat → Prop} {b : Nat} {acc : List UInt8} {w : World} (h : Bld Z b acc w) (e : ∀ k, Z k → Z' k) (hl : ∀ k, Z' k → b ≤ k) : Bld Z' b acc w := by
  obtain ⟨p, v, h1, h2, h3, h4, h5⟩ := h.mem
  exact ⟨hl, e b h.zb, p, v, h1, h2, h3, h4, fun k hk => e k (h5 k hk)⟩
/-- Blocks of Z, and new ones. -/
def orNew (Z : Nat → Prop) (n : Nat) : Nat → Prop := fun k => Z k ∨ n ≤ k
theorem copyX {Z : Nat → Prop} {b : Nat} {acc : List UInt8} {w : World} (h : Bld Z b acc w) :
    Calls Tryz.prog 59 #[.pointer (some ⟨b, 0, none⟩)] w fun e w' => e = .returned (.tuple #[]) ∧ (∃ v, w'.heap[b]? = some (.cells #[.pointer (some ⟨b, 0, none⟩), v] 56 (0, 0)) ∧ w'.ownsRow b 5 1 v acc.length (Lib.byteCells acc) ∧ v.ownBlock ≠ some b ∧ ∀ k, v.ownBlock = some k → Z k) ∧ Kx Z w w' ∧ w'.heap.size = w.heap.size := by
  obtain ⟨p, v, h1, h2, h3, h4, h5⟩ := h.mem
  rcases h1 with rfl | rfl
  · have hi := h.is
    have hb : Lib.BuilderAt 56 5 b b (.pointer none) (Lib.byteCells acc) w := ⟨Nat.le_refl _, v, h2, by rw [show (Lib.byteCells acc).length = acc.length by simp [Lib.byteCells]]; exact h3, h4⟩
    refine (copyCheck_fresh b w hb.cell0 hb.shape hb.frozen0).mono ?_
    rintro e w' ⟨rfl, rfl⟩
    refine ⟨rfl, ⟨v, ?_, ?_, h4, h5⟩, (Kx.refl Z w).set (Or.inl h.zb) 0 _, by simp⟩
    · have := blk_set_same w b 0 (.pointer (some ⟨b, 0, none⟩)) _ _ h2
      exact this
    · refine ⟨h3.1, ?_⟩
      rcases h3.2 with h0 | ⟨g, cap, cur, hv, hbg, hh, hr⟩
      · exact Or.inl h0
      · refine Or.inr ⟨g, cap, cur, hv, hbg, (Below.heap_setCell _ _ _ _ (fun e => h4 ?_)).trans hh, hr⟩
        rw [hv]
        show some g = some b
        rw [show g = b from e]
  · have hb : Lib.BuilderAt 56 5 b b (.pointer (some ⟨b, 0, none⟩)) (Lib.byteCells acc) w := ⟨Nat.le_refl _, v, h2, by rw [show (Lib.byteCells acc).length = acc.length by simp [Lib.byteCells]]; exact h3, h4⟩
    refine (copyCheck_used b w hb.cell0).mono ?_
    rintro e w' ⟨rfl, rfl⟩
    exact ⟨rfl, ⟨v, h2, h3, h4, h5⟩, Kx.refl Z _, rfl⟩
end Go.Proofs.YtlfbdjeojgbniaaGreatDoor

namespace Go.Proofs.YtlfbdjeojgbniaaGreatDoor
open Go.RowKit Go.Deep

theorem byteCells_len (l : List UInt8) : (Lib.byteCells l).length = l.length := by simp [Lib.byteCells]
/-- How a write ends. -/
theorem Bld.wrote {Z : Nat → Prop} {b : Nat} {acc acc' : List UInt8} {w w1 w2 : World} {v v' : Value} (h : Bld Z b acc w) (hs : w1.heap.size = w.heap.size) (hK : Kx Z w w1)
    (hbk : w2.heap[b]? = some (.cells #[.pointer (some ⟨b, 0, none⟩), v] 56 (0, 0))) (hv : ∀ k, v.ownBlock = some k → Z k) (hne : v.ownBlock ≠ some b)
    (hown : w2.ownsRow b 5 1 v' acc'.length (Lib.byteCells acc')) (hgr : ∀ k, k < w.heap.size → v.ownBlock ≠ some k → w2.heap[k]? = w1.heap[k]?) (hos : w2.os = w1.os ∧ w2.tape = w1.tape ∧ w2.output = w1.output ∧ w1.heap.size ≤ w2.heap.size)
    (hat : v'.ownBlock = v.ownBlock ∨ ∀ k, v'.ownBlock = some k → w.heap.size ≤ k) : Bld (orNew Z w.heap.size) b acc' (w2.setCell ⟨b, 1, none⟩ v') ∧ Kx Z w (w2.setCell ⟨b, 1, none⟩ v') := by
  have hlt := h.lt
  have hne' : v'.ownBlock ≠ some b := by
    rcases hat with e | e
    · rw [e]; exact hne
    · intro hb; have := e b hb; omega
  refine ⟨⟨fun k hk => ?_, Or.inl h.zb, .pointer (some ⟨b, 0, none⟩), v', Or.inr rfl, ?_, ?_, hne', fun k hk => ?_⟩, ?_⟩
  · rcases hk with hk | hk
    · exact h.low k hk
    · omega
  · have := blk_set_same w2 b 1 v' _ _ hbk
    exact this
  · refine ⟨hown.1, ?_⟩
    rcases hown.2 with h0 | ⟨g, cap, cur, hv2, hbg, hh, hr⟩
    · exact Or.inl h0
    · refine Or.inr ⟨g, cap, cur, hv2, hbg, (Below.heap_setCell _ _ _ _ (fun e => hne' ?_)).trans hh, hr⟩
      rw [hv2]
      show some g = some b
      rw [show g = b from e]
  · rcases hat with e | e
    · exact Or.inl (hv k (e ▸ hk))
    · exact Or.inr (e k hk)
  · obtain ⟨o1, o2, o3, o4⟩ := hos
    refine ⟨o1.trans hK.os, o2.trans hK.tape, o3.trans hK.output, by simp; omega, fun k hk hz => ?_⟩
    refine (Below.heap_setCell _ _ _ _ (fun e => hz ?_)).trans ((hgr k hk (fun e => hz (hv k e))).trans (hK.block k hk hz))
    rw [show k = b from e]
    exact h.zb
set_option maxHeartbeats 2000000 in
set_option maxRecDepth 100000 in
theorem writeStringX {Z : Nat → Prop} {b : Nat} {acc : List UInt8} {w : World} (h : Bld Z b acc w) (x : List UInt8) (hl : acc.length + x.length ≤ 100000000) :
    Calls Tryz.prog 18 #[.pointer (some ⟨b, 0, none⟩), .string ⟨x.toArray⟩] w fun e w' => (∃ k, e = .returned (.tuple #[.int .i64 k, .nilIface])) ∧ Bld (orNew Z w.heap.size) b (acc ++ x) w' ∧ Kx Z w w' := by
  obtain ⟨i0, hi, hz0, hz1, hz2⟩ := info_parts Tryz.info5
  have hcc := copyX h
  have hsz : (⟨x.toArray⟩ : ByteArray).size = x.length := by show x.toArray.size = _; simp
  have HSX : Hid (Lib.byteCells acc ++ Lib.strCells ⟨x.toArray⟩ = Lib.byteCells (acc ++ x)) := by
    show _ = _
    simp [Lib.byteCells, Lib.strCells]
  have HH : Hid (Bld Z b acc w) := h
  have hlt := h.lt
  clear h
  generalize (⟨x.toArray⟩ : ByteArray) = s at *
  go_enter Tryz.func18, Tryz.ntmps18
  go_wp2_with (go_at_call 59; refine hcc.mono ?_)
  rintro e w1 ⟨rfl, ⟨v, hbk, hown, hne, hvz⟩, hK1, hs1⟩
  clear hcc
  have c0 : w1.cell? ⟨b, 0, none⟩ = some (.pointer (some ⟨b, 0, none⟩)) := by rw [Lib.cell_of_heap hbk]; rfl
  have c1 : w1.cell? ⟨b, 1, none⟩ = some v := by rw [Lib.cell_of_heap hbk]; rfl
  have HVZ : Hid (∀ k, v.ownBlock = some k → Z k) := hvz
  have HNE : Hid (v.ownBlock ≠ some b) := hne
  have HK1 : Hid (Kx Z w w1 ∧ w1.heap.size = w.heap.size) := ⟨hK1, hs1⟩
  have HBK : Hid (w1.heap[b]? = some (.cells #[.pointer (some ⟨b, 0, none⟩), v] 56 (0, 0))) := hbk
  clear hvz hne hK1 hbk
  go_wp2_with (at_builtin; refine wpList_append_str_at rfl _ _ 54 9 rfl b 5 i0 Tryz.underlying54 Tryz.underlying9 hi hz0 hz1 hz2 _ _ _ rfl hown s rfl ?c3 ?c4 ?c5 ?_)
  case c3 => unfold maxLen; omega
  case c4 => omega
  case c5 => omega
  intro v' w2 hown' hgrow hat
  have hb2 : w2.heap[b]? = some (.cells #[.pointer (some ⟨b, 0, none⟩), v] 56 (0, 0)) := by
    rw [hgrow.block b (by omega) (fun e => HNE.out e.symm)]
    exact HBK.out
  have d0 : w2.cell? ⟨b, 0, none⟩ = some (.pointer (some ⟨b, 0, none⟩)) := by rw [Lib.cell_of_heap hb2]; rfl
  have d1 : w2.cell? ⟨b, 1, none⟩ = some v := by rw [Lib.cell_of_heap hb2]; rfl
  have f1 : w2.frozen? ⟨b, 1, none⟩ = false := Lib.frozen_of_heap hb2 1
  obtain ⟨ao, n', cap, rfl⟩ : ∃ ao n' cap, v' = .slice ao n' cap := by
    rcases hown'.2 with ⟨hv, _⟩ | ⟨g, cap, cur, hv, _⟩
    · exact ⟨_, _, _, hv⟩
    · exact ⟨_, _, _, hv⟩
  have HW : Hid (Bld (orNew Z w.heap.size) b (acc ++ x) (w2.setCell ⟨b, 1, none⟩ (.slice ao n' cap)) ∧ Kx Z w (w2.setCell ⟨b, 1, none⟩ (.slice ao n' cap))) := by
    refine HH.out.wrote HK1.out.2 HK1.out.1 hb2 HVZ.out HNE.out ?_ (fun k hk hne => hgrow.block k (by omega) (fun e => hne e.symm)) ⟨hgrow.os, hgrow.tape, hgrow.output, hgrow.size⟩ (hat.imp id (fun hx k hk => by have := hx k hk; omega))
    rw [List.length_append, ← HSX.out]
    exact hown'
  clear hown' hgrow hat hb2 hown
  go_wp2
  go_ret2
  exact ⟨⟨_, rfl⟩, HW.out.1, HW.out.2⟩
set_option maxHeartbeats 2000000 in
set_option maxRecDepth 100000 in
theorem writeByteX {Z : Nat → Prop} {b : Nat} {acc : List UInt8} {w : World} (h : Bld Z b acc w) (hl : acc.length ≤ 100000000) :
    Calls Tryz.prog 21 #[.pointer (some ⟨b, 0, none⟩), .int .u8 10] w fun e w' => e = .returned .nilIface ∧ Bld (orNew Z w.heap.size) b (acc ++ [10]) w' ∧ Kx Z w w' := by
  obtain ⟨i0, hi, hz0, hz1, hz2⟩ := info_parts Tryz.info5
  have hcc := copyX h
  have HSX : Hid (Lib.byteCells acc ++ [.int .u8 10] = Lib.byteCells (acc ++ [10])) := by
    show _ = _
    simp [Lib.byteCells]
  have HH : Hid (Bld Z b acc w) := h
  have hlt := h.lt
  clear h
  go_enter Tryz.func21, Tryz.ntmps21
  go_wp2_with (go_at_call 59; refine hcc.mono ?_)
  rintro e w1 ⟨rfl, ⟨v, hbk, hown, hne, hvz⟩, hK1, hs1⟩
  clear hcc
  have c0 : w1.cell? ⟨b, 0, none⟩ = some (.pointer (some ⟨b, 0, none⟩)) := by rw [Lib.cell_of_heap hbk]; rfl
  have c1 : w1.cell? ⟨b, 1, none⟩ = some v := by rw [Lib.cell_of_heap hbk]; rfl
  have HVZ : Hid (∀ k, v.ownBlock = some k → Z k) := hvz
  have HNE : Hid (v.ownBlock ≠ some b) := hne
  have HK1 : Hid (Kx Z w w1 ∧ w1.heap.size = w.heap.size) := ⟨hK1, hs1⟩
  have HBK : Hid (w1.heap[b]? = some (.cells #[.pointer (some ⟨b, 0, none⟩), v] 56 (0, 0))) := hbk
  have hown2 := hown.alloc (.cells #[.int .u8 10] 5)
  have HOL : Hid (∀ k, v.ownBlock = some k → k < w1.heap.size) := fun k hk => (hown.lt k hk).2
  clear hvz hne hK1 hbk hown hs1
  go_wp2_with (at_builtin; go_loud (refine wpList_append_own_at _ rfl _ _ 54 rfl b 5 i0 (.int .u8 0) 1 1 Tryz.underlying54 hi hz0 hz1 hz2 rfl (by decide) _ _ _ rfl hown2 ⟨w1.heap.size, 0, none⟩ 1 1 [.int .u8 10] rfl rfl ?c1 ?c2 ?c3 ?c4 ?c5 ?_))
  case c1 => exact cell_one_new w1 (.int .u8 10) 5
  case c2 => intro u hu; simp at hu; subst hu; rfl
  case c3 => unfold maxLen; omega
  case c4 => omega
  case c5 => have hs1 := HK1.out.2; simp; omega
  have hs1 := HK1.out.2
  intro v' w2 hown' hgrow _ hat
  have hb2 : w2.heap[b]? = some (.cells #[.pointer (some ⟨b, 0, none⟩), v] 56 (0, 0)) := by
    rw [hgrow.block b (by simp; omega) (fun e => HNE.out e.symm), Lib.alloc_old w1 _ b (by omega)]
    exact HBK.out
  have d0 : w2.cell? ⟨b, 0, none⟩ = some (.pointer (some ⟨b, 0, none⟩)) := by rw [Lib.cell_of_heap hb2]; rfl
  have d1 : w2.cell? ⟨b, 1, none⟩ = some v := by rw [Lib.cell_of_heap hb2]; rfl
  have f1 : w2.frozen? ⟨b, 1, none⟩ = false := Lib.frozen_of_heap hb2 1
  obtain ⟨ao, n', cap, rfl⟩ : ∃ ao n' cap, v' = .slice ao n' cap := by
    rcases hown'.2 with ⟨hv, _⟩ | ⟨g, cap, cur, hv, _⟩
    · exact ⟨_, _, _, hv⟩
    · exact ⟨_, _, _, hv⟩
  have HW : Hid (Bld (orNew Z w.heap.size) b (acc ++ [10]) (w2.setCell ⟨b, 1, none⟩ (.slice ao n' cap)) ∧ Kx Z w (w2.setCell ⟨b, 1, none⟩ (.slice ao n' cap))) := by
    refine HH.out.wrote HK1.out.2 HK1.out.1 hb2 HVZ.out HNE.out ?_ (fun k hk hne => (hgrow.block k (by simp; omega) (fun e => hne e.symm)).trans (Below.heap_alloc _ _ _ (by omega))) ⟨hgrow.os, hgrow.tape, hgrow.output, Nat.le_trans (by simp) hgrow.size⟩ (hat.imp id (fun hx k hk => by rw [hx] at hk; simp at hk; omega))
    rw [List.length_append, ← HSX.out]
    exact hown'
  clear hown' hgrow hat hb2 hown2
  go_wp2
  go_ret
  exact ⟨rfl, HW.out.1, HW.out.2⟩
end Go.Proofs.YtlfbdjeojgbniaaGreatDoor
