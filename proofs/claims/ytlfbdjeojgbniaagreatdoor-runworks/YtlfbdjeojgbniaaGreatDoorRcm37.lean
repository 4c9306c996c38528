/- Plain: bounds on what a line answers. The contract of pair; a new gang refused by its hands. What a session answers: readWeave, readPlan, show, left, newGang. What a session answers: left, newGang, greedy, step. What a session answers: greedy, step. What a session answers: step. -/
import Derived.Test.YtlfbdjeojgbniaaGreatDoorRcm25
import Derived.Test.YtlfbdjeojgbniaaGreatDoorRcm36

namespace Go.Proofs.YtlfbdjeojgbniaaGreatDoor
open Go.RowKit Go.Deep

theorem deeds_len {ts : List (Int × List Int)} (hg : Good ts) (hands : Nat) (g : Gs) (h pick : Nat) : (gdeeds ts hands g h pick).length ≤ 31 := by
  unfold gdeeds
  split
  · simp
  split
  · split
    · simp
    · unfold endsD
      rw [List.length_cons, List.length_map, List.length_take]
      have := newL_len ts g.S (g.task h).toNat
      have := hg.le
      omega
  split
  · simp
  split
  · simp
  split
  · simp
  split
  · simp
  · simp
theorem rowT_len {l : List Deed} (h : ∀ d, d ∈ l → deedE d = 0) (hl : l.length ≤ 31) : (rowT l).length ≤ 20000 := by
  unfold rowT
  split
  · simp
  · have key : ∀ m : List Deed, (∀ d, d ∈ m → deedE d = 0) → (m.flatMap (fun x => deedText x ++ [59])).length ≤ 18 * m.length := by
      intro m
      induction m with
      | nil => intro _; simp
      | cons d r ih =>
        intro h
        have h1 := deedText_len (h d (by simp))
        have h2 := ih (fun x hx => h x (by simp [hx]))
        rw [List.flatMap_cons, List.length_append, List.length_append]
        have e1 : ([59] : List UInt8).length = 1 := rfl
        have e2 : (d :: r).length = r.length + 1 := rfl
        omega
    have := key l h
    omega
theorem firstR_none : ∀ l : List Deed, (∀ d, d ∈ l → deedE d = 0) → firstE l = 0 := by
  intro l
  induction l with
  | nil => intro _; rfl
  | cons d r ih =>
    intro h
    unfold firstE
    rw [if_pos (h d (by simp))]
    exact ih (fun x hx => h x (by simp [hx]))
theorem deeds_noErr {l : List Deed} (h : ∀ d, d ∈ l → deedE d = 0) (hl : l.length ≤ 1000) : deedsErr l = 0 := by
  unfold deedsErr
  rw [if_neg (by omega)]
  exact firstR_none l h
theorem treeR_bounds (t : Tree) (h : ∀ ds, ds ∈ t.leaves → 1 ≤ V1 ds ∧ V1 ds ≤ 20) : 0 ≤ t.span V1 ∧ t.span V1 ≤ t.work V1 ∧ t.work V1 ≤ 20 * (t.count : Int) := by
  induction t with
  | num ds =>
    have := h ds (by simp [Tree.leaves])
    simp only [Tree.span, Tree.work, Tree.count]
    omega
  | seq a b iha ihb =>
    have h1 := iha (fun d hd => h d (by simp [Tree.leaves, hd]))
    have h2 := ihb (fun d hd => h d (by simp [Tree.leaves, hd]))
    simp only [Tree.span, Tree.work, Tree.count]
    omega
  | par a b iha ihb =>
    have h1 := iha (fun d hd => h d (by simp [Tree.leaves, hd]))
    have h2 := ihb (fun d hd => h d (by simp [Tree.leaves, hd]))
    simp only [Tree.span, Tree.work, Tree.count]
    omega
theorem check_q {ts : List (Int × List Int)} {p q : Int} (h : CheckIs ts p q) (hq : q ≠ 0) : 1 ≤ q ∧ q ≤ 8 := by
  cases h using CheckIs.elim with
  | full => omega
  | task k _ _ _ h4 =>
    unfold errOf taskErr at h4 ⊢
    split
    · omega
    · split
      · omega
      · split
        · rename_i a b c; rw [if_neg a, if_neg b, if_pos c] at h4; exact absurd rfl h4
        · omega
  | ring => omega
  | none => exact absurd rfl hq
theorem weave_q {l : List UInt8} {q : Int} (h : WeaveErr l q) (hq : q ≠ 0) : 1 ≤ q ∧ q ≤ 8 := by
  rcases h with ⟨_, rfl⟩ | ⟨_, _, rfl⟩ | ⟨t, _, _, _, rfl⟩
  · omega
  · omega
  · unfold boundErr at hq ⊢
    split
    · omega
    · split
      · omega
      · rename_i a b; rw [if_neg a, if_neg b] at hq; exact absurd rfl hq
theorem check_take {ts : List (Int × List Int)} {p q : Int} (h : CheckIs (ts.take 31) p q) : CheckIs ts p q := by
  by_cases hl : ts.length ≤ 31
  · rw [List.take_of_length_le hl] at h; exact h
  · obtain ⟨rfl, rfl⟩ := h.det (CheckIs.full (by simp; omega))
    exact CheckIs.full (by omega)
theorem take_right {ts : List (Int × List Int)} {p : Int} (h : CheckIs (ts.take 31) p 0) : ts.take 31 = ts := by
  have := (h.ok rfl).2.1
  rw [List.length_take] at this
  exact List.take_of_length_le (by omega)
theorem planText_len {ts : List (Int × List Int)} (hc : CheckIs ts 0 0) : (planText ts).length ≤ 20000 := by
  obtain ⟨_, h30, herr, _⟩ := hc.ok rfl
  have hsm : ∀ k, k < ts.length → Small ((ts.getD k (0, [])).1, needsOf ts k) ∧ (needsOf ts k).length ≤ 30 := fun k hk => by
    obtain ⟨h1, h2, h3⟩ := errOf_zero (herr k hk)
    have := rising_len _ _ h3 h2
    exact ⟨⟨by simp only; omega, fun z hz => by have := h2 z hz; omega⟩, by omega⟩
  have := planTextK_len ts (fun k hk => taskText_len _ (hsm k hk).1 (hsm k hk).2) ts.length (Nat.le_refl _)
  rw [planTextK_all] at this
  omega
theorem digsS_len (n : Nat) (h : n < 10000) : (digs (n : Int)).length ≤ 4 := by
  unfold digs
  rw [Int.toNat_natCast]
  by_cases h1 : n < 10
  · rw [dec_small n h1]; simp
  rw [dec_more n (by omega)]
  by_cases h2 : n / 10 < 10
  · rw [dec_small _ h2]; simp
  rw [dec_more (n / 10) (by omega)]
  by_cases h3 : n / 10 / 10 < 10
  · rw [dec_small _ h3]; simp
  rw [dec_more (n / 10 / 10) (by omega), dec_small _ (by omega)]
  simp
theorem twoT_len (a b : Nat) (ha : a < 10000) (hb : b < 10000) : (twoT (a : Int) (b : Int)).length ≤ 9 := by
  unfold twoT
  have := digsS_len a ha
  have := digsS_len b hb
  simp
  omega
theorem bytesR_app (l m : List UInt8) : (⟨l.toArray⟩ : ByteArray) ++ ⟨m.toArray⟩ = ⟨(l ++ m).toArray⟩ := by
  apply ByteArray.ext
  simp
set_option maxRecDepth 100000 in
theorem pair_any {q : Addr} (a b : Nat) (ha : a < 10000) (hb : b < 10000) (w : World) (hv : Vars q w) : Calls Tryz.prog 87 #[.int .i64 (a : Int), .int .i64 (b : Int)] w fun e w' => e = .returned (.string ⟨(twoT (a : Int) (b : Int)).toArray⟩) ∧ Below w.heap.size w w' := by
  have h1 := itoaR_any a (by omega) w hv
  have h2 : Hid (∀ wx, Below w.heap.size w wx → Calls Tryz.prog 95 #[.int .i64 (b : Int)] wx fun e w' => e = .returned (.string ⟨(digs (b : Int)).toArray⟩) ∧ Below wx.heap.size wx w') := fun wx hbx => itoaR_any b (by omega) wx (hv.later hbx)
  have l1 := digsS_len a ha
  have l2 := digsS_len b hb
  have HT : Hid ((⟨(digs (a : Int)).toArray⟩ : ByteArray) ++ ⟨#[32]⟩ ++ ⟨(digs (b : Int)).toArray⟩ = ⟨(twoT (a : Int) (b : Int)).toArray⟩) := by
    show _ = _
    rw [show (⟨#[32]⟩ : ByteArray) = ⟨[(32 : UInt8)].toArray⟩ from rfl, bytesR_app, bytesR_app]
    simp [twoT]
  clear hv ha hb
  go_enter Tryz.func87, Tryz.ntmps87
  go_wp2_with fail
  refine h1.mono ?_
  clear h1
  rintro e w1 ⟨rfl, hb1⟩
  have h3 := h2.out w1 hb1
  clear h2
  go_wp2_with fail
  refine h3.mono ?_
  clear h3
  rintro e w2 ⟨rfl, hb2⟩
  go_wp2
  go_ret
  exact ⟨by rw [HT.out]; rfl, hb1.trans (hb2.mono hb1.size)⟩
theorem gNew_hands (v : Value) (ts : List (Int × List Int)) (w : World) (hp : PlanAt w v ts) (hc : CheckIs ts 0 0) (hands room : Int) (hh : hands < 1 ∨ 6 < hands) :
    Calls Tryz.prog 13 #[v, .int .i64 hands, .int .i64 room] w fun e w' => e = .returned (.tuple #[.pointer none, .iface 97 (.int .i64 1)]) ∧ Below w.heap.size w w' := by
  have hjn := new_good v ts w hp hc
  have HPK : Hid (∀ w1, Calls Tryz.prog 42 #[.int .i64 hands] w1 fun e w' => e = .returned (.tuple #[.pointer none, .iface 97 (.int .i64 1)]) ∧ w' = w1) := fun w1 => Prk.New_bad hands w1 hh
  obtain ⟨pa, pc, rfl⟩ : ∃ a c, v = .slice a ts.length c := by obtain ⟨hl, a, c, hv, -⟩ := hp; exact ⟨a, c, hv⟩
  clear hp hc hh
  go_enter Tryz.func13, Tryz.ntmps13
  go_wp2_with (first | (go_at_call 12; refine hjn.mono ?_; clear hjn; rintro e w1 ⟨J, M, A, D, C, rfl, -, -, hb1⟩; have hpk := HPK.out w1; clear HPK) | (go_at_call 42; refine hpk.mono ?_; clear hpk; rintro e w1 ⟨rfl, rfl⟩))
  go_ret2
  exact ⟨rfl, hb1⟩
end Go.Proofs.YtlfbdjeojgbniaaGreatDoor

namespace Go.Proofs.YtlfbdjeojgbniaaGreatDoor
open Go.RowKit Go.Deep

/-- What a line's text and error answer. -/
def TellsAs (q : Addr) (R : Desk → List UInt8 → Prop) (d : Desk) (o : List UInt8) (ev : Value) : Prop :=
  (ev = .nilIface ∧ R d o) ∨ (∃ n : Int, 1 ≤ n ∧ n ≤ 8 ∧ ev = .iface 97 (.int .i64 n) ∧ R d (nameT n)) ∨ (ev = badV q ∧ R d badT)
/-- A line's end. -/
def LineEnd (q : Addr) (W0 : World) (Y X : Nat → Prop) (S : Nat) (R : Desk → List UInt8 → Prop) (w : World) (e : Ending) (w' : World) : Prop :=
  ∃ d' o ev, e = .returned (.tuple #[.string ⟨o.toArray⟩, ev]) ∧ TellsAs q R d' o ev ∧ o.length ≤ 20000 ∧ Moved W0 Y X S d' w w'
variable {q : Addr} {W0 : World} {Y X : Nat → Prop} {S : Nat} {d : Desk} {w : World}
theorem LineEnd.told {R : Desk → List UInt8 → Prop} {d' : Desk} {o : List UInt8} {w' : World} (hr : R d' o) (hl : o.length ≤ 20000) (hm : Moved W0 Y X S d' w w') : LineEnd q W0 Y X S R w (.returned (.tuple #[.string ⟨o.toArray⟩, .nilIface])) w' := ⟨d', o, _, rfl, Or.inl ⟨rfl, hr⟩, hl, hm⟩
theorem LineEnd.err {R : Desk → List UInt8 → Prop} {d' : Desk} {n : Int} {w' : World} (h1 : 1 ≤ n) (h8 : n ≤ 8) (hr : R d' (nameT n)) (hm : Moved W0 Y X S d' w w') : LineEnd q W0 Y X S R w (.returned (.tuple #[.string ⟨#[]⟩, .iface 97 (.int .i64 n)])) w' := ⟨d', [], _, rfl, Or.inr (Or.inl ⟨n, h1, h8, rfl, hr⟩), by simp, hm⟩
theorem LineEnd.bad {R : Desk → List UInt8 → Prop} {d' : Desk} {w' : World} (hr : R d' badT) (hm : Moved W0 Y X S d' w w') : LineEnd q W0 Y X S R w (.returned (.tuple #[.string ⟨#[]⟩, badV q])) w' := ⟨d', [], _, rfl, Or.inr (Or.inr ⟨rfl, hr⟩), by simp, hm⟩

theorem sess_cells {w : World} {pv gv : Value} (h : w.heap[S]? = some (.cells #[pv, gv] 51 (0, 0))) : w.cell? ⟨S, 0, none⟩ = some pv ∧ w.cell? ⟨S, 1, none⟩ = some gv ∧ w.frozen? ⟨S, 0, none⟩ = false ∧ w.frozen? ⟨S, 1, none⟩ = false := by
  refine ⟨?_, ?_, ?_, ?_⟩
  · unfold World.cell?; rw [h]; rfl
  · unfold World.cell?; rw [h]; rfl
  · unfold World.frozen?; rw [h]; rfl
  · unfold World.frozen?; rw [h]; rfl
theorem planAt_shape {w : World} {v : Value} {ts : List (Int × List Int)} (h : PlanAt w v ts) : ∃ a c, v = .slice a ts.length c := by
  obtain ⟨_, a, c, hv, _⟩ := h
  exact ⟨a, c, hv⟩
theorem DeskAt.belowV (h : DeskAt W0 Y X S d w) (hv : Vars q W0) : Vars q w := hv.later h.bel
set_option maxRecDepth 100000 in
set_option maxHeartbeats 2000000 in
theorem readWeave_any (h : DeskAt W0 Y X S d w) (hv : Vars q W0) (l : List UInt8) (hl : l.length ≤ 1048576) :
    Calls Tryz.prog 49 #[.pointer (some ⟨S, 0, none⟩), .string ⟨l.toArray⟩] w (LineEnd q W0 Y X S (WeaveIs d l) w) := by
  have hpa := parse_any l w (by omega)
  have HD : Hid (DeskAt W0 Y X S d w) := h
  have HV : Hid (Vars q W0) := hv
  clear h hv
  go_enter Tryz.func49, Tryz.ntmps49
  go_wp2_with fail
  refine hpa.mono ?_
  clear hpa
  rintro e w1 ⟨hb1, ⟨n, hn, hwe, rfl⟩ | ⟨t, tv, hok, rfl, hpn⟩⟩
  · have HN : Hid (WeaveErr l n ∧ n ≠ 0) := ⟨hwe, hn⟩
    have HB : Hid (Below w.heap.size w w1) := hb1
    rw [errV_some hn]
    clear hwe hb1 hn
    go_wp2
    go_ret2
    obtain ⟨hwe, hn⟩ := HN.out
    have hq := weave_q hwe hn
    exact LineEnd.err hq.1 hq.2 (Or.inl ⟨n, hn, hwe, rfl, rfl⟩) (HD.out.stays HB.out)
  · have hf := treeR_bounds t hok.facts.2
    have hcn := hok.facts.1
    obtain ⟨tw, htw⟩ := Int.eq_ofNat_of_zero_le (show 0 ≤ t.work V1 by omega)
    obtain ⟨tp, htp⟩ := Int.eq_ofNat_of_zero_le hf.1
    obtain ⟨a, c, rfl⟩ := planAt_shape hpn.at
    have h2 := HD.out.later hb1
    obtain ⟨pv, gv, e1, -, -⟩ := h2.mem
    obtain ⟨c0, -, f0, -⟩ := sess_cells e1
    have HM : Hid (Moved W0 Y X S { d with ts := t.lay V1 [] } w (w1.setCell ⟨S, 0, none⟩ (.slice a (t.lay V1 []).length c))) := HD.out.putPlan hb1 hpn hok.check
    have HP : Hid (∀ wx, wx = w1.setCell ⟨S, 0, none⟩ (.slice a (t.lay V1 []).length c) → Calls Tryz.prog 87 #[.int .i64 (tw : Int), .int .i64 (tp : Int)] wx fun e w' => e = .returned (.string ⟨(twoT (tw : Int) (tp : Int)).toArray⟩) ∧ Below wx.heap.size wx w') := fun wx e => by
      subst e
      obtain ⟨Y', X', hd', -⟩ := HM.out
      exact pair_any tw tp (by omega) (by omega) _ (HV.out.later hd'.bel)
    have HW : Hid (WeaveIs d l { d with ts := t.lay V1 [] } (twoT (tw : Int) (tp : Int))) := Or.inr ⟨t, hok, rfl, by rw [htw, htp]⟩
    have HL : Hid ((twoT (tw : Int) (tp : Int)).length ≤ 20000) := Nat.le_trans (twoT_len tw tp (by omega) (by omega)) (by omega)
    rw [htw, htp]
    clear e1 h2 hpn hb1 hf hok hcn htw htp
    generalize (t.lay V1 []).length = n at *
    generalize (twoT (tw : Int) (tp : Int)) = o at *
    go_wp2_with (first | (go_at_call 87; refine (HP.out _ rfl).mono ?_; rintro e w3 ⟨rfl, hb3⟩; have HB3 : Hid (Below (w1.setCell ⟨S, 0, none⟩ (.slice a n c)).heap.size (w1.setCell ⟨S, 0, none⟩ (.slice a n c)) w3) := hb3; clear hb3))
    go_ret2
    exact LineEnd.told HW.out HL.out (HM.out.later HB3.out)
set_option maxRecDepth 100000 in
set_option maxHeartbeats 2000000 in
theorem readPlan_any (h : DeskAt W0 Y X S d w) (hv : Vars q W0) (l : List UInt8) (hl : l.length ≤ 1048576) :
    Calls Tryz.prog 50 #[.pointer (some ⟨S, 0, none⟩), .string ⟨l.toArray⟩] w (LineEnd q W0 Y X S (PlanIs d l) w) := by
  have hpa := parseP_any l w hl (h.belowV hv).syn (h.belowV hv).len
  have HD : Hid (DeskAt W0 Y X S d w) := h
  clear h hv
  go_enter Tryz.func50, Tryz.ntmps50
  go_wp2_with fail
  refine hpa.mono ?_
  clear hpa
  rintro e w1 ⟨⟨ht, rfl⟩ | ⟨ts, p, n, ht, -, hc, ⟨hn, rfl⟩ | ⟨rfl, v, rfl, hpn⟩⟩, hb1⟩
  · rw [errV_some (by decide)]
    have HB : Hid (Below w.heap.size w w1) := hb1
    have HT : Hid (tasksOf l = none) := ht
    clear ht hb1
    go_wp2
    go_ret2
    exact LineEnd.err (by decide) (by decide) (Or.inl ⟨HT.out, rfl, rfl⟩) (HD.out.stays HB.out)
  · rw [errV_some hn]
    have HN : Hid (tasksOf l = some ts ∧ CheckIs ts p n ∧ n ≠ 0) := ⟨ht, check_take hc, hn⟩
    have HB : Hid (Below w.heap.size w w1) := hb1
    clear ht hb1 hc hn
    go_wp2
    go_ret2
    obtain ⟨ht, hc, hn⟩ := HN.out
    have hq := check_q hc hn
    exact LineEnd.err hq.1 hq.2 (Or.inr ⟨ts, p, n, ht, hc, Or.inl ⟨hn, rfl, rfl⟩⟩) (HD.out.stays HB.out)
  · have hc2 := check_take hc
    rw [take_right hc] at hpn
    obtain ⟨rfl, -⟩ := hc2.ok rfl
    obtain ⟨a, c, rfl⟩ := planAt_shape hpn.at
    have h2 := HD.out.later hb1
    obtain ⟨pv, gv, e1, -, -⟩ := h2.mem
    obtain ⟨c0, -, f0, -⟩ := sess_cells e1
    have HM : Hid (Moved W0 Y X S { d with ts := ts } w (w1.setCell ⟨S, 0, none⟩ (.slice a ts.length c))) := HD.out.putPlan hb1 hpn hc2
    have HW : Hid (PlanIs d l { d with ts := ts } okT) := Or.inr ⟨ts, 0, 0, ht, hc2, Or.inr ⟨rfl, rfl, rfl⟩⟩
    clear e1 h2 hpn hb1 hc hc2 ht
    go_wp2
    go_ret2
    exact LineEnd.told (o := okT) HW.out (by decide) HM.out
theorem show_any (h : DeskAt W0 Y X S d w) (v : Value) :
    Calls Tryz.prog 52 #[.pointer (some ⟨S, 0, none⟩), v] w (LineEnd q W0 Y X S (fun d' o => d' = d ∧ o = planText d.ts) w) := by
  obtain ⟨pv, gv, e1, e2, -⟩ := h.mem
  have hp := print_right pv d.ts w e2.at h.ok.pl
  have HL : Hid ((planText d.ts).length ≤ 20000) := planText_len h.ok.pl
  obtain ⟨a, c, rfl⟩ := planAt_shape e2.at
  obtain ⟨c0, -, f0, -⟩ := sess_cells e1
  have HD : Hid (DeskAt W0 Y X S d w) := h
  clear e1 e2 h
  go_enter Tryz.func52, Tryz.ntmps52
  go_wp2_with (first | (go_at_call 90; refine hp.mono ?_; clear hp; rintro e w1 ⟨rfl, hb1⟩; have HB : Hid (Below w.heap.size w w1) := hb1; clear hb1))
  go_ret2
  exact LineEnd.told ⟨rfl, rfl⟩ HL.out (HD.out.stays HB.out)
end Go.Proofs.YtlfbdjeojgbniaaGreatDoor

namespace Go.Proofs.YtlfbdjeojgbniaaGreatDoor
open Go.RowKit Go.Deep

variable {q : Addr} {W0 : World} {Y X : Nat → Prop} {S : Nat} {d : Desk} {w : World}
/-- A line's numbers in memory. -/
def ArgsIn (w : World) (v : Value) (ns : List Nat) : Prop := ∃ g c, v = .slice (some ⟨g, 0, none⟩) ns.length c ∧ ∀ k, k < ns.length → w.cell? ⟨g, k, none⟩ = some (.int .i64 (ns.getD k 0 : Nat))
theorem NumsIn.args {B : Nat} {w : World} {v : Value} {ns : List Nat} (h : NumsIn B w v ns) (hn : 0 < ns.length) : ArgsIn w v ns := by
  rcases h.2 with ⟨rfl, hz⟩ | ⟨g, cap, cur, rfl, hb, hh, hr⟩
  · omega
  · refine ⟨g, cap, rfl, fun k hk => ?_⟩
    have := World.ownsRow.cells h (g := g) rfl k (.int .i64 (ns.getD k 0 : Nat)) (by simp [natV, List.getD_eq_getElem?_getD, List.getElem?_eq_getElem hk])
    rwa [Addr.add_lit, Nat.zero_add] at this

set_option maxRecDepth 100000 in
theorem leftS_any (h : DeskAt W0 Y X S d w) (hv : Vars q W0) (v : Value) :
    Calls Tryz.prog 56 #[.pointer (some ⟨S, 0, none⟩), v] w (LineEnd q W0 Y X S (fun d' o => d' = d ∧ LeftIs d o) w) := by
  obtain ⟨pv, gv, e1, -, hg⟩ := h.mem
  obtain ⟨-, c1, -, f1⟩ := sess_cells e1
  have HD : Hid (DeskAt W0 Y X S d w) := h
  have HV : Hid (Vars q W0) := hv
  have hokg := h.ok.gg
  clear e1 h hv
  obtain ⟨dts, dg⟩ := d
  cases dg with
  | none =>
    obtain rfl : gv = .pointer none := hg
    clear hokg
    go_enter Tryz.func56, Tryz.ntmps56
    go_wp2
    go_ret2
    exact LineEnd.err (by decide) (by decide) ⟨rfl, rfl⟩ (HD.out.stays (Below.refl _ _))
  | some x =>
    obtain ⟨t, hands, g⟩ := x
    obtain ⟨G, rfl, hgx⟩ := hg
    have hle := hgx.left
    have hun := unseen_le g.S t.length
    have h30 := ((hokg t hands g rfl).1.ok rfl).2.1
    have HI : Hid (∀ wx, Below w.heap.size w wx → Calls Tryz.prog 95 #[.int .i64 ((unseen g.S t.length : Nat) : Int)] wx fun e w' => e = .returned (.string ⟨(digs ((unseen g.S t.length : Nat) : Int)).toArray⟩) ∧ Below wx.heap.size wx w') := fun wx hbx => itoaR_any _ (by omega) wx ((HD.out.belowV HV.out).later hbx)
    have HL : Hid ((digs ((unseen g.S t.length : Nat) : Int)).length ≤ 20000) := Nat.le_trans (digsS_len _ (by omega)) (by omega)
    have HR : Hid (LeftIs ⟨dts, some (t, hands, g)⟩ (digs ((unseen g.S t.length : Nat) : Int))) := rfl
    clear hgx hokg hun h30
    generalize unseen g.S t.length = n at *
    go_enter Tryz.func56, Tryz.ntmps56
    go_wp2_with (first | (go_at_call 15; refine hle.mono ?_; clear hle; rintro e w1 ⟨rfl, hb1⟩; have HB : Hid (Below w.heap.size w w1) := hb1; clear hb1) | (go_at_call 95; refine (HI.out _ HB.out).mono ?_; rintro e w2 ⟨rfl, hb2⟩; have HB2 : Hid (Below w.heap.size w w2) := HB.out.trans (hb2.mono HB.out.size); clear hb2))
    go_ret2
    exact LineEnd.told ⟨rfl, HR.out⟩ HL.out (HD.out.stays HB2.out)

set_option maxRecDepth 100000 in
set_option maxHeartbeats 4000000 in
theorem newGang_any (h : DeskAt W0 Y X S d w) (v : Value) (n : Nat) (ha : ArgsIn w v [n]) :
    Calls Tryz.prog 54 #[.pointer (some ⟨S, 0, none⟩), v] w (LineEnd q W0 Y X S (GangIs d n) w) := by
  obtain ⟨pv, gv, e1, e2, -⟩ := h.mem
  obtain ⟨c0, -, f0, -⟩ := sess_cells e1
  obtain ⟨ga, gc, rfl, hcell⟩ := ha
  have hn0 : w.cell? ⟨ga, 0, none⟩ = some (.int .i64 (n : Int)) := hcell 0 (by simp)
  have HD : Hid (DeskAt W0 Y X S d w) := h
  have HP : Hid (PlanAt w pv d.ts) := e2.at
  have HC : Hid (CheckIs d.ts 0 0) := h.ok.pl
  obtain ⟨a, c, rfl⟩ := planAt_shape e2.at
  clear e1 e2 h hcell
  by_cases hn : 1 ≤ n ∧ n ≤ 6
  · have hg : ∀ k, Calls Tryz.prog 13 #[.slice a d.ts.length c, .int .i64 (n : Int), .int .i64 4] (w.drewN k) fun e w' => ∃ G, e = .returned (.tuple #[.pointer (some ⟨G, 0, none⟩), .nilIface]) ∧ GX (fun k => k < w.heap.size) G 4 n d.ts (gnew d.ts) w' ∧ Below w.heap.size w w' := fun k => by
      have hb : Below w.heap.size w (w.drewN k) := ⟨rfl, rfl, rfl, Nat.le_refl _, fun _ _ => rfl⟩
      refine (gx_new (room := 4) (HP.out.later hb) HC.out hn.1 hn.2 (by omega) (by omega)).mono ?_
      rintro e w' ⟨G, rfl, hgx, hb2⟩
      exact ⟨G, rfl, hgx, hb.trans hb2⟩
    have HR : Hid (GangIs d n { d with gang := some (d.ts, n, gnew d.ts) } okT) := (by
      show GangIs _ _ _ _
      unfold GangIs
      rw [if_pos hn]
      exact ⟨rfl, rfl⟩)
    have HN : Hid (1 ≤ n ∧ n ≤ 6) := hn
    clear hn HP HC
    generalize d.ts.length = m at *
    go_enter Tryz.func54, Tryz.ntmps54
    go_wp2
    go_region_with (first | (go_at_call 13; refine (hg _).mono ?_; clear hg; rintro e w1 ⟨G, rfl, hgx, hb1⟩; have HG : Hid (GX (fun k => k < w.heap.size) G 4 n d.ts (gnew d.ts) w1) := hgx; have HB : Hid (Below w.heap.size w w1) := hb1; clear hgx hb1))
    all_goals
      have h2 := HD.out.later HB.out
      obtain ⟨pv2, gv2, e1, -, -⟩ := h2.mem
      obtain ⟨-, c1, -, f1⟩ := sess_cells e1
      have HM : Hid (Moved W0 Y X S { d with gang := some (d.ts, n, gnew d.ts) } w (w1.setCell ⟨S, 1, none⟩ (.pointer (some ⟨G, 0, none⟩)))) := HD.out.putGang HB.out HG.out HN.out.1 HN.out.2
      clear h2 e1
      go_wp2
      go_ret2
      exact LineEnd.told (o := okT) HR.out (by decide) HM.out
  · have hg : ∀ k, Calls Tryz.prog 13 #[.slice a d.ts.length c, .int .i64 (n : Int), .int .i64 4] (w.drewN k) fun e w' => e = .returned (.tuple #[.pointer none, .iface 97 (.int .i64 1)]) ∧ Below w.heap.size w w' := fun k => by
      have hb : Below w.heap.size w (w.drewN k) := ⟨rfl, rfl, rfl, Nat.le_refl _, fun _ _ => rfl⟩
      refine (gNew_hands _ d.ts _ (HP.out.later hb) HC.out (n : Int) 4 (by omega)).mono ?_
      rintro e w' ⟨rfl, hb2⟩
      exact ⟨rfl, hb.trans hb2⟩
    have HR : Hid (GangIs d n d (nameT 1)) := (by
      show GangIs _ _ _ _
      unfold GangIs
      rw [if_neg hn]
      exact ⟨rfl, rfl⟩)
    clear hn HP HC
    generalize d.ts.length = m at *
    go_enter Tryz.func54, Tryz.ntmps54
    go_wp2
    go_region_with (first | (go_at_call 13; refine (hg _).mono ?_; clear hg; rintro e w1 ⟨rfl, hb1⟩; have HB : Hid (Below w.heap.size w w1) := hb1; clear hb1))
    all_goals
      go_wp2
      go_ret2
      exact LineEnd.err (by decide) (by decide) HR.out (HD.out.stays HB.out)
end Go.Proofs.YtlfbdjeojgbniaaGreatDoor

namespace Go.Proofs.YtlfbdjeojgbniaaGreatDoor
open Go.RowKit Go.Deep

variable {q : Addr} {W0 : World} {Y X : Nat → Prop} {S : Nat} {d : Desk} {w : World}
theorem drewS (w : World) (k : Nat) : Below w.heap.size w (w.drewN k) := ⟨rfl, rfl, rfl, Nat.le_refl _, fun _ _ => rfl⟩
theorem greedy_yes {ts : List (Int × List Int)} {n : Nat} {e : Ending} (hc : CheckIs ts 0 0) (hn : 1 ≤ n ∧ n ≤ 6) (h : LongOut ts (n : Int) e) : ∃ s : Nat, s ≤ 600 ∧ Stops ts n s ∧ e = .returned (.tuple #[.int .i64 s, .nilIface]) := by
  rcases h with ⟨p, q, hc', hq, _⟩ | ⟨_, _, _, s, hs, rfl⟩
  · obtain ⟨_, rfl⟩ := hc.det hc'
    refine absurd ?_ hq
    unfold gErr
    rw [if_pos rfl, if_neg (by omega)]
  · rw [Int.toNat_natCast] at hs
    exact ⟨s, hs.le hc.works.1 hn.1, hs, rfl⟩
theorem greedy_no {ts : List (Int × List Int)} {n : Nat} {e : Ending} (hc : CheckIs ts 0 0) (hn : ¬ (1 ≤ n ∧ n ≤ 6)) (h : LongOut ts (n : Int) e) : e = .returned (.tuple #[.int .i64 0, .iface 97 (.int .i64 1)]) := by
  rcases h with ⟨p, q, hc', hq, rfl⟩ | ⟨_, h1, h6, _⟩
  · obtain ⟨_, rfl⟩ := hc.det hc'
    have : gErr 0 (n : Int) = 1 := by unfold gErr; rw [if_pos rfl, if_pos (by omega)]
    rw [this]; rfl
  · omega
theorem bound_yes {ts : List (Int × List Int)} {n : Nat} {e : Ending} (hc : CheckIs ts 0 0) (hn : 1 ≤ n ∧ n ≤ 6) (h : BoundOut ts (n : Int) e) : ∃ (b : Nat) (ord : List Nat), b < 10000 ∧ OrdIs ts ord ∧ (b : Int) = (workTo ts ts.length + ((n : Int) - 1) * maxTo (tailsOf ts ord) ts.length) / (n : Int) ∧ e = .returned (.tuple #[.int .i64 b, .nilIface]) := by
  rcases h with ⟨p, q, hc', hq, _⟩ | ⟨_, _, _, ord, ho, rfl⟩
  · obtain ⟨_, rfl⟩ := hc.det hc'
    refine absurd ?_ hq
    unfold gErr
    rw [if_pos rfl, if_neg (by omega)]
  · obtain ⟨hs0, hs1⟩ := span_bound hc ho
    obtain ⟨hm0, hm1⟩ := hands_mul (hands := (n : Int)) (by omega) (by omega) hs0 hs1
    have hw := hc.works.1.all
    have h0 : 0 ≤ (workTo ts ts.length + ((n : Int) - 1) * maxTo (tailsOf ts ord) ts.length) / (n : Int) := Int.ediv_nonneg (by omega) (by omega)
    have h1 : (workTo ts ts.length + ((n : Int) - 1) * maxTo (tailsOf ts ord) ts.length) / (n : Int) ≤ workTo ts ts.length + ((n : Int) - 1) * maxTo (tailsOf ts ord) ts.length := Int.ediv_le_self _ (by omega)
    obtain ⟨b, hb⟩ := Int.eq_ofNat_of_zero_le h0
    exact ⟨b, ord, by omega, ho, hb.symm, by rw [hb]⟩

set_option maxRecDepth 100000 in
set_option maxHeartbeats 4000000 in
theorem greedyS_any (h : DeskAt W0 Y X S d w) (hv : Vars q W0) (v : Value) (n : Nat) (ha : ArgsIn w v [n]) :
    Calls Tryz.prog 53 #[.pointer (some ⟨S, 0, none⟩), v] w (LineEnd q W0 Y X S (GreedyIs d n) w) := by
  obtain ⟨pv, gv, e1, e2, -⟩ := h.mem
  have HS : Hid (w.heap[S]? = some (.cells #[pv, gv] 51 (0, 0))) := e1
  obtain ⟨c0, -, -, -⟩ := sess_cells e1
  obtain ⟨ga, gc, rfl, hcell⟩ := ha
  have hn0 : w.cell? ⟨ga, 0, none⟩ = some (.int .i64 (n : Int)) := hcell 0 (by simp)
  have HN0 : Hid (w.cell? ⟨ga, 0, none⟩ = some (.int .i64 (n : Int))) := hn0
  have HGA : Hid (ga < w.heap.size) := cell_lt hn0
  have HD : Hid (DeskAt W0 Y X S d w) := h
  have HV : Hid (Vars q W0) := hv
  have HP : Hid (PlanAt w pv d.ts) := e2.at
  have HC : Hid (CheckIs d.ts 0 0) := h.ok.pl
  obtain ⟨a, c, rfl⟩ := planAt_shape e2.at
  clear e1 e2 h hcell hv
  by_cases hn : 1 ≤ n ∧ n ≤ 6
  · have hl : ∀ k, Calls Tryz.prog 11 #[.slice a d.ts.length c, .int .i64 (n : Int)] (w.drewN k) fun e w' => (∃ s : Nat, s ≤ 600 ∧ Hid (Stops d.ts n s) ∧ e = .returned (.tuple #[.int .i64 s, .nilIface])) ∧ Below w.heap.size w w' := fun k => by
      refine (long_any _ d.ts (n : Int) _ (HP.out.later (drewS w k))).mono ?_
      rintro e w' ⟨ho, hb2⟩
      exact ⟨greedy_yes HC.out hn ho, (drewS w k).trans hb2⟩
    have HBD : Hid (∀ wx, Below w.heap.size w wx → ∀ k, Calls Tryz.prog 91 #[.slice a d.ts.length c, .int .i64 (n : Int)] (wx.drewN k) fun e w' => (∃ (b : Nat) (ord : List Nat), b < 10000 ∧ Hid (OrdIs d.ts ord ∧ (b : Int) = (workTo d.ts d.ts.length + ((n : Int) - 1) * maxTo (tailsOf d.ts ord) d.ts.length) / (n : Int)) ∧ e = .returned (.tuple #[.int .i64 b, .nilIface])) ∧ Below wx.heap.size wx w') := fun wx hbx k => by
      refine (bound_any _ d.ts (n : Int) _ ((HP.out.later hbx).later (drewS wx k))).mono ?_
      rintro e w' ⟨ho, hb2⟩
      obtain ⟨b, ord, h1, h2, h3, h4⟩ := bound_yes HC.out hn ho
      exact ⟨⟨b, ord, h1, ⟨h2, h3⟩, h4⟩, (drewS wx k).trans hb2⟩
    have HR : Hid (∀ (s b : Nat) (ord : List Nat), Stops d.ts n s → (OrdIs d.ts ord ∧ (b : Int) = (workTo d.ts d.ts.length + ((n : Int) - 1) * maxTo (tailsOf d.ts ord) d.ts.length) / (n : Int)) → GreedyIs d n d (twoT (s : Int) (b : Int))) := fun s b ord h1 h2 => ⟨rfl, Or.inr ⟨hn, s, ord, h1, h2.1, by rw [h2.2]⟩⟩
    have HPR : Hid (∀ (s b : Nat) wx, s ≤ 600 → b < 10000 → Below w.heap.size w wx → Calls Tryz.prog 87 #[.int .i64 (s : Int), .int .i64 (b : Int)] wx fun e w' => e = .returned (.string ⟨(twoT (s : Int) (b : Int)).toArray⟩) ∧ Below wx.heap.size wx w') := fun s b wx h1 h2 hb => pair_any s b (by omega) h2 wx ((HD.out.belowV HV.out).later hb)
    clear HP HC hn
    go_enter Tryz.func53, Tryz.ntmps53
    go_wp2
    go_region_with (first | (go_at_call 11; refine (hl _).mono ?_; clear hl; rintro e w1 ⟨⟨s, hs6, hst, rfl⟩, hb1⟩; have HS6 : Hid (s ≤ 600) := hs6; have HB : Hid (Below w.heap.size w w1) := hb1; clear hb1 hs6))
    all_goals
      have c0 := (sess_cells ((HB.out.block S (lt_of_block HS.out)).trans HS.out)).1
      have hn1 := (HB.out.cell (p := ⟨ga, 0, none⟩) HGA.out).trans HN0.out
      have hbd := HBD.out w1 HB.out
      go_wp2
      go_region_with (first | (go_at_call 91; refine (hbd _).mono ?_; clear hbd; rintro e w2 ⟨⟨b, ord, hb4, hor, rfl⟩, hb2⟩; have HB4 : Hid (b < 10000) := hb4; have HB2 : Hid (Below w.heap.size w w2) := HB.out.trans (hb2.mono HB.out.size); clear hb2 hb4))
      all_goals
        have hpr := HPR.out s b w2 HS6.out HB4.out HB2.out
        have HTL : Hid ((twoT (s : Int) (b : Int)).length ≤ 20000) := Nat.le_trans (twoT_len s b (by have := HS6.out; omega) HB4.out) (by omega)
        go_wp2_with (first | (go_at_call 87; refine hpr.mono ?_; clear hpr; rintro e w3 ⟨rfl, hb3⟩; have HB3 : Hid (Below w.heap.size w w3) := HB2.out.trans (hb3.mono HB2.out.size); clear hb3))
        go_ret2
        exact LineEnd.told (HR.out s b ord hst.out hor.out) HTL.out (HD.out.stays HB3.out)
  · have hl : ∀ k, Calls Tryz.prog 11 #[.slice a d.ts.length c, .int .i64 (n : Int)] (w.drewN k) fun e w' => e = .returned (.tuple #[.int .i64 0, .iface 97 (.int .i64 1)]) ∧ Below w.heap.size w w' := fun k => by
      refine (long_any _ d.ts (n : Int) _ (HP.out.later (drewS w k))).mono ?_
      rintro e w' ⟨ho, hb2⟩
      exact ⟨greedy_no HC.out hn ho, (drewS w k).trans hb2⟩
    have HR : Hid (GreedyIs d n d (nameT 1)) := ⟨rfl, Or.inl ⟨hn, rfl⟩⟩
    clear HP HC hn HS HN0 HGA
    go_enter Tryz.func53, Tryz.ntmps53
    go_wp2
    go_region_with (first | (go_at_call 11; refine (hl _).mono ?_; clear hl; rintro e w1 ⟨rfl, hb1⟩; have HB : Hid (Below w.heap.size w w1) := hb1; clear hb1))
    all_goals
      go_wp2
      go_ret2
      exact LineEnd.err (by decide) (by decide) HR.out (HD.out.stays HB.out)
end Go.Proofs.YtlfbdjeojgbniaaGreatDoor

namespace Go.Proofs.YtlfbdjeojgbniaaGreatDoor
open Go.RowKit Go.Deep

variable {q : Addr} {W0 : World} {Y X : Nat → Prop} {S : Nat} {d : Desk} {w : World}
theorem replS_any (l : List UInt8) (hl : l.length ≤ 1048576) (w : World) (hm : Lens w) :
    Calls Tryz.prog 94 #[.string ⟨l.toArray⟩, .string ⟨#[10]⟩, .string ⟨#[59]⟩] w fun e w' => e = .returned (.string ⟨(l.map (fun b => if b = (10 : UInt8) then 59 else b)).toArray⟩) ∧ Below w.heap.size w w' := by
  obtain ⟨⟨m, hm⟩, _⟩ := hm
  have hc : Lib.countB ⟨l.toArray⟩ ⟨#[10]⟩ ≤ 1048576 := by
    have := Lib.countB_le ⟨#[10]⟩ (by show 1 ≤ (#[(10 : UInt8)]).size; decide) _ ⟨l.toArray⟩ (Nat.le_refl _)
    have e : (⟨l.toArray⟩ : ByteArray).size = l.length := by show l.toArray.size = _; simp
    omega
  have h := Tryz.strings_ReplaceAll ⟨l.toArray⟩ ⟨#[10]⟩ ⟨#[59]⟩ m w (by show l.toArray.size < _; simp; omega) hm (by show 1 ≤ (#[(10 : UInt8)]).size; decide) (by
    have e : (⟨l.toArray⟩ : ByteArray).size = l.length := by show l.toArray.size = _; simp
    have e1 : (⟨#[59]⟩ : ByteArray).size = 1 := rfl
    rw [e, e1]; omega)
  refine h.mono ?_
  rintro e w' ⟨rfl, hb⟩
  refine ⟨?_, hb⟩
  rw [show Lib.replaceAll (⟨l.toArray⟩ : ByteArray).data.toList (⟨#[10]⟩ : ByteArray).data.toList (⟨#[59]⟩ : ByteArray).data.toList = l.map (fun b => if b = (10 : UInt8) then 59 else b) from replaceAll_one 10 59 (by decide) l]

set_option maxRecDepth 100000 in
set_option maxHeartbeats 4000000 in
theorem stepS_any (h : DeskAt W0 Y X S d w) (hv : Vars q W0) (v : Value) (n k : Nat) (ha : ArgsIn w v [n, k]) (hk : k < 10000) :
    Calls Tryz.prog 55 #[.pointer (some ⟨S, 0, none⟩), v] w (LineEnd q W0 Y X S (StepIs d n k) w) := by
  obtain ⟨pv, gv, e1, e2, hg⟩ := h.mem
  obtain ⟨-, c1, -, -⟩ := sess_cells e1
  obtain ⟨ga, gc, rfl, hcell⟩ := ha
  have hn0 : w.cell? ⟨ga, 0, none⟩ = some (.int .i64 (n : Int)) := hcell 0 (by simp)
  have hn1 : w.cell? ⟨ga, 1, none⟩ = some (.int .i64 (k : Int)) := hcell 1 (by simp)
  have HD : Hid (DeskAt W0 Y X S d w) := h
  have HV : Hid (Vars q W0) := hv
  have HE1 : Hid (w.heap[S]? = some (.cells #[pv, gv] 51 (0, 0))) := e1
  have HE2 : Hid (PlanY Y w pv d.ts) := e2
  clear e1 e2 hcell hv h
  obtain ⟨dts, dg⟩ := d
  cases dg with
  | none =>
    obtain rfl : gv = .pointer none := hg
    clear hn0 hn1 HE1 HE2
    have HR : Hid (StepIs ⟨dts, none⟩ n k ⟨dts, none⟩ (nameT 6)) := ⟨rfl, rfl⟩
    go_enter Tryz.func55, Tryz.ntmps55
    go_wp2
    go_ret2
    exact LineEnd.err (by decide) (by decide) HR.out (HD.out.stays (Below.refl _ _))
  | some x =>
    obtain ⟨t, hands, g⟩ := x
    obtain ⟨G, rfl, hgx⟩ := hg
    obtain ⟨hct, h1, h6, hI⟩ := HD.out.ok.gg t hands g rfl
    by_cases hh : hands ≤ n
    · have hst : ∀ j, Calls Tryz.prog 92 #[.pointer (some ⟨G, 0, none⟩), .int .i64 (n : Int), .int .i64 (k : Int)] (w.drewN j) fun e w' => e = .returned (.tuple #[.slice none 0 0, .iface 97 (.int .i64 1)]) ∧ Below w.heap.size w w' := fun j => by
        refine ((hgx.later (drewS w j)).refused (n : Int) (k : Int) (by omega)).mono ?_
        rintro e w' ⟨rfl, rfl⟩
        exact ⟨rfl, drewS w j⟩
      have HR : Hid (StepIs ⟨dts, some (t, hands, g)⟩ n k ⟨dts, some (t, hands, g)⟩ (nameT 1)) := (by
        show StepIs _ _ _ _ _
        unfold StepIs
        dsimp only
        rw [if_pos hh]
        exact ⟨rfl, rfl⟩)
      clear hgx hct h1 h6 hI hh HE1 HE2
      go_enter Tryz.func55, Tryz.ntmps55
      go_wp2
      go_region_with (first | (go_at_call 92; refine (hst _).mono ?_; clear hst; rintro e w1 ⟨rfl, hb1⟩; have HB : Hid (Below w.heap.size w w1) := hb1; clear hb1))
      all_goals
        go_wp2
        go_ret2
        exact LineEnd.err (by decide) (by decide) HR.out (HD.out.stays HB.out)
    · have hst : ∀ j, Calls Tryz.prog 92 #[.pointer (some ⟨G, 0, none⟩), .int .i64 (n : Int), .int .i64 (k : Int)] (w.drewN j) fun e w' => ∃ v, e = .returned (.tuple #[v, .nilIface]) ∧ Hid (RowD w.heap.size w' v (gdeeds t hands g n k)) ∧ Hid (Moved W0 Y X S ⟨dts, some (t, hands, gstep t 4 hands g n k)⟩ w w') := fun j => by
        have hwk : ∀ i, i < t.length → 1 ≤ workOf t i ∧ workOf t i ≤ 1000 := fun i hi => ⟨run_work hct i hi, by
          have h2 := (errOf_zero ((hct.ok rfl).2.2.1 i hi)).1
          unfold workOf; omega⟩
        refine ((hgx.later (drewS w j)).step hct.good hwk (by omega) (by omega) h6 n k (by omega) (by omega)).mono ?_
        rintro e w' ⟨v, rfl, hr, hg2, hk2⟩
        have hk3 : KeptX X w w' := ⟨hk2.os, hk2.tape, hk2.output, hk2.size, hk2.block⟩
        exact ⟨v, rfl, hr, HD.out.stepped HE1.out HE2.out hk3 hg2 ⟨HD.out.ok.pl, fun t' hands' g' e => by cases e; exact ⟨hct, h1, h6, hI.step hct.good (run_work hct) (by omega) (by omega) k⟩⟩⟩
      have hde := deeds_right hI hct.good h6 (show n < hands by omega) k
      have hdl := deeds_len hct.good hands g n k
      have HNE : Hid (deedsErr (gdeeds t hands g n k) = 0) := deeds_noErr hde (by omega)
      have HTX : Hid ((deedsText (gdeeds t hands g n k)).map (fun b => if b = (10 : UInt8) then 59 else b) = (gdeeds t hands g n k).flatMap (fun x => deedText x ++ [59])) := deeds_semis hde
      have HTL : Hid ((deedsText (gdeeds t hands g n k)).length ≤ 1048576) := (by
        have := deedsText_len _ hde
        show _ ≤ _
        omega)
      have HL : Hid ((rowT (gdeeds t hands g n k)).length ≤ 20000) := rowT_len hde hdl
      have HR : Hid (StepIs ⟨dts, some (t, hands, g)⟩ n k ⟨dts, some (t, hands, gstep t 4 hands g n k)⟩ (rowT (gdeeds t hands g n k))) := (by
        show StepIs _ _ _ _ _
        unfold StepIs
        dsimp only
        rw [if_neg hh]
        exact ⟨rfl, rfl⟩)
      clear hgx hct h1 h6 hI hh HE1 HE2 hde
      generalize gdeeds t hands g n k = ds at *
      generalize gstep t 4 hands g n k = g2 at *
      go_enter Tryz.func55, Tryz.ntmps55
      go_wp2
      go_region_with (first | (go_at_call 92; refine (hst _).mono ?_; clear hst; rintro e w1 ⟨v1, rfl, hr1, hm1⟩; obtain ⟨va, vc, rfl⟩ := hr1.out.shape))
      all_goals
        by_cases hz : ds.length = 0
        · have hds : ds = [] := List.eq_nil_of_length_eq_zero hz
          have HRT : Hid (rowT ds = [45]) := (by show _ = _; rw [hds]; rfl)
          clear hds HTX HTL HNE
          rw [HRT.out] at HR
          go_wp2
          go_ret2
          exact LineEnd.told (o := [45]) HR.out (by decide) hm1.out
        · have HRT : Hid (rowT ds = ds.flatMap (fun x => deedText x ++ [59])) := (by
            show _ = _
            unfold rowT
            rw [if_neg (fun e => hz (by rw [e]; rfl))])
          have HVW : Hid (Vars q w1) := (by
            obtain ⟨Y', X', hd', -⟩ := hm1.out
            exact hd'.belowV HV.out)
          have hpr := print_any _ ds w1 (hr1.out.at (by omega)) HVW.out.frm
          rw [HNE.out, if_pos rfl, errV_zero] at hpr
          have HRP : Hid (∀ wx, Below w1.heap.size w1 wx → Calls Tryz.prog 94 #[.string ⟨(deedsText ds).toArray⟩, .string ⟨#[10]⟩, .string ⟨#[59]⟩] wx fun e w' => e = .returned (.string ⟨(rowT ds).toArray⟩) ∧ Below wx.heap.size wx w') := fun wx hbx => by
            rw [HRT.out, ← HTX.out]
            exact replS_any _ HTL.out wx (HVW.out.later hbx).len
          clear HRT HTX HTL HNE
          generalize deedsText ds = dt at *
          generalize rowT ds = o at *
          go_wp2_with (first | (go_at_call 93; refine hpr.mono ?_; clear hpr; rintro e w2 ⟨rfl, hb2⟩; have HB2 : Hid (Below w1.heap.size w1 w2) := hb2; clear hb2) | (go_at_call 94; refine (HRP.out _ HB2.out).mono ?_; rintro e w3 ⟨rfl, hb3⟩; have HB3 : Hid (Below w1.heap.size w1 w3) := HB2.out.trans (hb3.mono HB2.out.size); clear hb3))
          go_ret2
          exact LineEnd.told HR.out HL.out (hm1.out.later HB3.out)
end Go.Proofs.YtlfbdjeojgbniaaGreatDoor
