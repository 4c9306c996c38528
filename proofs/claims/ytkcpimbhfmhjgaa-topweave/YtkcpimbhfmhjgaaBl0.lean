/- The walk of ListBound. -/
import Derived.Test.YtkcpimbhfmhjgaaNf
import Derived.Test.YtkcpimbhfmhjgaaDepb
import Derived.Test.YtkcpimbhfmhjgaaJab
import Derived.Test.YtkcpimbhfmhjgaaJv
namespace Go.Proofs.Ytkcpimbhfmhjgaa
open Go.RowKit Go.Deep Classical

/-- The law's own plan: one task, and one that needs it. -/
def twoTs : List (Int × List Int) := [(3, []), (2, [0])]
theorem two_check : CheckIs twoTs 0 0 := by
  have hneed : ∀ x y, Need twoTs x y → y < x := fun x y h => by
    unfold Need needsOf twoTs at h
    match x with
    | 0 => simp at h
    | 1 => simp at h; omega
    | n + 2 => simp at h
  refine CheckIs.none (by decide) (fun j hj => ?_) (fun j _ h => ?_)
  · have : j < 2 := hj
    rcases (by omega : j = 0 ∨ j = 1) with rfl | rfl <;> decide
  · have hlt : ∀ n x y, ReachN twoTs n x y → y < x := by
      intro n
      induction n with
      | zero => exact fun x y h => hneed x y h
      | succ n ih =>
        rintro x y ⟨z, h1, h2⟩
        have := ih x z h1
        have := hneed z y h2
        omega
    obtain ⟨n, h⟩ := h
    have := hlt n j j h
    omega
theorem two_each : EachZ twoTs.length [1, 0] := ⟨rfl, by decide, fun x hx => by simp at hx; rcases hx with rfl | rfl <;> decide⟩
theorem two_out : listOut twoTs 2 (natsOf [1, 0]) = [(0, 0, 0, 3), (0, 1, 3, 5)] := by
  obtain ⟨hw, hr, hno⟩ := two_check.worksJ
  have e : outAt twoTs 2 (natsOf [1, 0]) 4 = [(0, 0, 0, 3), (0, 1, 3, 5)] := by decide +kernel
  rw [← list_at hw hr hno (by omega) two_each.nats.1 (t := 4) (by rw [e]; rfl), e]
theorem two_plan (w : World) : PlanAt ((w.alloc (.cells #[.int .i64 0] 3)).alloc (.cells #[.int .i64 3, .slice none 0 0, .int .i64 2, .slice (some ⟨w.heap.size, 0, none⟩) 1 1] 45)) (.slice (some ⟨w.heap.size + 1, 0, none⟩) 2 2) twoTs := by
  have hb : ((w.alloc (.cells #[.int .i64 0] 3)).alloc (.cells #[.int .i64 3, .slice none 0 0, .int .i64 2, .slice (some ⟨w.heap.size, 0, none⟩) 1 1] 45)).heap[w.heap.size + 1]? = some (.cells #[.int .i64 3, .slice none 0 0, .int .i64 2, .slice (some ⟨w.heap.size, 0, none⟩) 1 1] 45 (0, 0)) := by
    have := blk_alloc_new (w.alloc (.cells #[.int .i64 0] 3)) (.cells #[.int .i64 3, .slice none 0 0, .int .i64 2, .slice (some ⟨w.heap.size, 0, none⟩) 1 1] 45)
    rwa [nblk_alloc] at this
  have hb0 : ((w.alloc (.cells #[.int .i64 0] 3)).alloc (.cells #[.int .i64 3, .slice none 0 0, .int .i64 2, .slice (some ⟨w.heap.size, 0, none⟩) 1 1] 45)).heap[w.heap.size]? = some (.cells #[.int .i64 0] 3 (0, 0)) := by
    rw [blk_alloc_lt _ _ _ (by simp), blk_alloc_new]
  generalize ((w.alloc (.cells #[.int .i64 0] 3)).alloc (.cells #[.int .i64 3, .slice none 0 0, .int .i64 2, .slice (some ⟨w.heap.size, 0, none⟩) 1 1] 45)) = W at hb hb0 ⊢
  have hl := (Array.getElem?_eq_some_iff.1 hb).1
  have hl0 := (Array.getElem?_eq_some_iff.1 hb0).1
  refine ⟨by decide, _, _, rfl, Or.inr ⟨w.heap.size + 1, 0, rfl, hl, fun k hk => ?_⟩⟩
  have hk2 : k < 2 := hk
  rcases (by omega : k = 0 ∨ k = 1) with rfl | rfl
  · refine ⟨by simp [World.cell?, hb, twoTs], _, by simp [World.cell?, hb]; rfl, ?_⟩
    exact ⟨by simp [needsOf, twoTs], none, 0, rfl, Or.inl rfl⟩
  · refine ⟨by simp [World.cell?, hb, twoTs], _, by simp [World.cell?, hb]; rfl, ?_⟩
    refine ⟨by simp [needsOf, twoTs], _, _, rfl, Or.inr ⟨w.heap.size, 0, rfl, hl0, fun j hj => ?_⟩⟩
    have hj1 : j < 1 := by simpa [needsOf, twoTs] using hj
    obtain rfl : j = 0 := by omega
    simp [World.cell?, hb0, needsOf, twoTs]
theorem two_ints (w : World) : IntsAt (w.alloc (.cells #[.int .i64 1, .int .i64 0] 3)) (.slice (some ⟨w.heap.size, 0, none⟩) 2 2) [1, 0] := by
  have hb := blk_alloc_new w (.cells #[.int .i64 1, .int .i64 0] 3)
  generalize w.alloc (.cells #[.int .i64 1, .int .i64 0] 3) = W at hb ⊢
  refine ⟨by decide, _, _, rfl, Or.inr ⟨w.heap.size, 0, rfl, (Array.getElem?_eq_some_iff.1 hb).1, fun k hk => ?_⟩⟩
  have hk2 : k < 2 := hk
  rcases (by omega : k = 0 ∨ k = 1) with rfl | rfl <;> simp [World.cell?, hb]
theorem lErr_good {q hands : Int} {ts : List (Int × List Int)} {p : Int} {zs : List Int} (hc : CheckIs ts 0 0) (hc' : CheckIs ts p q) (h1 : 1 ≤ hands) (h6 : hands ≤ 6) (hz : EachZ ts.length zs) : lErr q hands (decide (EachZ ts.length zs)) = 0 := by
  obtain ⟨_, rfl⟩ := hc.det hc'
  unfold lErr
  rw [if_pos rfl, if_neg (by omega), if_pos (decide_eq_true hz)]
/-- The law's own plan, by its own order. -/
theorem two_run (v ov : Value) (w : World) (hp : PlanAt w v twoTs) (ho : IntsAt w ov [1, 0]) :
    Calls Try.prog 8 #[v, .int .i64 2, ov] w fun e w' => (∃ g c, e = .returned (.tuple #[.slice (some ⟨g, 0, none⟩) 2 c, .nilIface]) ∧ 2 ≤ c ∧ w'.cell? ⟨g, 1, none⟩ = some (.int .i64 0) ∧ w'.cell? ⟨g, 6, none⟩ = some (.int .i64 3)) ∧ Below w.heap.size w w' := by
  refine (lrun_any v ov twoTs [1, 0] 2 w hp ho (fun x hx => by simp at hx; rcases hx with rfl | rfl <;> decide)).mono ?_
  rintro e w' ⟨hl, hb⟩
  refine ⟨?_, hb⟩
  rcases hl with ⟨p, q, hc', hq, _⟩ | ⟨_, _, _, _, sv, rfl, hrow⟩
  · exact absurd (lErr_good two_check hc' (by omega) (by omega) two_each) hq
  · rw [show (2 : Int).toNat = 2 by rfl, two_out] at hrow
    obtain ⟨g, c, rfl, _, _, hc, hcell⟩ := hrow.full (by decide)
    exact ⟨g, c, rfl, hc, hcell 0 (by decide) 1 (by omega), hcell 1 (by decide) 2 (by omega)⟩
theorem llong_is {v ov : Value} {ts : List (Int × List Int)} {zs : List Int} {hands : Int} {w : World} (hp : PlanAt w v ts) (ho : IntsAt w ov zs) (hwf : ∀ x, x ∈ zs → (Lit.int .i64 x).wf = true) (hc : CheckIs ts 0 0) (h1 : 1 ≤ hands) (h6 : hands ≤ 6) (hz : EachZ ts.length zs) :
    Calls Try.prog 9 #[v, .int .i64 hands, ov] w fun e w' => e = .returned (.tuple #[.int .i64 (endsOf (listOut ts hands.toNat (natsOf zs)) : Nat), .nilIface]) ∧ Below w.heap.size w w' := by
  refine (llong_any v ov ts zs hands w hp ho hwf).mono ?_
  rintro e w' ⟨hl, hb⟩
  rcases hl with ⟨p, q, hc', hq, _⟩ | ⟨_, _, _, _, rfl⟩
  · exact absurd (lErr_good hc hc' h1 h6 hz) hq
  · exact ⟨rfl, hb⟩
theorem lspan_bound {ts : List (Int × List Int)} {ord : List Nat} (hc : CheckIs ts 0 0) (ho : OrdIs ts ord) : 0 ≤ maxTo (tailsOf ts ord) ts.length ∧ maxTo (tailsOf ts ord) ts.length ≤ 600 := by
  have hd := (Ready.of hc ho).deep
  exact ⟨maxTo_nonneg _ _, maxTo_le _ _ _ (by omega) (fun x _ => (hd.tlow x).2)⟩
theorem lhands_mul {hands sp : Int} (h1 : 1 ≤ hands) (h6 : hands ≤ 6) (h0 : 0 ≤ sp) (hs : sp ≤ 600) : 0 ≤ (hands - 1) * sp ∧ (hands - 1) * sp ≤ 600 * hands - 600 := by
  have : hands = 1 ∨ hands = 2 ∨ hands = 3 ∨ hands = 4 ∨ hands = 5 ∨ hands = 6 := by omega
  rcases this with rfl | rfl | rfl | rfl | rfl | rfl <;> omega
/-- Stays in a row of their own are stays that may be read. -/
theorem RowS.staysAt {b : Nat} {w : World} {v : Value} {l : List Sty} (h : RowS b w v l) (hl : l.length * 32 ≤ 140737488351232) : StaysAt w v (l.map styZ) := by
  have hgd : ∀ k, k < l.length → (l.map styZ).getD k (0, 0, 0, 0) = styZ (l.getD k (0, 0, 0, 0)) := fun k hk => by
    simp [List.getD_eq_getElem?_getD, hk]
  by_cases hz : 0 < l.length
  · obtain ⟨g, c, rfl, _, hlt, _, hcells⟩ := h.full hz
    refine ⟨by rw [List.length_map]; exact hl, _, _, by rw [List.length_map], Or.inr ⟨g, 0, rfl, hlt, fun k hk => ?_⟩⟩
    rw [List.length_map] at hk
    rw [hgd k hk, Nat.zero_add]
    exact ⟨hcells k hk 0 (by omega), hcells k hk 1 (by omega), hcells k hk 2 (by omega), hcells k hk 3 (by omega)⟩
  · obtain ⟨a, c, rfl⟩ := h.shape
    exact ⟨by rw [List.length_map]; exact hl, a, c, by rw [List.length_map], Or.inl (by rw [List.eq_nil_of_length_eq_zero (show l.length = 0 by omega)]; rfl)⟩
theorem ljudge_is {v sv : Value} {ts : List (Int × List Int)} {zs : List Int} {hands : Int} {b : Nat} {w : World} (hp : PlanAt w v ts) (hc : CheckIs ts 0 0) (h1 : 1 ≤ hands) (h6 : hands ≤ 6) (hz : EachZ ts.length zs) (hb : RowS b w sv (listOut ts hands.toNat (natsOf zs))) :
    Calls Try.prog 12 #[v, .int .i64 hands, sv] w fun e w' => e = .returned .nilIface ∧ Below w.heap.size w w' := by
  obtain ⟨hw, hr, hno⟩ := hc.worksJ
  have hfull := list_full (h := hands.toNat) hw hr hno (by omega) hz.nats.1
  have h30 := hw.1
  refine (stays_any v sv ts _ hands w hp (hb.staysAt (by omega))).mono ?_
  rintro e w' ⟨hl, hb⟩
  refine ⟨?_, hb⟩
  rcases hl with ⟨p, q, hc', hq, _⟩ | ⟨_, _, _, rfl⟩
  · exfalso
    obtain ⟨_, rfl⟩ := hc.det hc'
    apply hq
    unfold jErr
    rw [if_pos rfl, if_neg (by omega)]
  · rw [stays_ok.2 (list_stays hw hr hno (by omega) hz.nats.1), errV_zero]

end Go.Proofs.Ytkcpimbhfmhjgaa
