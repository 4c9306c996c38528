/- Plain: what is done hangs on the jobs alone. The walk of YardRounds. -/
import Derived.Test.YtajmnnjafhanaaaYi
namespace Go.Proofs.Ytajmnnjafhanaaa
open Go.RowKit Go.Deep

def AlikeY (n : Nat) (s t : Ys) : Prop := s.out = t.out ∧ ∀ k, k < n → s.left k = t.left k
theorem AlikeY.turn {n : Nat} {s t : Ys} (h : AlikeY n s t) (most wt : Nat) {i : Nat} (hi : i < n) : AlikeY n (turnY most wt s i) (turnY most wt t i) := by
  have e : takeY most wt s i = takeY most wt t i := by unfold takeY; rw [h.1, h.2 i hi]
  unfold turnY
  refine ⟨by dsimp only; rw [e, h.1], fun k hk => ?_⟩
  dsimp only
  rw [e, h.2 i hi, h.2 k hk]
theorem AlikeY.round {n most : Nat} {s t : Ys} {wt wt' : Nat → Nat} (h : AlikeY n s t) (hw : ∀ k, k < n → wt k = wt' k) : ∀ k, k ≤ n → AlikeY n (roundY most wt s k) (roundY most wt' t k) := by
  intro k
  induction k with
  | zero => intro _; exact h
  | succ k ih =>
    intro hk
    show AlikeY n (turnY most (wt k) _ k) (turnY most (wt' k) _ k)
    rw [hw k (by omega)]
    exact (ih (by omega)).turn most (wt' k) (by omega)
theorem alikeY_rounds {most n : Nat} {wt wt' w w' : Nat → Nat} (hw : ∀ k, k < n → wt k = wt' k) (hl : ∀ k, k < n → w k = w' k) (r : Nat) : AlikeY n (roundsY most n wt w r) (roundsY most n wt' w' r) := by
  induction r with
  | zero => exact ⟨rfl, hl⟩
  | succ r ih => exact ih.round hw n (Nat.le_refl _)
theorem shareY_same {N n : Nat} {wt wt' : Nat → Nat} (hw : ∀ k, k < n → wt k = wt' k) {i : Nat} (hi : i < n) : shareY N n wt i = shareY N n wt' i := by
  have hs : sumY wt n = sumY wt' n := sumY_congr hw
  have ho : overY N n wt = overY N n wt' := by
    unfold overY
    rw [hs]
    congr 1
    exact sumY_congr (fun k hk => by rw [hw k hk])
  unfold shareY
  rw [hs, ho, hw i hi]
/-- What was done, read. -/
theorem SM.reads {B L n : Nat} {W : Nat → Int} {w0 w : World} {ov : Value} {s : Ys} (h : SM B L n W w0 w ov s) : ∃ oa oc, ov = .slice oa s.out.length oc ∧ ∀ k, k < s.out.length → ∃ g, oa = some ⟨g, 0, none⟩ ∧ g < w.heap.size ∧ w.cell? ⟨g, k, none⟩ = some (.int .i64 ((s.out.getD k 0 : Nat) : Int)) := by
  obtain ⟨oa, oc, rfl⟩ := h.out.shape
  refine ⟨oa, oc, by rw [intsOf_length], fun k hk => ?_⟩
  obtain ⟨g, c, hv, _, hg, _⟩ := h.out.full (by rw [intsOf_length]; omega)
  simp only [Value.slice.injEq, true_and] at hv
  obtain ⟨rfl, rfl⟩ := hv
  refine ⟨g, rfl, hg, ?_⟩
  rw [h.out.cell (k := k) (by rw [intsOf_length]; exact hk), intsOf_getD]
/-- Two jobs, laid by a call. -/
theorem two_jobs (w : World) (a x b y : Int) : JobsAt (w.alloc (.cells #[.int .i64 a, .int .i64 x, .int .i64 b, .int .i64 y] 29)) (.slice (some ⟨w.heap.size, 0, none⟩) 2 2) [(a, x), (b, y)] := by
  refine ⟨by simp, _, _, rfl, Or.inr ⟨w.heap.size, 0, rfl, by simp, fun k hk => ?_⟩⟩
  unfold World.cell?
  dsimp only
  rw [blk_alloc_new]
  match k, hk with
  | 0, _ => exact ⟨rfl, rfl⟩
  | 1, _ => exact ⟨rfl, rfl⟩
theorem two_right {a x b y : Int} (ha : 1 ≤ a ∧ a ≤ 20) (hx : 0 ≤ x ∧ x ≤ 10000) (hb : 1 ≤ b ∧ b ≤ 20) (hy : 0 ≤ y ∧ y ≤ 10000) : jobErr [(a, x), (b, y)] = 0 := by
  refine jobErr_ok (by simp) (fun k hk => ?_)
  match k, hk with
  | 0, _ => show (decide (1 ≤ a) && decide (a ≤ 20) && (decide (0 ≤ x) && decide (x ≤ 10000))) = true; simp; omega
  | 1, _ => show (decide (1 ≤ b) && decide (b ≤ 20) && (decide (0 ≤ y) && decide (y ≤ 10000))) = true; simp; omega
theorem two_wt (a b : Nat) (x y : Int) : ∀ k, k < 2 → wtN [((a : Int), x), ((b : Int), y)] k = twoW a b k := fun k hk => by
  match k, hk with
  | 0, _ => rfl
  | 1, _ => rfl
theorem count_take_succ (l : List Nat) (x k : Nat) (hk : k < l.length) : (l.take (k + 1)).count x = (l.take k).count x + if l.getD k 0 = x then 1 else 0 := by
  rw [List.take_succ_eq_append_getElem hk, List.count_append]
  congr 1
  rw [List.getD_eq_getElem?_getD, List.getElem?_eq_getElem hk]
  simp [List.count_cons]

set_option maxRecDepth 100000 in
set_option maxHeartbeats 4000000 in
theorem rounds_in (a b n : Nat) (w : World) (ha : 1 ≤ a ∧ a ≤ 20) (hb : 1 ≤ b ∧ b ≤ 20) (hn : n ≤ 20) :
    Calls Try.prog 4 #[.int .i64 (a : Int), .int .i64 (b : Int), .int .i64 (n : Int)] w fun e w' => e = .returned (.bool true) ∧ Below w.heap.size w w' := by
  obtain ⟨mm, hmm⟩ : ∃ mm, mm = n * (a + b) := ⟨_, rfl⟩
  obtain ⟨na, hna⟩ : ∃ na, na = n * a := ⟨_, rfl⟩
  obtain ⟨nb, hnb⟩ : ∃ nb, nb = n * b := ⟨_, rfl⟩
  have hm8 : mm ≤ 800 := by rw [hmm]; exact Nat.le_trans (Nat.mul_le_mul hn (show a + b ≤ 40 by omega)) (by omega)
  have hna4 : na ≤ 400 := by rw [hna]; exact Nat.le_trans (Nat.mul_le_mul hn ha.2) (by omega)
  have hnb4 : nb ≤ 400 := by rw [hnb]; exact Nat.le_trans (Nat.mul_le_mul hn hb.2) (by omega)
  have hc1 : (n : Int) * ((a : Int) + (b : Int)) = (mm : Int) := by rw [hmm, Int.natCast_mul, Int.natCast_add]
  have hc2 : (n : Int) * (a : Int) = (na : Int) := by rw [hna, Int.natCast_mul]
  have hc3 : (n : Int) * (b : Int) = (nb : Int) := by rw [hnb, Int.natCast_mul]
  have hsv : Calls Try.prog 5 #[.slice (some ⟨w.heap.size, 0, none⟩) 2 2, .int .i64 (mm : Int)] (w.alloc (.cells #[.int .i64 (a : Int), .int .i64 1000, .int .i64 (b : Int), .int .i64 1000] 29)) fun e w' => ∃ (oa : Option Addr) (oc L : Nat) (zs : List Nat), e = .returned (.tuple #[.slice oa mm oc, .slice (some ⟨L, 0, none⟩) 2 2, .nilIface]) ∧ Hid (zs.length = mm ∧ zs.count 0 = na ∧ ∀ k, k < mm → ∃ g, oa = some ⟨g, 0, none⟩ ∧ g < w'.heap.size ∧ w'.cell? ⟨g, k, none⟩ = some (.int .i64 ((zs.getD k 0 : Nat) : Int))) ∧ Below w.heap.size w w' := by
    refine (serve_ok _ _ mm _ (two_jobs w a 1000 b 1000) (two_right (by omega) (by omega) (by omega) (by omega)) (by omega)).mono ?_
    rintro e w' ⟨ov, L, rfl, hS⟩
    obtain ⟨oa, oc, rfl, hR⟩ := hS.reads
    have hal := alikeY_rounds (most := mm) (n := 2) (w := wsN [((a : Int), (1000 : Int)), ((b : Int), (1000 : Int))]) (w' := fun _ => 1000) (two_wt a b 1000 1000) (fun k hk => by match k, hk with | 0, _ => rfl | 1, _ => rfl) mm
    have hts := two_serve ha hb hn (q := n) (Nat.le_refl _)
    rw [← hmm, ← hna] at hts
    have hrs : roundsY mm 2 (twoW a b) (fun _ => 1000) mm = roundsY mm 2 (twoW a b) (fun _ => 1000) n := by
      refine roundsY_same (roundsY_ends (fun i hi => ?_)) (Or.inl hts.1)
      match i, hi with
      | 0, _ => exact ha.1
      | 1, _ => exact hb.1
    have hout : (endY [((a : Int), (1000 : Int)), ((b : Int), (1000 : Int))] mm).out = (roundsY mm 2 (twoW a b) (fun _ => 1000) n).out := by rw [← hrs]; exact hal.1
    refine ⟨oa, oc, L, (endY [((a : Int), (1000 : Int)), ((b : Int), (1000 : Int))] mm).out, ?_, ⟨?_, ?_, fun k hk => hR k ?_⟩, ?_⟩
    · rw [hout, hts.1]; rfl
    · rw [hout, hts.1]
    · rw [hout, hts.2]
    · rw [hout, hts.1]; exact hk
    · exact ((Below.refl _ _).alloc (Nat.le_refl _) _).trans (hS.below.mono (by simp))
  have hsh : Hid (∀ wx : World, Calls Try.prog 6 #[.slice (some ⟨wx.heap.size, 0, none⟩) 2 2, .int .i64 (mm : Int)] (wx.alloc (.cells #[.int .i64 (a : Int), .int .i64 0, .int .i64 (b : Int), .int .i64 0] 29)) fun e w' => ∃ M, e = .returned (.tuple #[.slice (some ⟨M, 0, none⟩) 2 2, .nilIface]) ∧ (w'.cell? ⟨M, 0, none⟩ = some (.int .i64 (na : Int)) ∧ w'.cell? ⟨M, 1, none⟩ = some (.int .i64 (nb : Int))) ∧ Below wx.heap.size wx w') := fun wx => by
    refine (sharesF_ok _ _ mm _ (two_jobs wx a 0 b 0) (two_right (by omega) (by omega) (by omega) (by omega)) (by simp) (by omega)).mono ?_
    rintro e w' ⟨M, rfl, hM, hr, hbl⟩
    have ht := two_shares (a := a) (b := b) n ha.1
    rw [← hmm, ← hna, ← hnb] at ht
    have h0 := hr.cell (i := 0) (by simp)
    have h1 := hr.cell (i := 1) (by simp)
    unfold numRow at h0 h1
    dsimp only at h0 h1
    have e0 : shareY mm [((a : Int), (0 : Int)), ((b : Int), (0 : Int))].length (wtN [((a : Int), (0 : Int)), ((b : Int), (0 : Int))]) 0 = na := (shareY_same (n := 2) (two_wt a b 0 0) (by omega)).trans ht.1
    have e1 : shareY mm [((a : Int), (0 : Int)), ((b : Int), (0 : Int))].length (wtN [((a : Int), (0 : Int)), ((b : Int), (0 : Int))]) 1 = nb := (shareY_same (n := 2) (two_wt a b 0 0) (by omega)).trans ht.2
    rw [e0] at h0
    rw [e1] at h1
    exact ⟨M, rfl, ⟨h0, h1⟩, ((Below.refl _ _).alloc (Nat.le_refl _) _).trans (hbl.mono (by simp))⟩
  obtain ⟨ha1, ha2⟩ := ha
  obtain ⟨hb1, hb2⟩ := hb
  clear hmm hna hnb
  go_enter Try.func4, Try.ntmps4
  go_wp2_with (first | (go_at_call 5; refine hsv.mono ?_; clear hsv; rintro e w1 ⟨oa, oc, L, zs, rfl, hZ, hB1⟩; have HB1 : Hid (Below w.heap.size w w1) := hB1; clear hB1; have hsx := hsh.out w1; clear hsh) | (go_at_call 6; refine hsx.mono ?_; clear hsx; rintro e w2 ⟨M, rfl, ⟨hm0, hm1⟩, hB2⟩; have HB2 : Hid (Below w1.heap.size w1 w2) := hB2; clear hB2))
  have HZ2 : Hid (∀ k, k < mm → ∃ g, oa = some ⟨g, 0, none⟩ ∧ w2.cell? ⟨g, k, none⟩ = some (.int .i64 ((zs.getD k 0 : Nat) : Int))) := fun k hk => by
    obtain ⟨g, h1, h2, h3⟩ := hZ.out.2.2 k hk
    exact ⟨g, h1, (HB2.out.cell (p := ⟨g, k, none⟩) h2).trans h3⟩
  have HZ1 : Hid (zs.length = mm ∧ zs.count 0 = na) := ⟨hZ.out.1, hZ.out.2.1⟩
  have HB : Hid (Below w.heap.size w w2) := HB1.out.trans (HB2.out.mono HB1.out.size)
  clear hZ HB1 HB2
  go_loopw [12, 13] (fun s12 s13 wr => ∃ k : Nat, k ≤ mm ∧ s12 = .int .i64 (((zs.take k).count 0 : Nat) : Int) ∧ s13 = .int .i64 k ∧ w2 = wr) (fun _ s13 _ => mm - (intOf s13).toNat)
  case atStart => exact ⟨0, Nat.zero_le _, rfl, rfl, rfl⟩
  case round =>
    obtain ⟨k, hk, rfl, rfl, rfl⟩ := hrel
    by_cases hkm : k < mm
    · obtain ⟨g, rfl, hcell⟩ := HZ2.out k hkm
      have hct : (zs.take k).count 0 ≤ 800 := by
        have h1 := List.count_le_length (a := 0) (l := zs.take k)
        have h2 := List.length_take_le k zs
        omega
      have HCS : Hid ((zs.take (k + 1)).count 0 = (zs.take k).count 0 + if zs.getD k 0 = 0 then 1 else 0) := count_take_succ zs 0 k (by rw [HZ1.out.1]; exact hkm)
      generalize (zs.take k).count 0 = ct at *
      generalize zs.getD k 0 = y at *
      by_cases hy : y = 0
      · subst hy
        go_wp2
        go_roundw
        case rel => exact ⟨k + 1, by omega, by rw [HCS.out, if_pos rfl]; go_num, by go_num, trivial⟩
        case measure => simp [intOf]; omega
      · have hyb : ((y : Int) == 0) = false := beq_eq_false_iff_ne.2 (by omega)
        have HY : Hid (¬ y = 0) := hy
        clear hy
        go_wp2
        go_roundw
        case rel => exact ⟨k + 1, by omega, by rw [HCS.out, if_neg HY.out, Nat.add_zero], by go_num, trivial⟩
        case measure => simp [intOf]; omega
    · have hke : k = mm := by omega
      subst hke
      have HCN : Hid ((zs.take k).count 0 = na) := by
        show _ = _
        rw [List.take_of_length_le (by rw [HZ1.out.1]; exact Nat.le_refl _)]
        exact HZ1.out.2
      rw [HCN.out]
      go_wp2
      go_ret
      exact ⟨rfl, HB.out⟩
set_option maxRecDepth 100000 in
set_option maxHeartbeats 4000000 in
theorem rounds_any (a b n : Int) (w : World) :
    Calls Try.prog 4 #[.int .i64 a, .int .i64 b, .int .i64 n] w fun e w' => e = .returned (.bool true) ∧ Below w.heap.size w w' := by
  by_cases h1 : a < 1
  · go_enter Try.func4, Try.ntmps4
    go_wp2
    go_ret
    exact ⟨rfl, Below.refl _ _⟩
  by_cases h2 : 20 < a
  · go_enter Try.func4, Try.ntmps4
    go_wp2
    go_ret
    exact ⟨rfl, Below.refl _ _⟩
  by_cases h3 : b < 1
  · go_enter Try.func4, Try.ntmps4
    go_wp2
    go_ret
    exact ⟨rfl, Below.refl _ _⟩
  by_cases h4 : 20 < b
  · go_enter Try.func4, Try.ntmps4
    go_wp2
    go_ret
    exact ⟨rfl, Below.refl _ _⟩
  by_cases h5 : n < 0
  · go_enter Try.func4, Try.ntmps4
    go_wp2
    go_ret
    exact ⟨rfl, Below.refl _ _⟩
  by_cases h6 : 20 < n
  · go_enter Try.func4, Try.ntmps4
    go_wp2
    go_ret
    exact ⟨rfl, Below.refl _ _⟩
  obtain ⟨a', rfl⟩ : ∃ a' : Nat, a = a' := ⟨a.toNat, by omega⟩
  obtain ⟨b', rfl⟩ : ∃ b' : Nat, b = b' := ⟨b.toNat, by omega⟩
  obtain ⟨n', rfl⟩ : ∃ n' : Nat, n = n' := ⟨n.toNat, by omega⟩
  exact rounds_in a' b' n' w (by omega) (by omega) (by omega)
end Go.Proofs.Ytajmnnjafhanaaa
