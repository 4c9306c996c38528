/- The program's gang: New. -/
import Derived.Test.YtdhnfgjfihapiaaPgi
namespace Go.Proofs.Ytdhnfgjfihapiaa
open Go.RowKit Go.Deep Go.Maps

theorem LbA.on {own own' : Nat → Nat} {A n : Nat} {w w' : World} (h : LbA own A n w) (hs : w.heap.size ≤ w'.heap.size) (hA : w'.heap[A]? = w.heap[A]?) (ho : ∀ b, b < w.heap.size → own' b = own b) : LbA own' A n w' := fun k v b hk hv hb => by
  have := h k v b hk ((World.cell?_of_block (a := ⟨A, k, none⟩) hA).symm.trans hv) hb
  exact ⟨Nat.lt_of_lt_of_le this.1 hs, (ho b this.1).trans this.2⟩
/-- Labels of what New makes, by where each part begins. -/
def ownN (s0 s1 s2 s3 s4 s5 s6 s7 s8 : Nat) : Nat → Nat := fun k =>
  if k < s0 then 9 else if k < s1 then 7 else if k < s2 then 4 else if k < s3 then 6 else if k = s3 then 1 else if k < s4 then 10 + (k - s3 - 1) / 2 else if k < s5 then 8 else if k < s6 then 6 else if k < s7 then 3 else if k < s8 then 2 else 0
/-- What New has made is a gang. -/
theorem gang_made {J M A D C hands room : Nat} {ts : List (Int × List Int)} {vs : Value} {w w1 w2 w3 w4 w5 w6 W7 w8 : World} (h6 : hands ≤ 6) (_r1 : 1 ≤ room)
    (HJ1 : JnT J M A D C ts (fun _ => false) w1 ∧ (w.heap.size ≤ J ∧ w.heap.size ≤ M ∧ w.heap.size ≤ A ∧ w.heap.size ≤ D) ∧ Below w.heap.size w w1)
    (HP2 : Prk.Pk w1.heap.size hands [] (.slice none 0 0) w2 ∧ Below w1.heap.size w1 w2) (HS3 : Spl.Sp w2.heap.size room [] (.slice none 0 0) w3 ∧ Below w2.heap.size w2 w3)
    (HE4 : EmH w3.heap.size hands room w3 w4 ∧ JnT J M A D C ts (fun _ => false) w4) (_HB5 : Below w4.heap.size w4 w5)
    (HS6 : Spl.Sp w2.heap.size room ([] ++ intsOf (readyTo ts (fun _ => false) ts.length)) vs w6 ∧ Spl.Ks w2.heap.size (Value.slice none 0 0).ownBlock w5 w6 ∧ Spl.Near w5.heap.size (.slice none 0 0) vs)
    (HALL : HasAt W7 w6.heap.size hands (fun _ => -1) ∧ (∀ k, k < w4.heap.size → k ≠ w2.heap.size → W7.heap[k]? = w4.heap[k]?) ∧ Below w.heap.size w W7 ∧ Below w6.heap.size w6 W7)
    (HSZ : w1.heap.size ≤ w2.heap.size ∧ w2.heap.size ≤ w3.heap.size ∧ w4.heap.size = w3.heap.size + 1 + 2 * hands ∧ w4.heap.size ≤ w5.heap.size ∧ w5.heap.size ≤ w6.heap.size ∧ W7.heap.size = w6.heap.size + 1 ∧ w1.heap.size < w2.heap.size ∧ w2.heap.size < w3.heap.size ∧ w.heap.size ≤ w1.heap.size)
    (HW8 : w8.rowIs W7.heap.size 3 ts.length (fun k => .int .i64 (workOf ts k)) ∧ Below W7.heap.size W7 w8) :
    ∃ own Q, Pg ⟨fun k => k < w.heap.size, w⟩ w8.heap.size room hands ts (gnew ts) (workOf ts) own Q (w8.alloc (.cells #[.pointer (some ⟨J, 0, none⟩), .pointer (some ⟨w2.heap.size, 0, none⟩), .pointer (some ⟨w1.heap.size, 0, none⟩), .slice (some ⟨w3.heap.size, 0, none⟩) hands hands, .map (some w6.heap.size), .slice (some ⟨W7.heap.size, 0, none⟩) ts.length ts.length] 64)) := by
  obtain ⟨hJ1, ⟨j1, j2, j3, j4⟩, b01⟩ := HJ1
  obtain ⟨hP2, b12⟩ := HP2
  obtain ⟨hS3, b23⟩ := HS3
  obtain ⟨hE4, hJ4⟩ := HE4
  obtain ⟨hS6, k6, hn6⟩ := HS6
  obtain ⟨hhas, k47, b07, b67⟩ := HALL
  obtain ⟨s12, s23, s34, s45, s56, s67, t12, t23, s01⟩ := HSZ
  obtain ⟨hw8, b78⟩ := HW8
  have s78 := b78.size
  have hWlt := hw8.lt
  obtain ⟨W9, hW9⟩ : ∃ W9, W9 = w8.alloc (.cells #[.pointer (some ⟨J, 0, none⟩), .pointer (some ⟨w2.heap.size, 0, none⟩), .pointer (some ⟨w1.heap.size, 0, none⟩), .slice (some ⟨w3.heap.size, 0, none⟩) hands hands, .map (some w6.heap.size), .slice (some ⟨W7.heap.size, 0, none⟩) ts.length ts.length] 64) := ⟨_, rfl⟩
  rw [← hW9]
  have k89 : ∀ k, k < w8.heap.size → W9.heap[k]? = w8.heap[k]? := fun k hk => by rw [hW9]; exact Below.heap_alloc _ _ _ hk
  have s89 : W9.heap.size = w8.heap.size + 1 := by rw [hW9]; simp
  have k79 : ∀ k, k < W7.heap.size → W9.heap[k]? = W7.heap[k]? := fun k hk => (k89 k (by omega)).trans (b78.block k hk)
  have k49 : ∀ k, k < w4.heap.size → k ≠ w2.heap.size → W9.heap[k]? = w4.heap[k]? := fun k hk hne => (k79 k (by omega)).trans (k47 k hk hne)
  have k69 : ∀ k, k < w6.heap.size → W9.heap[k]? = w6.heap[k]? := fun k hk => (k79 k (by omega)).trans (b67.block k hk)
  have b34 := hE4.below
  have k14 : ∀ k, k < w1.heap.size → w4.heap[k]? = w1.heap[k]? := fun k hk => (b34.block k (by omega)).trans ((b23.block k (by omega)).trans (b12.block k hk))
  have k24 : ∀ k, k < w2.heap.size → w4.heap[k]? = w2.heap[k]? := fun k hk => (b34.block k (by omega)).trans (b23.block k (by omega))
  obtain ⟨own, hown⟩ : ∃ own, own = ownN w.heap.size w1.heap.size w2.heap.size w3.heap.size w4.heap.size w5.heap.size w6.heap.size W7.heap.size w8.heap.size := ⟨_, rfl⟩
  have l9 : ∀ k, k < w.heap.size → own k = 9 := fun k h => by rw [hown]; unfold ownN; rw [if_pos h]
  have l7 : ∀ k, w.heap.size ≤ k → k < w1.heap.size → own k = 7 := fun k h1 h2 => by rw [hown]; unfold ownN; rw [if_neg (by omega), if_pos (by omega)]
  have l4 : ∀ k, w1.heap.size ≤ k → k < w2.heap.size → own k = 4 := fun k h1 h2 => by rw [hown]; unfold ownN; rw [if_neg (by omega), if_neg (by omega), if_pos (by omega)]
  have l6 : ∀ k, w2.heap.size ≤ k → k < w3.heap.size → own k = 6 := fun k h1 h2 => by rw [hown]; unfold ownN; rw [if_neg (by omega), if_neg (by omega), if_neg (by omega), if_pos (by omega)]
  have l1 : own w3.heap.size = 1 := by rw [hown]; unfold ownN; rw [if_neg (by omega), if_neg (by omega), if_neg (by omega), if_neg (by omega), if_pos rfl]
  have lh : ∀ k, w3.heap.size < k → k < w4.heap.size → own k = 10 + (k - w3.heap.size - 1) / 2 := fun k h1 h2 => by rw [hown]; unfold ownN; rw [if_neg (by omega), if_neg (by omega), if_neg (by omega), if_neg (by omega), if_neg (by omega), if_pos (by omega)]
  have l66 : ∀ k, w5.heap.size ≤ k → k < w6.heap.size → own k = 6 := fun k h1 h2 => by rw [hown]; unfold ownN; rw [if_neg (by omega), if_neg (by omega), if_neg (by omega), if_neg (by omega), if_neg (by omega), if_neg (by omega), if_neg (by omega), if_pos (by omega)]
  have l3 : own w6.heap.size = 3 := by rw [hown]; unfold ownN; rw [if_neg (by omega), if_neg (by omega), if_neg (by omega), if_neg (by omega), if_neg (by omega), if_neg (by omega), if_neg (by omega), if_neg (by omega), if_pos (by omega)]
  have l2 : own W7.heap.size = 2 := by rw [hown]; unfold ownN; rw [if_neg (by omega), if_neg (by omega), if_neg (by omega), if_neg (by omega), if_neg (by omega), if_neg (by omega), if_neg (by omega), if_neg (by omega), if_neg (by omega), if_pos (by omega)]
  have l0 : own w8.heap.size = 0 := by rw [hown]; unfold ownN; rw [if_neg (by omega), if_neg (by omega), if_neg (by omega), if_neg (by omega), if_neg (by omega), if_neg (by omega), if_neg (by omega), if_neg (by omega), if_neg (by omega), if_neg (by omega)]
  clear hown
  have jJ := (Jn.row hJ1).lt
  have jM := (Jn.miss hJ1).lt
  have jA := Jn.ltA hJ1
  have jD := (Jn.done hJ1).lt
  have k19 : ∀ k, k < w1.heap.size → W9.heap[k]? = w1.heap[k]? := fun k hk => (k49 k (by omega) (by omega)).trans (k14 k hk)
  rw [List.nil_append] at hS6
  have hvs : ∀ k, vs.ownBlock = some k → w5.heap.size ≤ k ∧ k < w6.heap.size := fun k e => by
    rcases hn6 k e with h | h
    · simp [Value.ownBlock] at h
    · exact ⟨h, (hS6.row.low e).2⟩
  refine ⟨own, ⟨J, M, A, D, C, w2.heap.size, vs, w1.heap.size, .slice none 0 0, w3.heap.size, fun j => w3.heap.size + 2 + 2 * j, fun j => w3.heap.size + 1 + 2 * j, w6.heap.size, W7.heap.size⟩, ?_⟩
  refine { row := ?_, lG := l0, jn := ?_, lJ := ⟨l7 _ j1 jJ, l7 _ j2 jM, l7 _ j3 jA, l7 _ j4 jD⟩, lA := ?_, sp := ?_, lS := ⟨l6 _ (Nat.le_refl _) t23, fun k e => l66 k (hvs k e).1 (hvs k e).2⟩, pk := ?_, lK := ⟨l4 _ (Nat.le_refl _) t12, fun k e => by simp [Value.ownBlock] at e⟩, hrow := ?_, lHB := l1, hand := ?_, lH := ?_, has := ?_, lM := l3, wrow := ?_, lW := l2, far := ?_, w1le := ?_, io := ?_ }
  · rw [hW9]
    refine World.rowIs_alloc _ _ _ _ ?_
    intro i hi
    change i < 6 at hi
    rcases (by omega : i = 0 ∨ i = 1 ∨ i = 2 ∨ i = 3 ∨ i = 4 ∨ i = 5) with rfl | rfl | rfl | rfl | rfl | rfl <;> rfl
  · exact Jn.of_blocks hJ1 (k19 _ jJ) (k19 _ jM) (k19 _ jA) (k19 _ jD) (fun k _ hk => k19 k hk)
  · intro k v b hk hv hb
    have hv1 := (World.cell?_of_block (a := ⟨A, k, none⟩) (k19 _ jA)).symm.trans hv
    obtain ⟨av, ha⟩ := Jn.aft hJ1
    have e := (ha.row.cell hk).symm.trans hv1
    simp only [Option.some.injEq] at e
    subst e
    have hl := (ha.own k hk).low hb
    have hC := Jn.lt hJ1
    exact ⟨by omega, l7 b (by omega) hl.2⟩
  · exact hS6.of_blocks (k69 _ (by omega)) (fun k e => k69 k (hvs k e).2)
  · exact hP2.of_blocks ((k49 _ (by omega) (by omega)).trans (k24 _ t12)) (fun k e => by simp [Value.ownBlock] at e)
  · exact hE4.row.of_block (k49 _ (by omega) (by omega))
  · intro k hk
    exact (hE4.hand k hk).of_blocks (k49 _ (by omega) (by omega)) (k49 _ (by omega) (by omega))
  · intro k hk
    exact ⟨by show own (w3.heap.size + 2 + 2 * k) = 10 + k; rw [lh _ (by omega) (by omega)]; omega, by show own (w3.heap.size + 1 + 2 * k) = 10 + k; rw [lh _ (by omega) (by omega)]; omega⟩
  · exact hhas.of_block (k79 _ (by omega))
  · exact hw8.of_block (k89 _ hw8.lt)
  · intro k hk
    exact ⟨hk, l9 k hk, (k79 k (by omega)).trans (b07.block k hk)⟩
  · show w.heap.size ≤ W9.heap.size
    omega
  · rw [hW9]
    exact ⟨b78.os.trans b07.os, b78.tape.trans b07.tape, b78.output.trans b07.output⟩

/-- What New tells. -/
def GangOut (room hands : Nat) (ts : List (Int × List Int)) (w : World) (e : Ending) (w' : World) : Prop :=
  ∃ G own Q, e = .returned (.tuple #[.pointer (some ⟨G, 0, none⟩), .nilIface]) ∧ Pg ⟨fun k => k < w.heap.size, w⟩ G room hands ts (gnew ts) (workOf ts) own Q w' ∧ w.heap.size ≤ G ∧ Below w.heap.size w w'
set_option maxRecDepth 100000 in
set_option maxHeartbeats 4000000 in
theorem gNew_good (v : Value) (ts : List (Int × List Int)) (w : World) (hp : PlanAt w v ts) (hc : CheckIs ts 0 0) (hands room : Nat) (h1 : 1 ≤ hands) (h6 : hands ≤ 6) (r1 : 1 ≤ room) (r16 : room ≤ 16) :
    Calls Try.prog 4 #[v, .int .i64 hands, .int .i64 room] w (GangOut room hands ts w) := by
  have hjn := new_good v ts w hp hc
  have h30 := hc.good.le
  have HP : Hid (PlanAt w v ts) := hp
  obtain ⟨pa, pc, rfl⟩ : ∃ a c, v = .slice a ts.length c := by obtain ⟨hl, a, c, hv, -⟩ := hp; exact ⟨a, c, hv⟩
  have hmk : ∀ wx, Sem.run Try.prog (Instr.makeMap 61 none) wx = .ok (.map (some wx.heap.size)) (wx.alloc (.map #[] 0)) := fun wx => by kernel_rfl
  clear hp hc
  go_enter Try.func4, Try.ntmps4
  go_upto_region 16 with (first
    | (go_at_call 12; refine hjn.mono ?_; clear hjn; rintro e w1 ⟨J, M, A, D, C, rfl, hJ1, hlow, hb1⟩; have hpk := Prk.New_good hands w1 h1 h6; have HJ1 : Hid (JnT J M A D C ts (fun _ => false) w1 ∧ (w.heap.size ≤ J ∧ w.heap.size ≤ M ∧ w.heap.size ≤ A ∧ w.heap.size ≤ D) ∧ Below w.heap.size w w1) := ⟨hJ1, hlow, hb1⟩; clear hJ1 hlow hb1)
    | (go_at_call 13; refine hpk.mono ?_; clear hpk; rintro e w2 ⟨rfl, hP2, hb2⟩; have hsp := Spl.New_good room w2 r1 r16; have HP2 : Hid (Prk.Pk w1.heap.size hands [] (.slice none 0 0) w2 ∧ Below w1.heap.size w1 w2) := ⟨hP2, hb2⟩; clear hP2 hb2)
    | (go_at_call 14; refine hsp.mono ?_; clear hsp; rintro e w3 ⟨rfl, hS3, hb3⟩; have hem := emptyHands_any hands room w3 h6 r1 r16; have HS3 : Hid (Spl.Sp w2.heap.size room [] (.slice none 0 0) w3 ∧ Below w2.heap.size w2 w3) := ⟨hS3, hb3⟩; clear hS3 hb3)
    | (go_at_call 15; refine hem.mono ?_; clear hem; rintro e w4 ⟨rfl, hE4⟩; have hJ4 := ((HJ1.out.1.later HP2.out.2).later HS3.out.2).later hE4.below; have hrd := ready_any J M A D C ts (fun _ => false) w4 hJ4; have HE4 : Hid (EmH w3.heap.size hands room w3 w4 ∧ JnT J M A D C ts (fun _ => false) w4) := ⟨hE4, hJ4⟩; clear hE4 hJ4)
    | (go_at_call 17; refine hrd.mono ?_; clear hrd; rintro e w5 ⟨⟨rv, rfl, hr5⟩, hb5⟩; obtain ⟨ra, rc, rfl⟩ := hr5.shape; have hput := Spl.Put_good w2.heap.size room [] (intsOf (readyTo ts (fun _ => false) ts.length)) (.slice none 0 0) _ _ w5 ((HS3.out.1.later HE4.out.1.below).later hb5) hr5.rds (by have := readyTo_len ts (fun _ => false) ts.length; rw [intsOf_length]; simp; omega); have HB5 : Hid (Below w4.heap.size w4 w5) := hb5; clear hb5 hr5)
    | (go_at_call 16; refine hput.mono ?_; clear hput; rintro e w6 ⟨rfl, vs, hS6, hk6, hn6⟩; have HS6 : Hid (Spl.Sp w2.heap.size room ([] ++ intsOf (readyTo ts (fun _ => false) ts.length)) vs w6 ∧ Spl.Ks w2.heap.size (Value.slice none 0 0).ownBlock w5 w6 ∧ Spl.Near w5.heap.size (.slice none 0 0) vs) := ⟨hS6, hk6, hn6⟩; clear hS6 hk6 hn6))
  obtain ⟨W7, hW7⟩ : ∃ W7, W7 = w6.alloc (.map #[] 0) := ⟨_, rfl⟩
  have s12 := HP2.out.2.size
  have s23 := HS3.out.2.size
  have s4e := HE4.out.1.size
  have s45 := HB5.out.size
  have s56 := HS6.out.2.1.size
  have s67 : W7.heap.size = w6.heap.size + 1 := by rw [hW7]; simp
  have k46 : ∀ k, k < w4.heap.size → k ≠ w2.heap.size → w6.heap[k]? = w4.heap[k]? := fun k hk hne => (HS6.out.2.1.block k (by omega) hne (by simp [Value.ownBlock])).trans (HB5.out.block k hk)
  have hKb := HP2.out.1.lt
  have hSb := HS3.out.1.lt
  have hJlt := Jn.row HE4.out.2 |>.lt
  have b01 := HJ1.out.2.2
  have s01 := b01.size
  have b04 : Below w.heap.size w w4 := ((b01.trans (HP2.out.2.mono s01)).trans (HS3.out.2.mono (by omega))).trans (HE4.out.1.below.mono (by omega))
  have b06 : Below w.heap.size w w6 := ⟨HS6.out.2.1.os.trans (HB5.out.os.trans b04.os), HS6.out.2.1.tape.trans (HB5.out.tape.trans b04.tape), HS6.out.2.1.output.trans (HB5.out.output.trans b04.output), by omega, fun k hk => (k46 k (by omega) (by omega)).trans (b04.block k hk)⟩
  have b07 : Below w.heap.size w W7 := by rw [hW7]; exact b06.alloc (by omega) _
  have hwo := worksOf_any _ ts W7 (HP.out.later b07) h30
  have hhas : HasAt W7 w6.heap.size hands (fun _ => -1) := by rw [hW7]; exact HasAt.start w6 hands
  have k47 : ∀ k, k < w4.heap.size → k ≠ w2.heap.size → W7.heap[k]? = w4.heap[k]? := fun k hk hne => by rw [hW7]; exact (Below.heap_alloc _ _ _ (by omega)).trans (k46 k hk hne)
  have b67 : Below w6.heap.size w6 W7 := by rw [hW7]; exact (Below.refl _ _).alloc (Nat.le_refl _) _
  have HALL : Hid (HasAt W7 w6.heap.size hands (fun _ => -1) ∧ (∀ k, k < w4.heap.size → k ≠ w2.heap.size → W7.heap[k]? = w4.heap[k]?) ∧ Below w.heap.size w W7 ∧ Below w6.heap.size w6 W7) := ⟨hhas, k47, b07, b67⟩
  have HW7 : Hid (W7 = w6.alloc (.map #[] 0)) := hW7
  have HSZ : Hid (w1.heap.size ≤ w2.heap.size ∧ w2.heap.size ≤ w3.heap.size ∧ w4.heap.size = w3.heap.size + 1 + 2 * hands ∧ w4.heap.size ≤ w5.heap.size ∧ w5.heap.size ≤ w6.heap.size ∧ W7.heap.size = w6.heap.size + 1 ∧ w1.heap.size < w2.heap.size ∧ w2.heap.size < w3.heap.size ∧ w.heap.size ≤ w1.heap.size) := ⟨s12, s23, s4e, s45, s56, s67, hKb, hSb, s01⟩
  clear hW7 k46 k47 b06 b07 b67 hhas s12 s23 s4e s45 s56 s67 hKb hSb b01 s01 b04 hJlt
  go_wp2_with (first | (go_at_call 18; rw [← HW7.out]; refine hwo.mono ?_; clear hwo; rintro e w8 ⟨rfl, hw8, hb8⟩; have HW8 : Hid (w8.rowIs W7.heap.size 3 ts.length (fun k => .int .i64 (workOf ts k)) ∧ Below W7.heap.size W7 w8) := ⟨hw8, hb8⟩; clear hw8 hb8))
  go_ret2
  obtain ⟨own, Q, hG⟩ := gang_made h6 r1 HJ1.out HP2.out HS3.out HE4.out HB5.out HS6.out HALL.out HSZ.out HW8.out
  have hs78 := HW8.out.2.size
  have hs07 := HALL.out.2.2.1.size
  exact ⟨_, own, Q, rfl, hG, by omega, (HALL.out.2.2.1.trans (HW8.out.2.mono hs07)).alloc (by omega) _⟩
end Go.Proofs.Ytdhnfgjfihapiaa
