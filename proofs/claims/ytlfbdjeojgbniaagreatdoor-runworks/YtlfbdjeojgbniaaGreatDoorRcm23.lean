/- trace.Print: the contracts of writeLine, Print. errors.As at the target *api.Errno, plain.Told, yardsame.Error: Go's own text of errors.As is walked; package internal/reflectlite by the model's entries. The contracts of plain.Told and yardsame.Error, at the program's errors; and of yardlaw4's chain. -/
import Derived.Test.YtlfbdjeojgbniaaGreatDoorRcm19
import Derived.Test.YtlfbdjeojgbniaaGreatDoorRcm22
import Derived.Test.YtlfbdjeojgbniaaGreatDoorRcm04
import Derived.LaidEql
import Derived.Stop.Asserts
import Derived.RowKitTokens

namespace Go.Proofs.YtlfbdjeojgbniaaGreatDoor
open Go.RowKit Go.Deep

/-- The variable trace.forms is as it is laid. -/
def FormsAt (w : World) : Prop := 3 < w.heap.size ∧ ∀ k : Nat, k < 6 → w.cell? ⟨3, k * 2, none⟩ = some (.string ⟨(wordD ((k : Int) + 1)).toArray⟩) ∧ w.cell? ⟨3, k * 2 + 1, none⟩ = some (.int .i64 ((numsD ((k : Int) + 1) : Nat) : Int))
theorem FormsAt.later {w w' : World} (h : FormsAt w) (hb : Below w.heap.size w w') : FormsAt w' :=
  ⟨Nat.lt_of_lt_of_le h.1 hb.size, fun k hk => ⟨(hb.cell (p := ⟨3, k * 2, none⟩) h.1).trans (h.2 k hk).1, (hb.cell (p := ⟨3, k * 2 + 1, none⟩) h.1).trans (h.2 k hk).2⟩⟩
/-- Numbers, a blank ahead of each. -/
def tailT (l : List Int) : List UInt8 := l.flatMap (fun z => 32 :: digs z)
def numsDd (d : Deed) : List Int := [d.2.1, d.2.2.1, d.2.2.2].take (numsD d.1)
theorem deedText_tail (d : Deed) (h : deedE d = 0) : deedText d = wordD d.1 ++ tailT (numsDd d) := by
  obtain ⟨h1, -⟩ := deedE_zero h
  unfold deedText deedWs numsDd numsD tailT
  by_cases e4 : 4 < d.1
  · rw [if_pos e4, if_neg (by omega), if_pos e4]; simp [joinC]
  · rw [if_neg e4]
    by_cases e2 : d.1 = 2
    · rw [if_pos e2, if_pos e2]; simp [joinC]
    · rw [if_neg e2, if_neg e2, if_neg e4]; simp [joinC]
theorem tailT_snoc (l : List Int) (z : Int) : tailT (l ++ [z]) = (tailT l ++ [32]) ++ digs z := by simp [tailT]
theorem numsD_le (a : Int) : numsD a ≤ 3 := by
  unfold numsD
  split
  · omega
  · split <;> omega
theorem tailT_len (l : List Int) (h : ∀ z, z ∈ l → 0 ≤ z ∧ z < 100) : (tailT l).length ≤ 3 * l.length := by
  induction l with
  | nil => simp [tailT]
  | cons a r ih =>
    have h1 := digs_len (h a (by simp))
    have h2 := ih (fun z hz => h z (List.mem_cons_of_mem _ hz))
    have e : tailT (a :: r) = (32 :: digs a) ++ tailT r := by simp [tailT]
    rw [e, List.length_append, List.length_cons, List.length_cons]
    omega
theorem wordD_len (a : Int) : (wordD a).length ≤ 8 := by
  unfold wordD
  split
  · decide
  · split
    · decide
    · split
      · decide
      · split
        · decide
        · split <;> decide
set_option maxRecDepth 100000 in
set_option maxHeartbeats 4000000 in
theorem writeLine_any (w0 w : World) (b : Nat) (acc : List UInt8) (x1 x2 x3 x4 : Int) (hb0 : Below w0.heap.size w0 w) (h : BuildsAt w0.heap.size b w acc) (hf : FormsAt w0) (hd : deedE (x1, x2, x3, x4) = 0) (hl : acc.length ≤ 10000000) :
    Calls Tryz.prog 128 #[.pointer (some ⟨b, 0, none⟩), .agg #[.int .i64 x1, .int .i64 x2, .int .i64 x3, .int .i64 x4]] w fun e w' => e = .returned (.tuple #[]) ∧ BuildsAt w0.heap.size b w' (acc ++ (deedText (x1, x2, x3, x4) ++ [10])) ∧ Below w0.heap.size w0 w' := by
  have HTX : Hid (deedText (x1, x2, x3, x4) = wordD x1 ++ tailT ([x2, x3, x4].take (numsD x1))) := deedText_tail _ hd
  obtain ⟨h1, h2, h3, h4, h5, -⟩ := deedE_zero hd
  dsimp only at h1 h2 h3 h4 h5
  have hall : ∀ z, z ∈ [x2, x3, x4] → 0 ≤ z ∧ z < 100 := fun z hz => by
    simp only [List.mem_cons, List.not_mem_nil, or_false] at hz
    rcases hz with rfl | rfl | rfl
    · omega
    · omega
    · by_cases e : x1 = 2
      · have := h4 e; omega
      · have := h5 e; omega
  obtain ⟨k, hk⟩ : ∃ k : Nat, x1 = (k : Int) + 1 := ⟨(x1 - 1).toNat, by omega⟩
  have hk6 : k < 6 := by omega
  have hki : (k : Int) < 6 := by omega
  have hsub : IntKind.i64.wrap (x1 - 1) = (k : Int) := by rw [hk, Int.add_sub_cancel]; rw [IntKind.wrap_i64]; omega
  have hbA : Below w0.heap.size w0 (w.alloc (.cells #[.int .i64 x1, .int .i64 x2, .int .i64 x3, .int .i64 x4] 91)) := hb0.alloc hb0.size _
  have hfA := hf.later hbA
  obtain ⟨f0, f1⟩ := hfA.2 k hk6
  rw [← hk] at f0 f1
  have hnl := numsD_le x1
  have HB : Hid (BuildsAt w0.heap.size b w acc) := h
  have hblt : b < w.heap.size := by
    rcases h with h | h
    · exact h.lt
    · exact h.lt
  have hwl := wordD_len x1
  generalize hwd : wordD x1 = wd at *
  generalize hm : numsD x1 = m at *
  obtain ⟨W, hW⟩ : ∃ W, W = (w.alloc (.cells #[.int .i64 x1, .int .i64 x2, .int .i64 x3, .int .i64 x4] 91)).alloc (.cells #[.string ⟨wd.toArray⟩, .int .i64 (m : Int)] 249) := ⟨_, rfl⟩
  have hbW : Below w.heap.size w W := by rw [hW]; exact ((Below.refl _ _).alloc (Nat.le_refl _) _).alloc (by simp) _
  have hb0W : Below w0.heap.size w0 W := hb0.trans (hbW.mono hb0.size)
  have hps := putString w0.heap.size b acc wd W (h.later hbW) (by omega) hb0W.size
  have q1 : W.heap[w.heap.size]? = some (.cells #[.int .i64 x1, .int .i64 x2, .int .i64 x3, .int .i64 x4] 91 (0, 0)) := by
    rw [hW, Below.heap_alloc _ _ _ (by simp)]; exact blk_alloc_new _ _
  have q2 : W.heap[w.heap.size + 1]? = some (.cells #[.string ⟨wd.toArray⟩, .int .i64 (m : Int)] 249 (0, 0)) := by
    have := blk_alloc_new (w.alloc (.cells #[.int .i64 x1, .int .i64 x2, .int .i64 x3, .int .i64 x4] 91)) (.cells #[.string ⟨wd.toArray⟩, .int .i64 (m : Int)] 249)
    rw [nblk_alloc] at this
    rw [hW]; exact this
  have HW : Hid (W = (w.alloc (.cells #[.int .i64 x1, .int .i64 x2, .int .i64 x3, .int .i64 x4] 91)).alloc (.cells #[.string ⟨wd.toArray⟩, .int .i64 (m : Int)] 249)) := hW
  have w0c : W.cell? ⟨w.heap.size + 1, 0, none⟩ = some (.string ⟨wd.toArray⟩) := by simp [World.cell?, q2]
  have HALL : Hid (∀ z, z ∈ [x2, x3, x4] → 0 ≤ z ∧ z < 100) := hall
  have HQ : Hid (∀ w2, Kept b W w2 → w2.heap[w.heap.size]? = some (.cells #[.int .i64 x1, .int .i64 x2, .int .i64 x3, .int .i64 x4] 91 (0, 0)) ∧ w2.heap[w.heap.size + 1]? = some (.cells #[.string ⟨wd.toArray⟩, .int .i64 (m : Int)] 249 (0, 0))) := fun w2 hk2 => ⟨hk2 _ _ _ q1 (by decide) (by omega), hk2 _ _ _ q2 (by decide) (by omega)⟩
  have HB0 : Hid (Below w0.heap.size w0 W) := hb0W
  clear hd h2 h3 h4 h5 hall hk h1 hb0 hbA hfA hf h hbW hb0W hW q1 q2 hwd hm
  go_enter Tryz.func128, Tryz.ntmps128
  go_upto_region 2 with fail
  rw [← HW.out]
  clear HW f0 f1 hsub
  go_wp2_with (first | (go_at_call 18; refine hps.mono ?_; clear hps; rintro e w2 ⟨⟨kk, rfl⟩, h2, hb2, hk2⟩; obtain ⟨q1, q2⟩ := HQ.out w2 hk2; have e1 : w2.cell? ⟨w.heap.size, 1, none⟩ = some (.int .i64 x2) := (by simp [World.cell?, q1]); have e2 : w2.cell? ⟨w.heap.size, 2, none⟩ = some (.int .i64 x3) := (by simp [World.cell?, q1]); have e3 : w2.cell? ⟨w.heap.size, 3, none⟩ = some (.int .i64 x4) := (by simp [World.cell?, q1]); have e4 : (w2.alloc (.cells #[.int .i64 x2, .int .i64 x3, .int .i64 x4] 251)).cell? ⟨w.heap.size + 1, 1, none⟩ = some (.int .i64 (m : Int)) := (World.cell?_alloc_lt _ _ ⟨w.heap.size + 1, 1, none⟩ (lt_of_block q2)).trans (by simp [World.cell?, q2]); have H2 : Hid (BuildsAt w0.heap.size b w2 (acc ++ wd)) := h2; have HB2 : Hid (Below w0.heap.size w0 w2) := HB0.out.trans hb2; clear h2 hb2 hk2 q1 q2))
  have HBL : Hid (b < w2.heap.size) := by
    rcases H2.out with h | h
    · exact h.lt
    · exact h.lt
  have H3 : Hid (BuildsAt w0.heap.size b (w2.alloc (.cells #[.int .i64 x2, .int .i64 x3, .int .i64 x4] 251)) (acc ++ wd)) := H2.out.later ((Below.refl _ _).alloc (Nat.le_refl _) _)
  have HN3 : Hid ((w2.alloc (.cells #[.int .i64 x2, .int .i64 x3, .int .i64 x4] 251)).heap[w2.heap.size]? = some (.cells #[.int .i64 x2, .int .i64 x3, .int .i64 x4] 251 (0, 0))) := blk_alloc_new _ _
  have HB3 : Hid (Below w0.heap.size w0 (w2.alloc (.cells #[.int .i64 x2, .int .i64 x3, .int .i64 x4] 251))) := HB2.out.alloc HB2.out.size _
  clear e1 e2 e3 e4 HB HB0 HQ w0c
  go_loopw [25] (fun s25 wr => ∃ i : Nat, i ≤ m ∧ s25 = .int .i64 i ∧ Hid (BuildsAt w0.heap.size b wr ((acc ++ wd) ++ tailT ([x2, x3, x4].take i))) ∧ Hid (wr.heap[w2.heap.size]? = some (.cells #[.int .i64 x2, .int .i64 x3, .int .i64 x4] 251 (0, 0))) ∧ Hid (Below w0.heap.size w0 wr)) (fun s25 _ => m - (intOf s25).toNat)
  case atStart => exact ⟨0, Nat.zero_le _, rfl, by rw [List.take_zero]; show BuildsAt _ _ _ (_ ++ []); rw [List.append_nil]; exact H3, HN3, HB3⟩
  case round =>
    clear H3 HN3 HB3 H2 HB2
    obtain ⟨i, hi, rfl, hbu, hnb, hB⟩ := hrel
    by_cases him : i < m
    · have hi3 : i < 3 := by omega
      obtain ⟨z, hz0, hzc, hzt⟩ : ∃ z : Nat, z < 100 ∧ wr.cell? ⟨w2.heap.size, i, none⟩ = some (.int .i64 (z : Int)) ∧ [x2, x3, x4].take (i + 1) = [x2, x3, x4].take i ++ [(z : Int)] := by
        have hg : [x2, x3, x4][i]? = some ([x2, x3, x4][i]'(by simpa using hi3)) := List.getElem?_eq_getElem _
        have hm := HALL.out _ (List.getElem_mem (l := [x2, x3, x4]) (n := i) (by simpa using hi3))
        refine ⟨([x2, x3, x4][i]'(by simpa using hi3)).toNat, by omega, ?_, ?_⟩
        · rw [Int.toNat_of_nonneg hm.1]
          rcases (by omega : i = 0 ∨ i = 1 ∨ i = 2) with rfl | rfl | rfl <;> simp [World.cell?, hnb.out]
        · rw [Int.toNat_of_nonneg hm.1]
          exact List.take_succ_eq_append_getElem (by simpa using hi3)
      have hlen : ((acc ++ wd) ++ tailT ([x2, x3, x4].take i)).length ≤ 10000000 + 8 + 9 := by
        have := tailT_len ([x2, x3, x4].take i) (fun z hz => HALL.out z (List.mem_of_mem_take hz))
        have h3 : ([x2, x3, x4].take i).length ≤ 3 := by simp; omega
        simp only [List.length_append]
        omega
      have hpb := putByte w0.heap.size b _ 32 (by omega) wr hbu.out (by omega) hB.out.size
      have hnum := fun W => putNumber z hz0 W
      have HT : Hid (((acc ++ wd) ++ tailT ([x2, x3, x4].take i)) ++ [UInt8.ofNat 32] ++ digs (z : Int) = (acc ++ wd) ++ tailT ([x2, x3, x4].take (i + 1))) := (show _ = _ by rw [hzt, tailT_snoc]; simp)
      have hdl := digs_len (z := (z : Int)) (by omega)
      have HNX : Hid (∀ wx acc', BuildsAt w0.heap.size b wx acc' → Below w0.heap.size w0 wx → acc'.length ≤ 10000000 + 8 + 9 + 1 → Calls Tryz.prog 18 #[.pointer (some ⟨b, 0, none⟩), .string ⟨(digs (z : Int)).toArray⟩] wx fun e w' => (∃ k, e = .returned (.tuple #[.int .i64 k, .nilIface])) ∧ BuildsAt w0.heap.size b w' (acc' ++ digs (z : Int)) ∧ Below w0.heap.size wx w' ∧ Kept b wx w') := fun wx acc' hx hbx hlx => putString w0.heap.size b acc' (digs (z : Int)) wx hx (by omega) hbx.size
      have HK : Hid (∀ wx, Kept b wr wx → wx.heap[w2.heap.size]? = some (.cells #[.int .i64 x2, .int .i64 x3, .int .i64 x4] 251 (0, 0))) := fun wx hk => hk _ _ _ hnb.out (by decide) (by have := HBL.out; omega)
      have HZC : Hid (∀ wx : World, wx.heap[w2.heap.size]? = wr.heap[w2.heap.size]? → wx.cell? ⟨w2.heap.size, i, none⟩ = some (.int .i64 (z : Int))) := fun wx e => (World.cell?_of_block (a := ⟨w2.heap.size, i, none⟩) e).trans hzc
      have HNB : Hid (wr.heap[w2.heap.size]? = some (.cells #[.int .i64 x2, .int .i64 x3, .int .i64 x4] 251 (0, 0))) := hnb
      have HLEN : Hid (((acc ++ wd) ++ tailT ([x2, x3, x4].take i)).length ≤ 10000000 + 8 + 9) := hlen
      clear hbu hnb hzt hlen hzc hdl
      generalize ((acc ++ wd) ++ tailT ([x2, x3, x4].take i)) = acc1 at *
      have hi3i : (i : Int) < 3 := by omega
      go_wp2_with (first | (go_at_call 21; refine hpb.mono ?_; clear hpb; rintro e w3 ⟨rfl, h3, hb3, hk3⟩; have HN3 := HK.out w3 hk3; have hzc3 := HZC.out w3 (HN3.trans HNB.out.symm); have HB3 : Hid (Below w0.heap.size w0 w3) := hB.out.trans hb3; have hps := HNX.out w3 _ h3 HB3.out (by simp only [List.length_append, List.length_singleton]; have := HLEN.out; omega); have HN3' : Hid (w3.heap[w2.heap.size]? = some (.cells #[.int .i64 x2, .int .i64 x3, .int .i64 x4] 251 (0, 0))) := HN3; clear HN3 h3 hb3 hk3) | (go_at_call 95; refine (hnum _).mono ?_; rintro e w3 ⟨rfl, rfl⟩) | (go_at_call 18; refine hps.mono ?_; clear hps; rintro e w4 ⟨⟨kk, rfl⟩, h4, hb4, hk4⟩; rw [HT.out] at h4; have H4 : Hid (BuildsAt w0.heap.size b w4 ((acc ++ wd) ++ tailT ([x2, x3, x4].take (i + 1)))) := h4; have HB4 : Hid (Below w0.heap.size w0 w4) := HB3.out.trans hb4; have HN4 : Hid (w4.heap[w2.heap.size]? = some (.cells #[.int .i64 x2, .int .i64 x3, .int .i64 x4] 251 (0, 0))) := hk4 _ _ _ HN3'.out (by decide) (by have := HBL.out; omega); clear h4 hb4 hk4))
      go_roundw
      case rel => exact ⟨i + 1, by omega, by go_num, H4, HN4, HB4⟩
      case measure => simp [intOf]; omega
    · have him2 : i = m := by omega
      subst him2
      have hlen : ((acc ++ wd) ++ tailT ([x2, x3, x4].take i)).length ≤ 10000000 + 8 + 9 := by
        have := tailT_len ([x2, x3, x4].take i) (fun z hz => HALL.out z (List.mem_of_mem_take hz))
        have h3 : ([x2, x3, x4].take i).length ≤ 3 := by simp; omega
        simp only [List.length_append]
        omega
      have hpb := putByte w0.heap.size b _ 10 (by omega) wr hbu.out (by omega) hB.out.size
      clear hbu hnb hlen
      go_wp2_with (first | (go_at_call 21; refine hpb.mono ?_; clear hpb; rintro e w3 ⟨rfl, h3, hb3, hk3⟩; have HB3 : Hid (Below w0.heap.size w0 w3) := hB.out.trans hb3; have H3 : Hid (BuildsAt w0.heap.size b w3 (((acc ++ wd) ++ tailT ([x2, x3, x4].take i)) ++ [UInt8.ofNat 10])) := h3; clear h3 hb3 hk3))
      go_end0
      refine ⟨rfl, ?_, HB3.out⟩
      rw [HTX.out]
      have := H3.out
      simpa using this
theorem builds_new (w : World) : BuildsAt w.heap.size w.heap.size (w.alloc (.cells #[.pointer none, .slice none 0 0] 56)) [] :=
  Or.inl ⟨Nat.le_refl _, .slice none 0 0, blk_alloc_new _ _, World.ownsRow_nil _ _ _ _, by simp [Value.ownBlock]⟩
theorem deedsText_take {ds : List Deed} {k : Nat} (hkl : k < ds.length) : deedsText (ds.take (k + 1)) = deedsText (ds.take k) ++ (deedText (ds.getD k (0, 0, 0, 0)) ++ [10]) := by
  unfold deedsText
  rw [List.take_succ_eq_append_getElem hkl, List.flatMap_append, List.getD_eq_getElem?_getD, List.getElem?_eq_getElem hkl]
  simp only [List.flatMap_cons, List.flatMap_nil, List.append_nil, Option.getD_some]
theorem deedText_len {d : Deed} (h : deedE d = 0) : (deedText d).length ≤ 17 := by
  rw [deedText_tail d h]
  obtain ⟨h1, h2, h3, h4, h5, -⟩ := deedE_zero h
  have e1 := wordD_len d.1
  have e2 := tailT_len (numsDd d) (fun z hz => by
    have hm := List.mem_of_mem_take hz
    simp only [List.mem_cons, List.not_mem_nil, or_false] at hm
    rcases hm with rfl | rfl | rfl
    · omega
    · omega
    · by_cases e : d.1 = 2
      · have := h4 e; omega
      · have := h5 e; omega)
  have e3 : (numsDd d).length ≤ 3 := by simp [numsDd]; omega
  rw [List.length_append]
  omega
theorem deedsText_len (l : List Deed) (h : ∀ d, d ∈ l → deedE d = 0) : (deedsText l).length ≤ 18 * l.length := by
  induction l with
  | nil => simp [deedsText]
  | cons d r ih =>
    have h1 := deedText_len (h d (by simp))
    have h2 := ih (fun x hx => h x (List.mem_cons_of_mem _ hx))
    have e : deedsText (d :: r) = (deedText d ++ [10]) ++ deedsText r := by simp [deedsText]
    rw [e, List.length_append, List.length_append, List.length_cons]
    simp
    omega
set_option maxRecDepth 100000 in
set_option maxHeartbeats 4000000 in
theorem print_any (v : Value) (ds : List Deed) (w : World) (hv : DeedsAt w v ds) (hf : FormsAt w) :
    Calls Tryz.prog 93 #[v] w fun e w' => e = .returned (.tuple #[.string ⟨(if deedsErr ds = 0 then deedsText ds else []).toArray⟩, errV (deedsErr ds)]) ∧ Below w.heap.size w w' := by
  have hcd := checkDeeds_any v ds w hv
  have HV : Hid (DeedsAt w v ds) := hv
  have HF : Hid (FormsAt w) := hf
  obtain ⟨_, a, c, rfl, _⟩ := hv
  by_cases he : deedsErr ds = 0
  case neg =>
    rw [if_neg he]
    rw [errV_some he] at hcd
    have HE : Hid (errV (deedsErr ds) = .iface 97 (.int .i64 (deedsErr ds))) := errV_some he
    clear he
    generalize deedsErr ds = de at *
    go_enter Tryz.func93, Tryz.ntmps93
    go_wp2_with (first | (go_at_call 127; refine hcd.mono ?_; clear hcd; rintro e w1 ⟨rfl, hb1⟩))
    go_ret2
    exact ⟨by rw [HE.out]; rfl, hb1⟩
  case pos =>
    rw [if_pos he, he]
    rw [he, errV_zero] at hcd
    obtain ⟨hl, hok⟩ := deedsErr_zero he
    have HOK : Hid (∀ k, k < ds.length → deedE (ds.getD k (0, 0, 0, 0)) = 0) := fun k hk => hok _ (by rw [List.getD_eq_getElem?_getD, List.getElem?_eq_getElem hk]; exact List.getElem_mem hk)
    clear he hok hf
    go_enter Tryz.func93, Tryz.ntmps93
    go_wp2_with (first | (go_at_call 127; refine hcd.mono ?_; clear hcd; rintro e w1 ⟨rfl, hb1⟩; have HB1 : Hid (Below w.heap.size w w1) := hb1; clear hb1))
    have HBU : Hid (BuildsAt w1.heap.size w1.heap.size (w1.alloc (.cells #[.pointer none, .slice none 0 0] 56)) []) := builds_new w1
    go_loopw [15] (fun s15 wr => ∃ k : Nat, k ≤ ds.length ∧ s15 = .int .i64 k ∧ Hid (BuildsAt w1.heap.size w1.heap.size wr (deedsText (ds.take k))) ∧ Hid (Below w1.heap.size w1 wr)) (fun s15 _ => ds.length - (intOf s15).toNat)
    case atStart => exact ⟨0, Nat.zero_le _, rfl, HBU, (Below.refl _ _).alloc (Nat.le_refl _) _⟩
    case round =>
      clear HBU
      obtain ⟨k, hk, rfl, hbu, hb⟩ := hrel
      by_cases hkl : k < ds.length
      · obtain ⟨b, o, rfl, hbl, c0, c1, c2, c3⟩ := (HV.out.later (HB1.out.trans (hb.out.mono HB1.out.size))).four hkl
        have hde := HOK.out k hkl
        have HTK : Hid (deedsText (ds.take (k + 1)) = deedsText (ds.take k) ++ (deedText (ds.getD k (0, 0, 0, 0)) ++ [10])) := deedsText_take hkl
        have hD : ds.getD k (0, 0, 0, 0) = ((ds.getD k (0, 0, 0, 0)).1, (ds.getD k (0, 0, 0, 0)).2.1, (ds.getD k (0, 0, 0, 0)).2.2.1, (ds.getD k (0, 0, 0, 0)).2.2.2) := rfl
        have hlen : (deedsText (ds.take k)).length ≤ 10000000 := by
          have := deedsText_len (ds.take k) (fun d hd => (by
            obtain ⟨j, hj, e⟩ := List.getElem_of_mem (List.mem_of_mem_take hd)
            have := HOK.out j hj
            rw [List.getD_eq_getElem?_getD, List.getElem?_eq_getElem hj] at this
            rw [← e]; exact this))
          have h2 : (ds.take k).length ≤ 1000 := by simp; omega
          omega
        have hwl := writeLine_any w1 (wr.alloc (.cells #[.int .i64 (ds.getD k (0, 0, 0, 0)).1, .int .i64 (ds.getD k (0, 0, 0, 0)).2.1, .int .i64 (ds.getD k (0, 0, 0, 0)).2.2.1, .int .i64 (ds.getD k (0, 0, 0, 0)).2.2.2] 91)) w1.heap.size (deedsText (ds.take k)) (ds.getD k (0, 0, 0, 0)).1 (ds.getD k (0, 0, 0, 0)).2.1 (ds.getD k (0, 0, 0, 0)).2.2.1 (ds.getD k (0, 0, 0, 0)).2.2.2 (hb.out.alloc hb.out.size _) (hbu.out.later ((Below.refl _ _).alloc (Nat.le_refl _) _)) (HF.out.later HB1.out) (by rw [← hD]; exact hde) hlen
        rw [← hD, ← HTK.out] at hwl
        clear hD hde hbu HTK hlen hb
        generalize (ds.getD k (0, 0, 0, 0)).1 = x1 at *
        generalize (ds.getD k (0, 0, 0, 0)).2.1 = x2 at *
        generalize (ds.getD k (0, 0, 0, 0)).2.2.1 = x3 at *
        generalize (ds.getD k (0, 0, 0, 0)).2.2.2 = x4 at *
        go_wp2_with (first | (go_at_call 128; refine hwl.mono ?_; clear hwl; rintro e w3 ⟨rfl, h3, hb3⟩; have H3 : Hid (BuildsAt w1.heap.size w1.heap.size w3 (deedsText (ds.take (k + 1)))) := h3; have HB3 : Hid (Below w1.heap.size w1 w3) := hb3; clear h3 hb3))
        go_roundw
        case rel => exact ⟨k + 1, by omega, by go_num, H3, HB3⟩
        case measure => simp [intOf]; omega
      · have hst := Tryz.Builder_String_any w1.heap.size w1.heap.size (deedsText (ds.take k)) wr hbu.out hb.out.size
        have hke : ds.take k = ds := List.take_of_length_le (by omega)
        rw [hke] at hst
        have HB2 : Hid (Below w.heap.size w wr) := HB1.out.trans (hb.out.mono HB1.out.size)
        have HSZ : Hid (w.heap.size ≤ w1.heap.size) := HB1.out.size
        clear hbu hb hke
        go_wp2_with (first | (go_at_call 22; refine hst.mono ?_; clear hst; rintro e w3 ⟨rfl, hb3⟩; have HB3 : Hid (Below w.heap.size w w3) := HB2.out.trans (hb3.mono HSZ.out); clear hb3))
        go_ret2
        exact ⟨rfl, HB3.out⟩
end Go.Proofs.YtlfbdjeojgbniaaGreatDoor

namespace Go.Proofs.YtlfbdjeojgbniaaGreatDoor
open Go.RowKit Go.Extern.Stop Go.Stop Go.Extern

theorem Tryz.valueOf45 (t : Addr) (w : World) : (ReflectliteValue.unpack (.iface 178 (.pointer (some t)))).run Tryz.prog w
    = .ok (.agg #[.pointer (some ⟨16, 178, none⟩), .pointer (some ⟨w.heap.size, 0, none⟩), .int .u64 150]) (w.alloc (.cells #[.pointer (some t)] 178)) := by kernel_rfl
theorem Tryz.type45 (a : Addr) (w : World) : (ReflectliteValue.methodAny (ReflectliteValue.valueError "reflectlite.Value.Type" 0) (fun t _ _ _ => ReflectliteType.toType t) #[.agg #[.pointer (some ⟨16, 178, none⟩), .pointer (some a), .int .u64 150]]).run Tryz.prog w
    = .ok (.iface 257 (.agg #[.pointer (some ⟨16, 178, none⟩)])) w := by kernel_rfl
theorem Tryz.methodKind (h : Value) (w : World) : (Go.method 454 257 (.agg #[h]) "Kind").run Tryz.prog w = .ok (240, h) w := by kernel_rfl
theorem Tryz.kind45 (w : World) : ((ReflectliteType.abiMethod fun t => (fun a : Nat => Value.int IntKind.u8 (a : Int)) <$> Rtype.kind t) #[.pointer (some ⟨16, 178, none⟩)]).run Tryz.prog w = .ok (.int .u8 22) w := by kernel_rfl
theorem Tryz.kind38 (w : World) : ((ReflectliteType.abiMethod fun t => (fun a : Nat => Value.int IntKind.u8 (a : Int)) <$> Rtype.kind t) #[.pointer (some ⟨16, 97, none⟩)]).run Tryz.prog w = .ok (.int .u8 2) w := by kernel_rfl
theorem Tryz.parts45 (a : Addr) (w : World) : (ReflectliteValue.parts (.agg #[.pointer (some ⟨16, 178, none⟩), .pointer (some a), .int .u64 150])).run Tryz.prog w = .ok (some (178, a, 150)) w := by kernel_rfl
theorem Tryz.isNil45 (a p : Addr) (W : World) (ha : W.cell? a = some (.pointer (some p))) :
    (ReflectliteValue.method (ReflectliteValue.valueError "reflectlite.Value.IsNil" 0) ReflectliteValue.isNil #[.agg #[.pointer (some ⟨16, 178, none⟩), .pointer (some a), .int .u64 150]]).run Tryz.prog W = .ok (.bool false) W := by
  show Sem.run Tryz.prog (ReflectliteValue.parts (.agg #[.pointer (some ⟨16, 178, none⟩), .pointer (some a), .int .u64 150]) >>= _) W = _
  simp only [Sem.run_bind, Tryz.parts45, Result.andThen]
  simp [ReflectliteValue.isNil, loadVar, isAgg, underlying, Tryz.underlying178, ha, Result.andThen]
theorem Tryz.methodElem (h : Value) (w : World) : (Go.method 454 257 (.agg #[h]) "Elem").run Tryz.prog w = .ok (256, .agg #[h]) w := by kernel_rfl
theorem Tryz.methodImplements (h : Value) (w : World) : (Go.method 454 257 (.agg #[h]) "Implements").run Tryz.prog w = .ok (257, .agg #[h]) w := by kernel_rfl
theorem Tryz.methodAssignableTo (h : Value) (w : World) : (Go.method 454 257 (.agg #[h]) "AssignableTo").run Tryz.prog w = .ok (254, .agg #[h]) w := by kernel_rfl
theorem Tryz.elem45 (w : World) : (ReflectliteType.method ReflectliteType.elem #[.agg #[.pointer (some ⟨16, 178, none⟩)]]).run Tryz.prog w = .ok (.iface 257 (.agg #[.pointer (some ⟨16, 97, none⟩)])) w := by kernel_rfl
theorem Tryz.implements38 (w : World) : (ReflectliteType.relation "Implements" ReflectliteType.implements_ #[.agg #[.pointer (some ⟨16, 97, none⟩)], .iface 257 (.agg #[.pointer (some ⟨16, 35, none⟩)])]).run Tryz.prog w = .ok (.bool true) w := by kernel_rfl
theorem Tryz.typeOf38 (v : Value) (w : World) : (ReflectliteType.typeOf #[.iface 97 v]).run Tryz.prog w = .ok (.iface 257 (.agg #[.pointer (some ⟨16, 97, none⟩)])) w := by kernel_rfl
theorem Tryz.assignable38 (w : World) : (ReflectliteType.relation "AssignableTo" ReflectliteType.assignableTo #[.agg #[.pointer (some ⟨16, 97, none⟩)], .iface 257 (.agg #[.pointer (some ⟨16, 97, none⟩)])]).run Tryz.prog w = .ok (.bool true) w := by kernel_rfl
theorem Tryz.valueOf38 (n : Int) (w : World) : (ReflectliteValue.unpack (.iface 97 (.int .i64 n))).run Tryz.prog w
    = .ok (.agg #[.pointer (some ⟨16, 97, none⟩), .pointer (some ⟨w.heap.size, 0, none⟩), .int .u64 130]) (w.alloc (.cells #[.int .i64 n] 97)) := by kernel_rfl
theorem Tryz.elemOf45 (w : World) : (Rtype.elem? 178).run Tryz.prog w = .ok (some 97) w := by kernel_rfl
theorem Tryz.mk38 (p : Addr) (w : World) : (ReflectliteValue.mk 97 p ReflectliteValue.flagAddr).run Tryz.prog w = .ok (.agg #[.pointer (some ⟨16, 97, none⟩), .pointer (some p), .int .u64 386]) w := by kernel_rfl
theorem Tryz.elemV45 (a p : Addr) (W : World) (ha : W.cell? a = some (.pointer (some p))) :
    (ReflectliteValue.method (ReflectliteValue.valueError "reflectlite.Value.Elem" 0) ReflectliteValue.elem #[.agg #[.pointer (some ⟨16, 178, none⟩), .pointer (some a), .int .u64 150]]).run Tryz.prog W
      = .ok (.agg #[.pointer (some ⟨16, 97, none⟩), .pointer (some p), .int .u64 386]) W := by
  show Sem.run Tryz.prog (ReflectliteValue.parts (.agg #[.pointer (some ⟨16, 178, none⟩), .pointer (some a), .int .u64 150]) >>= _) W = _
  simp only [Sem.run_bind, Tryz.parts45, Result.andThen]
  simp [ReflectliteValue.elem, loadVar, isAgg, underlying, Tryz.underlying178, ha, Result.andThen, Tryz.elemOf45, Tryz.mk38]
theorem Tryz.parts38a (a : Addr) (w : World) : (ReflectliteValue.parts (.agg #[.pointer (some ⟨16, 97, none⟩), .pointer (some a), .int .u64 386])).run Tryz.prog w = .ok (some (97, a, 386)) w := by kernel_rfl
theorem Tryz.parts38 (a : Addr) (w : World) : (ReflectliteValue.parts (.agg #[.pointer (some ⟨16, 97, none⟩), .pointer (some a), .int .u64 130])).run Tryz.prog w = .ok (some (97, a, 130)) w := by kernel_rfl
theorem Tryz.direct38 (w : World) : (Rtype.directlyAssignable 97 97).run Tryz.prog w = .ok true w := by kernel_rfl
theorem Tryz.set38 (ta b : Addr) (n : Int) (old : Value) (W : World) (hb : W.cell? b = some (.int .i64 n)) (ht : W.cell? ta = some old) (hf : W.frozen? ta = false) :
    (ReflectliteValue.set #[.agg #[.pointer (some ⟨16, 97, none⟩), .pointer (some ta), .int .u64 386], .agg #[.pointer (some ⟨16, 97, none⟩), .pointer (some b), .int .u64 130]]).run Tryz.prog W
      = .ok (.tuple #[]) (W.setCell ta (.int .i64 n)) := by
  show Sem.run Tryz.prog (ReflectliteValue.parts (.agg #[.pointer (some ⟨16, 97, none⟩), .pointer (some ta), .int .u64 386]) >>= fun p => ReflectliteValue.parts (.agg #[.pointer (some ⟨16, 97, none⟩), .pointer (some b), .int .u64 130]) >>= fun q => _) W = _
  simp only [Sem.run_bind, Tryz.parts38a, Tryz.parts38, Result.andThen]
  simp [ReflectliteValue.flagAddr, loadVar, isAgg, underlying, Tryz.underlying97, hb, Result.andThen, Tryz.direct38, storeVar, Value.cells, storeCells, Addr.add]
  rw [run_store Tryz.prog W ta _ _ (by rfl)]
  simp [ht, hf]

set_option maxHeartbeats 4000000 in
theorem as_hit (n : Int) (t : Addr) (old : Value) (w : World) (hg : w.cell? ⟨1, 0, none⟩ = some (.iface 257 (.agg #[.pointer (some ⟨16, 35, none⟩)]))) (ht0 : w.cell? t = some old) (hf0 : w.frozen? t = false) :
    Calls Tryz.prog 98 #[.iface 97 (.int .i64 n), .iface 178 (.pointer (some t))] w fun ev w' => ev = .returned (.bool true) ∧ w' = ((((w.alloc (.cells #[.pointer (some t)] 178)).alloc (.cells #[.pointer (some ⟨16, 178, none⟩), .pointer (some ⟨w.heap.size, 0, none⟩), .int .u64 150] 213)).alloc (.cells #[.pointer (some ⟨16, 178, none⟩), .pointer (some ⟨w.heap.size, 0, none⟩), .int .u64 150] 213)).alloc (.cells #[.int .i64 n] 97)).setCell t (.int .i64 n) := by
  have h6 := @run_callFunc_extern Tryz.prog 132 _ (fun args => ReflectliteValue.unpack (args.getD 0 (.tuple #[]))) Tryz.func132 (by kernel_rfl) (by kernel_rfl) (by kernel_rfl) (by kernel_rfl)
  have h7 := @run_callFunc_extern Tryz.prog 133 _ (ReflectliteValue.methodAny (ReflectliteValue.valueError "reflectlite.Value.Type" 0) (fun t _ _ _ => ReflectliteType.toType t)) Tryz.func133 (by kernel_rfl) (by kernel_rfl) (by kernel_rfl) (by kernel_rfl)
  have h8 := @run_callFunc_extern Tryz.prog 134 _ (ReflectliteValue.method (ReflectliteValue.valueError "reflectlite.Value.IsNil" 0) ReflectliteValue.isNil) Tryz.func134 (by kernel_rfl) (by kernel_rfl) (by kernel_rfl) (by kernel_rfl)
  have h27 := @run_callFunc_extern Tryz.prog 240 _ (ReflectliteType.abiMethod fun t => do pure (.int .u8 (← Rtype.kind t))) Tryz.func240 (by kernel_rfl) (by kernel_rfl) (by kernel_rfl) (by kernel_rfl)
  have h37 := @run_callFunc_extern Tryz.prog 256 _ (ReflectliteType.method ReflectliteType.elem) Tryz.func256 (by kernel_rfl) (by kernel_rfl) (by kernel_rfl) (by kernel_rfl)
  have h38 := @run_callFunc_extern Tryz.prog 257 _ (ReflectliteType.relation "Implements" ReflectliteType.implements_) Tryz.func257 (by kernel_rfl) (by kernel_rfl) (by kernel_rfl) (by kernel_rfl)
  have h10 := @run_callFunc_extern Tryz.prog 166 _ ReflectliteType.typeOf Tryz.func166 (by kernel_rfl) (by kernel_rfl) (by kernel_rfl) (by kernel_rfl)
  have h35 := @run_callFunc_extern Tryz.prog 254 _ (ReflectliteType.relation "AssignableTo" ReflectliteType.assignableTo) Tryz.func254 (by kernel_rfl) (by kernel_rfl) (by kernel_rfl) (by kernel_rfl)
  have h11 := @run_callFunc_extern Tryz.prog 167 _ (ReflectliteValue.method (ReflectliteValue.valueError "reflectlite.Value.Elem" 0) ReflectliteValue.elem) Tryz.func167 (by kernel_rfl) (by kernel_rfl) (by kernel_rfl) (by kernel_rfl)
  have h12 := @run_callFunc_extern Tryz.prog 168 _ ReflectliteValue.set Tryz.func168 (by kernel_rfl) (by kernel_rfl) (by kernel_rfl) (by kernel_rfl)
  have tO := Tryz.typeOf38
  have mA := Tryz.methodAssignableTo
  have a25 := Tryz.assignable38
  have v25 := Tryz.valueOf38
  have f6 := Tryz.valueOf45
  have f7 := Tryz.type45
  have mK := Tryz.methodKind
  have mE := Tryz.methodElem
  have mI := Tryz.methodImplements
  have k27 := Tryz.kind45
  have k25 := Tryz.kind38
  have e27 := Tryz.elem45
  have i25 := Tryz.implements38
  have n8 := Tryz.isNil45 ⟨w.heap.size, 0, none⟩ t ((w.alloc (.cells #[.pointer (some t)] 178)).alloc (.cells #[.pointer (some ⟨16, 178, none⟩), .pointer (some ⟨w.heap.size, 0, none⟩), .int .u64 150] 213)) (by simp)
  have hlt : 1 < w.heap.size := by
    rcases Nat.lt_or_ge 1 w.heap.size with h | h
    · exact h
    · simp [World.cell?, Array.getElem?_eq_none h] at hg
  have hg2 : ((w.alloc (.cells #[.pointer (some t)] 178)).alloc (.cells #[.pointer (some ⟨16, 178, none⟩), .pointer (some ⟨w.heap.size, 0, none⟩), .int .u64 150] 213)).cell? ⟨1, 0, none⟩ = some (.iface 257 (.agg #[.pointer (some ⟨16, 35, none⟩)])) := by
    rw [World.cell?_alloc_lt _ _ ⟨1, 0, none⟩ (by simp <;> omega), World.cell?_alloc_lt _ _ ⟨1, 0, none⟩ hlt]; exact hg
  have htl : t.block < w.heap.size := by
    rcases Nat.lt_or_ge t.block w.heap.size with h | h
    · exact h
    · simp [World.cell?, Array.getElem?_eq_none h] at ht0
  have el := Tryz.elemV45 ⟨w.heap.size, 0, none⟩ t (((w.alloc (.cells #[.pointer (some t)] 178)).alloc (.cells #[.pointer (some ⟨16, 178, none⟩), .pointer (some ⟨w.heap.size, 0, none⟩), .int .u64 150] 213)).alloc (.cells #[.pointer (some ⟨16, 178, none⟩), .pointer (some ⟨w.heap.size, 0, none⟩), .int .u64 150] 213)) (by rw [World.cell?_alloc_lt _ _ ⟨w.heap.size, 0, none⟩ (by simp <;> omega)]; simp)
  have st := Tryz.set38 t ⟨w.heap.size + 1 + 1 + 1, 0, none⟩ n old ((((w.alloc (.cells #[.pointer (some t)] 178)).alloc (.cells #[.pointer (some ⟨16, 178, none⟩), .pointer (some ⟨w.heap.size, 0, none⟩), .int .u64 150] 213)).alloc (.cells #[.pointer (some ⟨16, 178, none⟩), .pointer (some ⟨w.heap.size, 0, none⟩), .int .u64 150] 213)).alloc (.cells #[.int .i64 n] 97))
    (by rw [World.cell?_alloc_at _ _ _ _ (by simp)]; rfl)
    (by rw [World.cell?_alloc_lt _ _ t (by simp <;> omega), World.cell?_alloc_lt _ _ t (by simp <;> omega), World.cell?_alloc_lt _ _ t (by simp <;> omega), World.cell?_alloc_lt _ _ t htl]; exact ht0)
    (by rw [World.frozen?_alloc_old _ _ t (by simp <;> omega), World.frozen?_alloc_old _ _ t (by simp <;> omega), World.frozen?_alloc_old _ _ t (by simp <;> omega), World.frozen?_alloc_old _ _ t (Nat.ne_of_lt htl)]; exact hf0)
  go_enter Tryz.func98, Tryz.ntmps98
  go_wp2
  refine wp_loop_rounds 1 ?_
  rw [rounds_succ]
  go_wp2
  go_ret
  exact ⟨rfl, rfl⟩
end Go.Proofs.YtlfbdjeojgbniaaGreatDoor

namespace Go.Proofs.YtlfbdjeojgbniaaGreatDoor
open Go.RowKit


/-- The variable errors.errorType is as its initialiser lays it. -/
def Typed (w : World) : Prop := w.cell? ⟨1, 0, none⟩ = some (.iface 257 (.agg #[.pointer (some ⟨16, 35, none⟩)]))
theorem Typed.pos {w : World} (h : Typed w) : 1 < w.heap.size := by
  rcases Nat.lt_or_ge 1 w.heap.size with hp | h0
  · exact hp
  · unfold Typed at h; simp [World.cell?, Array.getElem?_eq_none h0] at h
theorem Typed.later {w w' : World} (h : Typed w) (hb : Below w.heap.size w w') : Typed w' := (hb.cell (p := ⟨1, 0, none⟩) h.pos).trans h

end Go.Proofs.YtlfbdjeojgbniaaGreatDoor
