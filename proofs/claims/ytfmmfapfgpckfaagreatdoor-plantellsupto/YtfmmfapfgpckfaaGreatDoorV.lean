/- The contracts of writeTask and Print. -/
import Derived.Test.YtfmmfapfgpckfaaGreatDoorU
namespace Go.Proofs.YtfmmfapfgpckfaaGreatDoor
open Go.RowKit Go.Deep

theorem joinC_snoc (c : UInt8) (ws : List (List UInt8)) (x : List UInt8) : joinC c (ws ++ [x]) = if ws = [] then x else joinC c ws ++ c :: x := by
  induction ws with
  | nil => rfl
  | cons a r ih =>
    cases r with
    | nil => rfl
    | cons b r =>
      have e : joinC c ((a :: b :: r) ++ [x]) = a ++ c :: joinC c ((b :: r) ++ [x]) := rfl
      rw [e, ih]
      simp [joinC]

/-- The text of the first k needs. -/
def needsText (zs : List Int) (k : Nat) : List UInt8 := if zs.take k = [] then [] else 60 :: joinC 44 ((zs.take k).map digs)
def markAt (k : Nat) : Nat := if k = 0 then 60 else 44

theorem needsText_zero (zs : List Int) : needsText zs 0 = [] := by simp [needsText]
theorem needsText_succ (zs : List Int) (k : Nat) (hk : k < zs.length) : needsText zs (k + 1) = (needsText zs k ++ [UInt8.ofNat (markAt k)]) ++ digs (zs.getD k 0) := by
  have he : zs.getD k 0 = zs[k] := by rw [List.getD_eq_getElem?_getD, List.getElem?_eq_getElem hk]; rfl
  unfold needsText
  rw [List.take_succ_eq_append_getElem hk, if_neg (fun e => by have := congrArg List.length e; simp only [List.length_append, List.length_singleton, List.length_nil] at this; omega), List.map_append, List.map_singleton, joinC_snoc, he]
  by_cases h0 : k = 0
  · subst h0; simp [markAt]
  · have h1 : zs.take k ≠ [] := by
      intro e
      have := congrArg List.length e
      simp only [List.length_take, List.length_nil] at this; omega
    rw [if_neg (by simpa using h1), if_neg h1]
    simp [markAt, h0]
theorem needsText_all (zs : List Int) : needsText zs zs.length = if zs = [] then [] else 60 :: joinC 44 (zs.map digs) := by
  unfold needsText; rw [List.take_length]

theorem digs_len (z : Int) (h : 0 ≤ z ∧ z < 100) : (digs z).length ≤ 2 := by
  unfold digs
  by_cases h1 : z.toNat < 10
  · rw [dec_small _ h1]; simp
  · rw [dec_two _ (by omega) (by omega)]; simp
theorem needsText_len (zs : List Int) (h : ∀ z, z ∈ zs → 0 ≤ z ∧ z < 100) : ∀ k, k ≤ zs.length → (needsText zs k).length ≤ 3 * k := by
  intro k
  induction k with
  | zero => intro _; rw [needsText_zero]; simp
  | succ k ih =>
    intro hk
    rw [needsText_succ zs k (by omega)]
    have hm : zs.getD k 0 ∈ zs := by rw [List.getD_eq_getElem?_getD, List.getElem?_eq_getElem (by omega)]; exact List.getElem_mem _
    have := digs_len _ (h _ hm)
    have := ih (by omega)
    simp at *; omega

def BuildsAt (B b : Nat) (w : World) (acc : List UInt8) : Prop := Lib.IsBuilder 62 5 B b (Lib.byteCells acc) w

theorem BuildsAt.later {B b : Nat} {w w' : World} {acc : List UInt8} (h : BuildsAt B b w acc) (hb : Below w.heap.size w w') : BuildsAt B b w' acc := by
  have key : ∀ p, Lib.BuilderAt 62 5 B b p (Lib.byteCells acc) w → Lib.BuilderAt 62 5 B b p (Lib.byteCells acc) w' := by
    rintro p ⟨h1, v, h2, h3, h4⟩
    exact ⟨h1, v, (hb.block b (lt_of_block h2)).trans h2, h3.kept (row := none) ⟨hb.os, hb.tape, hb.output, hb.size, fun k hk _ => hb.block k hk⟩ (by cases v.ownBlock <;> simp), h4⟩
  rcases h with h | h
  · exact Or.inl (key _ h)
  · exact Or.inr (key _ h)

theorem putByte (B b : Nat) (acc : List UInt8) (c : Nat) (hc : c < 256) (w : World) (h : BuildsAt B b w acc) (hl : acc.length ≤ 100000000) (hB : B ≤ w.heap.size) :
    Calls Tryz.prog 24 #[.pointer (some ⟨b, 0, none⟩), .int .u8 (c : Int)] w fun e w' => e = .returned .nilIface ∧ BuildsAt B b w' (acc ++ [UInt8.ofNat c]) ∧ Below B w w' ∧ Kept b w w' := by
  refine (writeByte_any B b (Lib.byteCells acc) (c : Int) w h (by simp [Lib.byteCells]; omega) hB).mono ?_
  rintro e w' ⟨rfl, h1, h2, h3⟩
  refine ⟨rfl, Or.inr ?_, h2, h3⟩
  have e : Lib.byteCells (acc ++ [UInt8.ofNat c]) = Lib.byteCells acc ++ [.int .u8 (c : Int)] := by
    have : (UInt8.ofNat c).toNat = c := by rw [UInt8.toNat_ofNat']; omega
    simp only [Lib.byteCells, List.map_append, List.map_cons, List.map_nil, this]
  rw [e]; exact h1

theorem putString (B b : Nat) (acc x : List UInt8) (w : World) (h : BuildsAt B b w acc) (hl : acc.length + x.length ≤ 100000000) (hB : B ≤ w.heap.size) :
    Calls Tryz.prog 41 #[.pointer (some ⟨b, 0, none⟩), .string ⟨x.toArray⟩] w fun e w' => (∃ k, e = .returned (.tuple #[.int .i64 k, .nilIface])) ∧ BuildsAt B b w' (acc ++ x) ∧ Below B w w' ∧ Kept b w w' := by
  refine (writeString_any B b (Lib.byteCells acc) ⟨x.toArray⟩ w h (by simp [Lib.byteCells]; show _ + x.toArray.size ≤ _; simp; omega) hB).mono ?_
  rintro e w' ⟨rfl, h1, h2, h3⟩
  refine ⟨⟨_, rfl⟩, Or.inr ?_, h2, h3⟩
  have e : Lib.byteCells (acc ++ x) = Lib.byteCells acc ++ Lib.strCells ⟨x.toArray⟩ := by
    simp [Lib.byteCells, Lib.strCells]
  rw [e]; exact h1

theorem putNumber (n : Nat) (hn : n < 100) (w : World) : Calls Tryz.prog 42 #[.int .i64 (n : Int)] w fun e w' => e = .returned (.string ⟨(digs (n : Int)).toArray⟩) ∧ w' = w := by
  have := Tryz.strconv_Itoa_small n hn w
  unfold digs
  rw [Int.toNat_natCast]
  exact this

set_option maxRecDepth 100000 in
set_option maxHeartbeats 4000000 in
theorem writeTask_any (w0 w : World) (b : Nat) (acc : List UInt8) (wk : Int) (nv : Value) (zs : List Int) (hb0 : Below w0.heap.size w0 w) (h : BuildsAt w0.heap.size b w acc) (hz : IntsAt w0 nv zs) (hw : 0 ≤ wk ∧ wk < 100) (hs : ∀ z, z ∈ zs → 0 ≤ z ∧ z < 100)
    (hl : acc.length + 10 ≤ 50000000) (hzl : zs.length ≤ 10000000) :
    Calls Tryz.prog 25 #[.pointer (some ⟨b, 0, none⟩), .agg #[.int .i64 wk, nv]] w fun e w' => e = .returned (.tuple #[]) ∧ BuildsAt w0.heap.size b w' (acc ++ taskText (wk, zs)) ∧ Below w0.heap.size w0 w' := by
  obtain ⟨n, rfl⟩ := Int.eq_ofNat_of_zero_le hw.1
  have hdl := digs_len (n : Int) hw
  have HTX : Hid (taskText ((n : Int), zs) = digs (n : Int) ++ needsText zs zs.length) := by unfold taskText; rw [needsText_all]; rfl
  have hbA : Below w0.heap.size w0 (w.alloc (.cells #[.int .i64 (n : Int), nv] 48)) := hb0.alloc hb0.size _
  obtain ⟨a2, c2, hnv⟩ : ∃ a2 c2, nv = .slice a2 zs.length c2 := by
    obtain ⟨_, a2, c2, h, _⟩ := hz
    exact ⟨a2, c2, h⟩
  subst hnv
  have hnum := fun W => putNumber n (by omega) W
  have h1 : BuildsAt w0.heap.size b (w.alloc (.cells #[.int .i64 (n : Int), .slice a2 zs.length c2] 48)) acc := h.later ((Below.refl _ _).alloc (Nat.le_refl _) _)
  have hps := putString w0.heap.size b acc (digs (n : Int)) _ h1 (by omega) hbA.size
  have HZ : Hid (IntsAt w0 (.slice a2 zs.length c2) zs) := hz
  have hblk : (w.alloc (.cells #[.int .i64 (n : Int), .slice a2 zs.length c2] 48)).heap[w.heap.size]? = some (.cells #[.int .i64 (n : Int), .slice a2 zs.length c2] 48 (0, 0)) := blk_alloc_new _ _
  have HB : Hid (BuildsAt w0.heap.size b w acc) := h
  clear hz h h1
  have hblt : b < w.heap.size := by
    rcases HB.out with h | h
    · exact h.lt
    · exact h.lt
  have hnb : w.heap.size ≠ b := by omega
  go_enter Tryz.func25, Tryz.ntmps25
  go_wp2_with (go_at_call 42; refine (hnum _).mono ?_; rintro e w' ⟨rfl, rfl⟩)
  refine hps.mono ?_
  rintro e w2 ⟨⟨kk, rfl⟩, h2, hb2, hk2⟩
  have hB2 : Below w0.heap.size w0 w2 := hbA.trans hb2
  have hblk2 := hk2 _ _ _ hblk (by decide) hnb
  have c1 : w2.cell? ⟨w.heap.size, 1, none⟩ = some (.slice a2 zs.length c2) := by simp [World.cell?, hblk2]
  have H2 : Hid (BuildsAt w0.heap.size b w2 (acc ++ digs (n : Int))) := h2
  clear hps hblk hblk2 hk2 hb2 hbA h2 hnum HB
  go_wp2
  go_loopw [4, 15] (fun s4 s15 wr => ∃ k : Nat, k ≤ zs.length ∧ s15 = .int .i64 k ∧ s4 = .int .u8 (markAt k : Nat) ∧ Hid (BuildsAt w0.heap.size b wr ((acc ++ digs (n : Int)) ++ needsText zs k)) ∧ Below w0.heap.size w0 wr) (fun _ s15 _ => zs.length - (intOf s15).toNat)
  case atStart => exact ⟨0, Nat.zero_le _, rfl, rfl, by rw [needsText_zero, List.append_nil]; exact H2, hB2⟩
  case round =>
    clear H2 hB2 c1
    obtain ⟨k, hk, rfl, rfl, hbu, hB⟩ := hrel
    by_cases hkl : k < zs.length
    · obtain ⟨hl8, sa, sc, hsv, hcs⟩ := HZ.out
      simp only [Value.slice.injEq] at hsv
      obtain ⟨rfl, _, rfl⟩ := hsv
      rcases hcs with rfl | ⟨b2, o2, rfl, hbl2, hcells⟩
      · simp at hkl
      have hck := (hB.cell (p := ⟨b2, o2 + k, none⟩) hbl2).trans (hcells k hkl)
      have hmem : zs.getD k 0 ∈ zs := by rw [List.getD_eq_getElem?_getD, List.getElem?_eq_getElem hkl]; exact List.getElem_mem hkl
      have hzb := hs _ hmem
      have hstep := needsText_succ zs k hkl
      have hnl := needsText_len zs hs k hk
      have hdz := digs_len _ hzb
      generalize hzz : zs.getD k 0 = z at *
      obtain ⟨m, rfl⟩ := Int.eq_ofNat_of_zero_le hzb.1
      have HST : Hid (needsText zs (k + 1) = (needsText zs k ++ [UInt8.ofNat (markAt k)]) ++ digs (m : Int)) := hstep
      have hmk : markAt k < 256 := by unfold markAt; split <;> omega
      have hmk1 : Hid (markAt (k + 1) = 44) := by unfold markAt; rw [if_neg (by omega)]; rfl
      have hpb := putByte w0.heap.size b ((acc ++ digs (n : Int)) ++ needsText zs k) (markAt k) hmk wr hbu.out (by simp only [List.length_append]; omega) hB.size
      have hpn := fun W => putNumber m (by omega) W
      clear hcells hmem hstep hzz HZ hbu
      go_wp2_with fail
      refine hpb.mono ?_
      rintro e w3 ⟨rfl, h3, hb3, _⟩
      have hB3 : Below w0.heap.size w0 w3 := hB.trans hb3
      have hps3 := putString w0.heap.size b _ (digs (m : Int)) w3 h3 (by simp only [List.length_append, List.length_singleton]; omega) hB3.size
      clear hpb h3
      go_wp2_with (go_at_call 42; refine (hpn _).mono ?_; rintro e w' ⟨rfl, rfl⟩)
      refine hps3.mono ?_
      rintro e w4 ⟨⟨kk2, rfl⟩, h4, hb4, _⟩
      have HB4 : Hid (BuildsAt w0.heap.size b w4 ((acc ++ digs (n : Int)) ++ needsText zs (k + 1))) := by
        rw [HST.out]
        simpa [Hid] using h4
      clear hps3 h4 hpn
      go_wp2
      go_roundw
      case rel => exact ⟨k + 1, by omega, by go_num, by rw [hmk1.out]; rfl, HB4, hB3.trans hb4⟩
      case measure => simp [intOf]; omega
    · have hke : k = zs.length := by omega
      have HK : Hid (k = zs.length) := hke
      clear hke
      go_wp2
      go_end0
      refine ⟨rfl, ?_, hB⟩
      rw [HTX.out, ← HK.out, ← List.append_assoc]
      exact hbu.out
end Go.Proofs.YtfmmfapfgpckfaaGreatDoor
