/- Bytes in a row of their own; the contracts of bytes.LastIndexByte, log.record, log.whole; append of bytes. -/
import Derived.Test.YtbknbakbfblbiaaDoorLga
import Derived.BigQuiet
import Derived.Deep.Slices
namespace Go.Proofs.YtbknbakbfblbiaaDoor
open Go.RowKit Go.Deep

def bytesV (bs : List Nat) : List Value := bs.map (fun (n : Nat) => Value.int .u8 (n : Int))
theorem bytesV_length (bs : List Nat) : (bytesV bs).length = bs.length := by simp [bytesV]
theorem bytesV_append (a b : List Nat) : bytesV (a ++ b) = bytesV a ++ bytesV b := by simp [bytesV]
theorem bytesV_take (a : List Nat) (n : Nat) : bytesV (a.take n) = (bytesV a).take n := by simp [bytesV, List.map_take]
theorem bytesV_at {bs : List Nat} {k : Nat} (hk : k < bs.length) : (bytesV bs)[k]? = some (.int .u8 ((bs.getD k 0 : Nat) : Int)) := by
  simp [bytesV, List.getD_eq_getElem?_getD, List.getElem?_eq_getElem hk]
/-- Bytes in a row of their own, from block b on. -/
def RowB (b : Nat) (w : World) (v : Value) (bs : List Nat) : Prop := w.ownsRow b 5 1 v bs.length (bytesV bs)
theorem RowB.nil (b : Nat) (w : World) : RowB b w (.slice none 0 0) [] := World.ownsRow_nil _ _ _ _
theorem RowB.low {b : Nat} {w : World} {v : Value} {bs : List Nat} (h : RowB b w v bs) {k : Nat} (hk : v.ownBlock = some k) : b ≤ k ∧ k < w.heap.size := World.ownsRow.lt h k hk
theorem RowB.of_blocks {b : Nat} {w w' : World} {v : Value} {bs : List Nat} (h : RowB b w v bs) (hk : ∀ k, v.ownBlock = some k → w'.heap[k]? = w.heap[k]?) : RowB b w' v bs := by
  rcases h.2 with ⟨rfl, hn⟩ | ⟨g, cap, cur, rfl, hb, hh, hr⟩
  · exact ⟨h.1, Or.inl ⟨rfl, hn⟩⟩
  · exact ⟨h.1, Or.inr ⟨g, cap, cur, rfl, hb, (hk g rfl).trans hh, hr⟩⟩
theorem RowB.cap {B : Nat} {w : World} {v : Value} {bs : List Nat} (h : RowB B w v bs) : ∃ a c, v = .slice a bs.length c ∧ bs.length ≤ c := by
  rcases h.2 with ⟨rfl, hn⟩ | ⟨g, cap, cur, rfl, _, _, hc, _⟩
  · exact ⟨none, 0, by rw [hn], by omega⟩
  · exact ⟨_, _, rfl, hc⟩
theorem RowB.mono {b b' : Nat} {w : World} {v : Value} {bs : List Nat} (h : RowB b w v bs) (hb : b' ≤ b) : RowB b' w v bs := by
  rcases h.2 with hn | ⟨g, cap, cur, hv, hg, r⟩
  · exact ⟨h.1, Or.inl hn⟩
  · exact ⟨h.1, Or.inr ⟨g, cap, cur, hv, Nat.le_trans hb hg, r⟩⟩
/-- A beginning of a row is one. -/
theorem RowB.cut {b : Nat} {w : World} {a : Option Addr} {bs : List Nat} {c n : Nat} (h : RowB b w (.slice a bs.length c) bs) (hn : n ≤ bs.length) : RowB b w (.slice a n c) (bs.take n) := by
  have hl : (bs.take n).length = n := by simp; omega
  unfold RowB
  rw [hl, bytesV_take]
  rcases h.2 with ⟨hv, h0⟩ | ⟨g, cap, cur, hv, hb, hh, hc, hm, hs, ht⟩
  · simp only [Value.slice.injEq] at hv
    obtain ⟨rfl, _, rfl⟩ := hv
    obtain rfl : n = 0 := by omega
    exact ⟨by simp, Or.inl ⟨rfl, rfl⟩⟩
  · simp only [Value.slice.injEq] at hv
    obtain ⟨rfl, _, rfl⟩ := hv
    refine ⟨by rw [List.length_take, bytesV_length]; omega, Or.inr ⟨g, _, cur, rfl, hb, hh, by omega, hm, hs, ?_⟩⟩
    simp only [Nat.mul_one] at ht ⊢
    rw [← ht, List.take_take, Nat.min_eq_left hn]
/-- Bytes that are read. -/
def BytesAt (w : World) (v : Value) (bs : List Nat) : Prop :=
  ∃ a c, v = .slice a bs.length c ∧ bs.length ≤ c ∧ (bs = [] ∨ ∃ b o, a = some ⟨b, o, none⟩ ∧ b < w.heap.size ∧ ∀ k, k < bs.length → w.cell? ⟨b, o + k, none⟩ = some (.int .u8 ((bs.getD k 0 : Nat) : Int)))
theorem RowB.bytes {b : Nat} {w : World} {v : Value} {bs : List Nat} (h : RowB b w v bs) : BytesAt w v bs := by
  rcases h.2 with ⟨hv, h0⟩ | ⟨g, cap, cur, hv, _, hh, hc, _⟩
  · exact ⟨none, 0, by rw [hv, h0], by omega, Or.inl (List.eq_nil_of_length_eq_zero h0)⟩
  · subst hv
    refine ⟨_, _, rfl, hc, Or.inr ⟨g, 0, rfl, (Array.getElem?_eq_some_iff.1 hh).1, fun k hk => ?_⟩⟩
    have := World.ownsRow.cellAt h k (by omega)
    rw [Nat.zero_add, this, bytesV_at hk]
theorem BytesAt.later {w w' : World} {v : Value} {bs : List Nat} (h : BytesAt w v bs) (hb : Below w.heap.size w w') : BytesAt w' v bs := by
  obtain ⟨a, c, hv, hl, h⟩ := h
  exact ⟨a, c, hv, hl, h.imp id (fun ⟨b, o, e, hlt, hc⟩ => ⟨b, o, e, Nat.lt_of_lt_of_le hlt hb.size, fun k hk => (hb.cell (p := ⟨b, o + k, none⟩) hlt).trans (hc k hk)⟩)⟩

theorem lastP_all (bs : List Nat) (c n : Nat) (_hn : n < bs.length) (h : lastP bs c bs.length = lastP bs c (n + 1)) (hne : ¬ bs.getD n 0 = c) : lastP bs c bs.length = lastP bs c n := by
  rw [h, lastP, if_neg hne]

set_option maxHeartbeats 800000 in
theorem lastIndex_any (v : Value) (bs : List Nat) (c : Nat) (w : World) (hz : BytesAt w v bs) (hl : bs.length ≤ 1000) (_hc : c < 256) (hb : ∀ x, x ∈ bs → x < 256) :
    Calls Tryd.prog 49 #[v, .int .u8 (c : Int)] w fun e w' => e = .returned (.int .i64 ((lastP bs c bs.length : Nat) - 1 : Int)) ∧ w' = w := by
  obtain ⟨a, cp, rfl, hcp, hz⟩ := hz
  have HB : Hid (∀ k, k < bs.length → bs.getD k 0 < 256) := fun k hk => by
    rw [List.getD_eq_getElem?_getD, List.getElem?_eq_getElem hk]; exact hb _ (List.getElem_mem hk)
  clear hb
  rcases hz with rfl | ⟨b, o, rfl, hbl, hcl⟩
  · clear HB
    go_enter Tryd.func49, Tryd.ntmps49
    go_wp2
    refine wp_loop_rounds 1 ?_
    rw [rounds_succ]
    go_wp2
    go_ret
    exact ⟨by simp [lastP], rfl⟩
  · have HC : Hid (∀ k, k < bs.length → w.cell? ⟨b, o + k, none⟩ = some (.int .u8 ((bs.getD k 0 : Nat) : Int))) := hcl
    clear hcl
    go_enter Tryd.func49, Tryd.ntmps49
    go_wp2
    go_loop [5] (fun i => ∃ m : Nat, m ≤ bs.length ∧ i = .int .i64 ((m : Int) - 1) ∧ Hid (lastP bs c bs.length = lastP bs c m)) (fun i => (intOf i + 1).toNat)
    case atStart => exact ⟨bs.length, Nat.le_refl _, rfl, rfl⟩
    case round =>
      obtain ⟨m, hm, rfl, hno⟩ := hrel
      cases m with
      | zero =>
        rw [show ((0 : Nat) : Int) - 1 = -1 by omega]
        go_wp2
        go_ret
        exact ⟨by rw [hno.out]; rfl, rfl⟩
      | succ n =>
        rw [show ((n + 1 : Nat) : Int) - 1 = (n : Int) by omega]
        have hck := HC.out n (by omega)
        have hcb := HB.out n (by omega)
        generalize hy : bs.getD n 0 = y at hck hcb
        have HY : Hid (bs.getD n 0 = y) := hy
        clear hy
        by_cases hyc : y = c
        · have hyc2 : ((y : Int) == (c : Int)) = true := by simp; omega
          have HYC : Hid (y = c) := hyc
          clear hyc
          go_wp2
          go_ret
          exact ⟨ret_int (by rw [hno.out, lastP, if_pos (HY.out.trans HYC.out)]; omega), rfl⟩
        · have hyc2 : ((y : Int) == (c : Int)) = false := by simp; omega
          have HYC : Hid (¬ y = c) := hyc
          clear hyc
          go_wp2
          go_round
          case rel => exact ⟨n, by omega, by go_num, lastP_all bs c n (by omega) hno.out (by rw [HY.out]; exact HYC.out)⟩
          case measure => simp [intOf]
theorem lastIndexByte_any (v : Value) (bs : List Nat) (c : Nat) (w : World) (hz : BytesAt w v bs) (hl : bs.length ≤ 1000) (hc : c < 256) (hb : ∀ x, x ∈ bs → x < 256) :
    Calls Tryd.prog 39 #[v, .int .u8 (c : Int)] w fun e w' => e = .returned (.int .i64 ((lastP bs c bs.length : Nat) - 1 : Int)) ∧ w' = w := by
  have hcall := lastIndex_any v bs c w hz hl hc hb
  generalize ((lastP bs c bs.length : Nat) - 1 : Int) = r at *
  obtain ⟨a, cp, rfl, _⟩ := hz
  clear hl hc hb
  go_enter Tryd.func39, Tryd.ntmps39
  go_wp2_with (go_at_call 49; refine hcall.mono ?_; rintro e w' ⟨rfl, rfl⟩)
  go_ret
  exact ⟨rfl, rfl⟩
theorem whole_any (a : Option Addr) (cp : Nat) (bs : List Nat) (w : World) (hz : BytesAt w (.slice a bs.length cp) bs) (hl : bs.length ≤ 1000) (hb : ∀ x, x ∈ bs → x < 256) :
    Calls Tryd.prog 29 #[.slice a bs.length cp] w fun e w' => e = .returned (.slice a (lastP bs 255 bs.length) cp) ∧ w' = w := by
  have hcall := lastIndexByte_any _ bs 255 w hz hl (by omega) hb
  have hle := lastP_le bs 255 bs.length
  obtain ⟨a', cp', hv, hcp, _⟩ := hz
  simp only [Value.slice.injEq] at hv
  obtain ⟨rfl, _, rfl⟩ := hv
  generalize lastP bs 255 bs.length = n at *
  have he : (n : Int) - 1 + 1 = (n : Int) := by omega
  have h1 : (n : Int) ≤ (cp : Int) := by omega
  clear hb
  go_enter Tryd.func29, Tryd.ntmps29
  go_wp2_with (go_at_call 39; refine hcall.mono ?_; rintro e w' ⟨rfl, rfl⟩)
  go_ret
  exact ⟨rfl, rfl⟩
theorem record_any (i : Nat) (hi : i < 30) (w : World) :
    Calls Tryd.prog 25 #[.int .i64 (i : Int)] w fun e w' => e = .returned (.slice (some ⟨w.heap.size, 0, none⟩) 2 2) ∧ w' = w.alloc (.cells #[.int .u8 (i : Int), .int .u8 255] 5) := by
  have hw : IntKind.u8.wrap (i : Int) = (i : Int) := by unfold IntKind.wrap; simp [IntKind.signed, IntKind.bits]; omega
  go_enter Tryd.func25, Tryd.ntmps25
  go_wp2
  go_ret
  exact ⟨rfl, rfl⟩
end Go.Proofs.YtbknbakbfblbiaaDoor
