/- The contracts of Half and All. -/
import Derived.Test.YthbcgehmnhlahaaHndC
namespace Go.Proofs.Ythbcgehmnhlahaa.Hnd
open Go.RowKit Go.Deep

/-- A slice of numbers in a block from B on. -/
def RowZ (B : Nat) (w : World) (v : Value) (zs : List Int) : Prop :=
  ∃ b c, v = .slice (some ⟨b, 0, none⟩) zs.length c ∧ zs.length ≤ c ∧ B ≤ b ∧ b < w.heap.size ∧ ∀ k, k < zs.length → w.cell? ⟨b, k, none⟩ = some (.int .i64 (zs.getD k 0))
theorem RowZ.kr {B R : Nat} {w w' : World} {v : Value} {zs : List Int} (h : RowZ B w v zs) (hk : Kr R w w') (hR : R < B) : RowZ B w' v zs := by
  obtain ⟨b, c, hv, hcap, hb, hl, hc⟩ := h
  exact ⟨b, c, hv, hcap, hb, Nat.lt_of_lt_of_le hl hk.size, fun k hk' => (World.cell?_of_block (hk.block b hl (by omega))).trans (hc k hk')⟩
theorem row_rowZ {B b n c : Nat} {w : World} {f : Nat → Int} {zs : List Int} (h : w.rowIs b 3 n (intRow f)) (hn : zs.length = n) (hf : ∀ k, k < n → f k = zs.getD k 0) (hB : B ≤ b) (hcap : n ≤ c) : RowZ B w (.slice (some ⟨b, 0, none⟩) n c) zs :=
  ⟨b, c, by rw [hn], by omega, hB, h.lt, fun k hk => by rw [h.cell (by omega)]; unfold intRow; rw [hf k (by omega)]⟩

theorem Try.info3 : (Try.prog.info? 3).map (fun i => (i.zero, i.size, i.bytes)) = some (some (.int .i64 0), 1, 8) := by kernel_rfl

/-- What Half's loop has come to: k are taken. -/
structure HalfM (R room N n k : Nat) (xs : List Int) (w wr : World) (h : Nat → Int) : Prop where
  row : wr.rowIs N 3 n (intRow h)
  has : ∀ j, j < k → h j = xs.getD j 0
  ring : Rg R room (xs.drop k) wr
  kept : Kr R w wr

theorem getD_drop (xs : List Int) (k i : Nat) : (xs.drop k).getD i 0 = xs.getD (k + i) 0 := by simp [List.getD_eq_getElem?_getD]

set_option maxHeartbeats 1000000 in
theorem Half_any (R room : Nat) (xs : List Int) (w : World) (h : Rg R room xs w) :
    Calls Try.prog 46 #[.pointer (some ⟨R, 0, none⟩)] w fun e w' => (∃ v, e = .returned v ∧ RowZ w.heap.size w' v (xs.take ((xs.length + 1) / 2))) ∧ Rg R room (xs.drop ((xs.length + 1) / 2)) w' ∧ Kr R w w' := by
  have HR : Hid (Rg R room xs w) := h
  have hlt := h.lt
  obtain ⟨hle, hr16⟩ := h.le
  obtain ⟨g, f, h⟩ := h
  have h18 := h.row.cell (i := 18) (by omega)
  unfold intRow at h18
  rw [h.count] at h18
  clear h
  obtain ⟨n, hn⟩ : ∃ n, n = (xs.length + 1) / 2 := ⟨_, rfl⟩
  have hq : ((xs.length : Int) + 1).tdiv 2 = (n : Int) := by rw [Int.tdiv_eq_ediv_of_nonneg (by omega)]; omega
  have hq2 : ((xs.length : Int) + 1) / 2 = (n : Int) := by omega
  have hn9 : n ≤ 8 := by omega
  have hnx : n ≤ xs.length := by omega
  rw [← hn]
  clear hn
  have hmk := fun wx => run_make_row' (P := Try.prog) 22 3 (.int .i64 0) 8 Try.underlying22 Try.info3 rfl .i64 .i64 n (by omega) (by omega) wx
  go_enter Try.func46, Try.ntmps46
  go_wp2
  have HM : Hid (HalfM R room w.heap.size n 0 xs w (w.alloc (.cells (madeCells #[.int .i64 0] n) 3)) (fun _ => 0)) :=
    ⟨World.rowIs_made w (.int .i64 0) n 3, fun j hj => by omega, HR.out.alloc _, (Kr.refl _ _).alloc _⟩
  clear hmk h18 hq hq2
  go_loopw [14] (fun s wr => ∃ k : Nat, ∃ hh, k ≤ n ∧ s = .int .i64 k ∧ Hid (HalfM R room w.heap.size n k xs w wr hh)) (fun s _ => n - (intOf s).toNat)
  case atStart => exact ⟨0, _, Nat.zero_le _, rfl, HM⟩
  case round =>
    clear HM
    obtain ⟨k, hh, hk, rfl, hM⟩ := hrel
    by_cases hkn : k < n
    · have hkx : k < xs.length := by omega
      have hrg := hM.out.ring
      rw [List.drop_eq_getElem_cons hkx] at hrg
      have htk := takeFirst_any R room xs[k] (xs.drop (k + 1)) wr hrg
      have HX : Hid (xs.getD k 0 = xs[k]) := by show _ = _; rw [List.getD_eq_getElem?_getD, List.getElem?_eq_getElem hkx]; rfl
      generalize xs[k] = x at *
      clear hrg
      go_wp2_with (first | (go_at_call 49; refine htk.mono ?_; clear htk; rintro e w1 ⟨rfl, hr1, hk1⟩; have hrow1 := hM.out.row.of_block (hk1.block w.heap.size hM.out.row.lt (by omega)); have hc1 := hrow1.cell hkn; have hf1 := hrow1.frozen k; unfold intRow at hc1))
      go_roundw
      case measure => simp [intOf]; omega
      case rel =>
        refine ⟨k + 1, _, by omega, by go_num, ⟨row_upd hrow1, fun j hj => ?_, hr1.setOther (by omega) _ _, (hM.out.kept.trans hk1).setNew (Nat.le_refl _) _ _⟩⟩
        by_cases e : j = k
        · subst e; rw [upd_at, HX.out]
        · rw [upd_ne _ _ e]; exact hM.out.has j (by omega)
    · have hke : k = n := by omega
      subst hke
      go_wp2
      go_ret
      refine ⟨⟨_, rfl, row_rowZ hM.out.row (by simp; omega) (fun j hj => ?_) (Nat.le_refl _) (Nat.le_refl _)⟩, hM.out.ring, hM.out.kept⟩
      rw [hM.out.has j hj]
      simp [List.getD_eq_getElem?_getD, hj]

end Go.Proofs.Ythbcgehmnhlahaa.Hnd
