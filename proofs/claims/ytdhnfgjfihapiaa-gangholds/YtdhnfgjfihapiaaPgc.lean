/- The program's gang: it robs another hand. -/
import Derived.Test.YtdhnfgjfihapiaaPgb
namespace Go.Proofs.Ytdhnfgjfihapiaa
open Go.RowKit Go.Deep

theorem Hnd.RowZ.rds {C : Nat} {w : World} {v : Value} {zs : List Int} (h : Hnd.RowZ C w v zs) : Rds (fun b => C ≤ b) w v zs := by
  obtain ⟨b, c, rfl, hcap, hb, hl, hc⟩ := h
  exact ⟨_, c, rfl, hcap, fun k hk => ⟨b, 0, rfl, hb, hl, by rw [Nat.zero_add]; exact hc k hk⟩⟩
theorem Hnd.OutZ.rds {C : Nat} {w : World} {v : Value} {zs : List Int} (h : Hnd.OutZ C w v zs) : Rds (fun b => C ≤ b) w v zs := by
  rcases h with ⟨rfl, rfl⟩ | h
  · exact ⟨none, 0, rfl, by simp, fun k hk => by simp at hk⟩
  · exact h.rds
/-- A list that bears a label stays. -/
theorem Rds.kc {own : Nat → Nat} {C : Nat → Prop} {c c' : Nat} {w w' : World} {v : Value} {xs : List Int} (h : Rds (fun b => own b = c) w v xs) (K : Kc own C w w') (hC : ¬ C c) : Rds (fun b => relabel own w.heap.size c' b = c) w' v xs := by
  obtain ⟨a, cc, hv, hl, h⟩ := h
  refine ⟨a, cc, hv, hl, fun k hk => ?_⟩
  obtain ⟨b, o, ha, hb, hw, hc⟩ := h k hk
  exact ⟨b, o, ha, (relabel_lt hw).trans hb, Nat.lt_of_lt_of_le hw K.size, (World.cell?_of_block (a := ⟨b, o + k, none⟩) (K.block b hw (by have h2 : own b = c := hb; rw [h2]; exact hC))).trans hc⟩
theorem int_snoc {l : List Int} {k : Nat} (hk : k < l.length) : l.take (k + 1) = l.take k ++ [l.getD k 0] := by
  rw [List.take_succ_eq_append_getElem hk, List.getD_eq_getElem?_getD, List.getElem?_eq_getElem hk]; rfl
theorem getD_mem_int {l : List Int} {k : Nat} (hk : k < l.length) : l.getD k 0 ∈ l := by
  rw [List.getD_eq_getElem?_getD, List.getElem?_eq_getElem hk]; exact List.getElem_mem hk
variable {B : Bs} {G room hands : Nat} {ts : List (Int × List Int)} {g : Gs} {wk : Nat → Int} {own : Nat → Nat} {Q : Qp} {w w' : World}
theorem Pg.drawn (h : Pg B G room hands ts g wk own Q w) (q : Nat) : Pg B G room hands ts g wk (relabel own w.heap.size 9) Q (w.drewN q) := h.later0 (Kc.of_below ⟨rfl, rfl, rfl, Nat.le_refl _, fun _ _ => rfl⟩)
/-- A hand of it is put one more. -/
theorem Pg.put (h : Pg B G room hands ts g wk own Q w) {j : Nat} (hj : j < hands) (n : Nat) :
    Calls Try.prog 48 #[.pointer (some ⟨Q.Hk j, 0, none⟩), .int .i64 n] w fun e w' => (∃ ov, e = .returned ov ∧ Rds (fun k => w.heap.size ≤ k) w' ov (putO room (g.near j) (g.ring j))) ∧ Pg B G room hands ts { g with near := upd g.near j (n : Int), ring := upd g.ring j (putR room (g.near j) (g.ring j)) } wk (relabel own w.heap.size (10 + j)) Q w' ∧ Kc own (fun c => c = 10 + j) w w' := by
  refine (Hnd.Put_any _ _ room _ _ n w (h.hand j hj)).mono ?_
  rintro e w' ⟨⟨v, rfl, hv⟩, hd, hk⟩
  exact ⟨⟨v, rfl, hv.rds⟩, h.setHand j (n : Int) _ hd (h.kh hj hk), h.kh hj hk⟩
theorem Pg.robbed (h : Pg B G room hands ts g wk own Q w) {j : Nat} (hj : j < hands) :
    Calls Try.prog 52 #[.pointer (some ⟨Q.Hk j, 0, none⟩)] w fun e w' => (∃ ov, e = .returned ov ∧ Rds (fun k => w.heap.size ≤ k) w' ov ((g.ring j).take (((g.ring j).length + 1) / 2))) ∧ Pg B G room hands ts { g with ring := upd g.ring j ((g.ring j).drop (((g.ring j).length + 1) / 2)) } wk (relabel own w.heap.size (10 + j)) Q w' ∧ Kc own (fun c => c = 10 + j) w w' := by
  refine (Hnd.Rob_any _ _ room _ _ w (h.hand j hj)).mono ?_
  rintro e w' ⟨⟨v, rfl, hv⟩, hd, hk⟩
  have := h.setHand j (g.near j) _ hd (h.kh hj hk)
  rw [upd_id g.near j] at this
  exact ⟨⟨v, rfl, hv.rds⟩, this, h.kh hj hk⟩
theorem rob_self (G h : Nat) (w : World) : Calls Try.prog 35 #[.pointer (some ⟨G, 0, none⟩), .int .i64 h, .int .i64 h] w fun e w' => e = .returned (.slice none 0 0) ∧ w' = w := by
  go_enter Try.func35, Try.ntmps35
  go_wp2
  go_ret
  exact ⟨rfl, rfl⟩
set_option maxRecDepth 100000 in
set_option maxHeartbeats 4000000 in
theorem rob_other (hP : Pg B G room hands ts g wk own Q w) (h o : Nat) (hh : h < hands) (ho : o < hands) (hne : o ≠ h) (_h6 : hands ≤ 6) (h16 : (g.ring o).length ≤ 16) (hpos : ∀ x, x ∈ g.ring o → 0 ≤ x) :
    Calls Try.prog 35 #[.pointer (some ⟨G, 0, none⟩), .int .i64 h, .int .i64 o] w fun e w' => ∃ v, e = .returned v ∧ ∃ own', Rds (fun b => own' b = 10 + o) w' v ((g.ring o).take (((g.ring o).length + 1) / 2)) ∧ Pg B G room hands ts (puts room { g with ring := upd g.ring o ((g.ring o).drop (((g.ring o).length + 1) / 2)) } h ((g.ring o).take (((g.ring o).length + 1) / 2)).tail) wk own' Q w' ∧ Ok own own' (fun c => c = 10 + h ∨ c = 10 + o) w w' := by
  have hrob := hP.robbed ho
  obtain ⟨-, -, -, c3, -, -⟩ := hP.c
  have co := hP.hc ho
  have hne2 : ((o : Int) == (h : Int)) = false := by simp; omega
  obtain ⟨l, hl⟩ : ∃ l, l = (g.ring o).take (((g.ring o).length + 1) / 2) := ⟨_, rfl⟩
  have hlp : ∀ x, x ∈ l → 0 ≤ x := fun x hx => hpos x (List.mem_of_mem_take (hl ▸ hx))
  have hl16 : l.length ≤ 16 := by rw [hl]; simp; omega
  obtain ⟨g1, hg1⟩ : ∃ g1 : Gs, g1 = { g with ring := upd g.ring o ((g.ring o).drop (((g.ring o).length + 1) / 2)) } := ⟨_, rfl⟩
  rw [← hl, ← hg1] at hrob ⊢
  have HLP : Hid (∀ x, x ∈ l → 0 ≤ x) := hlp
  have HNE : Hid (o ≠ h) := hne
  clear hP hl hg1 hpos h16 hlp hne
  have hhi : (h : Int) < (hands : Int) := by omega
  have hoi : (o : Int) < (hands : Int) := by omega
  go_enter Try.func35, Try.ntmps35
  go_wp2_with (first | (go_at_call 52; refine hrob.mono ?_; clear hrob; rintro e w1 ⟨⟨v, rfl, hv⟩, hP1, hk1⟩; obtain ⟨a, c, rfl⟩ := hv.shape))
  have HV : Hid (Rds (fun b => relabel own w.heap.size (10 + o) b = 10 + o) w1 (.slice a l.length c) l) := hv.mono (fun b hb => relabel_ge hb)
  have HP1 : Hid (Pg B G room hands ts (puts room g1 h ((l.drop 1).take 0)) wk (relabel own w.heap.size (10 + o)) Q w1) := by rw [List.take_zero, puts_nil]; exact hP1
  have HO1 : Hid (Ok own (relabel own w.heap.size (10 + o)) (fun c => c = 10 + h ∨ c = 10 + o) w w1) := (Ok.re hk1 _).mono (fun c e => Or.inr e)
  clear hv hP1 c3 co hk1
  go_loopw [8] (fun s8 wr => ∃ (k : Nat) (own' : Nat → Nat), s8 = .int .i64 (k + 1 : Nat) ∧ (k + 1 ≤ l.length ∨ k = 0) ∧ Hid (Rds (fun b => own' b = 10 + o) wr (.slice a l.length c) l) ∧ Hid (Pg B G room hands ts (puts room g1 h ((l.drop 1).take k)) wk own' Q wr) ∧ Hid (Ok own own' (fun c => c = 10 + h ∨ c = 10 + o) w wr)) (fun s8 _ => 20 - (intOf s8).toNat)
  case atStart => exact ⟨0, _, rfl, Or.inr rfl, HV, HP1, HO1⟩
  case round =>
    clear HV HP1 HO1
    obtain ⟨k, own', rfl, hk, hV, hPk, hO⟩ := hrel
    by_cases hkl : k + 1 < l.length
    · obtain ⟨b, ob, rfl, hbo, hbl, hcx⟩ : ∃ b ob, a = some ⟨b, ob, none⟩ ∧ own' b = 10 + o ∧ b < wr.heap.size ∧ wr.cell? ⟨b, ob + (k + 1), none⟩ = some (.int .i64 (l.getD (k + 1) 0)) := by
        obtain ⟨a', c', hv, hlc, hcl⟩ := hV.out
        simp only [Value.slice.injEq, true_and] at hv
        obtain ⟨rfl, rfl⟩ := hv
        exact hcl (k + 1) hkl
      obtain ⟨j, hj⟩ : ∃ j : Nat, l.getD (k + 1) 0 = (j : Int) := ⟨(l.getD (k + 1) 0).toNat, (Int.toNat_of_nonneg (HLP.out _ (getD_mem_int hkl))).symm⟩
      rw [hj] at hcx
      have HSN : Hid ((l.drop 1).take (k + 1) = (l.drop 1).take k ++ [((j : Nat) : Int)]) := by
        show _ = _
        rw [int_snoc (by simp; omega), ← hj]
        simp [List.getD_eq_getElem?_getD]
      have hput := (hPk.out.drawn 1).put hh j
      have d3 := hPk.out.c.2.2.2.1
      have dh := hPk.out.hc hh
      have hkl' : ((k + 1 : Nat) : Int) < (l.length : Int) := by omega
      have hlc : l.length ≤ c := by obtain ⟨a', c', hv, hlc, -⟩ := hV.out; simp only [Value.slice.injEq, true_and] at hv; obtain ⟨-, rfl⟩ := hv; exact hlc
      clear hj hk
      obtain ⟨k1, hk1⟩ : ∃ k1, k1 = k + 1 := ⟨_, rfl⟩
      have HK1 : Hid (k1 = k + 1) := hk1
      rw [← hk1] at hcx hkl hkl' HSN ⊢
      obtain ⟨gk, hgk⟩ : ∃ gk, gk = puts room g1 h ((l.drop 1).take k) := ⟨_, rfl⟩
      have HGK : Hid ({ gk with near := upd gk.near h (j : Int), ring := upd gk.ring h (putR room (gk.near h) (gk.ring h)) } = puts room g1 h ((l.drop 1).take k1)) := by
        show _ = _
        rw [HSN.out, puts_snoc, hgk]
      rw [← hgk] at hput
      have hl9 := hV.out.kc (c' := 9) (Kc.of_below (C := fun c => c = 10 + h) (own := own') (w := wr) (w' := wr.drewN 1) ⟨rfl, rfl, rfl, Nat.le_refl _, fun _ _ => rfl⟩) (by have := HNE.out; omega)
      have HV9 : Hid (Rds (fun b => relabel own' wr.heap.size 9 b = 10 + o) (wr.drewN 1) (.slice (some ⟨b, ob, none⟩) l.length c) l) := hl9
      clear hl9 hk1 hgk HSN hPk hV
      go_upto_region 7 with fail
      go_region_with (first | (go_at_call 48; refine hput.mono ?_; clear hput; rintro e w9 ⟨⟨ov, rfl, -⟩, hP9, hk9⟩; rw [HGK.out] at hP9; have HP9 : Hid (Pg B G room hands ts (puts room g1 h ((l.drop 1).take k1)) wk (relabel (relabel own' wr.heap.size 9) (wr.drewN 1).heap.size (10 + h)) Q w9) := hP9; have HR9 : Hid (Rds (fun b => relabel (relabel own' wr.heap.size 9) (wr.drewN 1).heap.size (10 + h) b = 10 + o) w9 (.slice (some ⟨b, ob, none⟩) l.length c) l) := HV9.out.kc hk9 (by have := HNE.out; omega); have HO9 : Hid (Ok own (relabel (relabel own' wr.heap.size 9) (wr.drewN 1).heap.size (10 + h)) (fun c => c = 10 + h ∨ c = 10 + o) w w9) := (hO.out.trans (Ok.drewN 1)).trans ((Ok.re hk9 _).mono (fun c e => Or.inl e)); clear hP9 hk9))
      all_goals
        go_wp2
        go_roundw
        case rel => exact ⟨k1, _, by have := HK1.out; go_num, Or.inl (by omega), HR9, HP9, HO9⟩
        case measure => simp [intOf]; omega
    · have hkl' : ¬ ((k + 1 : Nat) : Int) < (l.length : Int) := by omega
      have HE : Hid (Pg B G room hands ts (puts room g1 h l.tail) wk own' Q wr) := by
        have := hPk.out
        rw [List.take_of_length_le (by simp; omega), List.drop_one] at this
        exact this
      go_wp2
      go_ret
      exact ⟨_, rfl, own', hV.out, HE.out, hO.out⟩
end Go.Proofs.Ytdhnfgjfihapiaa
