/- The program's gang: find, five ways. -/
import Derived.Test.YtdhnfgjfihapiaaPgc
namespace Go.Proofs.Ytdhnfgjfihapiaa
open Go.RowKit Go.Deep

variable {B : Bs} {G room hands : Nat} {ts : List (Int × List Int)} {g : Gs} {wk : Nat → Int} {own : Nat → Nat} {Q : Qp} {w w' : World}
theorem Pg.takeNear (h : Pg B G room hands ts g wk own Q w) {j : Nat} (hj : j < hands) (hn : g.near j ≠ -1) :
    Calls Try.prog 32 #[.pointer (some ⟨Q.Hk j, 0, none⟩)] w fun e w' => e = .returned (.tuple #[.int .i64 (g.near j), .nilIface]) ∧ ∃ own', Pg B G room hands ts { g with near := upd g.near j (-1) } wk own' Q w' ∧ Ok own own' (fun c => c = 10 + j) w w' := by
  refine (Hnd.Take_near _ _ _ _ _ _ (h.hand j hj) hn).mono ?_
  rintro e w' ⟨rfl, hm, hk⟩
  have := h.setHand j (-1) (g.ring j) hm (h.kh hj hk)
  rw [upd_id g.ring j] at this
  exact ⟨rfl, _, this, Ok.re (h.kh hj hk) _⟩
theorem Pg.takeRing (h : Pg B G room hands ts g wk own Q w) {j : Nat} (hj : j < hands) (hn : g.near j = -1) (hr : g.ring j ≠ []) :
    Calls Try.prog 32 #[.pointer (some ⟨Q.Hk j, 0, none⟩)] w fun e w' => e = .returned (.tuple #[.int .i64 ((g.ring j).getLastD 0), .nilIface]) ∧ ∃ own', Pg B G room hands ts { g with ring := upd g.ring j (g.ring j).dropLast } wk own' Q w' ∧ Ok own own' (fun c => c = 10 + j) w w' := by
  have hm := h.hand j hj
  rw [hn, last_split hr] at hm
  refine (Hnd.Take_one _ _ _ _ _ _ hm).mono ?_
  rintro e w' ⟨rfl, hm', hk⟩
  have := h.setHand j (-1) (g.ring j).dropLast hm' (h.kh hj hk)
  have e : upd g.near j (-1) = g.near := by rw [← hn]; exact upd_id g.near j
  rw [e] at this
  exact ⟨rfl, _, this, Ok.re (h.kh hj hk) _⟩
theorem Pg.takeNone (h : Pg B G room hands ts g wk own Q w) {j : Nat} (hj : j < hands) (hn : g.near j = -1) (hr : g.ring j = []) :
    Calls Try.prog 32 #[.pointer (some ⟨Q.Hk j, 0, none⟩)] w fun e w' => e = .returned (.tuple #[.int .i64 0, .iface 67 (.int .i64 5)]) ∧ w' = w := by
  have hm := h.hand j hj
  rw [hn, hr] at hm
  exact Hnd.Take_none _ _ _ _ hm
theorem Pg.get1 (h : Pg B G room hands ts g wk own Q w) :
    Calls Try.prog 34 #[.pointer (some ⟨Q.Sb, 0, none⟩), .int .i64 1] w fun e w' => ∃ lv, e = .returned (.tuple #[lv, .nilIface]) ∧ RowI w.heap.size w' lv (g.sp.take 1) ∧ ∃ own' Q', Q'.Kb = Q.Kb ∧ Q'.HB = Q.HB ∧ Q'.Hk = Q.Hk ∧ Pg B G room hands ts { g with sp := g.sp.tail } wk own' Q' w' ∧ Ok own own' (fun c => c = 6) w w' := by
  refine (Spl.Get_good Q.Sb room 1 g.sp Q.vs w h.sp (by omega) (by omega)).mono ?_
  rintro e w' ⟨lv, v', rfl, hl, hs, hk, hn, -⟩
  rw [List.drop_one] at hs
  exact ⟨lv, rfl, hl, _, { Q with vs := v' }, rfl, rfl, rfl, h.setSp _ v' hs (h.nearS hn) (h.ks hk), Ok.re (h.ks hk) _⟩
theorem Pg.sleep (h : Pg B G room hands ts g wk own Q w) {j : Nat} (hj : j < hands) (hz : (j : Int) ∉ g.zz) :
    Calls Try.prog 36 #[.pointer (some ⟨Q.Kb, 0, none⟩), .int .i64 j] w fun e w' => e = .returned .nilIface ∧ ∃ own' Q', Pg B G room hands ts { g with zz := g.zz ++ [(j : Int)] } wk own' Q' w' ∧ Ok own own' (fun c => c = 4) w w' := by
  refine (Prk.Sleep_good Q.Kb hands g.zz Q.vz (j : Int) w h.pk (by omega) (by omega) hz).mono ?_
  rintro e w' ⟨rfl, v', hs, hk, hn⟩
  exact ⟨rfl, _, { Q with vz := v' }, h.setPark _ v' hs (h.nearZ hn) (h.kp hk), Ok.re (h.kp hk) _⟩
/-- Nothing is robbed. -/
theorem rob_none (hP : Pg B G room hands ts g wk own Q w) (h o : Nat) (hh : h < hands) (ho : o < hands) (h6 : hands ≤ 6) (hno : o = h ∨ g.ring o = []) :
    Calls Try.prog 35 #[.pointer (some ⟨G, 0, none⟩), .int .i64 h, .int .i64 o] w fun e w' => ∃ a c, e = .returned (.slice a 0 c) ∧ ∃ own', Pg B G room hands ts g wk own' Q w' ∧ Ok own own' (fun c => c = 10 + h ∨ c = 10 + o) w w' := by
  by_cases e : o = h
  · subst e
    refine (rob_self G o w).mono ?_
    rintro e w' ⟨rfl, rfl⟩
    exact ⟨_, _, rfl, own, hP, ⟨⟨rfl, rfl, rfl, Nat.le_refl _, fun _ _ _ => rfl⟩, fun _ _ => rfl⟩⟩
  · have hr : g.ring o = [] := hno.resolve_left e
    refine (rob_other hP h o hh ho e h6 (by rw [hr]; simp) (by rw [hr]; simp)).mono ?_
    rintro e w' ⟨v, rfl, own', hv, hP', hO⟩
    rw [hr] at hv hP'
    obtain ⟨a, c, rfl⟩ := hv.shape
    refine ⟨a, c, rfl, own', ?_, hO⟩
    have e2 : ({ g with ring := upd g.ring o [] } : Gs) = g := by
      rw [← hr, upd_id]
    simp only [List.take_nil, List.tail_nil, puts_nil, List.drop_nil] at hP'
    rw [e2] at hP'
    exact hP'

set_option maxRecDepth 100000 in
set_option maxHeartbeats 4000000 in
theorem find_took (hP : Pg B G room hands ts g wk own Q w) (h i : Nat) (o : Int) (hh : h < hands) (h6 : hands ≤ 6) (hi : i < 1000) (g1 : Gs) (ht : g1.task h < 0)
    (htk : ∀ own1 W, Pg B G room hands ts g wk own1 Q W → Calls Try.prog 32 #[.pointer (some ⟨Q.Hk h, 0, none⟩)] W fun e w' => e = .returned (.tuple #[.int .i64 i, .nilIface]) ∧ ∃ own', Pg B G room hands ts g1 wk own' Q w' ∧ Ok own1 own' (fun c => c = 10 + h) W w') :
    Calls Try.prog 22 #[.pointer (some ⟨G, 0, none⟩), .int .i64 h, .int .i64 o] w fun e w' => e = .returned (.agg #[.int .i64 1, .int .i64 h, .int .i64 i, .int .i64 0]) ∧ ∃ own' Q', Pg B G room hands ts { g1 with task := upd g1.task h (i : Int) } wk own' Q' w' := by
  obtain ⟨W, hW⟩ : ∃ W, W = w.alloc (.cells #[.int .i64 0, .int .i64 0, .int .i64 0, .int .i64 0] 38) := ⟨_, rfl⟩
  have hbW : Below w.heap.size w W := by rw [hW]; exact (Below.refl _ _).alloc (Nat.le_refl _) _
  have hPW := hP.later8 (Kc.of_below hbW)
  have hRW : W.heap[w.heap.size]? = some (.cells #[.int .i64 0, .int .i64 0, .int .i64 0, .int .i64 0] 38 (0, 0)) := by rw [hW]; exact heap_alloc_new w _
  have hRl : w.heap.size < W.heap.size := by rw [hW]; simp
  have htake := htk _ W hPW
  obtain ⟨-, -, -, c3, -, -⟩ := hPW.c
  have ch := hPW.hc hh
  have hhi : (h : Int) < (hands : Int) := by omega
  have HW : Hid (W = w.alloc (.cells #[.int .i64 0, .int .i64 0, .int .i64 0, .int .i64 0] 38)) := hW
  have HB : Hid (∀ w1 own2, Pg B G room hands ts g1 wk own2 Q w1 → Calls Try.prog 33 #[.pointer (some ⟨G, 0, none⟩), .agg #[.int .i64 1, .int .i64 h, .int .i64 i, .int .i64 0]] w1 fun e w' => e = .returned (.agg #[.int .i64 1, .int .i64 h, .int .i64 i, .int .i64 0]) ∧ ∃ own', Pg B G room hands ts { g1 with task := upd g1.task h (i : Int) } wk own' Q w' ∧ Ok own2 own' (fun c => c = 3) w1 w') := fun w1 own2 h1 => begin_any h1 1 0 h i hh h6 hi ht
  have HR : Hid (W.heap[w.heap.size]? = some (.cells #[.int .i64 0, .int .i64 0, .int .i64 0, .int .i64 0] 38 (0, 0)) ∧ relabel own w.heap.size 8 w.heap.size = 8) := ⟨hRW, relabel_ge (Nat.le_refl _)⟩
  clear hP hPW hbW hRW hW htk
  go_enter Try.func22, Try.ntmps22
  go_upto_region 1 with fail
  rw [← HW.out]
  clear HW
  go_wp2_with (first | (go_at_call 32; refine htake.mono ?_; clear htake; rintro e w1 ⟨rfl, own2, hP2, hO2⟩; have hb := HB.out w1 own2 hP2; have HO2 : Hid (Ok (relabel own w.heap.size 8) own2 (fun c => c = 10 + h) W w1) := hO2; clear hP2 hO2 HB) | (go_at_call 33; refine hb.mono ?_; clear hb; rintro e w3 ⟨rfl, own3, hP3, hO3⟩; have h8 : own2 w.heap.size = 8 := (HO2.out.lab _ hRl).trans HR.out.2; have hl3 : own3 w.heap.size = 8 := (hO3.lab _ (Nat.lt_of_lt_of_le hRl HO2.out.kc.size)).trans h8; have hR3 := ((hO3.kc.block w.heap.size (Nat.lt_of_lt_of_le hRl HO2.out.kc.size) (by rw [h8]; omega)).trans (HO2.out.kc.block _ hRl (by rw [HR.out.2]; omega))).trans HR.out.1; obtain ⟨f0, f1, f2, f3, ff⟩ := part_cells hR3; have HP3 : Hid (Pg B G room hands ts { g1 with task := upd g1.task h (i : Int) } wk own3 Q w3) := hP3; clear hP3 hO3 h8))
  refine part_ret Try.results22 (setP_block hR3 _ _ _ _) rfl rfl ⟨rfl, _, _, HP3.out.later8 (Kc.setP (C := fun c => c = 8) hl3 _ _ _ _)⟩

set_option maxRecDepth 100000 in
set_option maxHeartbeats 4000000 in
theorem find_fetched (hP : Pg B G room hands ts g wk own Q w) (h i : Nat) (o : Int) (hh : h < hands) (h6 : hands ≤ 6) (hi : i < 1000) (ht : g.task h < 0) (hn : g.near h = -1) (hr : g.ring h = []) (rest : List Int) (hsp : g.sp = (i : Int) :: rest) :
    Calls Try.prog 22 #[.pointer (some ⟨G, 0, none⟩), .int .i64 h, .int .i64 o] w fun e w' => e = .returned (.agg #[.int .i64 3, .int .i64 h, .int .i64 i, .int .i64 0]) ∧ ∃ own' Q', Pg B G room hands ts { g with sp := g.sp.tail, task := upd g.task h (i : Int) } wk own' Q' w' := by
  obtain ⟨W, hW⟩ : ∃ W, W = w.alloc (.cells #[.int .i64 0, .int .i64 0, .int .i64 0, .int .i64 0] 38) := ⟨_, rfl⟩
  have hbW : Below w.heap.size w W := by rw [hW]; exact (Below.refl _ _).alloc (Nat.le_refl _) _
  have hPW := hP.later8 (Kc.of_below hbW)
  have hRW : W.heap[w.heap.size]? = some (.cells #[.int .i64 0, .int .i64 0, .int .i64 0, .int .i64 0] 38 (0, 0)) := by rw [hW]; exact heap_alloc_new w _
  have hRl : w.heap.size < W.heap.size := by rw [hW]; simp
  have htake := hPW.takeNone hh hn hr
  have hget := hPW.get1
  obtain ⟨-, c1, -, c3, -, -⟩ := hPW.c
  have ch := hPW.hc hh
  have hhi : (h : Int) < (hands : Int) := by omega
  have HW : Hid (W = w.alloc (.cells #[.int .i64 0, .int .i64 0, .int .i64 0, .int .i64 0] 38)) := hW
  have HR : Hid (W.heap[w.heap.size]? = some (.cells #[.int .i64 0, .int .i64 0, .int .i64 0, .int .i64 0] 38 (0, 0)) ∧ relabel own w.heap.size 8 w.heap.size = 8) := ⟨hRW, relabel_ge (Nat.le_refl _)⟩
  have e1 : g.sp.take 1 = [(i : Int)] := by rw [hsp]; rfl
  rw [e1] at hget
  obtain ⟨g1, hg1⟩ : ∃ g1 : Gs, g1 = { g with sp := g.sp.tail } := ⟨_, rfl⟩
  rw [← hg1] at hget
  have HG1 : Hid ({ g1 with task := upd g1.task h (i : Int) } = { g with sp := g.sp.tail, task := upd g.task h (i : Int) }) := by rw [hg1]; exact rfl
  have HB : Hid (∀ w1 own2 Q2, Pg B G room hands ts g1 wk own2 Q2 w1 → Calls Try.prog 33 #[.pointer (some ⟨G, 0, none⟩), .agg #[.int .i64 3, .int .i64 h, .int .i64 i, .int .i64 0]] w1 fun e w' => e = .returned (.agg #[.int .i64 3, .int .i64 h, .int .i64 i, .int .i64 0]) ∧ ∃ own', Pg B G room hands ts { g1 with task := upd g1.task h (i : Int) } wk own' Q2 w' ∧ Ok own2 own' (fun c => c = 3) w1 w') := fun w1 own2 Q2 h1 => begin_any h1 3 0 h i hh h6 hi (by rw [hg1]; exact ht)
  rw [← HG1.out]
  clear hP hPW hbW hRW hW hg1 hsp hn hr ht e1 HG1
  go_enter Try.func22, Try.ntmps22
  go_upto_region 1 with fail
  rw [← HW.out]
  clear HW
  go_wp2_with (first | (go_at_call 32; refine htake.mono ?_; clear htake; rintro e W ⟨rfl, rfl⟩) | (go_at_call 34; refine hget.mono ?_; clear hget; rintro e w1 ⟨lv, rfl, hl, own2, Q2, -, -, -, hP2, hO2⟩; obtain ⟨lb, lc, rfl, -, hlb, hlc, -⟩ := hl.full (by simp); have hc0 := hl.cell (k := 0) (by simp); replace hc0 : w1.cell? ⟨lb, 0, none⟩ = some (.int .i64 (i : Int)) := hc0; have hb := HB.out w1 own2 Q2 hP2; have HO2 : Hid (Ok (relabel own w.heap.size 8) own2 (fun c => c = 6) W w1) := hO2; clear hP2 hO2 HB hl) | (go_at_call 33; refine hb.mono ?_; clear hb; rintro e w3 ⟨rfl, own3, hP3, hO3⟩; have h8 : own2 w.heap.size = 8 := (HO2.out.lab _ hRl).trans HR.out.2; have hl3 : own3 w.heap.size = 8 := (hO3.lab _ (Nat.lt_of_lt_of_le hRl HO2.out.kc.size)).trans h8; have hR3 := ((hO3.kc.block w.heap.size (Nat.lt_of_lt_of_le hRl HO2.out.kc.size) (by rw [h8]; omega)).trans (HO2.out.kc.block _ hRl (by rw [HR.out.2]; omega))).trans HR.out.1; obtain ⟨f0, f1, f2, f3, ff⟩ := part_cells hR3; have HP3 : Hid (Pg B G room hands ts { g1 with task := upd g1.task h (i : Int) } wk own3 Q2 w3) := hP3; clear hP3 hO3 h8))
  refine part_ret Try.results22 (setP_block hR3 _ _ _ _) rfl rfl ⟨rfl, _, _, HP3.out.later8 (Kc.setP (C := fun c => c = 8) hl3 _ _ _ _)⟩

set_option maxRecDepth 100000 in
set_option maxHeartbeats 4000000 in
theorem find_stole (hP : Pg B G room hands ts g wk own Q w) (h i o : Nat) (hh : h < hands) (ho : o < hands) (hne : o ≠ h) (h6 : hands ≤ 6) (hi : i < 1000) (ht : g.task h < 0) (hn : g.near h = -1) (hr : g.ring h = []) (hsp : g.sp = []) (h16 : (g.ring o).length ≤ 16) (hpos : ∀ x, x ∈ g.ring o → 0 ≤ x) (rest : List Int) (hro : (g.ring o).take (((g.ring o).length + 1) / 2) = (i : Int) :: rest) :
    Calls Try.prog 22 #[.pointer (some ⟨G, 0, none⟩), .int .i64 h, .int .i64 o] w fun e w' => e = .returned (.agg #[.int .i64 2, .int .i64 h, .int .i64 i, .int .i64 o]) ∧ ∃ own' Q', Pg B G room hands ts { puts room { g with ring := upd g.ring o ((g.ring o).drop (((g.ring o).length + 1) / 2)) } h rest with task := upd g.task h (i : Int) } wk own' Q' w' := by
  obtain ⟨W, hW⟩ : ∃ W, W = w.alloc (.cells #[.int .i64 0, .int .i64 0, .int .i64 0, .int .i64 0] 38) := ⟨_, rfl⟩
  have hbW : Below w.heap.size w W := by rw [hW]; exact (Below.refl _ _).alloc (Nat.le_refl _) _
  have hPW := hP.later8 (Kc.of_below hbW)
  have hRW : W.heap[w.heap.size]? = some (.cells #[.int .i64 0, .int .i64 0, .int .i64 0, .int .i64 0] 38 (0, 0)) := by rw [hW]; exact heap_alloc_new w _
  have hRl : w.heap.size < W.heap.size := by rw [hW]; simp
  have htake := hPW.takeNone hh hn hr
  have hget := hPW.get1
  obtain ⟨-, c1, -, c3, -, -⟩ := hPW.c
  have ch := hPW.hc hh
  have hhi : (h : Int) < (hands : Int) := by omega
  have HW : Hid (W = w.alloc (.cells #[.int .i64 0, .int .i64 0, .int .i64 0, .int .i64 0] 38)) := hW
  have HR : Hid (W.heap[w.heap.size]? = some (.cells #[.int .i64 0, .int .i64 0, .int .i64 0, .int .i64 0] 38 (0, 0)) ∧ relabel own w.heap.size 8 w.heap.size = 8) := ⟨hRW, relabel_ge (Nat.le_refl _)⟩
  have e1 : g.sp.take 1 = [] := by rw [hsp]; rfl
  have e2 : ({ g with sp := g.sp.tail } : Gs) = g := by rw [hsp]; show Gs.mk _ _ _ _ _ [] _ = _; rw [← hsp]
  rw [e1, e2] at hget
  have HRB : Hid (∀ w1 own2 Q2, Pg B G room hands ts g wk own2 Q2 w1 → Calls Try.prog 35 #[.pointer (some ⟨G, 0, none⟩), .int .i64 h, .int .i64 o] w1 fun e w' => ∃ v, e = .returned v ∧ ∃ own', Rds (fun b => own' b = 10 + o) w' v ((i : Int) :: rest) ∧ Pg B G room hands ts (puts room { g with ring := upd g.ring o ((g.ring o).drop (((g.ring o).length + 1) / 2)) } h rest) wk own' Q2 w' ∧ Ok own2 own' (fun c => c = 10 + h ∨ c = 10 + o) w1 w') := fun w1 own2 Q2 h1 => by
    have := rob_other h1 h o hh ho hne h6 h16 hpos
    rw [hro] at this
    exact this
  obtain ⟨g1, hg1⟩ : ∃ g1 : Gs, g1 = puts room { g with ring := upd g.ring o ((g.ring o).drop (((g.ring o).length + 1) / 2)) } h rest := ⟨_, rfl⟩
  have hg1t : g1.task = g.task := by rw [hg1]; rfl
  rw [← hg1] at HRB ⊢
  rw [← hg1t]
  have HB : Hid (∀ w1 own2 Q2, Pg B G room hands ts g1 wk own2 Q2 w1 → Calls Try.prog 33 #[.pointer (some ⟨G, 0, none⟩), .agg #[.int .i64 2, .int .i64 h, .int .i64 i, .int .i64 o]] w1 fun e w' => e = .returned (.agg #[.int .i64 2, .int .i64 h, .int .i64 i, .int .i64 o]) ∧ ∃ own', Pg B G room hands ts { g1 with task := upd g1.task h (i : Int) } wk own' Q2 w' ∧ Ok own2 own' (fun c => c = 3) w1 w') := fun w1 own2 Q2 h1 => begin_any h1 2 o h i hh h6 hi (by rw [hg1t]; exact ht)
  clear hP hPW hbW hRW hW hg1 hsp hn hr ht e1 e2 hg1t hro hpos h16
  go_enter Try.func22, Try.ntmps22
  go_upto_region 1 with fail
  rw [← HW.out]
  clear HW
  go_wp2_with (first | (go_at_call 32; refine htake.mono ?_; clear htake; rintro e W ⟨rfl, rfl⟩) | (go_at_call 34; refine hget.mono ?_; clear hget; rintro e w1 ⟨lv, rfl, hl, own2, Q2, -, -, -, hP2, hO2⟩; obtain ⟨la, lc, rfl⟩ := hl.shape; have hrob := HRB.out w1 own2 Q2 hP2; have HO2 : Hid (Ok (relabel own w.heap.size 8) own2 (fun c => c = 6) W w1) := hO2; clear hP2 hO2 HRB hl) | (go_at_call 35; refine hrob.mono ?_; clear hrob; rintro e w2 ⟨rv, rfl, own3, hl3, hP3, hO3⟩; obtain ⟨ra, rc, rfl, hrl, hrc⟩ := hl3; obtain ⟨rb, ro, rfl, -, hrb, hc0⟩ := hrc 0 (by simp); replace hc0 : w2.cell? ⟨rb, ro, none⟩ = some (.int .i64 (i : Int)) := hc0; have hb := HB.out w2 own3 Q2 hP3; have HO3 : Hid (Ok own2 own3 (fun c => c = 10 + h ∨ c = 10 + o) w1 w2) := hO3; clear hP3 hO3 HB hrc) | (go_at_call 33; refine hb.mono ?_; clear hb; rintro e w3 ⟨rfl, own4, hP4, hO4⟩; have s1 := Nat.lt_of_lt_of_le hRl HO2.out.kc.size; have s2 := Nat.lt_of_lt_of_le s1 HO3.out.kc.size; have h8 : own2 w.heap.size = 8 := (HO2.out.lab _ hRl).trans HR.out.2; have h83 : own3 w.heap.size = 8 := (HO3.out.lab _ s1).trans h8; have hl3 : own4 w.heap.size = 8 := (hO4.lab _ s2).trans h83; have hR3 := (((hO4.kc.block w.heap.size s2 (by rw [h83]; omega)).trans (HO3.out.kc.block _ s1 (by rw [h8]; omega))).trans (HO2.out.kc.block _ hRl (by rw [HR.out.2]; omega))).trans HR.out.1; obtain ⟨f0, f1, f2, f3, ff⟩ := part_cells hR3; have HP3 : Hid (Pg B G room hands ts { g1 with task := upd g1.task h (i : Int) } wk own4 Q2 w3) := hP4; clear hP4 hO4 h8 h83))
  refine part_ret Try.results22 (setP_block hR3 _ _ _ _) rfl rfl ⟨rfl, _, _, HP3.out.later8 (Kc.setP (C := fun c => c = 8) hl3 _ _ _ _)⟩

set_option maxRecDepth 100000 in
set_option maxHeartbeats 4000000 in
theorem find_slept (hP : Pg B G room hands ts g wk own Q w) (h o : Nat) (hh : h < hands) (ho : o < hands) (h6 : hands ≤ 6) (hn : g.near h = -1) (hr : g.ring h = []) (hsp : g.sp = []) (hz : (h : Int) ∉ g.zz) (hno : o = h ∨ g.ring o = []) :
    Calls Try.prog 22 #[.pointer (some ⟨G, 0, none⟩), .int .i64 h, .int .i64 o] w fun e w' => e = .returned (.agg #[.int .i64 5, .int .i64 h, .int .i64 0, .int .i64 0]) ∧ ∃ own' Q', Pg B G room hands ts { g with zz := g.zz ++ [(h : Int)] } wk own' Q' w' := by
  obtain ⟨W, hW⟩ : ∃ W, W = w.alloc (.cells #[.int .i64 0, .int .i64 0, .int .i64 0, .int .i64 0] 38) := ⟨_, rfl⟩
  have hbW : Below w.heap.size w W := by rw [hW]; exact (Below.refl _ _).alloc (Nat.le_refl _) _
  have hPW := hP.later8 (Kc.of_below hbW)
  have hRW : W.heap[w.heap.size]? = some (.cells #[.int .i64 0, .int .i64 0, .int .i64 0, .int .i64 0] 38 (0, 0)) := by rw [hW]; exact heap_alloc_new w _
  have hRl : w.heap.size < W.heap.size := by rw [hW]; simp
  have htake := hPW.takeNone hh hn hr
  have hget := hPW.get1
  obtain ⟨-, c1, -, c3, -, -⟩ := hPW.c
  have ch := hPW.hc hh
  have hhi : (h : Int) < (hands : Int) := by omega
  have HW : Hid (W = w.alloc (.cells #[.int .i64 0, .int .i64 0, .int .i64 0, .int .i64 0] 38)) := hW
  have HR : Hid (W.heap[w.heap.size]? = some (.cells #[.int .i64 0, .int .i64 0, .int .i64 0, .int .i64 0] 38 (0, 0)) ∧ relabel own w.heap.size 8 w.heap.size = 8) := ⟨hRW, relabel_ge (Nat.le_refl _)⟩
  have e1 : g.sp.take 1 = [] := by rw [hsp]; rfl
  have e2 : ({ g with sp := g.sp.tail } : Gs) = g := by rw [hsp]; show Gs.mk _ _ _ _ _ [] _ = _; rw [← hsp]
  rw [e1, e2] at hget
  have HRB : Hid (∀ w1 own2 Q2, Pg B G room hands ts g wk own2 Q2 w1 → Calls Try.prog 35 #[.pointer (some ⟨G, 0, none⟩), .int .i64 h, .int .i64 o] w1 fun e w' => ∃ a c, e = .returned (.slice a 0 c) ∧ ∃ own', Pg B G room hands ts g wk own' Q2 w' ∧ Ok own2 own' (fun c => c = 10 + h ∨ c = 10 + o) w1 w') := fun w1 own2 Q2 h1 => rob_none h1 h o hh ho h6 hno
  have HB : Hid (∀ w1 own2 Q2, Pg B G room hands ts g wk own2 Q2 w1 → Calls Try.prog 36 #[.pointer (some ⟨Q2.Kb, 0, none⟩), .int .i64 h] w1 fun e w' => e = .returned .nilIface ∧ ∃ own' Q', Pg B G room hands ts { g with zz := g.zz ++ [(h : Int)] } wk own' Q' w' ∧ Ok own2 own' (fun c => c = 4) w1 w') := fun w1 own2 Q2 h1 => h1.sleep hh hz
  clear hP hPW hbW hRW hW hsp hn hr e1 e2 hno hz
  go_enter Try.func22, Try.ntmps22
  go_upto_region 1 with fail
  rw [← HW.out]
  clear HW
  go_wp2_with (first | (go_at_call 32; refine htake.mono ?_; clear htake; rintro e W ⟨rfl, rfl⟩) | (go_at_call 34; refine hget.mono ?_; clear hget; rintro e w1 ⟨lv, rfl, hl, own2, Q2, -, -, -, hP2, hO2⟩; obtain ⟨la, lc, rfl⟩ := hl.shape; have hrob := HRB.out w1 own2 Q2 hP2; have HO2 : Hid (Ok (relabel own w.heap.size 8) own2 (fun c => c = 6) W w1) := hO2; clear hP2 hO2 HRB hl) | (go_at_call 35; refine hrob.mono ?_; clear hrob; rintro e w2 ⟨ra, rc, rfl, own3, hP3, hO3⟩; have hb := HB.out w2 own3 Q2 hP3; have c2 := hP3.c.2.2.1; have HO3 : Hid (Ok own2 own3 (fun c => c = 10 + h ∨ c = 10 + o) w1 w2) := hO3; clear hP3 hO3 HB) | (go_at_call 36; refine hb.mono ?_; clear hb; rintro e w3 ⟨rfl, own4, Q4, hP4, hO4⟩; have s1 := Nat.lt_of_lt_of_le hRl HO2.out.kc.size; have s2 := Nat.lt_of_lt_of_le s1 HO3.out.kc.size; have h8 : own2 w.heap.size = 8 := (HO2.out.lab _ hRl).trans HR.out.2; have h83 : own3 w.heap.size = 8 := (HO3.out.lab _ s1).trans h8; have hl3 : own4 w.heap.size = 8 := (hO4.lab _ s2).trans h83; have hR3 := (((hO4.kc.block w.heap.size s2 (by rw [h83]; omega)).trans (HO3.out.kc.block _ s1 (by rw [h8]; omega))).trans (HO2.out.kc.block _ hRl (by rw [HR.out.2]; omega))).trans HR.out.1; obtain ⟨f0, f1, f2, f3, ff⟩ := part_cells hR3; have HP3 : Hid (Pg B G room hands ts { g with zz := g.zz ++ [(h : Int)] } wk own4 Q4 w3) := hP4; clear hP4 hO4 h8 h83))
  refine part_ret Try.results22 (setP_block hR3 _ _ _ _) rfl rfl ⟨rfl, _, _, HP3.out.later8 (Kc.setP (C := fun c => c = 8) hl3 _ _ _ _)⟩
end Go.Proofs.Ytdhnfgjfihapiaa
