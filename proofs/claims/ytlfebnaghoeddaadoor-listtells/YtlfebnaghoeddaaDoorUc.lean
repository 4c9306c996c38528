/- The contract of list.Urgent. -/
import Derived.Test.YtlfebnaghoeddaaDoorUb
import Derived.Test.YtlfebnaghoeddaaDoorDh
namespace Go.Proofs.YtlfebnaghoeddaaDoor
open Go.RowKit Go.Deep

/-- What Urgent hands back. -/
def UrgOut (ts : List (Int × List Int)) (n : Nat) (e : Ending) (w' : World) : Prop :=
  (∃ p q, q ≠ 0 ∧ CheckIs ts p q ∧ e = .returned (.tuple #[.slice none 0 0, errV q])) ∨
  (CheckIs ts 0 0 ∧ ∃ ord l B, OrdIs ts ord ∧ UrgIs (tailsOf ts ord) ts.length l ∧ e = .returned (.tuple #[.slice (some ⟨B, 0, none⟩) ts.length ts.length, .nilIface]) ∧ n ≤ B ∧ w'.rowIs B 3 ts.length (intRow (fun k => (l.getD k 0 : Nat))))

theorem cell_box' (w : World) (v : Value) (t : TypeId) : (w.alloc (.cells #[v] t)).cell? ⟨w.heap.size, 0, none⟩ = some v := by
  unfold World.cell?
  dsimp only
  rw [blk_alloc_new]
  rfl

set_option maxRecDepth 100000 in
set_option maxHeartbeats 2000000 in
theorem urgent_any (v : Value) (ts : List (Int × List Int)) (w : World) (hp : PlanAt w v ts) :
    Calls Tryd.prog 13 #[v] w fun e w' => UrgOut ts w.heap.size e w' ∧ Below w.heap.size w w' := by
  have htl := tails_any v ts w hp
  obtain ⟨hl, a, c, rfl, hp⟩ := hp
  clear hp
  go_enter Tryd.func13, Tryd.ntmps13
  go_wp2_with fail
  refine htl.mono ?_
  clear htl
  rintro e w1 ⟨h, hb1⟩
  rcases h with ⟨p, q, hq, hc, rfl⟩ | ⟨hc, ord, rv, ho, rfl, hin⟩
  · have hev := errV_some hq
    have HF : Hid (∀ u wx, u = errV q → UrgOut ts w.heap.size (.returned (.tuple #[.slice none 0 0, u])) wx) := fun u wx hu => Or.inl ⟨p, q, hq, hc, by rw [hu]⟩
    rw [hev] at HF ⊢
    have hb2 : Below w.heap.size w (w1.alloc (.cells #[.slice none 0 0] 24)) := hb1.alloc hb1.size _
    clear hev hq hc
    go_wp2
    go_ret2
    exact ⟨HF.out _ _ rfl, hb2⟩
  · have h30 : ts.length ≤ 30 := (hc.ok rfl).2.1
    have hT := (Ready.of hc ho).deep.tlow
    have HF : Hid (∀ l B wx, UrgIs (tailsOf ts ord) ts.length l → w.heap.size ≤ B → wx.rowIs B 3 ts.length (intRow (fun k => (l.getD k 0 : Nat))) → UrgOut ts w.heap.size (.returned (.tuple #[.slice (some ⟨B, 0, none⟩) ts.length ts.length, .nilIface])) wx) := fun l B wx h1 h2 h3 => Or.inr ⟨hc, ord, l, B, ho, h1, rfl, h2, h3⟩
    have HIN : Hid (IntsAt w1 rv (listOf (tailsOf ts ord) ts.length)) := hin
    obtain ⟨_, ra, rc, rfl, _⟩ := hin
    rw [listOf_length] at HIN ⊢
    have hmk := fun wx => run_make_row' (P := Tryd.prog) 24 3 (.int .i64 0) 8 Tryd.underlying24 Tryd.info3 rfl .i64 .i64 ts.length (by omega) (by omega) wx
    have hmf : ∀ (fn : Fn) (first cap : Array Value) (w : World), (Instr.makeFunc fn first cap).run Tryd.prog w = .ok (.func fn first cap) w := fun _ _ _ _ => rfl
    clear ho hc
    have hc1 := cell_box' w1 (.slice ra ts.length rc) 24
    have hb2 : Below w1.heap.size w1 (w1.alloc (.cells #[.slice ra ts.length rc] 24)) := (Below.refl _ _).alloc (Nat.le_refl _) _
    have hs2 : (w1.alloc (.cells #[.slice ra ts.length rc] 24)).heap.size = w1.heap.size + 1 := by simp
    have hrow0 := World.rowIs_made (w1.alloc (.cells #[.slice ra ts.length rc] 24)) (.int .i64 0) ts.length 3
    rw [hs2] at hrow0
    have hb3 : Below (w1.heap.size + 1) (w1.alloc (.cells #[.slice ra ts.length rc] 24)) ((w1.alloc (.cells #[.slice ra ts.length rc] 24)).alloc (.cells (madeCells #[.int .i64 0] ts.length) 3)) := (Below.refl _ _).alloc (by simp) _
    have HC1 : Hid _ := hc1
    have HB2 : Hid _ := hb2
    have HB3 : Hid _ := hb3
    have HR0 : Hid (World.rowIs _ _ _ _ _) := hrow0
    have HS2 : Hid _ := hs2
    clear hc1 hb2 hb3 hrow0 hs2
    go_wp2
    clear hmk
    obtain ⟨w2, hw2⟩ : ∃ w2, w2 = w1.alloc (.cells #[.slice ra ts.length rc] 24) := ⟨_, rfl⟩
    rw [← hw2] at HC1 HB2 HB3 HR0 HS2 ⊢
    clear hw2
    go_loopw [21] (fun s21 wr => ∃ k : Nat, k ≤ ts.length ∧ s21 = .int .i64 k ∧ Hid (wr.rowIs (w1.heap.size + 1) 3 ts.length (intRow (fun j => if j < k then (j : Int) else 0))) ∧ Below (w1.heap.size + 1) w2 wr) (fun s21 _ => ts.length - (intOf s21).toNat)
    case atStart => exact ⟨0, Nat.zero_le _, rfl, HR0.out.congr (fun j _ => rfl), HB3.out⟩
    case round =>
      clear HR0 HB3
      obtain ⟨k, hk, rfl, hrow, hb⟩ := hrel
      by_cases hkl : k < ts.length
      · have hfr := hrow.out.frozen k
        have hce : wr.cell? ⟨w1.heap.size + 1, k, none⟩ = some (.int .i64 0) := (hrow.out.cell hkl).trans (by unfold intRow; simp)
        have hlt := hrow.out.lt
        have HN : Hid ((wr.setCell ⟨w1.heap.size + 1, k, none⟩ (.int .i64 (k : Int))).rowIs (w1.heap.size + 1) 3 ts.length (intRow (fun j => if j < k + 1 then (j : Int) else 0))) := by
          refine (row_upd hrow.out).congr (fun j hj => ?_)
          unfold intRow upd
          dsimp only
          by_cases e : j = k
          · subst e; rw [if_pos rfl, if_pos (by omega)]
          · rw [if_neg e]
            by_cases e2 : j < k
            · rw [if_pos e2, if_pos (by omega)]
            · rw [if_neg e2, if_neg (by omega)]
        have hb2 : Below (w1.heap.size + 1) w2 (wr.setCell ⟨w1.heap.size + 1, k, none⟩ (.int .i64 (k : Int))) := hb.setCell (p := ⟨w1.heap.size + 1, k, none⟩) (Nat.le_refl _) _
        clear hrow
        go_wp2
        go_roundw
        case rel => exact ⟨k + 1, by omega, by go_num, HN, hb2⟩
        case measure => simp [intOf]; omega
      · have hr : wr.rowIs (w1.heap.size + 1) 3 ts.length (intRow (fun j => (j : Int))) := hrow.out.congr (fun j hj => by unfold intRow; dsimp only; rw [if_pos (by omega)])
        have hke : k = ts.length := by omega
        clear hrow
        by_cases hn : 0 < ts.length
        · have hin2 := (HIN.out.later HB2.out).later (hb.mono (by have := HS2.out; omega))
          obtain ⟨_, ra', rc', hv, hcc⟩ := hin2
          rw [listOf_length] at hv hcc
          simp only [Value.slice.injEq] at hv
          obtain ⟨rfl, -, rfl⟩ : ra = ra' ∧ True ∧ rc = rc' := ⟨hv.1, trivial, hv.2.2⟩
          rcases hcc with h0 | ⟨tb, to, rfl, htb, hcc⟩
          · have := congrArg List.length h0
            rw [listOf_length, List.length_nil] at this
            omega
          have htb1 : tb < w1.heap.size := by
            obtain ⟨_, ra', rc', hv, h⟩ := HIN.out
            rw [listOf_length] at h hv
            simp only [Value.slice.injEq] at hv
            rcases h with h0 | ⟨tb', to', e, h, _⟩
            · have := congrArg List.length h0
              rw [listOf_length, List.length_nil] at this
              omega
            · have e2 := hv.1.trans e
              simp only [Option.some.injEq, Addr.mk.injEq, and_true] at e2
              omega
          have hbox : wr.cell? ⟨w1.heap.size, 0, none⟩ = some (.slice (some ⟨tb, to, none⟩) ts.length rc) := (hb.cell (p := ⟨w1.heap.size, 0, none⟩) (Nat.lt_succ_self _)).trans HC1.out
          have hta : TailsAt wr ⟨w1.heap.size, 0, none⟩ ts.length (tailsOf ts ord) := ⟨tb, to, rc, hbox, by show w1.heap.size < _; have := hr.lt; omega, htb, fun j hj => by have := hcc j hj; rwa [listOf_getD _ hj] at this⟩
          have hso := sort_any (tailsOf ts ord) ts.length (w1.heap.size + 1) ⟨w1.heap.size, 0, none⟩ wr hta hT h30 hn hr (by show w1.heap.size ≠ _; omega) (fun b o c h => by
            rw [hbox] at h
            simp only [Option.some.injEq, Value.slice.injEq, Addr.mk.injEq, and_true] at h
            omega)
          have hbe : Below w.heap.size w wr := hb1.trans ((HB2.out.mono hb1.size).trans (hb.mono (by have := hb1.size; omega)))
          have hsz : w.heap.size ≤ w1.heap.size + 1 := by have := hb1.size; omega
          have hsr := hr.lt
          clear hcc hta hr hbox hT
          subst hke
          go_wp2_with fail
          refine hso.mono ?_
          clear hso
          rintro e w3 ⟨rfl, l, hu, hrow, hg⟩
          have HE := HF.out l _ w3 hu hsz hrow
          have HE2 : Hid _ := HE
          have hb3 : Below w.heap.size w w3 := hbe.grown hg (by omega) (fun j e => by have := Option.some.inj e; omega)
          clear HE hu hrow
          go_wp2
          go_ret2
          exact ⟨HE2.out, hb3⟩
        · have hn0 : ts.length = 0 := by omega
          have hbe : Below w.heap.size w wr := hb1.trans ((HB2.out.mono hb1.size).trans (hb.mono (by have := hb1.size; omega)))
          have HE := HF.out [] _ wr (by rw [hn0]; exact UrgIs.none _) (by have := hb1.size; omega) (hr.congr (fun j hj => by omega))
          have HE2 : Hid (UrgOut ts w.heap.size (.returned (.tuple #[.slice (some ⟨w1.heap.size + 1, 0, none⟩) ts.length ts.length, .nilIface])) wr) := HE
          have hso := fun wx => sort_none (some ⟨w1.heap.size + 1, 0, none⟩) 0 (.func (.func 25) #[] #[.pointer (some ⟨w1.heap.size, 0, none⟩)]) wx
          clear hr HE hT
          subst hke
          rw [hn0] at HE2 ⊢
          clear hn0
          go_wp2_with (go_at_call 24; refine (hso _).mono ?_; rintro e w' ⟨rfl, rfl⟩)
          go_ret2
          exact ⟨HE2.out, hbe⟩
end Go.Proofs.YtlfebnaghoeddaaDoor
