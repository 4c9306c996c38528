/- depth.Work; the law's own gang of one task; deeds that are read. -/
import Derived.Test.YtdhnfgjfihapiaaGhb
namespace Go.Proofs.Ytdhnfgjfihapiaa
open Go.RowKit Go.Deep

def wrkT (ts : List (Int × List Int)) (n : Nat) : Nat := sumN (fun i => (workOf ts i).toNat) n
theorem wrkT_tot {ts : List (Int × List Int)} (hw : ∀ i, i < ts.length → 1 ≤ workOf ts i) : ∀ n, n ≤ ts.length → totW ts n = wrkT ts n + n := by
  intro n
  induction n with
  | zero => intro _; rfl
  | succ n ih =>
    intro h
    have h1 := ih (by omega)
    have h2 := hw n (by omega)
    unfold totW wrkT at *
    rw [sumN, sumN]
    omega
theorem wrkT_le {ts : List (Int × List Int)} (hw : ∀ i, i < ts.length → workOf ts i ≤ 20) : ∀ n, n ≤ ts.length → wrkT ts n ≤ 20 * n := by
  intro n
  induction n with
  | zero => intro _; exact Nat.le_refl _
  | succ n ih =>
    intro h
    have h1 := ih (by omega)
    have h2 := hw n (by omega)
    unfold wrkT at *
    rw [sumN]
    omega
theorem good_work {ts : List (Int × List Int)} (hc : CheckIs ts 0 0) : ∀ i, i < ts.length → 1 ≤ workOf ts i ∧ workOf ts i ≤ 20 := fun i hi => by
  have h2 := (hc.ok rfl).2.2.1 i hi
  unfold errOf taskErr at h2
  have h3 : ¬ ((ts.getD i (0, [])).1 < 1 ∨ 20 < (ts.getD i (0, [])).1) := fun e => by rw [if_pos e] at h2; omega
  unfold workOf
  omega
set_option maxRecDepth 100000 in
set_option maxHeartbeats 2000000 in
theorem dWork_any (v : Value) (ts : List (Int × List Int)) (w : World) (hp : PlanAt w v ts) (hc : CheckIs ts 0 0) :
    Calls Try.prog 11 #[v] w fun e w' => e = .returned (.tuple #[.int .i64 (wrkT ts ts.length : Int), .nilIface]) ∧ Below w.heap.size w w' := by
  have hck : Calls Try.prog 24 #[v] w fun e w' => e = .returned (.tuple #[.int .i64 0, .nilIface]) ∧ Below w.heap.size w w' := (check_any v ts w hp).mono (by
    rintro e w' ⟨⟨p, q, rfl, h2⟩, hb⟩
    obtain ⟨rfl, rfl⟩ := h2.det hc
    exact ⟨rfl, hb⟩)
  have h30 := hc.good.le
  have HW : Hid (∀ i, i < ts.length → 1 ≤ workOf ts i ∧ workOf ts i ≤ 20) := good_work hc
  have HL : Hid (∀ k, k ≤ ts.length → wrkT ts k ≤ 600) := fun k hk => by
    have := wrkT_le (fun i hi => (good_work hc i hi).2) k hk
    omega
  have HP : Hid (PlanAt w v ts) := hp
  obtain ⟨_, a, c, rfl, _⟩ := hp
  clear hc
  go_enter Try.func11, Try.ntmps11
  go_wp2_with (first | (go_at_call 24; refine hck.mono ?_; clear hck; rintro e w1 ⟨rfl, hb1⟩; have HB1 : Hid (Below w.heap.size w w1) := hb1; clear hb1))
  go_loopw [6, 19] (fun s6 s19 wr => ∃ k : Nat, k ≤ ts.length ∧ s6 = .int .i64 (wrkT ts k : Nat) ∧ s19 = .int .i64 k ∧ Hid (Below w.heap.size w wr)) (fun _ s19 _ => ts.length - (intOf s19).toNat)
  case atStart => exact ⟨0, Nat.zero_le _, rfl, rfl, HB1⟩
  case round =>
    clear HB1
    obtain ⟨k, hk, rfl, rfl, hb⟩ := hrel
    by_cases hkn : k < ts.length
    · obtain ⟨_, a2, c2, hv, hcc⟩ := HP.out.later hb.out
      simp only [Value.slice.injEq, true_and] at hv
      obtain ⟨rfl, rfl⟩ := hv
      rcases hcc with h0 | ⟨b, o, rfl, hbl, hcc⟩
      · rw [h0] at hkn; simp at hkn
      obtain ⟨hc1, nv, hc2, _, na, nc, rfl, _⟩ := hcc k hkn
      have hwk := HW.out k hkn
      have hs1 := HL.out k hk
      have HSS : Hid (wrkT ts (k + 1) = wrkT ts k + (workOf ts k).toNat) := rfl
      have e1 : (ts.getD k (0, [])).1 = ((workOf ts k).toNat : Int) := by
        have : (ts.getD k (0, [])).1 = workOf ts k := rfl
        omega
      rw [e1] at hc1
      have hx20 : (workOf ts k).toNat ≤ 20 := by omega
      clear hcc e1 hwk
      generalize wrkT ts k = sk at *
      generalize (workOf ts k).toNat = x at *
      generalize (needsOf ts k).length = nl at *
      have HB2 : Hid (Below w.heap.size w (wr.alloc (.cells #[.int .i64 (x : Int), .slice na nl nc] 32))) := hb.out.alloc hb.out.size _
      go_wp2
      go_roundw
      case rel => exact ⟨k + 1, by omega, by rw [HSS.out]; go_num, by go_num, HB2⟩
      case measure => simp [intOf]; omega
    · have hke : k = ts.length := by omega
      subst hke
      go_wp2
      go_ret2
      exact ⟨rfl, hb.out⟩
/-- A plan of one task. -/
theorem one_plan (w : World) : PlanAt (w.alloc (.cells #[.int .i64 1, .slice none 0 0] 32)) (.slice (some ⟨w.heap.size, 0, none⟩) 1 1) [(1, [])] := by
  refine ⟨by simp, _, 1, rfl, Or.inr ⟨w.heap.size, 0, rfl, by simp, fun k hk => ?_⟩⟩
  obtain rfl : k = 0 := by simpa using hk
  have hb : (w.alloc (.cells #[.int .i64 1, .slice none 0 0] 32)).heap[w.heap.size]? = some (.cells #[.int .i64 1, .slice none 0 0] 32 (0, 0)) := blk_alloc_new w _
  have h0 : ∀ j, (w.alloc (.cells #[.int .i64 1, .slice none 0 0] 32)).cell? ⟨w.heap.size, j, none⟩ = (#[Value.int .i64 1, Value.slice none 0 0] : Array Value)[j]? := fun j => by
    unfold World.cell?
    dsimp only
    rw [hb]
    rfl
  refine ⟨h0 _, .slice none 0 0, h0 _, by simp [needsOf], none, 0, by simp [needsOf], Or.inl (by simp [needsOf])⟩
theorem one_check : CheckIs [((1 : Int), ([] : List Int))] 0 0 := by
  refine CheckIs.none (by simp) (fun j hj => ?_) (fun j _ hr => ?_)
  · obtain rfl : j = 0 := by simpa using hj
    decide
  · refine Reach.ind (motive := fun y _ => False) (fun h => ?_) (fun _ _ ih => ih) hr
    unfold Need needsOf at h
    cases j with
    | zero => simp at h
    | succ j => simp at h
def oneT1 : List (Int × List Int) := [(1, [])]
def one1 : Gs := gstep oneT1 1 1 (gnew oneT1) 0 0
theorem one_deeds : gdeeds oneT1 1 (gnew oneT1) 0 0 = [(3, 0, 0, 0)] ∧ gdeeds oneT1 1 one1 0 0 = [(4, 0, 0, 0)] ∧ unseen (gnew oneT1).S 1 = 1 ∧ unseen (gstep oneT1 1 1 one1 0 0).S 1 = 0 := by decide +kernel
end Go.Proofs.Ytdhnfgjfihapiaa
