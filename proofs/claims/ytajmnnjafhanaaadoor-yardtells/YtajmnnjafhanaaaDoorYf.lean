/- The contracts of isWrong, waits, isMany, slices.IndexFunc and ContainsFunc at jobs, and Check. -/
import Derived.Test.YtajmnnjafhanaaaDoorYd
namespace Go.Proofs.YtajmnnjafhanaaaDoor
open Go.RowKit Go.Deep

/-- What is asked of a predicate of jobs. -/
def PredJ (g : Nat) (p : Int → Int → Bool) : Prop :=
  (∀ args w, (callFunc g args).run Tryd.prog w = .ok (.enter g args) w) ∧ ∀ x y w, Calls Tryd.prog g #[.agg #[.int .i64 x, .int .i64 y]] w fun e w' => e = .returned (.bool (p x y)) ∧ Below w.heap.size w w'
def anyJ (p : Int → Int → Bool) (gs : List Jb) : Bool := (List.range gs.length).any (fun k => p (wgtJ gs k) (wtsJ gs k))
theorem anyJ_hit {p : Int → Int → Bool} {gs : List Jb} {k : Nat} (hk : k < gs.length) (h : p (wgtJ gs k) (wtsJ gs k) = true) : anyJ p gs = true := List.any_eq_true.2 ⟨k, List.mem_range.2 hk, h⟩
theorem anyJ_miss {p : Int → Int → Bool} {gs : List Jb} (h : ∀ k, k < gs.length → p (wgtJ gs k) (wtsJ gs k) = false) : anyJ p gs = false := by
  cases e : anyJ p gs with
  | false => rfl
  | true =>
    obtain ⟨k, hk, hp⟩ := List.any_eq_true.1 e
    rw [h k (List.mem_range.1 hk)] at hp
    cases hp
theorem anyJ_none {p : Int → Int → Bool} {gs : List Jb} (h : anyJ p gs = false) : ∀ k, k < gs.length → p (wgtJ gs k) (wtsJ gs k) = false := fun k hk => by
  cases e : p (wgtJ gs k) (wtsJ gs k) with
  | false => rfl
  | true => rw [anyJ_hit hk e] at h; cases h
theorem anyJ_some {p : Int → Int → Bool} {gs : List Jb} (h : anyJ p gs = true) : ∃ k, k < gs.length ∧ p (wgtJ gs k) (wtsJ gs k) = true := by
  obtain ⟨k, hk, hp⟩ := List.any_eq_true.1 h
  exact ⟨k, List.mem_range.1 hk, hp⟩
def badJ (x y : Int) : Bool := !(decide (1 ≤ x) && decide (x ≤ 20) && (decide (0 ≤ y) && decide (y ≤ 10000)))
def waitJ (_ y : Int) : Bool := decide (0 < y)

theorem new_job (w : World) (x y : Int) : (w.alloc (.cells #[.int .i64 x, .int .i64 y] 36)).cell? ⟨w.heap.size, 0, none⟩ = some (.int .i64 x) ∧ (w.alloc (.cells #[.int .i64 x, .int .i64 y] 36)).cell? ⟨w.heap.size, 1, none⟩ = some (.int .i64 y) := by
  unfold World.cell?
  dsimp only
  rw [blk_alloc_new]
  exact ⟨rfl, rfl⟩
set_option maxRecDepth 100000 in
set_option maxHeartbeats 1000000 in
theorem waits_any : PredJ 16 waitJ := by
  refine ⟨enters_of Tryd.func16 (by kernel_rfl) rfl, fun x y w => ?_⟩
  have HB : Hid (Below w.heap.size w (w.alloc (.cells #[.int .i64 x, .int .i64 y] 36))) := (Below.refl _ _).alloc (Nat.le_refl _) _
  go_enter Tryd.func16, Tryd.ntmps16
  go_wp2
  go_ret
  exact ⟨by unfold waitJ; rfl, HB.out⟩
set_option maxRecDepth 100000 in
set_option maxHeartbeats 1000000 in
theorem isWrong_any : PredJ 14 badJ := by
  refine ⟨enters_of Tryd.func14 (by kernel_rfl) rfl, fun x y w => ?_⟩
  have HB : Hid (∀ q, Below w.heap.size w ((w.alloc (.cells #[.int .i64 x, .int .i64 y] 36)).drewN q)) := fun q => ((Below.refl _ _).alloc (Nat.le_refl _) _).trans ((drawn_below _ q).mono (by simp))
  by_cases h1 : x < 1
  · have HE : Hid (badJ x y = true) := by show _ = _; unfold badJ; simp; omega
    go_enter Tryd.func14, Tryd.ntmps14
    go_wp2
    go_ret
    exact ⟨by rw [HE.out]; rfl, HB.out 0⟩
  · by_cases h2 : 20 < x
    · have HE : Hid (badJ x y = true) := by show _ = _; unfold badJ; simp; omega
      go_enter Tryd.func14, Tryd.ntmps14
      go_wp2
      go_ret
      exact ⟨by rw [HE.out]; rfl, HB.out 0⟩
    · by_cases h3 : y < 0
      · have HE : Hid (badJ x y = true) := by show _ = _; unfold badJ; simp; omega
        go_enter Tryd.func14, Tryd.ntmps14
        go_wp2
        go_ret
        exact ⟨by rw [HE.out]; rfl, HB.out 0⟩
      · by_cases h4 : 10000 < y
        · have HE : Hid (badJ x y = true) := by show _ = _; unfold badJ; simp; omega
          go_enter Tryd.func14, Tryd.ntmps14
          go_wp2
          go_ret
          exact ⟨by rw [HE.out]; rfl, HB.out 0⟩
        · have HE : Hid (badJ x y = false) := by show _ = _; unfold badJ; simp; omega
          go_enter Tryd.func14, Tryd.ntmps14
          go_wp2
          go_ret
          exact ⟨by rw [HE.out]; rfl, HB.out 0⟩
def manyB (n : Int) : Bool := decide (0 ≤ n) && decide (n ≤ 1000)
set_option maxRecDepth 100000 in
theorem isMany_any (n : Int) (w : World) : Calls Tryd.prog 15 #[.int .i64 n] w fun e w' => e = .returned (.bool (manyB n)) ∧ w' = w := by
  by_cases h1 : 0 ≤ n
  · by_cases h2 : n ≤ 1000
    · have HE : Hid (manyB n = true) := by show _ = _; unfold manyB; simp; omega
      go_enter Tryd.func15, Tryd.ntmps15
      go_wp2
      go_ret
      exact ⟨by rw [HE.out]; rfl, rfl⟩
    · have HE : Hid (manyB n = false) := by show _ = _; unfold manyB; simp; omega
      go_enter Tryd.func15, Tryd.ntmps15
      go_wp2
      go_ret
      exact ⟨by rw [HE.out]; rfl, rfl⟩
  · have HE : Hid (manyB n = false) := by show _ = _; unfold manyB; simp; omega
    go_enter Tryd.func15, Tryd.ntmps15
    go_wp2
    go_ret
    exact ⟨by rw [HE.out]; rfl, rfl⟩

/-- Where the first is that is so. -/
def IdxJ (p : Int → Int → Bool) (gs : List Jb) (r : Int) : Prop :=
  (∃ k : Nat, r = k ∧ k < gs.length ∧ p (wgtJ gs k) (wtsJ gs k) = true) ∨ (r = -1 ∧ ∀ j, j < gs.length → p (wgtJ gs j) (wtsJ gs j) = false)
set_option maxRecDepth 100000 in
set_option maxHeartbeats 1000000 in
theorem indexJ_any (g : Nat) (p : Int → Int → Bool) (hp : PredJ g p) (v : Value) (gs : List Jb) (w : World) (hc : JobsAt w v gs) :
    Calls Tryd.prog 20 #[v, .func (.func g) #[] #[]] w fun e w' => (∃ r, e = .returned (.int .i64 r) ∧ IdxJ p gs r) ∧ Below w.heap.size w w' := by
  obtain ⟨hl, a, c, rfl, hc⟩ := hc
  obtain ⟨ef, hp⟩ := hp
  have HP : Hid (∀ x y w, Calls Tryd.prog g #[.agg #[.int .i64 x, .int .i64 y]] w fun e w' => e = .returned (.bool (p x y)) ∧ Below w.heap.size w w') := hp
  clear hp
  go_enter Tryd.func20, Tryd.ntmps20
  go_wp2
  go_loopw [8] (fun s8 wr => ∃ k : Nat, k ≤ gs.length ∧ s8 = .int .i64 k ∧ Hid (∀ j, j < k → p (wgtJ gs j) (wtsJ gs j) = false) ∧ Below w.heap.size w wr) (fun s8 _ => gs.length - (intOf s8).toNat)
  case atStart => exact ⟨0, Nat.zero_le _, rfl, fun j hj => by omega, Below.refl _ _⟩
  case round =>
    obtain ⟨k, hk, rfl, hno, hb⟩ := hrel
    by_cases hkl : k < gs.length
    · rcases hc with rfl | ⟨b, o, rfl, hbl, hc⟩
      · simp at hkl
      obtain ⟨hc1, hc2⟩ := hc k hkl
      have hc1' := (hb.cell (p := ⟨b, o + k * 2, none⟩) hbl).trans hc1
      have hc2' := (hb.cell (p := ⟨b, o + k * 2 + 1, none⟩) hbl).trans hc2
      clear hc hc1 hc2
      have hcall := HP.out (wgtJ gs k) (wtsJ gs k) wr
      cases hf : p (wgtJ gs k) (wtsJ gs k)
      · have HF : Hid (∀ j, j < k + 1 → p (wgtJ gs j) (wtsJ gs j) = false) := fun j hj => by
          by_cases e : j = k
          · rw [e]; exact hf
          · exact hno.out j (by omega)
        rw [hf] at hcall
        clear hf hno
        generalize wgtJ gs k = x at *
        generalize wtsJ gs k = y at *
        go_wp2_with (go_at_fn g; refine hcall.mono ?_; rintro e w2 ⟨rfl, hb2⟩)
        go_roundw
        case rel => exact ⟨k + 1, by omega, by go_num, HF, hb.trans (hb2.mono hb.size)⟩
        case measure => simp [intOf]; omega
      · have HF : Hid (IdxJ p gs k) := Or.inl ⟨k, rfl, hkl, hf⟩
        rw [hf] at hcall
        clear hf hno
        generalize wgtJ gs k = x at *
        generalize wtsJ gs k = y at *
        go_wp2_with (go_at_fn g; refine hcall.mono ?_; rintro e w2 ⟨rfl, hb2⟩)
        go_ret
        exact ⟨⟨_, rfl, HF.out⟩, hb.trans (hb2.mono hb.size)⟩
    · clear hc
      have HF : Hid (IdxJ p gs (-1)) := Or.inr ⟨rfl, fun j hj => hno.out j (by omega)⟩
      go_wp2
      go_ret
      exact ⟨⟨_, rfl, HF.out⟩, hb⟩
theorem idxJ_any {p : Int → Int → Bool} {gs : List Jb} {r : Int} (h : IdxJ p gs r) : decide (0 ≤ r) = anyJ p gs := by
  rcases h with ⟨k, rfl, hk, hp⟩ | ⟨rfl, h⟩
  · rw [anyJ_hit hk hp]; simp
  · rw [anyJ_miss h]; rfl
set_option maxRecDepth 100000 in
theorem containsJ_any (g : Nat) (p : Int → Int → Bool) (hp : PredJ g p) (v : Value) (gs : List Jb) (w : World) (hc : JobsAt w v gs) :
    Calls Tryd.prog 13 #[v, .func (.func g) #[] #[]] w fun e w' => e = .returned (.bool (anyJ p gs)) ∧ Below w.heap.size w w' := by
  have hix := indexJ_any g p hp v gs w hc
  clear hp
  obtain ⟨hl, a, c, rfl, hc⟩ := hc
  clear hc
  go_enter Tryd.func13, Tryd.ntmps13
  go_wp2_with (go_at_call 20; refine hix.mono ?_; clear hix; rintro e w2 ⟨⟨r, rfl, hF⟩, hb2⟩; have HF : Hid (decide (0 ≤ r) = anyJ p gs) := idxJ_any hF; clear hF)
  go_ret
  exact ⟨ret_bool HF.out, hb2⟩
theorem anyJ_bad {gs : List Jb} (hl : ¬ 6 < gs.length) : (anyJ badJ gs = true ∧ jobErr gs = 1) ∨ (anyJ badJ gs = false ∧ jobErr gs = 0) := by
  have hk : ∀ k, badJ (wgtJ gs k) (wtsJ gs k) = !okJ gs k := fun k => rfl
  cases e : anyJ badJ gs with
  | true =>
    left
    obtain ⟨k, hkl, hp⟩ := anyJ_some e
    rw [hk] at hp
    exact ⟨rfl, jobErr_bad hl hkl (by simpa using hp)⟩
  | false =>
    right
    refine ⟨rfl, jobErr_ok hl (fun k hkl => ?_)⟩
    have := anyJ_none e k hkl
    rw [hk] at this
    simpa using this
set_option maxRecDepth 100000 in
set_option maxHeartbeats 1000000 in
theorem check_any (v : Value) (gs : List Jb) (w : World) (hg : JobsAt w v gs) :
    Calls Tryd.prog 6 #[v] w fun e w' => e = .returned (errV (jobErr gs)) ∧ Below w.heap.size w w' := by
  have hct := containsJ_any _ _ isWrong_any v gs w hg
  obtain ⟨hl, a, c, rfl, hg⟩ := hg
  clear hg
  by_cases h6 : 6 < gs.length
  · have hfi : (6 : Int) < (gs.length : Int) := by omega
    rw [jobErr_full h6]
    clear hct
    go_enter Tryd.func6, Tryd.ntmps6
    go_wp2
    go_ret
    exact ⟨rfl, Below.refl _ _⟩
  · have hfi : ¬ (6 : Int) < (gs.length : Int) := by omega
    rcases anyJ_bad h6 with ⟨h1, h2⟩ | ⟨h1, h2⟩
    · rw [h2]
      rw [h1] at hct
      clear h1 h2
      go_enter Tryd.func6, Tryd.ntmps6
      go_wp2_with (go_at_call 13; refine hct.mono ?_; clear hct; rintro e w2 ⟨rfl, hb2⟩)
      go_ret
      exact ⟨rfl, hb2⟩
    · rw [h2]
      rw [h1] at hct
      clear h1 h2
      go_enter Tryd.func6, Tryd.ntmps6
      go_wp2_with (go_at_call 13; refine hct.mono ?_; clear hct; rintro e w2 ⟨rfl, hb2⟩)
      go_ret
      exact ⟨rfl, hb2⟩
end Go.Proofs.YtajmnnjafhanaaaDoor
