/- The contracts of New, Many, Awake, Sleep. -/
import Derived.Test.YthbcgehmnhlahaaPrkA
import Derived.BigQuiet
namespace Go.Proofs.Ythbcgehmnhlahaa.Prk
open Go.RowKit Go.Deep

def errV (k : Int) : Value := .iface 58 (.int .i64 k)

theorem New_bad (hands : Int) (w : World) (h : hands < 1 ∨ 6 < hands) : Calls Try.prog 8 #[.int .i64 hands] w fun e w' => e = .returned (.tuple #[.pointer none, errV 1]) ∧ w' = w := by
  by_cases h1 : hands < 1
  · go_enter Try.func8, Try.ntmps8
    go_wp2
    go_ret2
    exact ⟨rfl, rfl⟩
  · have h2 : 6 < hands := by omega
    go_enter Try.func8, Try.ntmps8
    go_wp2
    go_ret2
    exact ⟨rfl, rfl⟩
theorem New_good (hands : Nat) (w : World) (h1 : 1 ≤ hands) (h2 : hands ≤ 6) : Calls Try.prog 8 #[.int .i64 hands] w fun e w' => e = .returned (.tuple #[.pointer (some ⟨w.heap.size, 0, none⟩), .nilIface]) ∧ Pk w.heap.size hands [] (.slice none 0 0) w' ∧ Below w.heap.size w w' := by
  have g1 : ¬ (hands : Int) < 1 := by omega
  have g2 : ¬ (6 : Int) < (hands : Int) := by omega
  go_enter Try.func8, Try.ntmps8
  go_wp2
  go_ret2
  refine ⟨rfl, ⟨?_, RowI.nil _ _, h2, by simp, by simp⟩, (Below.refl _ _).alloc (Nat.le_refl _) _⟩
  exact heap_alloc_new w _
theorem take_succ_none (x : Int) (zs : List Int) (k : Nat) (hlt : k < zs.length) (hno : x ∉ zs.take k) (h : zs.getD k 0 ≠ x) : x ∉ zs.take (k + 1) := by
  intro hx
  rw [List.take_succ_eq_append_getElem hlt] at hx
  have he : zs.getD k 0 = zs[k] := by rw [List.getD_eq_getElem?_getD, List.getElem?_eq_getElem hlt]; rfl
  rcases List.mem_append.1 hx with hx | hx
  · exact hno hx
  · exact h (by rw [he]; exact (List.mem_singleton.1 hx).symm)
theorem mem_at {x : Int} {zs : List Int} {k : Nat} (hlt : k < zs.length) (h : zs.getD k 0 = x) : x ∈ zs := by
  rw [List.getD_eq_getElem?_getD, List.getElem?_eq_getElem hlt] at h
  rw [← h]; exact List.getElem_mem hlt
def memB (zs : List Int) (x : Int) : Bool := decide (x ∈ zs)
theorem ret_bool {a b : Bool} (h : a = b) : Ending.returned (.bool a) = .returned (.bool b) := by rw [h]

set_option maxHeartbeats 800000 in
theorem index_any (A : Nat → Prop) (v : Value) (zs : List Int) (x : Int) (w : World) (hz : Rds A w v zs) (hx : zs.length ≤ 1000) :
    Calls Try.prog 30 #[v, .int .i64 x] w fun e w' => (∃ r, e = .returned (.int .i64 r) ∧ decide (0 ≤ r) = memB zs x) ∧ w' = w := by
  obtain ⟨a, c, rfl, -, hz⟩ := hz
  have HZ : Hid (∀ k, k < zs.length → ∃ b o, a = some ⟨b, o, none⟩ ∧ A b ∧ b < w.heap.size ∧ w.cell? ⟨b, o + k, none⟩ = some (.int .i64 (zs.getD k 0))) := hz
  clear hz
  go_enter Try.func30, Try.ntmps30
  go_wp2
  go_loop [8] (fun i => ∃ k : Nat, k ≤ zs.length ∧ i = .int .i64 k ∧ Hid (x ∉ zs.take k)) (fun i => zs.length - (intOf i).toNat)
  case atStart => exact ⟨0, Nat.zero_le _, rfl, by simp [Hid]⟩
  case round =>
    obtain ⟨k, hk, rfl, hno⟩ := hrel
    by_cases hkl : k < zs.length
    · obtain ⟨b, o, rfl, -, -, hck⟩ := HZ.out k hkl
      generalize hy : zs.getD k 0 = y at hck
      have HY : Hid (zs.getD k 0 = y) := hy
      clear hy
      by_cases e : x = y
      · have he : (x == y) = true := by simp [e]
        have HM : Hid (x ∈ zs) := mem_at hkl (HY.out.trans e.symm)
        clear e
        go_wp2
        go_ret
        exact ⟨⟨_, rfl, by simp [memB, HM.out]⟩, rfl⟩
      · have he : (x == y) = false := by simp [e]
        have HM : Hid (x ∉ zs.take (k + 1)) := take_succ_none x zs k hkl hno.out (by rw [HY.out]; exact fun h => e h.symm)
        clear e
        go_wp2
        go_round
        case rel => exact ⟨k + 1, by omega, by go_num, HM⟩
        case measure => simp [intOf]; omega
    · have HM : Hid (x ∉ zs) := by have := hno.out; rwa [List.take_of_length_le (by omega)] at this
      go_wp2
      go_ret
      exact ⟨⟨_, rfl, by simp [memB, HM.out]⟩, rfl⟩
theorem contains_any (A : Nat → Prop) (v : Value) (zs : List Int) (x : Int) (w : World) (hz : Rds A w v zs) (hx : zs.length ≤ 1000) :
    Calls Try.prog 20 #[v, .int .i64 x] w fun e w' => e = .returned (.bool (memB zs x)) ∧ w' = w := by
  have hcall := index_any A v zs x w hz hx
  generalize memB zs x = m at hcall ⊢
  clear hz hx
  go_enter Try.func20, Try.ntmps20
  go_wp2_with fail
  refine hcall.mono ?_
  rintro e w' ⟨⟨r, rfl, hr⟩, rfl⟩
  by_cases h : 0 ≤ r
  · have hm : m = true := by rw [← hr]; simp [h]
    clear hcall hr
    go_wp2
    go_ret
    exact ⟨ret_bool hm.symm, rfl⟩
  · have hm : m = false := by rw [← hr]; simp; omega
    clear hcall hr
    go_wp2
    go_ret
    exact ⟨ret_bool (by rw [hm]; simp; omega), rfl⟩

theorem Awake_bad (S hands : Nat) (xs : List Int) (v : Value) (h : Int) (w : World) (hp : Pk S hands xs v w) (hh : h < 0 ∨ (hands : Int) ≤ h) :
    Calls Try.prog 14 #[.pointer (some ⟨S, 0, none⟩), .int .i64 h] w fun e w' => e = .returned (.tuple #[.bool false, errV 1]) ∧ w' = w := by
  have hc := hp.c0
  have h6 := hp.six
  clear hp
  by_cases h1 : h < 0
  · go_enter Try.func14, Try.ntmps14
    go_wp2
    go_ret2
    exact ⟨rfl, rfl⟩
  · have h2 : (hands : Int) ≤ h := by omega
    go_enter Try.func14, Try.ntmps14
    go_wp2
    go_ret2
    exact ⟨rfl, rfl⟩
theorem Awake_good (S hands : Nat) (xs : List Int) (v : Value) (h : Int) (w : World) (hp : Pk S hands xs v w) (h0 : 0 ≤ h) (hh : h < (hands : Int)) :
    Calls Try.prog 14 #[.pointer (some ⟨S, 0, none⟩), .int .i64 h] w fun e w' => e = .returned (.tuple #[.bool (!memB xs h), .nilIface]) ∧ w' = w := by
  have hc := hp.c0
  have hc1 := hp.c1
  have h6 := hp.six
  have hct := contains_any _ v xs h w hp.row.rds (by have := hp.le; omega)
  obtain ⟨a, c, rfl⟩ := hp.row.shape
  generalize memB xs h = m at hct ⊢
  clear hp
  have g1 : ¬ h < 0 := by omega
  have g2 : ¬ (hands : Int) ≤ h := by omega
  go_enter Try.func14, Try.ntmps14
  go_wp2_with (first | (go_at_call 20; refine hct.mono ?_; clear hct; rintro e w' ⟨rfl, rfl⟩))
  go_ret2
  exact ⟨rfl, rfl⟩

theorem Sleep_bad (S hands : Nat) (xs : List Int) (v : Value) (h : Int) (w : World) (hp : Pk S hands xs v w) (hh : h < 0 ∨ (hands : Int) ≤ h) :
    Calls Try.prog 26 #[.pointer (some ⟨S, 0, none⟩), .int .i64 h] w fun e w' => e = .returned (errV 1) ∧ w' = w := by
  have ha := Awake_bad S hands xs v h w hp hh
  unfold errV at ha
  clear hp hh
  go_enter Try.func26, Try.ntmps26
  go_wp2_with (first | (go_at_call 14; refine ha.mono ?_; clear ha; rintro e w' ⟨rfl, rfl⟩))
  go_ret
  exact ⟨rfl, rfl⟩
theorem Sleep_state (S hands : Nat) (xs : List Int) (v : Value) (h : Int) (w : World) (hp : Pk S hands xs v w) (hx : h ∈ xs) :
    Calls Try.prog 26 #[.pointer (some ⟨S, 0, none⟩), .int .i64 h] w fun e w' => e = .returned (errV 6) ∧ w' = w := by
  have hr := hp.rng h hx
  have ha := Awake_good S hands xs v h w hp hr.1 hr.2
  have hm : memB xs h = true := by simp [memB, hx]
  rw [hm] at ha
  simp only [Bool.not_true] at ha
  clear hp hr hm hx
  go_enter Try.func26, Try.ntmps26
  go_wp2_with (first | (go_at_call 14; refine ha.mono ?_; clear ha; rintro e w' ⟨rfl, rfl⟩))
  go_ret
  exact ⟨rfl, rfl⟩
theorem RowI.whole (w : World) (N n : Nat) (ys : List Int) (hn : ys.length = n) (h60 : n ≤ 60) (h : w.heap[N]? = some (.cells (ys.map (Value.int .i64)).toArray 3 (0, 0))) : RowI N w (.slice (some ⟨N, 0, none⟩) n n) ys := by
  subst hn
  exact ⟨by simp, Or.inr ⟨N, _, _, rfl, Nat.le_refl _, h, Nat.le_refl _, by unfold maxLen; omega, by simp, by simp [List.take_of_length_le]⟩⟩
theorem one_rds (w : World) (x : Int) : Rds (fun _ => True) (w.alloc (.cells #[.int .i64 x] 3)) (.slice (some ⟨w.heap.size, 0, none⟩) 1 1) [x] :=
  ((RowI.whole _ _ 1 _ rfl (by omega) (heap_alloc_new w _)).rds).mono (fun _ _ => trivial)
theorem Sleep_good (S hands : Nat) (xs : List Int) (v : Value) (h : Int) (w : World) (hp : Pk S hands xs v w) (h0 : 0 ≤ h) (hh : h < (hands : Int)) (hx : h ∉ xs) :
    Calls Try.prog 26 #[.pointer (some ⟨S, 0, none⟩), .int .i64 h] w fun e w' => e = .returned .nilIface ∧ ∃ v', Pk S hands (xs ++ [h]) v' w' ∧ Ks S v.ownBlock w w' ∧ Near w.heap.size v v' := by
  have ha := Awake_good S hands xs v h w hp h0 hh
  have hm : memB xs h = false := by simp [memB, hx]
  rw [hm] at ha
  simp only [Bool.not_false] at ha
  have HS : Hid (Pk S hands xs v w) := hp
  have HX : Hid (h ∉ xs ∧ 0 ≤ h ∧ h < (hands : Int)) := ⟨hx, h0, hh⟩
  have hlt := hp.lt
  have hle := hp.le
  have hc := hp.c1
  have h6 := hp.six
  have hca : (w.alloc (.cells #[.int .i64 h] 3)).cell? ⟨S, 1, none⟩ = some v := (hp.alloc _).c1
  obtain ⟨a, c, rfl⟩ := hp.row.shape
  have HO : Hid (Rds (fun _ => True) (w.alloc (.cells #[.int .i64 h] 3)) (.slice (some ⟨w.heap.size, 0, none⟩) 1 1) [h]) := one_rds w h
  clear hp hm hx h0 hh
  go_enter Try.func26, Try.ntmps26
  go_wp2_with (first | (go_at_call 14; refine ha.mono ?_; clear ha; rintro e w ⟨rfl, rfl⟩) | (at_builtin; go_loud (refine wpList_append_rows rfl (.tmp 23) (.tmp 25) rfl (S + 1) (fun _ => True) (.slice a xs.length c) (.slice (some ⟨w.heap.size, 0, none⟩) 1 1) xs [h] rfl rfl (HS.out.alloc _).row HO.out (by simp; omega) (by simp; omega) ?_; intro v2 w2 hown hgr hat; obtain ⟨a2, c2, rfl⟩ := hown.shape; rw [List.length_append] at hown hat; have hbk := (hgr.block S (by simp; omega) (fun e => by have := (HS.out.row.low e.symm).1; omega)).trans (Below.heap_alloc _ _ _ hlt); have hz2 := (World.frozen?_of_block (a := ⟨S, 1, none⟩) hbk).trans (HS.out.fz 1); have hc2 := (World.cell?_of_block (a := ⟨S, 1, none⟩) hbk).trans hc; clear hc hca)))
  go_ret
  have hk : Ks S (Value.slice a xs.length c).ownBlock w w2 := ((Ks.refl _ _ _).alloc _).grown hgr (fun j e => Or.inl e)
  refine ⟨rfl, _, HS.out.set hbk hown (List.nodup_append.2 ⟨HS.out.nd, by simp, fun x hx y hy e => ?_⟩) (fun x hx => ?_), hk.setS _ _, fun k e => ?_⟩
  · rw [List.mem_singleton.1 hy] at e
    exact HX.out.1 (e ▸ hx)
  · rcases List.mem_append.1 hx with hx | hx
    · exact HS.out.rng x hx
    · rw [List.mem_singleton.1 hx]; exact HX.out.2
  · rcases hat with h1 | h1
    · exact Or.inl (h1.symm.trans e)
    · have e2 := h1.symm.trans e
      simp at e2
      exact Or.inr (by omega)
end Go.Proofs.Ythbcgehmnhlahaa.Prk
