/- What an order is; the contract of All. -/
import Derived.Test.YtjojfnppegfmnaaClg
import Derived.Test.YtjojfnppegfmnaaClh
namespace Go.Proofs.Ytjojfnppegfmnaa
open Go.RowKit Go.Deep

theorem needs_len {ts : List (Int × List Int)} (h : ∀ j, j < ts.length → errOf ts j = 0) {k : Nat} (hk : k < ts.length) : (needsOf ts k).length ≤ ts.length := by
  have hr := inRange_of h k hk
  have hu : rising (needsOf ts k) = true := by
    have he := h k hk
    unfold errOf taskErr at he
    split at he
    · simp at he
    · split at he
      · simp at he
      · split at he
        · assumption
        · simp at he
  have hs := (rising_iff _).1 hu
  have hge : ∀ j, j < (needsOf ts k).length → (j : Int) ≤ (needsOf ts k).getD j 0 := by
    intro j
    induction j with
    | zero => intro hj; exact (hr _ (getD_memC 0 hj)).1
    | succ j ih =>
      intro hj
      have h1 := ih (by omega)
      have h2 := hs j hj
      omega
  rcases Nat.eq_zero_or_pos (needsOf ts k).length with h0 | h0
  · omega
  · have h1 := hge ((needsOf ts k).length - 1) (by omega)
    have h2 := (hr _ (getD_memC 0 (show (needsOf ts k).length - 1 < (needsOf ts k).length by omega))).2
    omega
/-- In an order each stands once, behind those that it needs. -/
theorem OrdIs.at {ts : List (Int × List Int)} {ord : List Nat} (h : OrdIs ts ord) {m : Nat} (hm : m < ord.length) : ord.getD m 0 < ts.length ∧ ¬ ord.getD m 0 ∈ ord.take m ∧ ∀ y, Need ts (ord.getD m 0) y → y ∈ ord.take m := by
  rcases h.1 m hm with ⟨k, hk, _, hf, he⟩ | ⟨_, he⟩
  · have hke : ord.getD m 0 = k := by omega
    rw [hke]
    unfold freeB at hf
    rw [Bool.and_eq_true] at hf
    obtain ⟨h1, h2⟩ := hf
    refine ⟨hk, fun hc => ?_, fun y hy => ?_⟩
    · have : has (ord.take m) k = true := by unfold has; exact List.contains_iff_mem.2 hc
      rw [this] at h1
      simp at h1
    · apply Classical.byContradiction
      intro hc
      have hc2 : has (ord.take m) y = false := by
        cases e : has (ord.take m) y with
        | false => rfl
        | true => unfold has at e; exact absurd (List.contains_iff_mem.1 e) hc
      have : (needsOf ts k).any (fun y => !has (ord.take m) y.toNat) = true := List.any_eq_true.2 ⟨(y : Int), hy, by simp [hc2]⟩
      rw [this] at h2
      simp at h2
  · omega
theorem OrdIs.nodup {ts : List (Int × List Int)} {ord : List Nat} (h : OrdIs ts ord) : ord.Nodup := by
  refine List.pairwise_iff_getElem.2 fun i j hi hj hij e => ?_
  have h1 := (h.at hj).2.1
  rw [List.getD_eq_getElem?_getD, List.getElem?_eq_getElem hj] at h1
  refine h1 ?_
  show ord[j] ∈ ord.take j
  rw [← e]
  exact List.mem_take_iff_getElem.2 ⟨i, by omega, rfl⟩
theorem OrdIs.behind {ts : List (Int × List Int)} {ord : List Nat} (h : OrdIs ts ord) : Behind ts ord := fun _ hm => (h.at hm).2.2
theorem OrdIs.below {ts : List (Int × List Int)} {ord : List Nat} (h : OrdIs ts ord) : ∀ x, x ∈ ord → x < ts.length := fun x hx => by
  obtain ⟨j, hj, rfl⟩ := List.getElem_of_mem hx
  have := (h.at hj).1
  rw [List.getD_eq_getElem?_getD, List.getElem?_eq_getElem hj] at this
  exact this
theorem OrdIs.mem {ts : List (Int × List Int)} {ord : List Nat} (h : OrdIs ts ord) (hr : InRange ts) (hno : ∀ j, j < ts.length → ¬ Reach ts j j) : ∀ x, x < ts.length → x ∈ ord := fun x hx => by
  have := h.all hr hno x hx
  unfold has at this
  exact List.contains_iff_mem.1 this
/-- The ops by number. -/
def opOf (os : List Opn) : Nat → Opn := fun k => os.getD k (0, 0)
/-- What is wrong with a plan, and its ops. -/
def allErr (q : Int) (n : Nat) (os : List Opn) : Int := if q = 0 then opsErr n os else q
theorem opsErr_zero {n : Nat} {os : List Opn} (h : opsErr n os = 0) : os.length = n ∧ ∀ k, k < n → opErr (os.getD k (0, 0)) = 0 := by
  unfold opsErr at h
  split at h
  · rename_i hn
    exact ⟨hn, fun k hk => firstBad_zero.1 h _ (getD_memC (0, 0) (by omega))⟩
  · omega
/-- What All hands back. -/
def AllOut (ts : List (Int × List Int)) (os : List Opn) (e : Ending) (w' : World) : Prop :=
  ∃ p q, CheckIs ts p q ∧ ((allErr q ts.length os ≠ 0 ∧ e = .returned (.tuple #[.slice none 0 0, errV (allErr q ts.length os)])) ∨
    (q = 0 ∧ opsErr ts.length os = 0 ∧ ∃ ord g, OrdIs ts ord ∧ e = .returned (.tuple #[.slice (some ⟨g, 0, none⟩) ts.length ts.length, .nilIface]) ∧ w'.rowIs g 64 (ts.length * 2) (cellRow (alongC ts (fun k => os.getD k (0, 0)) ord))))

set_option maxRecDepth 100000 in
set_option maxHeartbeats 2000000 in
theorem cAll_any (pv ov : Value) (ts : List (Int × List Int)) (os : List Opn) (w : World) (hp : PlanAt w pv ts) (ho : OpsAt w ov os) :
    Calls Try.prog 6 #[pv, ov] w fun e w' => AllOut ts os e w' ∧ Below w.heap.size w w' := by
  have hor := order_any pv ts w hp
  have HP : Hid (PlanAt w pv ts) := hp
  have HO : Hid (OpsAt w ov os) := ho
  obtain ⟨_, pa, pc, rfl, _⟩ := hp
  obtain ⟨_, oa, oc, rfl, _⟩ := ho
  go_enter Try.func6, Try.ntmps6
  go_wp2_with fail
  refine hor.mono ?_
  clear hor
  rintro e w1 ⟨⟨p, q, hck, hcase⟩, hb⟩
  have HCK : Hid (CheckIs ts p q) := hck
  rcases hcase with ⟨hq, rfl⟩ | ⟨hq, ord, rv, rfl, hord, hints⟩
  · have HE : Hid (∀ u w', u = errV q → AllOut ts os (.returned (.tuple #[.slice none 0 0, u])) w') := fun u w' hu => by
      have e : allErr q ts.length os = q := by unfold allErr; rw [if_neg hq]
      exact ⟨p, q, HCK.out, Or.inl ⟨by rw [e]; exact hq, by rw [hu, e]⟩⟩
    rw [errV_some hq] at HE ⊢
    clear hck hq
    go_wp2
    go_ret2
    exact ⟨HE.out _ _ rfl, hb⟩
  · subst hq
    obtain ⟨-, h30, herr, hno⟩ := hck.ok rfl
    have hco := checkOps_any _ _ ts os w1 (HP.out.later hb) (HO.out.later hb)
    by_cases hq : opsErr ts.length os = 0
    · obtain ⟨hm, hop⟩ := opsErr_zero hq
      rw [hq, errV_zero] at hco
      have HAL : Hid (∀ w2, Below w1.heap.size w1 w2 → Calls Try.prog 19 #[.slice pa ts.length pc, .slice oa os.length oc, rv] w2 fun e w' => e = .returned (.slice (some ⟨w2.heap.size, 0, none⟩) ts.length ts.length) ∧ w'.rowIs w2.heap.size 64 (ts.length * 2) (cellRow (alongC ts (fun k => os.getD k (0, 0)) ord)) ∧ Below w2.heap.size w2 w') := fun w2 hb2 =>
        along_any _ _ _ ts os ord w2 ((HP.out.later hb).later hb2) ((HO.out.later hb).later hb2) (hints.later hb2) h30 (inRange_of herr) hm hord.below hop (fun k hk => Nat.le_trans (needs_len herr hk) (by omega))
      have HZ : Hid (∀ g w', w'.rowIs g 64 (ts.length * 2) (cellRow (alongC ts (fun k => os.getD k (0, 0)) ord)) → AllOut ts os (.returned (.tuple #[.slice (some ⟨g, 0, none⟩) ts.length ts.length, .nilIface])) w') := fun g w' h => ⟨p, 0, HCK.out, Or.inr ⟨rfl, hq, ord, g, hord, rfl, h⟩⟩
      clear hq hm hop hints hord hck herr hno
      go_wp2_with (first | (go_at_call 18; refine hco.mono ?_; clear hco; rintro e w2 ⟨rfl, hb2⟩; have hal := HAL.out w2 hb2) | (go_at_call 19; refine hal.mono ?_; clear hal; rintro e w3 ⟨rfl, hrow3, hb3⟩; have HR3 := HZ.out _ w3 hrow3; clear hrow3))
      go_ret2
      exact ⟨HR3, hb.trans ((hb2.trans (hb3.mono hb2.size)).mono hb.size)⟩
    · have HE : Hid (∀ u w', u = errV (opsErr ts.length os) → AllOut ts os (.returned (.tuple #[.slice none 0 0, u])) w') := fun u w' hu =>
        ⟨p, 0, HCK.out, Or.inl ⟨hq, by rw [hu]; rfl⟩⟩
      rw [errV_some hq] at HE hco
      clear hck hq hints hord herr hno
      generalize opsErr ts.length os = q at *
      go_wp2_with (go_at_call 18; refine hco.mono ?_; clear hco; rintro e w2 ⟨rfl, hb2⟩)
      go_ret2
      exact ⟨HE.out _ _ rfl, hb.trans (hb2.mono hb.size)⟩
end Go.Proofs.Ytjojfnppegfmnaa
