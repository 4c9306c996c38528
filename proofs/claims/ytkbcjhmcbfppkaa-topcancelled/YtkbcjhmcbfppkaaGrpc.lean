/- Plain: the tasks that live take no more work, and no longer way. No word of the program. -/
import Derived.Test.YtkbcjhmcbfppkaaGrpb
import Derived.Test.YtkbcjhmcbfppkaaDa
namespace Go.Proofs.Ytkbcjhmcbfppkaa

theorem sub_wk {ts : List (Int × List Int)} {L : Nat → Bool} {a k : Nat} (h : (origs L ts.length)[a]? = some k) : wkOf (subTs ts L) a = wkOf ts k := by
  unfold wkOf
  rw [subTs_at h]
/-- The works of those that live, up to a place. -/
theorem sub_workTo {ts : List (Int × List Int)} {L : Nat → Bool} (hw : ∀ x, x < ts.length → 0 ≤ wkOf ts x) : ∀ k, k ≤ ts.length → workTo (subTs ts L) (cnt L k) ≤ workTo ts k := by
  intro k
  induction k with
  | zero => intro _; exact Int.le_refl _
  | succ k ih =>
    intro hk
    have h1 := ih (by omega)
    have h2 := hw k (by omega)
    cases hL : L k with
    | false =>
      have e : cnt L (k + 1) = cnt L k := by rw [cnt, hL]; rfl
      rw [e, workTo]
      omega
    | true =>
      have e : cnt L (k + 1) = cnt L k + 1 := by rw [cnt, hL]; rfl
      rw [e, workTo, workTo, sub_wk (origs_at (by omega) hL)]
      omega
theorem sub_work {ts : List (Int × List Int)} {L : Nat → Bool} (hw : ∀ x, x < ts.length → 0 ≤ wkOf ts x) : workTo (subTs ts L) (subTs ts L).length ≤ workTo ts ts.length := by
  rw [subTs_length]
  exact sub_workTo hw _ (Nat.le_refl _)
/-- No tail is longer than it was. -/
theorem sub_tail {ts : List (Int × List Int)} {L : Nat → Bool} {R T R' T' : Nat → Int} (hd : Deep ts R T) (hd' : Deep (subTs ts L) R' T') (hcl : ∀ k, k < ts.length → L k = true → ∀ n, Need ts k n → L n = true) :
    ∀ (m a k : Nat), (T' a).toNat ≤ m → (origs L ts.length)[a]? = some k → T' a ≤ T k := by
  intro m
  induction m with
  | zero =>
    intro a k hm hk
    have hal : a < (subTs ts L).length := by rw [subTs_length, ← origs_length]; exact (List.getElem?_eq_some_iff.1 hk).1
    have h1 := hd'.twk a hal
    have h2 := (hd'.wk a hal).1
    omega
  | succ m ih =>
    intro a k hm hk
    have hal : a < (subTs ts L).length := by rw [subTs_length, ← origs_length]; exact (List.getElem?_eq_some_iff.1 hk).1
    have hkl := (origs_mem hk).1
    rcases hd'.teq a hal with e | ⟨b, hb, hn, e⟩
    · rw [e, sub_wk hk]; exact hd.twk k hkl
    · obtain ⟨j, hj⟩ := sub_orig hb
      obtain ⟨k2, hk2, hn2⟩ := sub_need hd.rng hcl hj hn
      rw [hk] at hk2
      obtain rfl : k = k2 := Option.some.inj hk2
      have h1 := (hd'.wk a hal).1
      have h2 := hd'.tlow b
      have h3 := ih b j (by omega) hj
      have h4 := hd.tup j (origs_mem hj).1 k hn2
      rw [e, sub_wk hk]
      omega
theorem sub_span {ts : List (Int × List Int)} {L : Nat → Bool} {R T R' T' : Nat → Int} (hd : Deep ts R T) (hd' : Deep (subTs ts L) R' T') (hcl : ∀ k, k < ts.length → L k = true → ∀ n, Need ts k n → L n = true) : maxTo T' (subTs ts L).length ≤ maxTo T ts.length := by
  refine maxTo_le T' _ _ (maxTo_nonneg T _) (fun a ha => ?_)
  obtain ⟨k, hk⟩ := sub_orig ha
  exact Int.le_trans (sub_tail hd hd' hcl _ a k (Nat.le_refl _) hk) (le_maxTo T (origs_mem hk).1)
end Go.Proofs.Ytkbcjhmcbfppkaa
