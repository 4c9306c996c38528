/- Plain: shares by weight are together what there was; two jobs, round by round. No word of the program. -/
import Derived.Test.YtajmnnjafhanaaaDoorYa
namespace Go.Proofs.YtajmnnjafhanaaaDoor

def sumY (f : Nat → Nat) : Nat → Nat
  | 0 => 0
  | n + 1 => sumY f n + f n
theorem sumY_add (f g : Nat → Nat) (n : Nat) : sumY (fun i => f i + g i) n = sumY f n + sumY g n := by
  induction n with
  | zero => rfl
  | succ n ih => show sumY _ n + _ = (sumY f n + f n) + (sumY g n + g n); rw [ih]; dsimp only; omega
theorem sumY_mul (c : Nat) (f : Nat → Nat) (n : Nat) : sumY (fun i => c * f i) n = c * sumY f n := by
  induction n with
  | zero => rfl
  | succ n ih => show sumY _ n + _ = c * (sumY f n + f n); rw [ih, Nat.mul_add]
theorem sumY_congr {f g : Nat → Nat} {n : Nat} (h : ∀ i, i < n → f i = g i) : sumY f n = sumY g n := by
  induction n with
  | zero => rfl
  | succ n ih => show sumY f n + f n = sumY g n + g n; rw [ih (fun i hi => h i (by omega)), h n (by omega)]
theorem sumY_le {f : Nat → Nat} {c n : Nat} (h : ∀ i, i < n → f i ≤ c) : sumY f n ≤ n * c := by
  induction n with
  | zero => simp [sumY]
  | succ n ih =>
    have h1 := ih (fun i hi => h i (by omega))
    have h2 := h n (by omega)
    show sumY f n + f n ≤ (n + 1) * c
    rw [Nat.add_mul, Nat.one_mul]
    omega
theorem sumY_ind (o n : Nat) : sumY (fun i => if i < o then 1 else 0) n = min o n := by
  induction n with
  | zero => simp [sumY]
  | succ n ih =>
    show sumY _ n + (if n < o then 1 else 0) = _
    rw [ih]
    split <;> omega
/-- What is left when each has its share rounded down. -/
def overY (N n : Nat) (wt : Nat → Nat) : Nat := N - sumY (fun i => N * wt i / sumY wt n) n
def shareY (N n : Nat) (wt : Nat → Nat) (i : Nat) : Nat := N * wt i / sumY wt n + if i < overY N n wt then 1 else 0
theorem floors (N n : Nat) (wt : Nat → Nat) : sumY wt n * sumY (fun i => N * wt i / sumY wt n) n + sumY (fun i => N * wt i % sumY wt n) n = N * sumY wt n := by
  rw [← sumY_mul, ← sumY_add, ← sumY_mul]
  exact sumY_congr (fun i _ => Nat.div_add_mod _ _)
theorem floors_le {N n : Nat} {wt : Nat → Nat} (hS : 0 < sumY wt n) : sumY (fun i => N * wt i / sumY wt n) n ≤ N := by
  have h := floors N n wt
  have : sumY wt n * sumY (fun i => N * wt i / sumY wt n) n ≤ sumY wt n * N := by rw [Nat.mul_comm (sumY wt n) N]; omega
  exact Nat.le_of_mul_le_mul_left this hS
theorem overY_lt {N n : Nat} {wt : Nat → Nat} (hS : 0 < sumY wt n) (hn : 1 ≤ n) : overY N n wt < n := by
  have h := floors N n wt
  have hm : sumY (fun i => N * wt i % sumY wt n) n ≤ n * (sumY wt n - 1) := sumY_le (fun i _ => by have := Nat.mod_lt (N * wt i) hS; omega)
  have hle := floors_le (N := N) hS
  unfold overY
  generalize sumY (fun i => N * wt i / sumY wt n) n = F at *
  generalize sumY (fun i => N * wt i % sumY wt n) n = M at *
  generalize sumY wt n = S at *
  have h2 : S * (N - F) = M := by rw [Nat.mul_sub]; rw [Nat.mul_comm N S] at h; omega
  have h3 : M < S * n := by
    have : n * (S - 1) < S * n := by rw [Nat.mul_comm S n]; exact Nat.mul_lt_mul_of_pos_left (by omega) (by omega)
    omega
  rw [← h2] at h3
  exact Nat.lt_of_mul_lt_mul_left h3
/-- Shares are together what there was. -/
theorem shares_sum {N n : Nat} {wt : Nat → Nat} (hS : 0 < sumY wt n) (hn : 1 ≤ n) : sumY (shareY N n wt) n = N := by
  have h1 := overY_lt (N := N) hS hn
  have h2 := floors_le (N := N) hS
  show sumY (fun i => N * wt i / sumY wt n + if i < overY N n wt then 1 else 0) n = N
  rw [sumY_add, sumY_ind]
  unfold overY at h1 ⊢
  omega
theorem sumY_pos {n : Nat} {wt : Nat → Nat} (hw : ∀ i, i < n → 1 ≤ wt i) (hn : 1 ≤ n) : 0 < sumY wt n := by
  cases n with
  | zero => omega
  | succ n => show 0 < sumY wt n + wt n; have := hw n (by omega); omega

/-- Two jobs with enough to do: in each round each has its weight. -/
def twoW (a b : Nat) : Nat → Nat := fun i => if i = 0 then a else b
theorem two_rounds {a b n : Nat} (ha : 1 ≤ a ∧ a ≤ 20) (hb : 1 ≤ b ∧ b ≤ 20) (hn : n ≤ 20) : ∀ r, r ≤ n → (roundsY (n * (a + b)) 2 (twoW a b) (fun _ => 1000) r).out.length = r * (a + b) ∧ (roundsY (n * (a + b)) 2 (twoW a b) (fun _ => 1000) r).out.count 0 = r * a ∧ (roundsY (n * (a + b)) 2 (twoW a b) (fun _ => 1000) r).out.count 1 = r * b := by
  intro r
  induction r with
  | zero => intro _; simp [roundsY]
  | succ r ih =>
    intro hr
    obtain ⟨h1, h2, h3⟩ := ih (by omega)
    have hok := OkY.rounds (n * (a + b)) 2 (twoW a b) (fun _ => 1000) r
    rw [show roundsY (n * (a + b)) 2 (twoW a b) (fun _ => 1000) (r + 1) = turnY (n * (a + b)) b (turnY (n * (a + b)) a (roundsY (n * (a + b)) 2 (twoW a b) (fun _ => 1000) r) 0) 1 from rfl]
    generalize roundsY (n * (a + b)) 2 (twoW a b) (fun _ => 1000) r = s at *
    have hl0 := hok.cnt 0
    have hl1 := hok.cnt 1
    have hra : r * a ≤ 380 := Nat.le_trans (Nat.mul_le_mul (show r ≤ 19 by omega) ha.2) (by omega)
    have hrb : r * b ≤ 380 := Nat.le_trans (Nat.mul_le_mul (show r ≤ 19 by omega) hb.2) (by omega)
    have hmost : r * (a + b) + (a + b) ≤ n * (a + b) := by
      have : (r + 1) * (a + b) ≤ n * (a + b) := Nat.mul_le_mul_right _ hr
      rw [Nat.add_mul, Nat.one_mul] at this
      exact this
    have e1 : (r + 1) * (a + b) = r * (a + b) + (a + b) := by rw [Nat.add_mul, Nat.one_mul]
    have e2 : (r + 1) * a = r * a + a := by rw [Nat.add_mul, Nat.one_mul]
    have e3 : (r + 1) * b = r * b + b := by rw [Nat.add_mul, Nat.one_mul]
    rw [e1, e2, e3]
    have t0 : takeY (n * (a + b)) a s 0 = a := by unfold takeY; omega
    have t1 : takeY (n * (a + b)) b (turnY (n * (a + b)) a s 0) 1 = b := by
      unfold takeY
      rw [turnY_len, turnY_left, t0, if_neg (by omega)]
      omega
    rw [turnY_len, turnY_count, turnY_count, turnY_len, turnY_count, turnY_count, t0, t1]
    simp
    omega
/-- What two such jobs come to. -/
theorem two_serve {a b n : Nat} (ha : 1 ≤ a ∧ a ≤ 20) (hb : 1 ≤ b ∧ b ≤ 20) (hn : n ≤ 20) {q : Nat} (hq : n ≤ q) : (roundsY (n * (a + b)) 2 (twoW a b) (fun _ => 1000) q).out.length = n * (a + b) ∧ (roundsY (n * (a + b)) 2 (twoW a b) (fun _ => 1000) q).out.count 0 = n * a := by
  obtain ⟨h1, h2, _⟩ := two_rounds ha hb hn n (Nat.le_refl _)
  rw [roundsY_done (Or.inl h1) q hq]
  exact ⟨h1, h2⟩
theorem two_shares {a b : Nat} (n : Nat) (ha : 1 ≤ a) : shareY (n * (a + b)) 2 (twoW a b) 0 = n * a ∧ shareY (n * (a + b)) 2 (twoW a b) 1 = n * b := by
  have hS : sumY (twoW a b) 2 = a + b := by show (0 + a) + b = a + b; omega
  have hp : 0 < a + b := by omega
  have d0 : n * (a + b) * a / (a + b) = n * a := by rw [Nat.mul_right_comm]; exact Nat.mul_div_cancel _ hp
  have d1 : n * (a + b) * b / (a + b) = n * b := by rw [Nat.mul_right_comm]; exact Nat.mul_div_cancel _ hp
  have ho : overY (n * (a + b)) 2 (twoW a b) = 0 := by
    unfold overY
    rw [hS]
    show n * (a + b) - ((0 + n * (a + b) * a / (a + b)) + n * (a + b) * b / (a + b)) = 0
    rw [d0, d1, Nat.mul_add]
    omega
  unfold shareY
  rw [ho, hS]
  exact ⟨by show n * (a + b) * a / (a + b) + _ = _; rw [d0]; simp, by show n * (a + b) * b / (a + b) + _ = _; rw [d1]; simp⟩
end Go.Proofs.YtajmnnjafhanaaaDoor
