/- The contract of weave's read, and of the closure that it defers. -/
import Derived.Test.YtkcpimbhfmhjgaaWg
import Derived.Defers
import Derived.Recover
namespace Go.Proofs.Ytkcpimbhfmhjgaa
open Go.RowKit Go.Deep

theorem weave_all (n : Nat) : ReadOk 32 .weave n := by
  induction n using Nat.strongRecOn with
  | _ n ih => exact weave_of n (chain_of n (link_of n ih))

set_option maxRecDepth 100000 in
set_option maxHeartbeats 1000000 in
theorem catch_idle (p q r : Addr) (w : World) :
    CallsD Try.prog 31 #[.pointer (some p), .pointer (some q), .pointer (some r)] .returning w fun e u' w' => e = .returned (.tuple #[]) ∧ u' = .returning ∧ w' = w := by
  refine callsD_of_wpS Try.func31 rfl fun c₀ cs hu => ?_
  apply wpS_seq
  apply wpS_region
  simp [wpOpsS, go_sem, recoverD, hu, Try.ntmps31, Exit.thenS, Array.replicate]
  refine wpS_of_wp ?_
  go_wp2
  cases c₀
  simp_all [bodyPostS, results, Try.results31]

theorem assert_errno (n : Int) (w : World) : (Instr.typeAssert (.iface 47 (.int .i64 n)) 20 47 true).run Try.prog w = .ok (.tuple #[.int .i64 n, .bool true]) w := by kernel_rfl

set_option maxRecDepth 100000 in
set_option maxHeartbeats 1000000 in
theorem catch_panicking (a b c : Nat) (o0 o1 o2 o3 o4 o5 : Value) (older : List PanicEntry) (w : World) (ha : w.cell? ⟨a, 0, none⟩ = some o0) (ha' : w.frozen? ⟨a, 0, none⟩ = false) (hb : w.heap[b]? = some (.cells #[o1, o2, o3, o4] 49 (0, 0))) (hc : w.cell? ⟨c, 0, none⟩ = some o5) (hc' : w.frozen? ⟨c, 0, none⟩ = false) (hab : ¬ a = b) (hac : ¬ a = c) (hbc : ¬ b = c) :
    CallsD Try.prog 31 #[.pointer (some ⟨a, 0, none⟩), .pointer (some ⟨b, 0, none⟩), .pointer (some ⟨c, 0, none⟩)] (.panicking ({ v := synErr, recovered := false } :: older)) w fun e u' w' =>
      e = .returned (.tuple #[]) ∧ u' = .panicking ({ v := synErr, recovered := true } :: older) ∧ w' = (setP (w.setCell ⟨a, 0, none⟩ (.slice none 0 0)) b (.int .i64 0) (.int .i64 0) (.slice none 0 0) (.slice none 0 0)).setCell ⟨c, 0, none⟩ synErr := by
  unfold synErr
  obtain ⟨q0, q1, q2, q3, qf⟩ := part_cells hb
  have qf0 := qf 0
  have qf1 := qf 1
  have qf2 := qf 2
  have qf3 := qf 3
  clear qf
  have hta := assert_errno 2
  refine callsD_of_wpS Try.func31 rfl fun c₀ cs hu => ?_
  apply wpS_seq
  apply wpS_region
  simp [wpOpsS, go_sem, recoverD, hu, Try.ntmps31, Exit.thenS, Array.replicate]
  refine wpS_of_wp ?_
  go_wp2
  simp [bodyPostS, results, Try.results31, setP]
end Go.Proofs.Ytkcpimbhfmhjgaa
