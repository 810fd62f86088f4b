/- unsigned, signed, Uint, Int: the program's own and the document's -/
import Derived.Test.YtdhmoiiagplbpaaWa
import Derived.Laws.MakeOwn
import Derived.Laws.Bits64b
import Derived.Deep.LoopGhost
namespace Go.Proofs.Ytdhmoiiagplbpaa
open Go.RowKit
set_option linter.unusedVariables false
set_option linter.unusedSimpArgs false

set_option maxHeartbeats 2000000 in
theorem unsigned_any (k : Int) (hk : -9223372036854775808 ≤ k) (hk2 : k ≤ 9223372036854775807) (w : World) : Calls Try.prog 58 #[.int .i64 k] w (Ret (.int .u64 (zig k)) w) := by
  have h1 : k < 0 → (zig k : Int) = -2 * k - 1 := fun h => by unfold zig; rw [if_pos h]; omega
  have h2 : ¬ k < 0 → (zig k : Int) = 2 * k := fun h => by unfold zig; rw [if_neg h]; omega
  generalize ((zig k : Nat) : Int) = z at *
  by_cases h : k < 0
  · have e := h1 h
    clear h1 h2
    go_enter Try.func58, Try.ntmps58
    go_wp2
    go_returns
    refine ⟨ret_int ?_, by go_grown⟩
    first | omega | (simp only [IntKind.wrap_u64, IntKind.wrap_i64]; omega)
  · have e := h2 h
    clear h1 h2
    go_enter Try.func58, Try.ntmps58
    go_wp2
    go_returns
    refine ⟨ret_int ?_, by go_grown⟩
    first | omega | (simp only [IntKind.wrap_u64, IntKind.wrap_i64]; omega)
set_option maxHeartbeats 2000000 in
theorem signed_any (n : Nat) (hn : n < 18446744073709551616) (w : World) : Calls Try.prog 60 #[.int .u64 (n : Int)] w (Ret (.int .i64 (zag n)) w) := by
  have h1 : n % 2 = 1 → zag n = -((n / 2 : Nat) : Int) - 1 := fun h => by unfold zag; rw [if_pos h]
  have h2 : ¬ n % 2 = 1 → zag n = ((n / 2 : Nat) : Int) := fun h => by unfold zag; rw [if_neg h]
  generalize zag n = z at *
  by_cases h : n % 2 = 1
  · have e := h1 h
    have hz : ((n : Int) % 2 == 1) = true := by simp; omega
    clear h1 h2
    go_enter Try.func60, Try.ntmps60
    go_wp2
    go_returns
    all_goals refine ⟨ret_int ?_, by go_grown⟩
    all_goals (first | omega | (simp only [IntKind.wrap_u64, IntKind.wrap_i64]; omega))
  · have e := h2 h
    have hz : ((n : Int) % 2 == 1) = false := by simp; omega
    clear h1 h2
    go_enter Try.func60, Try.ntmps60
    go_wp2
    go_returns
    all_goals refine ⟨ret_int ?_, by go_grown⟩
    all_goals (first | omega | (simp only [IntKind.wrap_u64, IntKind.wrap_i64]; omega))
end Go.Proofs.Ytdhmoiiagplbpaa
