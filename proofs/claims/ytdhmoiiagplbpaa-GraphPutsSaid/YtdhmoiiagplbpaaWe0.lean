/- what reading a number answers -/
import Derived.Test.YtdhmoiiagplbpaaWa
namespace Go.Proofs.Ytdhmoiiagplbpaa
open Go.RowKit
set_option linter.unusedVariables false
set_option linter.unusedSimpArgs false

abbrev RdV (r : Nat × Nat × Nat) : Value := .tuple #[.int .u64 (r.1 : Int), .int .i64 (r.2.1 : Int), .int .i64 (r.2.2 : Int)]
theorem drop_cons {xs : List Int} {k : Nat} (h : k < xs.length) : xs.drop k = xs[k]! :: xs.drop (k + 1) := by
  rw [getElem!_pos xs k h]
  exact List.drop_eq_getElem_cons h
theorem rdV_ext {r : Nat × Nat × Nat} {a b c : Int} (h1 : a = (r.1 : Int)) (h2 : b = (r.2.1 : Int)) (h3 : c = (r.2.2 : Int)) : Ending.returned (.tuple #[.int .u64 a, .int .i64 b, .int .i64 c]) = .returned (RdV r) := by subst h1; subst h2; subst h3; rfl
abbrev RdI (r : Nat × Nat × Nat) : Value := .tuple #[.int .i64 (zag r.1), .int .i64 (r.2.1 : Int), .int .i64 (r.2.2 : Int)]
theorem read_lt {xs : List Int} (hx : okB xs) : (readU xs).1 < 18446744073709551616 := by
  rcases read_cases hx with ⟨y, s, h, _, _, _, h2⟩ | h | h
  · rw [h]; exact h2
  · rw [h]; decide
  · rw [h]; decide
end Go.Proofs.Ytdhmoiiagplbpaa
