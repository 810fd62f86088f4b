/- numbers of 64 bits; instructions (NV), rows of them (RC) -/
import Derived.Test.YtbjecaajeokdoaaRow
namespace Go.Proofs.Ytbjecaajeokdoaa
open Go.RowKit
set_option linter.unusedVariables false
set_option linter.unusedSimpArgs false

/-- it has room in 64 bits -/
def inR (x : Int) : Prop := -9223372036854775808 ≤ x ∧ x ≤ 9223372036854775807
instance (x : Int) : Decidable (inR x) := by unfold inR; infer_instance
structure NV where
  op : Int
  n : Int
instance : Inhabited NV := ⟨⟨0, 0⟩⟩
def NV.enc (x : NV) : List Value := [.int .i64 x.op, .int .i64 x.n]
abbrev NV.val (x : NV) : Value := .agg #[.int .i64 x.op, .int .i64 x.n]
def NV.ok (len : Nat) (x : NV) : Prop := 1 ≤ x.op ∧ x.op ≤ 16 ∧ ((x.op = 14 ∨ x.op = 15) → 0 ≤ x.n ∧ x.n ≤ (len : Int)) ∧ ((x.op ≠ 1 ∧ x.op ≠ 14 ∧ x.op ≠ 15) → x.n = 0)
instance (len : Nat) (x : NV) : Decidable (x.ok len) := by unfold NV.ok; infer_instance
end Go.Proofs.Ytbjecaajeokdoaa
