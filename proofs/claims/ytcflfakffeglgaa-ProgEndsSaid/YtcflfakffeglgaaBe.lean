/- two records, two items, two lists of either: the same? -/
import Derived.Test.YtcflfakffeglgaaBa
import Derived.Laws.StructEq
namespace Go.Proofs.Ytcflfakffeglgaa
open Go.RowKit
set_option linter.unusedVariables false
set_option linter.unusedSimpArgs false

def eqR (a b : RV) : Bool := decide (a = b)
def eqI (a b : IV) : Bool := decide (a = b)
theorem eqR_iff (a b : RV) : eqR a b = (decide (a.k = b.k) && decide (a.v = b.v)) := by
  rw [Bool.eq_iff_iff]
  simp only [eqR, decide_eq_true_eq, Bool.and_eq_true]
  constructor
  · intro h; subst h; exact ⟨rfl, rfl⟩
  · rintro ⟨h0, h1⟩; exact RV.ext2 h0 h1
theorem eqI_iff (a b : IV) : eqI a b = (eqR a.t b.t && decide (a.n = b.n)) := by
  rw [Bool.eq_iff_iff]
  simp only [eqI, eqR, decide_eq_true_eq, Bool.and_eq_true]
  constructor
  · intro h; subst h; exact ⟨rfl, rfl⟩
  · rintro ⟨h0, h1⟩; cases a; cases b; simp only at h0 h1; subst h0; subst h1; rfl
set_option maxRecDepth 100000 in
theorem eqRecIn (d : Nat) (a0 a1 b0 b1 : Int) (w : World) : (Op.equalIn (d + 1 + 1) 24 (.agg #[.int .i64 a0, .int .i64 a1]) (.agg #[.int .i64 b0, .int .i64 b1])).run Try.prog w = .ok (eqR ⟨a0, a1⟩ ⟨b0, b1⟩) w := by
  have u3 := Try.underlying2
  have hS : Try.prog.underlying 24 = some (.struct (Try.prog.fieldsOf 24)) := by kernel_rfl
  have hp : Try.prog.stoodInHeld 24 = false := by kernel_rfl
  rw [run_equalIn_agg w (d + 1) 24 _ _ hS hp]
  simp only [Program.fieldsOf, Try.underlying24]
  rw [eqR_iff]
  simp only
  go_simp
  by_cases h0 : a0 = b0 <;> by_cases h1 : a1 = b1 <;> simp [h0, h1, Result.andThen]
set_option maxRecDepth 100000 in
theorem eqRec (a0 a1 b0 b1 : Int) (w : World) : (binOp .eql 24 (.agg #[.int .i64 a0, .int .i64 a1]) (.agg #[.int .i64 b0, .int .i64 b1])).run Try.prog w = .ok (.bool (eqR ⟨a0, a1⟩ ⟨b0, b1⟩)) w := by
  rw [run_eql_struct, show (10000 : Nat) = 9998 + 1 + 1 from rfl, eqRecIn]
  rfl
set_option maxRecDepth 100000 in
theorem neRec (a0 a1 b0 b1 : Int) (w : World) : (binOp .neq 24 (.agg #[.int .i64 a0, .int .i64 a1]) (.agg #[.int .i64 b0, .int .i64 b1])).run Try.prog w = .ok (.bool (!eqR ⟨a0, a1⟩ ⟨b0, b1⟩)) w := by
  rw [run_neq_struct, show (10000 : Nat) = 9998 + 1 + 1 from rfl, eqRecIn]
  rfl
attribute [local go_sem ↓] eqRec neRec

end Go.Proofs.Ytcflfakffeglgaa
