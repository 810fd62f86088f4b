/- rows of ints -/
import Derived.Test.YtdgnblkoohakeaaRow
namespace Go.Proofs.Ytdgnblkoohakeaa
open Go.RowKit
set_option linter.unusedVariables false
set_option linter.unusedSimpArgs false

/-- rows of ints -/
def RN : RowKind Int where
  enc := fun x => [.int .i64 x]
  k := 1
  k0 := by decide
  len := fun _ => rfl
  one := by
    intro c u hu
    simp at hu
    subst hu
    rfl
  tE := 3
  tS := 45
  zero := .int .i64 0
  bytes := 8
  info := by kernel_rfl
  under := Try.underlying45
  zlen := rfl
  byt := by decide
theorem atN {w : World} {b off : Nat} {xs : List Int} (h : RN.Row w b off xs) (j : Nat) (hj : j < xs.length) : w.cell? ⟨b, off + j, none⟩ = some (.int .i64 xs[j]!) := by
  have := h j hj 0 _ rfl
  rw [show off + j * RN.k + 0 = off + j from by show off + j * 1 + 0 = _; omega] at this
  exact this
end Go.Proofs.Ytdgnblkoohakeaa
