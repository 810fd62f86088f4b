/- bag.There -/
import Derived.Test.YtbjecaajeokdoaaBr
namespace Go.Proofs.Ytbjecaajeokdoaa
open Go.RowKit
set_option linter.unusedVariables false
set_option linter.unusedSimpArgs false

def posI (xs : List IV) : List IV := xs.filter fun c => decide (0 < c.n)
def thereI (xs : List IV) : List IV := if rightI xs = true then posI xs else []
theorem pos_take_succ {xs : List IV} {k : Nat} (hk : k < xs.length) : posI (xs.take (k + 1)) = posI (xs.take k) ++ (if 0 < (xs[k]!).n then [xs[k]!] else []) := by
  unfold posI
  rw [take_getA xs k hk, List.filter_append]
  split
  · rename_i h; rw [List.filter_cons_of_pos (by simpa using h)]; rfl
  · rename_i h; rw [List.filter_cons_of_neg (by simpa using h)]; rfl
theorem pos_length (xs : List IV) : (posI xs).length ≤ xs.length := List.length_filter_le _ _
end Go.Proofs.Ytbjecaajeokdoaa
