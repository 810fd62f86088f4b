/- bag.turned: each item as often less as it was there -/
import Derived.Test.YtbjecaajeokdoaaBr
import Derived.Test.YtbjecaajeokdoaaRowSet
namespace Go.Proofs.Ytbjecaajeokdoaa
open Go.RowKit
set_option linter.unusedVariables false
set_option linter.unusedSimpArgs false

def in64 (xs : List IV) : Prop := ∀ c ∈ xs, -9223372036854775808 ≤ c.n ∧ c.n ≤ 9223372036854775807
def negN (n : Int) : Int := if n = -9223372036854775808 then -9223372036854775808 else -n
def negI (c : IV) : IV := ⟨c.t, negN c.n⟩
theorem wrap_neg {n : Int} (h : -9223372036854775808 ≤ n ∧ n ≤ 9223372036854775807) : IntKind.i64.wrap (-n) = negN n := by
  unfold negN
  rw [IntKind.wrap_i64]
  split <;> omega
theorem neg_cells {xs : List IV} {k : Nat} (hk : k < xs.length) {f : Nat → Value} (hf : ∀ i, i < k * 3 → (RI.cells ((xs.take k).map negI))[i]? = some (f i)) (v0 v1 v2 : Value)
    (e0 : v0 = .int .i64 (xs[k]!).t.k) (e1 : v1 = .int .i64 (xs[k]!).t.v) (e2 : v2 = .int .i64 (negN (xs[k]!).n)) :
    ∀ i, i < (k + 1) * 3 → (RI.cells ((xs.take (k + 1)).map negI))[i]? = some (if i = k * 3 + 2 then v2 else if i = k * 3 + 1 then v1 else if i = k * 3 then v0 else f i) := by
  intro i hi
  have hl : (RI.cells ((xs.take k).map negI)).length = k * 3 := by
    rw [RI.cells_len, List.length_map, List.length_take]
    show min k xs.length * 3 = _
    rw [Nat.min_eq_left (Nat.le_of_lt hk)]
  rw [take_getA xs k hk, List.map_append, RI.cells_append]
  by_cases h : i < k * 3
  · rw [List.getElem?_append_left (by omega), hf i h, if_neg (by omega), if_neg (by omega), if_neg (by omega)]
  · rw [List.getElem?_append_right (by omega), hl]
    subst e0; subst e1; subst e2
    have h3 : i = k * 3 ∨ i = k * 3 + 1 ∨ i = k * 3 + 2 := by omega
    rcases h3 with rfl | rfl | rfl
    · rw [if_neg (by omega), if_neg (by omega), if_pos rfl, Nat.sub_self]; rfl
    · rw [if_neg (by omega), if_pos rfl, show k * 3 + 1 - k * 3 = 1 by omega]; rfl
    · rw [if_pos rfl, show k * 3 + 2 - k * 3 = 2 by omega]; rfl
end Go.Proofs.Ytbjecaajeokdoaa
