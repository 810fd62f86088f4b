import Derived.Test.YtcaolilhemamiaaFo
import Derived.Test.YtcaolilhemamiaaFs
namespace Go.Proofs.Ytcaolilhemamiaa
open Go.RowKit
set_option linter.unusedVariables false
set_option linter.unusedSimpArgs false

/- two right counts together, gone through side by side -/
def mergedC : List CV → List CV → List CV
  | [], ys => ys
  | x :: xs, [] => x :: xs
  | x :: xs, y :: ys => if x.t.lt y.t = true then x :: mergedC xs (y :: ys) else if y.t.lt x.t = true then y :: mergedC (x :: xs) ys else if (moreC x y.n).n = 0 then mergedC xs ys else moreC x y.n :: mergedC xs ys
termination_by xs ys => xs.length + ys.length
theorem merged_nil (xs : List CV) : mergedC xs [] = xs := by cases xs <;> simp [mergedC]
theorem nil_merged (ys : List CV) : mergedC [] ys = ys := by simp [mergedC]
theorem merged_lt {x y : CV} (xs ys : List CV) (h : x.t.lt y.t = true) : mergedC (x :: xs) (y :: ys) = x :: mergedC xs (y :: ys) := by rw [mergedC, if_pos h]
theorem merged_gt {x y : CV} (xs ys : List CV) (h : x.t.lt y.t = false) (h2 : y.t.lt x.t = true) : mergedC (x :: xs) (y :: ys) = y :: mergedC (x :: xs) ys := by rw [mergedC, if_neg (by rw [h]; decide), if_pos h2]
theorem merged_no {x y : CV} (xs ys : List CV) (h : x.t.lt y.t = false) (h2 : y.t.lt x.t = false) (h3 : (moreC x y.n).n = 0) : mergedC (x :: xs) (y :: ys) = mergedC xs ys := by rw [mergedC, if_neg (by rw [h]; decide), if_neg (by rw [h2]; decide), if_pos h3]
theorem merged_one {x y : CV} (xs ys : List CV) (h : x.t.lt y.t = false) (h2 : y.t.lt x.t = false) (h3 : ¬ (moreC x y.n).n = 0) : mergedC (x :: xs) (y :: ys) = moreC x y.n :: mergedC xs ys := by rw [mergedC, if_neg (by rw [h]; decide), if_neg (by rw [h2]; decide), if_neg h3]
end Go.Proofs.Ytcaolilhemamiaa
