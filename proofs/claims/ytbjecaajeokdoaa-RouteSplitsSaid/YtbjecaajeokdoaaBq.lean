/- two right bags gone through side by side, as a plain function -/
import Derived.Test.YtbjecaajeokdoaaBo
namespace Go.Proofs.Ytbjecaajeokdoaa
open Go.RowKit
set_option linter.unusedVariables false
set_option linter.unusedSimpArgs false

def mergedI : List IV → List IV → List IV
  | [], ys => ys
  | x :: xs, [] => x :: xs
  | x :: xs, y :: ys => if cmpR x.t y.t < 0 then x :: mergedI xs (y :: ys) else if 0 < cmpR x.t y.t then y :: mergedI (x :: xs) ys else if (moreI x y.n).n = 0 then mergedI xs ys else moreI x y.n :: mergedI xs ys
termination_by xs ys => xs.length + ys.length
theorem mergedI_nil (xs : List IV) : mergedI xs [] = xs := by cases xs <;> simp [mergedI]
theorem nil_mergedI (ys : List IV) : mergedI [] ys = ys := by simp [mergedI]
theorem mergedI_lt {x y : IV} (xs ys : List IV) (h : cmpR x.t y.t < 0) : mergedI (x :: xs) (y :: ys) = x :: mergedI xs (y :: ys) := by rw [mergedI, if_pos h]
theorem mergedI_gt {x y : IV} (xs ys : List IV) (h : 0 < cmpR x.t y.t) : mergedI (x :: xs) (y :: ys) = y :: mergedI (x :: xs) ys := by rw [mergedI, if_neg (by omega), if_pos h]
theorem mergedI_no {x y : IV} (xs ys : List IV) (h : cmpR x.t y.t = 0) (h3 : (moreI x y.n).n = 0) : mergedI (x :: xs) (y :: ys) = mergedI xs ys := by rw [mergedI, if_neg (by omega), if_neg (by omega), if_pos h3]
theorem mergedI_one {x y : IV} (xs ys : List IV) (h : cmpR x.t y.t = 0) (h3 : ¬ (moreI x y.n).n = 0) : mergedI (x :: xs) (y :: ys) = moreI x y.n :: mergedI xs ys := by rw [mergedI, if_neg (by omega), if_neg (by omega), if_neg h3]
end Go.Proofs.Ytbjecaajeokdoaa
