import Derived.Test.YtmmojohjipmoaaaBc
import Derived.Sort.Grow
import Derived.Test.YtmmojohjipmoaaaRowSort
namespace Go.Proofs.Ytmmojohjipmoaaa
open Go.RowKit Go.Sort Go.Shelf
set_option linter.unusedVariables false
set_option linter.unusedSimpArgs false

/- the library's sort, laid at rows of records -/
def sortL_ren : Go.Shelf.Ren := ⟨fun | 6 => 33 | 15 => 39 | 14 => 38 | 28 => 50 | 29 => 51 | 20 => 42 | 21 => 43 | 22 => 44 | 23 => 45 | 24 => 46 | 25 => 47 | 26 => 48 | 27 => 49 | 46 => 52 | 47 => 53 | 48 => 54 | 49 => 55 | 50 => 56 | 57 => 57 | n => n, fun | 22 => 34 | 24 => 24 | 25 => 44 | 3 => 3 | 39 => 54 | 0 => 0 | 53 => 68 | 55 => 70 | 4 => 4 | 46 => 61 | 45 => 60 | 50 => 65 | 5 => 5 | 9 => 9 | 66 => 71 | 70 => 75 | 76 => 77 | 77 => 78 | n => n, fun | n => n⟩
theorem sortL : Go.Proofs.SlLaysF0.n6 Try.prog sortL_ren where
  mixed := by kernel_rfl
  f6 := ⟨ "slices.SortFunc[[]backwash/api.Rec,backwash/api.Rec]", by decide, Try.func33.trans (congrArg some (by kernel_rfl))⟩
  f14 := ⟨ "slices.pdqsortCmpFunc[backwash/api.Rec]", by decide, Try.func38.trans (congrArg some (by kernel_rfl))⟩
  f15 := Try.func39.trans (congrArg some (by kernel_rfl))
  f20 := ⟨ "slices.insertionSortCmpFunc[backwash/api.Rec]", by decide, Try.func42.trans (congrArg some (by kernel_rfl))⟩
  f21 := ⟨ "slices.heapSortCmpFunc[backwash/api.Rec]", by decide, Try.func43.trans (congrArg some (by kernel_rfl))⟩
  f22 := ⟨ "slices.breakPatternsCmpFunc[backwash/api.Rec]", by decide, Try.func44.trans (congrArg some (by kernel_rfl))⟩
  f23 := ⟨ "slices.choosePivotCmpFunc[backwash/api.Rec]", by decide, Try.func45.trans (congrArg some (by kernel_rfl))⟩
  f24 := ⟨ "slices.reverseRangeCmpFunc[backwash/api.Rec]", by decide, Try.func46.trans (congrArg some (by kernel_rfl))⟩
  f25 := ⟨ "slices.partialInsertionSortCmpFunc[backwash/api.Rec]", by decide, Try.func47.trans (congrArg some (by kernel_rfl))⟩
  f26 := ⟨ "slices.partitionEqualCmpFunc[backwash/api.Rec]", by decide, Try.func48.trans (congrArg some (by kernel_rfl))⟩
  f27 := ⟨ "slices.partitionCmpFunc[backwash/api.Rec]", by decide, Try.func49.trans (congrArg some (by kernel_rfl))⟩
  f28 := Try.func50.trans (congrArg some (by kernel_rfl))
  f29 := Try.func51.trans (congrArg some (by kernel_rfl))
  f46 := ⟨ "slices.siftDownCmpFunc[backwash/api.Rec]", by decide, Try.func52.trans (congrArg some (by kernel_rfl))⟩
  f47 := Try.func53.trans (congrArg some (by kernel_rfl))
  f48 := Try.func54.trans (congrArg some (by kernel_rfl))
  f49 := ⟨ "slices.medianAdjacentCmpFunc[backwash/api.Rec]", by decide, Try.func55.trans (congrArg some (by kernel_rfl))⟩
  f50 := ⟨ "slices.medianCmpFunc[backwash/api.Rec]", by decide, Try.func56.trans (congrArg some (by kernel_rfl))⟩
  f57 := ⟨ "slices.order2CmpFunc[backwash/api.Rec]", by decide, Try.func57.trans (congrArg some (by kernel_rfl))⟩
  t0 := Try.underlying0
  a0 := Try.isAgg0
  z0 := Try.sizeOf0
  v0 := Try.zeroValue0
  t3 := Try.underlying3
  a3 := Try.isAgg3
  z3 := Try.sizeOf3
  v3 := Try.zeroValue3
  t4 := Try.underlying4
  a4 := Try.isAgg4
  z4 := Try.sizeOf4
  v4 := Try.zeroValue4
  t5 := Try.underlying5
  a5 := Try.isAgg5
  z5 := Try.sizeOf5
  v5 := Try.zeroValue5
  t9 := Try.underlying9
  a9 := Try.isAgg9
  z9 := Try.sizeOf9
  v9 := Try.zeroValue9
  t22 := Try.underlying34
  a22 := Try.isAgg34
  z22 := Try.sizeOf34
  v22 := Try.zeroValue34
  t25 := Try.underlying44
  a25 := Try.isAgg44
  z25 := Try.sizeOf44
  v25 := Try.zeroValue44
  t39 := Try.underlying54
  a39 := Try.isAgg54
  z39 := Try.sizeOf54
  v39 := Try.zeroValue54
  t45 := Try.underlying60
  a45 := Try.isAgg60
  z45 := Try.sizeOf60
  v45 := Try.zeroValue60
  t46 := Try.underlying61
  a46 := Try.isAgg61
  z46 := Try.sizeOf61
  v46 := Try.zeroValue61
  t50 := Try.underlying65
  a50 := Try.isAgg65
  z50 := Try.sizeOf65
  v50 := Try.zeroValue65
  t53 := Try.underlying68
  a53 := Try.isAgg68
  z53 := Try.sizeOf68
  v53 := Try.zeroValue68
  t55 := Try.underlying70
  a55 := Try.isAgg70
  z55 := Try.sizeOf70
  v55 := Try.zeroValue70
  t66 := Try.underlying71
  a66 := Try.isAgg71
  z66 := Try.sizeOf71
  v66 := Try.zeroValue71
  t70 := Try.underlying75
  a70 := Try.isAgg75
  z70 := Try.sizeOf75
  v70 := Try.zeroValue75
  t76 := Try.underlying77
  a76 := Try.isAgg77
  z76 := Try.sizeOf77
  v76 := Try.zeroValue77
  t77 := Try.underlying78
  a77 := Try.isAgg78
  z77 := Try.sizeOf78
  v77 := Try.zeroValue78

def cmpO (x y : RV) : Int := cmpR x y
theorem cmpO_lt (x y : RV) : ltOf cmpO x y = x.lt y := cmpR_lt x y
theorem swoO : SWO (ltOf cmpO) where
  irrefl x := by rw [cmpO_lt]; exact RV.lt_irrefl x
  trans x y z h1 h2 := by rw [cmpO_lt] at *; exact RV.lt_trans h1 h2
  ntrans x y z h1 h2 := by rw [cmpO_lt] at *; rw [RV.lt_no] at *; omega
theorem cmpLays (blk off size : Nat) (w : World) : CmpLays Try.prog 26 #[] RV.enc 2 cmpO blk off size w := fun m os dk hs x y =>
  (bcompare_any x y _).mono fun e w' h => ⟨h.1, grow_of_below h.2.1 h.2.2⟩

theorem bsort_own (B : Nat) (v : Value) (xs : List RV) (w : World) (hown : RR.Own B w v xs) (hB : B ≤ w.heap.size) (hlen : xs.length ≤ 900000) :
    Calls Try.prog 33 #[v, .func (.func 26) #[] #[]] w (fun e w' => e = .returned (.tuple #[]) ∧ ∃ ys : List RV, ys.Perm xs ∧ ys.Pairwise (fun x y => y.lt x = false) ∧ RR.Own B w' v ys ∧ Below B w w') :=
  (sort_ownK (R := RR) sortL Try.isAgg24 Try.sizeOf24 cmpO swoO 26 (enters_of Try.func26 (by kernel_rfl) rfl) cmpLays B v xs w hown hB hlen).mono
    fun e w' ⟨h1, ys, h2, h3, h4⟩ => ⟨h1, ys, h2, h3.imp (fun {x y} h => by rw [cmpO_lt] at h; exact h), h4⟩
end Go.Proofs.Ytmmojohjipmoaaa
