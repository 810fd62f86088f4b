/- the library's sort over rows of any kind, by an order of all elements -/
import Derived.Test.YtedjbklejdcknaaG07
import Derived.Shelf.SlSortCmp.NoneTotal
import Derived.Sort.Grow
import Derived.Test.YtedjbklejdcknaaG36
namespace Go.Proofs.Ytedjbklejdcknaa
open Go.RowKit Go.Sort Go.Shelf
set_option linter.unusedVariables false
set_option linter.unusedSimpArgs false

theorem grow_of_below {w w' : World} (h : Below w.heap.size w w') (hd : w.drawn ≤ w'.drawn) : ∃ q os', w' = grow (w.drewN q) os' := by
  refine ⟨w'.drawn - w.drawn, w'.heap.extract w.heap.size w'.heap.size, ?_⟩
  obtain ⟨h1, h2, h3, h4, h5⟩ := h
  obtain ⟨hp, tp, dr, os, out⟩ := w
  obtain ⟨hp', tp', dr', os', out'⟩ := w'
  simp only at h1 h2 h3 h4 h5 hd
  subst h1 h2 h3
  unfold grow World.drewN
  simp only [World.mk.injEq, true_and, and_true]
  refine ⟨?_, by omega⟩
  refine Array.ext_getElem? fun i => ?_
  rw [Array.getElem?_append]
  split
  · exact h5 i (by assumption)
  · rename_i hi
    rw [Array.getElem?_extract]
    split
    · congr 1; omega
    · rw [Array.getElem?_eq_none (by omega)]
section
variable {α : Type} [Inhabited α] {R : RowKind α}
theorem flat_cellsK (d : Array α) : (flatK R.enc R.k d).toList = R.cells d.toList := by
  refine List.ext_getElem? fun t => ?_
  have hk := R.k0
  by_cases ht : t < d.size * R.k
  · have e : t = t / R.k * R.k + t % R.k := by rw [Nat.mul_comm]; exact (Nat.div_add_mod t R.k).symm
    have hm := Nat.mod_lt t hk
    have hq : t / R.k < d.toList.length := Nat.div_lt_of_lt_mul (by rw [Nat.mul_comm]; simpa using ht)
    have h1 := R.cells_get d.toList (t / R.k) hq (t % R.k) hm
    rw [← e] at h1
    rw [h1]
    have h2 := get_flatK R.enc R.k d t ht
    have hs : t < (flatK R.enc R.k d).toList.length := by simpa using ht
    have hd : t / R.k < d.size := by simpa using hq
    have hp : d.toList[t / R.k]! = d[t / R.k]! := by simp [hd]
    rw [List.getElem?_eq_getElem hs, hp]
    rw [getElem!_pos (flatK R.enc R.k d) t (by simpa using ht)] at h2
    rw [Array.getElem_toList, h2]
    have h5 : t % R.k < (R.enc d[t / R.k]!).length := by rw [R.len]; exact hm
    rw [List.getElem?_eq_getElem h5]
    show some ((R.enc d[t / R.k]!)[t % R.k]!) = _
    rw [getElem!_pos (R.enc d[t / R.k]!) (t % R.k) h5]
  · rw [List.getElem?_eq_none (by simp; omega), List.getElem?_eq_none (by rw [R.cells_len]; simp; omega)]
theorem holds_ownK {B g cap : Nat} {w : World} {d : Array α} (h : R.Own B w (.slice (some ⟨g, 0, none⟩) d.toList.length cap) d.toList) : HoldsK R.enc R.k w g 0 d := by
  intro j hj
  rw [size_flatK] at hj
  have h1 := World.ownsRow.cellAt h j (by simpa using hj)
  have h2 := World.ownsRow.frozenAt h j
  have hf := flat_cellsK (R := R) d
  have hs : j < (flatK R.enc R.k d).size := by simpa using hj
  refine ⟨?_, by rw [Nat.zero_add]; exact h2⟩
  rw [Nat.zero_add, h1, ← hf, getElem!_pos (flatK R.enc R.k d) j hs]
  simp [hs]
theorem put_takeK (F cur : Array Value) (h : F.size ≤ cur.size) : (putCells id 0 F cur).toList.take F.size = F.toList := by
  refine List.ext_getElem? fun k => ?_
  rw [List.getElem?_take]
  split
  · rename_i hk
    have hc : k < cur.size := by omega
    simp [putCells, hk, hc]
  · rename_i hk
    rw [List.getElem?_eq_none (by simpa using hk)]
theorem own_putK {B g cap : Nat} {w : World} {xs : List α} (h : R.Own B w (.slice (some ⟨g, 0, none⟩) xs.length cap) xs) {d' : Array α} (hl : d'.size = xs.length) (n : Nat) (os : Array Obj) :
    R.Own B (sortWorldK R.enc R.k w g 0 n d' os) (.slice (some ⟨g, 0, none⟩) xs.length cap) d'.toList ∧ Below B w (sortWorldK R.enc R.k w g 0 n d' os) := by
  obtain ⟨h1, h2⟩ := h
  rcases h2 with ⟨e, _⟩ | ⟨g', cap', cur, e, hB, hg, hc, hm, hs, ht⟩
  · cases e
  · simp only [Value.slice.injEq, Option.some.injEq, Addr.mk.injEq, and_true, true_and] at e
    obtain ⟨e1, e2⟩ := e
    subst e1; subst e2
    have hlt : g < w.heap.size := (Array.getElem?_eq_some_iff.1 hg).1
    have hgrow : ∀ k, k < w.heap.size → (sortWorldK R.enc R.k w g 0 n d' os).heap[k]? = (w.heap.modify g (onCells (putCells id 0 (flatK R.enc R.k d'))))[k]? := by
      intro k hk
      show ((w.heap.modify g (onCells (putCells id 0 (flatK R.enc R.k d')))) ++ os)[k]? = _
      rw [Array.getElem?_append_left (by simpa using hk)]
    have hcell : (sortWorldK R.enc R.k w g 0 n d' os).heap[g]? = some (.cells (putCells id 0 (flatK R.enc R.k d') cur) R.tE (0, 0)) := by
      rw [hgrow g hlt, Array.getElem?_modify, if_pos rfl, hg]
      rfl
    have hpl : d'.toList.length = xs.length := by simpa using hl
    refine ⟨⟨R.cells_len _, .inr ⟨g, cap, putCells id 0 (flatK R.enc R.k d') cur, by rw [hpl], hB, hcell, by rw [hpl]; exact hc, hm, by simp [putCells, hs], ?_⟩⟩, rfl, rfl, rfl, ?_, ?_⟩
    · rw [← flat_cellsK, hpl]
      have hz : xs.length * R.k = (flatK R.enc R.k d').size := by simp [hl]
      rw [hz]
      refine put_takeK _ _ ?_
      rw [← hz, hs]
      exact Nat.mul_le_mul_right _ hc
    · show w.heap.size ≤ ((w.heap.modify g (onCells (putCells id 0 (flatK R.enc R.k d')))) ++ os).size
      simp
    · intro k hk
      rw [hgrow k (by omega), Array.getElem?_modify, if_neg (by omega)]
theorem put_grownK (w : World) (g n : Nat) (d' : Array α) (os : Array Obj) : w.grownBy (sortWorldK R.enc R.k w g 0 n d' os) (some g) := by
  refine ⟨rfl, rfl, rfl, ?_, fun k hk hne => ?_⟩
  · show w.heap.size ≤ ((w.heap.modify g (onCells (putCells id 0 (flatK R.enc R.k d')))) ++ os).size
    simp
  · show ((w.heap.modify g (onCells (putCells id 0 (flatK R.enc R.k d')))) ++ os)[k]? = _
    rw [Array.getElem?_append_left (by simpa using hk), Array.getElem?_modify, if_neg (fun e => hne (by rw [e]))]
/-- the sort of a row of the call's own -/
theorem sort_ownKL {ρ : Go.Shelf.Ren} (L : Go.Proofs.SlLaysF0.n6 Try.prog ρ) (aE : ∀ w, (isAgg (ρ.t 24)).run Try.prog w = .ok true w) (zE : ∀ w, (Go.sizeOf (ρ.t 24)).run Try.prog w = .ok R.k w) (cf : α → α → Int) (hO : SWO (ltOf cf)) (fc : Nat)
    (eg : ∀ args w, (callFunc fc args).run Try.prog w = .ok (.enter fc args) w) (hC : ∀ blk off size w, CmpLays Try.prog fc #[] R.enc R.k cf blk off size w)
    (B : Nat) (v : Value) (xs : List α) (w : World) (hown : R.Own B w v xs) (hB : B ≤ w.heap.size) (hlen : xs.length ≤ 1000000000000000) :
    Calls Try.prog (ρ.f 6) #[v, .func (.func fc) #[] #[]] w (fun e w' => e = .returned (.tuple #[]) ∧ ∃ ys : List α, ys.Perm xs ∧ ys.Pairwise (fun x y => ltOf cf y x = false) ∧ R.Own B w' v ys ∧ Below B w w' ∧ w.grownBy w' v.ownBlock) := by
  have hk := hown
  rcases hk.2 with ⟨e, hn⟩ | ⟨g, cap, cur, e, _, hg, _⟩
  · obtain rfl : xs = [] := List.length_eq_zero_iff.1 hn
    subst e
    refine (AnyF.slices_SortFunc_none L none 0 _ w).mono ?_
    rintro e w' ⟨rfl, rfl⟩
    exact ⟨rfl, [], List.Perm.refl _, List.Pairwise.nil, hown, Below.refl _ _, ⟨rfl, rfl, rfl, Nat.le_refl _, fun _ _ _ => rfl⟩⟩
  · subst e
    obtain ⟨d, rfl⟩ : ∃ d : Array α, xs = d.toList := ⟨xs.toArray, rfl⟩
    have hsl : d.size < 4611686018427387904 := by
      have e : d.toList.length = d.size := by simp
      omega
    have hcon := AnyQ.slices_SortFunc L R.k aE zE R.enc R.len R.one cf hO fc #[] g 0 cap d w eg (hC g 0 d.size w) (holds_ownK hown) (Array.getElem?_eq_some_iff.1 hg).1 hsl
    have hsz : d.toList.length = d.size := by simp
    rw [hsz]
    refine Calls.mono hcon ?_
    rintro e w' ⟨rfl, d', n, os, hp, hs, rfl⟩
    have hl : d'.size = d.toList.length := by rw [hp.1, hsz]
    have hq := own_putK hown hl n os
    rw [hsz] at hq
    refine ⟨rfl, d'.toList, ?_, ?_, hq.1, hq.2, put_grownK w g n d' os⟩
    · have h3 := hp.2.2
      rw [Array.extract_size, show d.size = d'.size by rw [hl, hsz], Array.extract_size] at h3
      simpa using h3
    · rw [List.pairwise_iff_getElem]
      intro i j hi hj hij
      have hi' : i < d'.size := by simpa using hi
      have hj' : j < d'.size := by simpa using hj
      have h4 := hs i j (Nat.zero_le _) hij (by omega)
      rw [getElem!_pos d' i hi', getElem!_pos d' j hj'] at h4
      simpa using h4
theorem sort_ownK {ρ : Go.Shelf.Ren} (L : Go.Proofs.SlLaysF0.n6 Try.prog ρ) (aE : ∀ w, (isAgg (ρ.t 24)).run Try.prog w = .ok true w) (zE : ∀ w, (Go.sizeOf (ρ.t 24)).run Try.prog w = .ok R.k w) (cf : α → α → Int) (hO : SWO (ltOf cf)) (fc : Nat)
    (eg : ∀ args w, (callFunc fc args).run Try.prog w = .ok (.enter fc args) w) (hC : ∀ blk off size w, CmpLays Try.prog fc #[] R.enc R.k cf blk off size w)
    (B : Nat) (v : Value) (xs : List α) (w : World) (hown : R.Own B w v xs) (hB : B ≤ w.heap.size) (hlen : xs.length ≤ 900000) :
    Calls Try.prog (ρ.f 6) #[v, .func (.func fc) #[] #[]] w (fun e w' => e = .returned (.tuple #[]) ∧ ∃ ys : List α, ys.Perm xs ∧ ys.Pairwise (fun x y => ltOf cf y x = false) ∧ R.Own B w' v ys ∧ Below B w w') :=
  (sort_ownKL L aE zE cf hO fc eg hC B v xs w hown hB (by omega)).mono fun e w' ⟨h1, ys, h2, h3, h4, h5, _⟩ => ⟨h1, ys, h2, h3, h4, h5⟩
end
end Go.Proofs.Ytedjbklejdcknaa
/- the library's sort over rows of steps -/
namespace Go.Proofs.Ytedjbklejdcknaa
open Go.RowKit Go.Sort Go.Shelf
set_option linter.unusedVariables false
set_option linter.unusedSimpArgs false

/- the library's sort, laid at rows of steps -/
def sortH_ren : Go.Shelf.Ren := ⟨fun | 6 => 46 | 15 => 68 | 14 => 67 | 28 => 93 | 29 => 94 | 20 => 85 | 21 => 86 | 22 => 87 | 23 => 88 | 24 => 89 | 25 => 90 | 26 => 91 | 27 => 92 | 46 => 99 | 47 => 100 | 48 => 101 | 49 => 102 | 50 => 103 | 57 => 105 | n => n, fun | 22 => 34 | 24 => 39 | 25 => 86 | 3 => 3 | 39 => 100 | 0 => 0 | 53 => 117 | 55 => 119 | 4 => 4 | 46 => 111 | 45 => 110 | 50 => 71 | 5 => 5 | 9 => 9 | 66 => 123 | 70 => 127 | 76 => 130 | 77 => 59 | n => n, fun | n => n⟩
theorem sortH : Go.Proofs.SlLaysF0.n6 Try.prog sortH_ren where
  mixed := by kernel_rfl
  f6 := ⟨ "slices.SortFunc[[]backwash/api.Hop,backwash/api.Hop]", by decide, Try.func46.trans (congrArg some (by kernel_rfl))⟩
  f14 := ⟨ "slices.pdqsortCmpFunc[backwash/api.Hop]", by decide, Try.func67.trans (congrArg some (by kernel_rfl))⟩
  f15 := Try.func68.trans (congrArg some (by kernel_rfl))
  f20 := ⟨ "slices.insertionSortCmpFunc[backwash/api.Hop]", by decide, Try.func85.trans (congrArg some (by kernel_rfl))⟩
  f21 := ⟨ "slices.heapSortCmpFunc[backwash/api.Hop]", by decide, Try.func86.trans (congrArg some (by kernel_rfl))⟩
  f22 := ⟨ "slices.breakPatternsCmpFunc[backwash/api.Hop]", by decide, Try.func87.trans (congrArg some (by kernel_rfl))⟩
  f23 := ⟨ "slices.choosePivotCmpFunc[backwash/api.Hop]", by decide, Try.func88.trans (congrArg some (by kernel_rfl))⟩
  f24 := ⟨ "slices.reverseRangeCmpFunc[backwash/api.Hop]", by decide, Try.func89.trans (congrArg some (by kernel_rfl))⟩
  f25 := ⟨ "slices.partialInsertionSortCmpFunc[backwash/api.Hop]", by decide, Try.func90.trans (congrArg some (by kernel_rfl))⟩
  f26 := ⟨ "slices.partitionEqualCmpFunc[backwash/api.Hop]", by decide, Try.func91.trans (congrArg some (by kernel_rfl))⟩
  f27 := ⟨ "slices.partitionCmpFunc[backwash/api.Hop]", by decide, Try.func92.trans (congrArg some (by kernel_rfl))⟩
  f28 := Try.func93.trans (congrArg some (by kernel_rfl))
  f29 := Try.func94.trans (congrArg some (by kernel_rfl))
  f46 := ⟨ "slices.siftDownCmpFunc[backwash/api.Hop]", by decide, Try.func99.trans (congrArg some (by kernel_rfl))⟩
  f47 := Try.func100.trans (congrArg some (by kernel_rfl))
  f48 := Try.func101.trans (congrArg some (by kernel_rfl))
  f49 := ⟨ "slices.medianAdjacentCmpFunc[backwash/api.Hop]", by decide, Try.func102.trans (congrArg some (by kernel_rfl))⟩
  f50 := ⟨ "slices.medianCmpFunc[backwash/api.Hop]", by decide, Try.func103.trans (congrArg some (by kernel_rfl))⟩
  f57 := ⟨ "slices.order2CmpFunc[backwash/api.Hop]", by decide, Try.func105.trans (congrArg some (by kernel_rfl))⟩
  t0 := Try.underlying0
  a0 := Try.isAgg0
  z0 := Try.sizeOf0
  v0 := Try.zeroValue0
  t3 := Try.underlying3
  a3 := Try.isAgg3
  z3 := Try.sizeOf3
  v3 := Try.zeroValue3
  t4 := Try.underlying4
  a4 := Try.isAgg4
  z4 := Try.sizeOf4
  v4 := Try.zeroValue4
  t5 := Try.underlying5
  a5 := Try.isAgg5
  z5 := Try.sizeOf5
  v5 := Try.zeroValue5
  t9 := Try.underlying9
  a9 := Try.isAgg9
  z9 := Try.sizeOf9
  v9 := Try.zeroValue9
  t22 := Try.underlying34
  a22 := Try.isAgg34
  z22 := Try.sizeOf34
  v22 := Try.zeroValue34
  t25 := Try.underlying86
  a25 := Try.isAgg86
  z25 := Try.sizeOf86
  v25 := Try.zeroValue86
  t39 := Try.underlying100
  a39 := Try.isAgg100
  z39 := Try.sizeOf100
  v39 := Try.zeroValue100
  t45 := Try.underlying110
  a45 := Try.isAgg110
  z45 := Try.sizeOf110
  v45 := Try.zeroValue110
  t46 := Try.underlying111
  a46 := Try.isAgg111
  z46 := Try.sizeOf111
  v46 := Try.zeroValue111
  t50 := Try.underlying71
  a50 := Try.isAgg71
  z50 := Try.sizeOf71
  v50 := Try.zeroValue71
  t53 := Try.underlying117
  a53 := Try.isAgg117
  z53 := Try.sizeOf117
  v53 := Try.zeroValue117
  t55 := Try.underlying119
  a55 := Try.isAgg119
  z55 := Try.sizeOf119
  v55 := Try.zeroValue119
  t66 := Try.underlying123
  a66 := Try.isAgg123
  z66 := Try.sizeOf123
  v66 := Try.zeroValue123
  t70 := Try.underlying127
  a70 := Try.isAgg127
  z70 := Try.sizeOf127
  v70 := Try.zeroValue127
  t76 := Try.underlying130
  a76 := Try.isAgg130
  z76 := Try.sizeOf130
  v76 := Try.zeroValue130
  t77 := Try.underlying59
  a77 := Try.isAgg59
  z77 := Try.sizeOf59
  v77 := Try.zeroValue59

theorem cmpH_lt (x y : HV) : ltOf cmpH x y = decide (lexI (keyH x) (keyH y) < 0) := by
  show decide (cmpH x y < 0) = _
  rw [cmpH_is]
theorem swoH : SWO (ltOf cmpH) where
  irrefl x := by rw [cmpH_lt]; exact decide_eq_false (lexI_self _)
  trans x y z h1 h2 := by rw [cmpH_lt] at *; exact decide_eq_true (lexI_trans _ _ _ (of_decide_eq_true h1) (of_decide_eq_true h2))
  ntrans x y z h1 h2 := by rw [cmpH_lt] at *; exact decide_eq_false (lexI_ntrans _ _ _ (of_decide_eq_false h1) (of_decide_eq_false h2))
theorem cmpLaysH (blk off size : Nat) (w : World) : CmpLays Try.prog 47 #[] HV.enc 11 cmpH blk off size w := fun m os dk hs x y =>
  (pcompare_any x y _).mono fun e w' h => ⟨h.1, grow_of_below h.2.1 h.2.2⟩
/-- a list of steps is sorted in its own place -/
theorem hsort_own (B : Nat) (v : Value) (xs : List HV) (w : World) (hown : RHp.Own B w v xs) (hB : B ≤ w.heap.size) (hlen : xs.length ≤ 1000000000000000) :
    Calls Try.prog 46 #[v, .func (.func 47) #[] #[]] w (fun e w' => e = .returned (.tuple #[]) ∧ ∃ ys : List HV, ys.Perm xs ∧ RHp.Own B w' v ys ∧ Below B w w' ∧ w.grownBy w' v.ownBlock) :=
  (sort_ownKL (R := RHp) sortH Try.isAgg39 Try.sizeOf39 cmpH swoH 47 (enters_of Try.func47 (by kernel_rfl) rfl) cmpLaysH B v xs w hown hB hlen).mono
    fun e w' ⟨h1, ys, h2, _, h4⟩ => ⟨h1, ys, h2, h4⟩
end Go.Proofs.Ytedjbklejdcknaa
