/- the library's sort over rows of any kind, by an order of all elements -/
import Derived.Test.YtjaahmgokiobjaaGreatG36
import Derived.Test.YtjaahmgokiobjaaGreatG06
import Derived.Shelf.SlSortCmp.NoneTotal
import Derived.Sort.Grow
import Derived.Test.YtjaahmgokiobjaaGreatG34
import Derived.Test.YtjaahmgokiobjaaGreatG35
namespace Go.Proofs.YtjaahmgokiobjaaGreat
open Go.RowKit Go.Sort Go.Shelf
set_option linter.unusedVariables false
set_option linter.unusedSimpArgs false

section
variable {α : Type} [Inhabited α] {R : RowKind α}
theorem flat_cellsK (d : Array α) : (flatK R.enc R.k d).toList = R.cells d.toList := by
  refine List.ext_getElem? fun t => ?_
  have hk := R.k0
  by_cases ht : t < d.size * R.k
  · have e : t = t / R.k * R.k + t % R.k := by rw [Nat.mul_comm]; exact (Nat.div_add_mod t R.k).symm
    have hm := Nat.mod_lt t hk
    have hq : t / R.k < d.toList.length := Nat.div_lt_of_lt_mul (by rw [Nat.mul_comm]; simpa using ht)
    have h1 := R.cells_get d.toList (t / R.k) hq (t % R.k) hm
    rw [← e] at h1
    rw [h1]
    have h2 := get_flatK R.enc R.k d t ht
    have hs : t < (flatK R.enc R.k d).toList.length := by simpa using ht
    have hd : t / R.k < d.size := by simpa using hq
    have hp : d.toList[t / R.k]! = d[t / R.k]! := by simp [hd]
    rw [List.getElem?_eq_getElem hs, hp]
    rw [getElem!_pos (flatK R.enc R.k d) t (by simpa using ht)] at h2
    rw [Array.getElem_toList, h2]
    have h5 : t % R.k < (R.enc d[t / R.k]!).length := by rw [R.len]; exact hm
    rw [List.getElem?_eq_getElem h5]
    show some ((R.enc d[t / R.k]!)[t % R.k]!) = _
    rw [getElem!_pos (R.enc d[t / R.k]!) (t % R.k) h5]
  · rw [List.getElem?_eq_none (by simp; omega), List.getElem?_eq_none (by rw [R.cells_len]; simp; omega)]
theorem holds_ownK {B g cap : Nat} {w : World} {d : Array α} (h : R.Own B w (.slice (some ⟨g, 0, none⟩) d.toList.length cap) d.toList) : HoldsK R.enc R.k w g 0 d := by
  intro j hj
  rw [size_flatK] at hj
  have h1 := World.ownsRow.cellAt h j (by simpa using hj)
  have h2 := World.ownsRow.frozenAt h j
  have hf := flat_cellsK (R := R) d
  have hs : j < (flatK R.enc R.k d).size := by simpa using hj
  refine ⟨?_, by rw [Nat.zero_add]; exact h2⟩
  rw [Nat.zero_add, h1, ← hf, getElem!_pos (flatK R.enc R.k d) j hs]
  simp [hs]
theorem put_takeK (F cur : Array Value) (h : F.size ≤ cur.size) : (putCells id 0 F cur).toList.take F.size = F.toList := by
  refine List.ext_getElem? fun k => ?_
  rw [List.getElem?_take]
  split
  · rename_i hk
    have hc : k < cur.size := by omega
    simp [putCells, hk, hc]
  · rename_i hk
    rw [List.getElem?_eq_none (by simpa using hk)]
theorem own_putK {B g cap : Nat} {w : World} {xs : List α} (h : R.Own B w (.slice (some ⟨g, 0, none⟩) xs.length cap) xs) {d' : Array α} (hl : d'.size = xs.length) (n : Nat) (os : Array Obj) :
    R.Own B (sortWorldK R.enc R.k w g 0 n d' os) (.slice (some ⟨g, 0, none⟩) xs.length cap) d'.toList ∧ Below B w (sortWorldK R.enc R.k w g 0 n d' os) := by
  obtain ⟨h1, h2⟩ := h
  rcases h2 with ⟨e, _⟩ | ⟨g', cap', cur, e, hB, hg, hc, hm, hs, ht⟩
  · cases e
  · simp only [Value.slice.injEq, Option.some.injEq, Addr.mk.injEq, and_true, true_and] at e
    obtain ⟨e1, e2⟩ := e
    subst e1; subst e2
    have hlt : g < w.heap.size := (Array.getElem?_eq_some_iff.1 hg).1
    have hgrow : ∀ k, k < w.heap.size → (sortWorldK R.enc R.k w g 0 n d' os).heap[k]? = (w.heap.modify g (onCells (putCells id 0 (flatK R.enc R.k d'))))[k]? := by
      intro k hk
      show ((w.heap.modify g (onCells (putCells id 0 (flatK R.enc R.k d')))) ++ os)[k]? = _
      rw [Array.getElem?_append_left (by simpa using hk)]
    have hcell : (sortWorldK R.enc R.k w g 0 n d' os).heap[g]? = some (.cells (putCells id 0 (flatK R.enc R.k d') cur) R.tE (0, 0)) := by
      rw [hgrow g hlt, Array.getElem?_modify, if_pos rfl, hg]
      rfl
    have hpl : d'.toList.length = xs.length := by simpa using hl
    refine ⟨⟨R.cells_len _, .inr ⟨g, cap, putCells id 0 (flatK R.enc R.k d') cur, by rw [hpl], hB, hcell, by rw [hpl]; exact hc, hm, by simp [putCells, hs], ?_⟩⟩, rfl, rfl, rfl, ?_, ?_⟩
    · rw [← flat_cellsK, hpl]
      have hz : xs.length * R.k = (flatK R.enc R.k d').size := by simp [hl]
      rw [hz]
      refine put_takeK _ _ ?_
      rw [← hz, hs]
      exact Nat.mul_le_mul_right _ hc
    · show w.heap.size ≤ ((w.heap.modify g (onCells (putCells id 0 (flatK R.enc R.k d')))) ++ os).size
      simp
    · intro k hk
      rw [hgrow k (by omega), Array.getElem?_modify, if_neg (by omega)]
theorem put_grownK (w : World) (g n : Nat) (d' : Array α) (os : Array Obj) : w.grownBy (sortWorldK R.enc R.k w g 0 n d' os) (some g) := by
  refine ⟨rfl, rfl, rfl, ?_, fun k hk hne => ?_⟩
  · show w.heap.size ≤ ((w.heap.modify g (onCells (putCells id 0 (flatK R.enc R.k d')))) ++ os).size
    simp
  · show ((w.heap.modify g (onCells (putCells id 0 (flatK R.enc R.k d')))) ++ os)[k]? = _
    rw [Array.getElem?_append_left (by simpa using hk), Array.getElem?_modify, if_neg (fun e => hne (by rw [e]))]
/-- the sort of a row of the call's own -/
theorem sort_ownKL {ρ : Go.Shelf.Ren} (L : Go.Proofs.SlLaysF0.n6 Tryz.prog ρ) (aE : ∀ w, (isAgg (ρ.t 24)).run Tryz.prog w = .ok true w) (zE : ∀ w, (Go.sizeOf (ρ.t 24)).run Tryz.prog w = .ok R.k w) (cf : α → α → Int) (hO : SWO (ltOf cf)) (fc : Nat)
    (eg : ∀ args w, (callFunc fc args).run Tryz.prog w = .ok (.enter fc args) w) (hC : ∀ blk off size w, CmpLays Tryz.prog fc #[] R.enc R.k cf blk off size w)
    (B : Nat) (v : Value) (xs : List α) (w : World) (hown : R.Own B w v xs) (hB : B ≤ w.heap.size) (hlen : xs.length ≤ 1000000000000000) :
    Calls Tryz.prog (ρ.f 6) #[v, .func (.func fc) #[] #[]] w (fun e w' => e = .returned (.tuple #[]) ∧ ∃ ys : List α, ys.Perm xs ∧ ys.Pairwise (fun x y => ltOf cf y x = false) ∧ R.Own B w' v ys ∧ Below B w w' ∧ w.grownBy w' v.ownBlock) := by
  have hk := hown
  rcases hk.2 with ⟨e, hn⟩ | ⟨g, cap, cur, e, _, hg, _⟩
  · obtain rfl : xs = [] := List.length_eq_zero_iff.1 hn
    subst e
    refine (AnyF.slices_SortFunc_none L none 0 _ w).mono ?_
    rintro e w' ⟨rfl, rfl⟩
    exact ⟨rfl, [], List.Perm.refl _, List.Pairwise.nil, hown, Below.refl _ _, ⟨rfl, rfl, rfl, Nat.le_refl _, fun _ _ _ => rfl⟩⟩
  · subst e
    obtain ⟨d, rfl⟩ : ∃ d : Array α, xs = d.toList := ⟨xs.toArray, rfl⟩
    have hsl : d.size < 4611686018427387904 := by
      have e : d.toList.length = d.size := by simp
      omega
    have hcon := AnyQ.slices_SortFunc L R.k aE zE R.enc R.len R.one cf hO fc #[] g 0 cap d w eg (hC g 0 d.size w) (holds_ownK hown) (Array.getElem?_eq_some_iff.1 hg).1 hsl
    have hsz : d.toList.length = d.size := by simp
    rw [hsz]
    refine Calls.mono hcon ?_
    rintro e w' ⟨rfl, d', n, os, hp, hs, rfl⟩
    have hl : d'.size = d.toList.length := by rw [hp.1, hsz]
    have hq := own_putK hown hl n os
    rw [hsz] at hq
    refine ⟨rfl, d'.toList, ?_, ?_, hq.1, hq.2, put_grownK w g n d' os⟩
    · have h3 := hp.2.2
      rw [Array.extract_size, show d.size = d'.size by rw [hl, hsz], Array.extract_size] at h3
      simpa using h3
    · rw [List.pairwise_iff_getElem]
      intro i j hi hj hij
      have hi' : i < d'.size := by simpa using hi
      have hj' : j < d'.size := by simpa using hj
      have h4 := hs i j (Nat.zero_le _) hij (by omega)
      rw [getElem!_pos d' i hi', getElem!_pos d' j hj'] at h4
      simpa using h4
theorem sort_ownK {ρ : Go.Shelf.Ren} (L : Go.Proofs.SlLaysF0.n6 Tryz.prog ρ) (aE : ∀ w, (isAgg (ρ.t 24)).run Tryz.prog w = .ok true w) (zE : ∀ w, (Go.sizeOf (ρ.t 24)).run Tryz.prog w = .ok R.k w) (cf : α → α → Int) (hO : SWO (ltOf cf)) (fc : Nat)
    (eg : ∀ args w, (callFunc fc args).run Tryz.prog w = .ok (.enter fc args) w) (hC : ∀ blk off size w, CmpLays Tryz.prog fc #[] R.enc R.k cf blk off size w)
    (B : Nat) (v : Value) (xs : List α) (w : World) (hown : R.Own B w v xs) (hB : B ≤ w.heap.size) (hlen : xs.length ≤ 900000) :
    Calls Tryz.prog (ρ.f 6) #[v, .func (.func fc) #[] #[]] w (fun e w' => e = .returned (.tuple #[]) ∧ ∃ ys : List α, ys.Perm xs ∧ ys.Pairwise (fun x y => ltOf cf y x = false) ∧ R.Own B w' v ys ∧ Below B w w') :=
  (sort_ownKL L aE zE cf hO fc eg hC B v xs w hown hB (by omega)).mono fun e w' ⟨h1, ys, h2, h3, h4, h5, _⟩ => ⟨h1, ys, h2, h3, h4, h5⟩
end
end Go.Proofs.YtjaahmgokiobjaaGreat
/- the library's sort over rows of steps -/
namespace Go.Proofs.YtjaahmgokiobjaaGreat
open Go.RowKit Go.Sort Go.Shelf
set_option linter.unusedVariables false
set_option linter.unusedSimpArgs false

/- the library's sort, laid at rows of steps -/
def sortH_ren : Go.Shelf.Ren := ⟨fun | 6 => 37 | 15 => 69 | 14 => 68 | 28 => 98 | 29 => 99 | 20 => 90 | 21 => 91 | 22 => 92 | 23 => 93 | 24 => 94 | 25 => 95 | 26 => 96 | 27 => 97 | 46 => 107 | 47 => 108 | 48 => 109 | 49 => 110 | 50 => 111 | 57 => 121 | n => n, fun | 22 => 53 | 24 => 55 | 25 => 75 | 3 => 3 | 39 => 103 | 0 => 0 | 53 => 125 | 55 => 127 | 4 => 4 | 46 => 119 | 45 => 118 | 50 => 79 | 5 => 5 | 9 => 9 | 66 => 131 | 70 => 135 | 76 => 143 | 77 => 45 | n => n, fun | n => n⟩
theorem sortH : Go.Proofs.SlLaysF0.n6 Tryz.prog sortH_ren where
  mixed := by kernel_rfl
  f6 := ⟨ "slices.SortFunc[[]backwash/api.Hop,backwash/api.Hop]", by decide, Tryz.func37.trans (congrArg some (by kernel_rfl))⟩
  f14 := ⟨ "slices.pdqsortCmpFunc[backwash/api.Hop]", by decide, Tryz.func68.trans (congrArg some (by kernel_rfl))⟩
  f15 := Tryz.func69.trans (congrArg some (by kernel_rfl))
  f20 := ⟨ "slices.insertionSortCmpFunc[backwash/api.Hop]", by decide, Tryz.func90.trans (congrArg some (by kernel_rfl))⟩
  f21 := ⟨ "slices.heapSortCmpFunc[backwash/api.Hop]", by decide, Tryz.func91.trans (congrArg some (by kernel_rfl))⟩
  f22 := ⟨ "slices.breakPatternsCmpFunc[backwash/api.Hop]", by decide, Tryz.func92.trans (congrArg some (by kernel_rfl))⟩
  f23 := ⟨ "slices.choosePivotCmpFunc[backwash/api.Hop]", by decide, Tryz.func93.trans (congrArg some (by kernel_rfl))⟩
  f24 := ⟨ "slices.reverseRangeCmpFunc[backwash/api.Hop]", by decide, Tryz.func94.trans (congrArg some (by kernel_rfl))⟩
  f25 := ⟨ "slices.partialInsertionSortCmpFunc[backwash/api.Hop]", by decide, Tryz.func95.trans (congrArg some (by kernel_rfl))⟩
  f26 := ⟨ "slices.partitionEqualCmpFunc[backwash/api.Hop]", by decide, Tryz.func96.trans (congrArg some (by kernel_rfl))⟩
  f27 := ⟨ "slices.partitionCmpFunc[backwash/api.Hop]", by decide, Tryz.func97.trans (congrArg some (by kernel_rfl))⟩
  f28 := Tryz.func98.trans (congrArg some (by kernel_rfl))
  f29 := Tryz.func99.trans (congrArg some (by kernel_rfl))
  f46 := ⟨ "slices.siftDownCmpFunc[backwash/api.Hop]", by decide, Tryz.func107.trans (congrArg some (by kernel_rfl))⟩
  f47 := Tryz.func108.trans (congrArg some (by kernel_rfl))
  f48 := Tryz.func109.trans (congrArg some (by kernel_rfl))
  f49 := ⟨ "slices.medianAdjacentCmpFunc[backwash/api.Hop]", by decide, Tryz.func110.trans (congrArg some (by kernel_rfl))⟩
  f50 := ⟨ "slices.medianCmpFunc[backwash/api.Hop]", by decide, Tryz.func111.trans (congrArg some (by kernel_rfl))⟩
  f57 := ⟨ "slices.order2CmpFunc[backwash/api.Hop]", by decide, Tryz.func121.trans (congrArg some (by kernel_rfl))⟩
  t0 := Tryz.underlying0
  a0 := Tryz.isAgg0
  z0 := Tryz.sizeOf0
  v0 := Tryz.zeroValue0
  t3 := Tryz.underlying3
  a3 := Tryz.isAgg3
  z3 := Tryz.sizeOf3
  v3 := Tryz.zeroValue3
  t4 := Tryz.underlying4
  a4 := Tryz.isAgg4
  z4 := Tryz.sizeOf4
  v4 := Tryz.zeroValue4
  t5 := Tryz.underlying5
  a5 := Tryz.isAgg5
  z5 := Tryz.sizeOf5
  v5 := Tryz.zeroValue5
  t9 := Tryz.underlying9
  a9 := Tryz.isAgg9
  z9 := Tryz.sizeOf9
  v9 := Tryz.zeroValue9
  t22 := Tryz.underlying53
  a22 := Tryz.isAgg53
  z22 := Tryz.sizeOf53
  v22 := Tryz.zeroValue53
  t25 := Tryz.underlying75
  a25 := Tryz.isAgg75
  z25 := Tryz.sizeOf75
  v25 := Tryz.zeroValue75
  t39 := Tryz.underlying103
  a39 := Tryz.isAgg103
  z39 := Tryz.sizeOf103
  v39 := Tryz.zeroValue103
  t45 := Tryz.underlying118
  a45 := Tryz.isAgg118
  z45 := Tryz.sizeOf118
  v45 := Tryz.zeroValue118
  t46 := Tryz.underlying119
  a46 := Tryz.isAgg119
  z46 := Tryz.sizeOf119
  v46 := Tryz.zeroValue119
  t50 := Tryz.underlying79
  a50 := Tryz.isAgg79
  z50 := Tryz.sizeOf79
  v50 := Tryz.zeroValue79
  t53 := Tryz.underlying125
  a53 := Tryz.isAgg125
  z53 := Tryz.sizeOf125
  v53 := Tryz.zeroValue125
  t55 := Tryz.underlying127
  a55 := Tryz.isAgg127
  z55 := Tryz.sizeOf127
  v55 := Tryz.zeroValue127
  t66 := Tryz.underlying131
  a66 := Tryz.isAgg131
  z66 := Tryz.sizeOf131
  v66 := Tryz.zeroValue131
  t70 := Tryz.underlying135
  a70 := Tryz.isAgg135
  z70 := Tryz.sizeOf135
  v70 := Tryz.zeroValue135
  t76 := Tryz.underlying143
  a76 := Tryz.isAgg143
  z76 := Tryz.sizeOf143
  v76 := Tryz.zeroValue143
  t77 := Tryz.underlying45
  a77 := Tryz.isAgg45
  z77 := Tryz.sizeOf45
  v77 := Tryz.zeroValue45

theorem cmpH_lt (x y : HV) : ltOf cmpH x y = decide (lexI (keyH x) (keyH y) < 0) := by
  show decide (cmpH x y < 0) = _
  rw [cmpH_is]
theorem swoH : SWO (ltOf cmpH) where
  irrefl x := by rw [cmpH_lt]; exact decide_eq_false (lexI_self _)
  trans x y z h1 h2 := by rw [cmpH_lt] at *; exact decide_eq_true (lexI_trans _ _ _ (of_decide_eq_true h1) (of_decide_eq_true h2))
  ntrans x y z h1 h2 := by rw [cmpH_lt] at *; exact decide_eq_false (lexI_ntrans _ _ _ (of_decide_eq_false h1) (of_decide_eq_false h2))
theorem cmpLaysH (blk off size : Nat) (w : World) : CmpLays Tryz.prog 38 #[] HV.enc 11 cmpH blk off size w := fun m os dk hs x y =>
  (pcompare_any x y _).mono fun e w' h => ⟨h.1, grow_of_below h.2.1 h.2.2⟩
/-- a list of steps is sorted in its own place -/
theorem hsort_own (B : Nat) (v : Value) (xs : List HV) (w : World) (hown : RHp.Own B w v xs) (hB : B ≤ w.heap.size) (hlen : xs.length ≤ 1000000000000000) :
    Calls Tryz.prog 37 #[v, .func (.func 38) #[] #[]] w (fun e w' => e = .returned (.tuple #[]) ∧ ∃ ys : List HV, ys.Perm xs ∧ RHp.Own B w' v ys ∧ Below B w w' ∧ w.grownBy w' v.ownBlock) :=
  (sort_ownKL (R := RHp) sortH Tryz.isAgg55 Tryz.sizeOf55 cmpH swoH 38 (enters_of Tryz.func38 (by kernel_rfl) rfl) cmpLaysH B v xs w hown hB hlen).mono
    fun e w' ⟨h1, ys, h2, _, h4⟩ => ⟨h1, ys, h2, h4⟩
end Go.Proofs.YtjaahmgokiobjaaGreat
/- ways loaded and stored; lists of lists of steps kept apart from ways; the program's way of going stays within the places -/
namespace Go.Proofs.YtjaahmgokiobjaaGreat
open Go.RowKit
set_option linter.unusedVariables false
set_option linter.unusedSimpArgs false

/-- a whole way is loaded, wherever it lies -/
theorem loadWs (dst : Option Nat) (type : TypeId) (pos : String) (after : Array Edge) (guard : Option (Nat × Bool)) (x : Operand) (a : Act) (w : World) (next : Act → World → Prop) (Q : Exit → Act → World → Prop) :
    Oper.wp Tryz.prog ⟨dst, .load 69 x, type, pos, after, guard⟩ a w next Q = match a.eval x with
      | .pointer (some ad) => (match elemL w ad 0 12 with
        | some l => next (a.put dst (.agg l.toArray)) w
        | none => slowP (Oper.wp Tryz.prog ⟨dst, .load 69 x, type, pos, after, guard⟩ a w next Q))
      | _ => slowP (Oper.wp Tryz.prog ⟨dst, .load 69 x, type, pos, after, guard⟩ a w next Q) := by
  split
  · rename_i ad hx
    split
    · rename_i l hc
      obtain ⟨hn, hg⟩ := elemL_get hc
      have hl : (loadCells ad 12).run Tryz.prog w = .ok l.toArray w := by
        have := run_loadCells_list (P := Tryz.prog) w ad l (fun j v hj => by have := hg j v hj; rwa [Nat.zero_add] at this)
        rwa [hn] at this
      have ha : (isAgg 69).run Tryz.prog w = .ok true w := by kernel_rfl
      have hs : (sizeOf 69).run Tryz.prog w = .ok 12 w := by kernel_rfl
      have h : (loadVar 69 ad).run Tryz.prog w = .ok (.agg l.toArray) w := by
        simp [loadVar, ha, hs, Result.andThen, hl]
      have h2 : (Instr.loadAt 69 (.pointer (some ad))).run Tryz.prog w = .ok (.agg l.toArray) w := by
        rw [← h]; simp [Instr.loadAt, Instr.sureAddr]
      simp only [Oper.wp, execOp, hx, Sem.run_bind, h2, Result.andThen, Sem.run_pure, Oper.upon_value]
    · rfl
  · rfl
theorem storeW (dst : Option Nat) (type : TypeId) (pos : String) (after : Array Edge) (guard : Option (Nat × Bool)) (x y : Operand) (a : Act) (w : World) (next : Act → World → Prop) (Q : Exit → Act → World → Prop) :
    Oper.wp Tryz.prog ⟨dst, .store 69 x y, type, pos, after, guard⟩ a w next Q = match a.eval x, a.eval y with
      | .pointer (some ad), .agg cs => (match rowAt w ad with
        | some c => if c.size = 12 ∧ cs.size = 12 ∧ 12 ≠ 0 ∧ cs.toList.all Value.oneCell' = true then next (a.put dst undef) (setRow w ad.block cs) else slowP (Oper.wp Tryz.prog ⟨dst, .store 69 x y, type, pos, after, guard⟩ a w next Q)
        | none => slowP (Oper.wp Tryz.prog ⟨dst, .store 69 x y, type, pos, after, guard⟩ a w next Q))
      | _, _ => slowP (Oper.wp Tryz.prog ⟨dst, .store 69 x y, type, pos, after, guard⟩ a w next Q) := by
  split
  · rename_i ad cs hx hy
    split
    · rename_i c hc
      split
      · rename_i hn
        have h := run_storeAt_any Tryz.prog w 69 12 (by kernel_rfl) (.pointer (some ad)) (.agg cs)
        simp only [hc] at h
        rw [if_pos hn] at h
        simp only [Oper.wp, execOp, hx, hy, Sem.run_bind, h, Result.andThen, Sem.run_pure, Oper.upon_skip]
      · rfl
    · rfl
  · rfl
abbrev wvRow (p : WV) : Array Value := #[.int .i64 (p.1 : Int), .int .i64 p.2.f, .int .i64 p.2.k, .int .i64 p.2.t, .int .i64 p.2.a0, .int .i64 p.2.a1, .int .i64 p.2.a2, .int .i64 p.2.a3, .int .i64 p.2.b0, .int .i64 p.2.b1, .int .i64 p.2.b2, .int .i64 p.2.b3]
theorem row_elemW {w : World} {b : Nat} {p : WV} (h : rowOf w b = some (wvRow p)) : elemL w ⟨b, 0, none⟩ 0 12 = some (WV.enc p) :=
  elemL_of (l := WV.enc p) (i := 0) (fun j v hj => by
    rw [Addr.add_lit, Nat.zero_add, Nat.zero_add, rowOf_cell h]
    simpa [WV.enc, HV.enc] using hj)
theorem own_elemW {B : Nat} {w : World} {p : Option Addr} {n cap : Nat} {ys : List WV} (h : RWy.Own B w (.slice p n cap) ys) (j : Nat) (hj : j < ys.length) : ∃ g, p = some ⟨g, 0, none⟩ ∧ elemL w ⟨g, j * 12, none⟩ 0 12 = some (WV.enc ys[j]!) := by
  obtain ⟨h1, h2⟩ := h
  rcases h2 with ⟨e, hn⟩ | ⟨g, cap', cur, e, hB, hg, hc, hm, hs, ht⟩
  · omega
  · have hown : RWy.Own B w (.slice p n cap) ys := ⟨h1, .inr ⟨g, cap', cur, e, hB, hg, hc, hm, hs, ht⟩⟩
    simp only [Value.slice.injEq] at e
    obtain ⟨rfl, rfl, rfl⟩ := e
    refine ⟨g, rfl, ?_⟩
    rcases hown.is with ⟨rfl, _⟩ | ⟨_, b, off, cap'', e, hb, hr⟩
    · simp at hj
    · simp only [Value.slice.injEq, Option.some.injEq, Addr.mk.injEq, and_true, true_and] at e
      obtain ⟨⟨rfl, rfl⟩, _⟩ := e
      exact elemL_of (l := WV.enc ys[j]!) (i := 0) (fun i u hu => by
        rw [Addr.add_lit, Nat.zero_add]
        have := hr j hj i u hu
        rwa [Nat.zero_add] at this)
/-- rows of two kinds never share a block -/
theorem own_apart {α β : Type} {R : RowKind α} {S : RowKind β} (ht : R.tE ≠ S.tE) {B C : Nat} {w : World} {v u : Value} {xs : List α} {ys : List β} (h : R.Own B w v xs) (k : S.Own C w u ys) : ∀ i, v.ownBlock = some i → u.ownBlock ≠ some i := by
  intro i hi hu
  obtain ⟨_, ⟨rfl, _⟩ | ⟨g, cap, cur, rfl, _, hg, _⟩⟩ := h
  · cases hi
  · obtain ⟨_, ⟨rfl, _⟩ | ⟨g', cap', cur', rfl, _, hg', _⟩⟩ := k
    · cases hu
    · have e1 : g = i := Option.some.inj hi
      have e2 : g' = i := Option.some.inj hu
      subst e1; subst e2
      rw [hg] at hg'
      simp only [Option.some.injEq, Obj.cells.injEq] at hg'
      exact ht hg'.2.1
theorem way_hop : RWy.tE ≠ RHp.tE := by decide
theorem RowKind.Own.keepG {α : Type} {R : RowKind α} {B : Nat} {w w' : World} {v : Value} {xs : List α} {r : Option Nat} (h : R.Own B w v xs) (hg : w.grownBy w' r) (hne : ∀ i, v.ownBlock = some i → r ≠ some i) : R.Own B w' v xs :=
  h.keepJ fun l hl => hg.block l (h.lt l hl).2 fun e => hne l hl e.symm
namespace OHH
variable {B : Nat} {W W' : World} {blk : Nat} {svs : List SV} {rows : List (List HV)}
/-- another row has grown -/
theorem apart (h : OHH B W blk svs rows) {r : Option Nat} (hg : W.grownBy W' r) (h1 : r ≠ some blk) (h2 : ∀ m, m < svs.length → ∀ i, svs[m]!.val.ownBlock = some i → r ≠ some i) : OHH B W' blk svs rows :=
  ⟨h.lo, (hg.block blk h.lt fun e => h1 e.symm).trans h.heap, h.len, fun m hm => (h.own m hm).keepG hg (h2 m hm), h.ne, h.sep⟩
/-- one of the lists has turned in its own place -/
theorem turn (h : OHH B W blk svs rows) {m : Nat} (hm : m < svs.length) (hg : W.grownBy W' svs[m]!.val.ownBlock) {ys : List HV} (ho : RHp.Own B W' svs[m]!.val ys) : OHH B W' blk svs (rows.set m ys) := by
  refine ⟨h.lo, (hg.block blk h.lt fun e => h.ne m hm e.symm).trans h.heap, by rw [List.length_set]; exact h.len, fun j hj => ?_, h.ne, h.sep⟩
  rw [set_get _ _ _ _ (by rw [← h.len]; exact hm)]
  split
  · rename_i e
    subst e
    exact ho
  · rename_i hne
    exact (h.own j hj).keepG hg fun i hi e => h.sep m j hm hj hne i e hi
/-- ways lie in none of its blocks -/
theorem way_ne (h : OHH B W blk svs rows) {C : Nat} {u : Value} {ws : List WV} (k : RWy.Own C W u ws) : u.ownBlock ≠ some blk ∧ ∀ m, m < svs.length → ∀ i, svs[m]!.val.ownBlock = some i → u.ownBlock ≠ some i := by
  refine ⟨fun e => ?_, fun m hm i hi hu => own_apart (Ne.symm way_hop) (h.own m hm) k i hi hu⟩
  obtain ⟨_, ⟨rfl, _⟩ | ⟨g, cap, cur, rfl, _, hg, _⟩⟩ := k
  · cases e
  · have e : g = blk := Option.some.inj e
    subst e
    rw [h.heap] at hg
    simp only [Option.some.injEq, Obj.cells.injEq] at hg
    exact absurd hg.2.1 (by decide)
end OHH
theorem RowKind.Own.appendAnyBL {α : Type} [Inhabited α] {R : RowKind α} {ops : Array Oper} {rest : List Oper} {o : Oper} {a : Act} {Q : Exit → Act → World → Prop} {w : World} (hb0 : 0 < R.bytes) (hgd : o.guard = none) (s x : Operand)
    (ho : o.op = .call { callee := .builtin .append, args := #[s, x], argTypes := #[R.tS, R.tS] }) {B : Nat} {v vx : Value} {xs ys : List α} (hown : R.Own B w v xs) (hs : a.eval s = v)
    (hx : a.eval x = vx) (his : R.Is w vx ys) (hlen : (xs.length + ys.length) * R.bytes ≤ 140737488355328) (hbase : B ≤ w.heap.size)
    (h : ∀ v' w', R.Own B w' v' (xs ++ ys) → w.grownBy w' v.ownBlock → StaysOrNew w v v' → wpList Tryz.prog ops Q rest (a.put o.dst v') w') : wpList Tryz.prog ops Q (o :: rest) a w := by
  obtain ⟨v', w', hr, h1, h2, h3⟩ := run_appendAnyL hown his hb0 hlen hbase o.type
  exact wpList_plain hgd fun _ hK => wp_of_runB ho (by rw [hs, hx]; exact hr) (hK _ _ (h v' w' h1 h2 h3))
/-- the ways stay within the places -/
theorem biter_place {E : List NE} {N : Nat} (hE : ∀ e ∈ E, e.dst < N) {n : Nat} (hn : n < N) (h0 : HV) : ∀ k j, j < (biter E (bstart n N h0) k).ws.length → ((biter E (bstart n N h0) k).ws[j]!).1 < N
  | 0, j, hj => by
    have hj : j < 1 := hj
    obtain rfl : j = 0 := by omega
    exact hn
  | k + 1, j, hj => by
    have ih := biter_place hE hn h0 k
    revert hj
    show j < List.length (if _ then _ else _) → ((if _ then _ else _ : List WV)[j]!).1 < N
    generalize biter E (bstart n N h0) k = s at ih ⊢
    split
    · exact ih j
    · intro hj
      by_cases h1 : j < s.ws.length
      · rw [get_left _ _ h1]; exact ih j h1
      · rw [List.length_append] at hj
        rw [get_right _ _ (by omega) hj]
        have hmem : (longerW E (s.ws[k]!).1 (s.ws[k]!).2)[j - s.ws.length]! ∈ longerW E (s.ws[k]!).1 (s.ws[k]!).2 := by rw [getElem!_pos (longerW E (s.ws[k]!).1 (s.ws[k]!).2) (j - s.ws.length) (by omega)]; exact List.getElem_mem _
        obtain ⟨e, he, _, _, hpe⟩ := mem_longer.1 hmem
        rw [hpe]
        exact hE e he
theorem biter_succ (E : List NE) (s : BS) (k : Nat) {p : WV} (hp : (biter E s k).ws[k]! = p) : (biter E s (k + 1)).ws = (if putNo (biter E s k).low[p.1]! p.2 = true then (biter E s k).ws else (biter E s k).ws ++ longerW E p.1 p.2) ∧
    (biter E s (k + 1)).low = (biter E s k).low.set p.1 (putL (biter E s k).low[p.1]! p.2) := by
  subst hp
  exact ⟨rfl, rfl⟩
end Go.Proofs.YtjaahmgokiobjaaGreat
