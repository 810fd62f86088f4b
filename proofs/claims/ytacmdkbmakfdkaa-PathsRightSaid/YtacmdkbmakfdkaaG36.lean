/- the library's sort over rows of any kind, by an order of all elements -/
import Derived.Test.YtacmdkbmakfdkaaG06
import Derived.Shelf.SlSortCmp.NoneTotal
import Derived.Sort.Grow
import Derived.Test.YtacmdkbmakfdkaaG35
import Derived.Test.YtacmdkbmakfdkaaG34
namespace Go.Proofs.Ytacmdkbmakfdkaa
open Go.RowKit Go.Sort Go.Shelf
set_option linter.unusedVariables false
set_option linter.unusedSimpArgs false

theorem grow_of_below {w w' : World} (h : Below w.heap.size w w') (hd : w.drawn ≤ w'.drawn) : ∃ q os', w' = grow (w.drewN q) os' := by
  refine ⟨w'.drawn - w.drawn, w'.heap.extract w.heap.size w'.heap.size, ?_⟩
  obtain ⟨h1, h2, h3, h4, h5⟩ := h
  obtain ⟨hp, tp, dr, os, out⟩ := w
  obtain ⟨hp', tp', dr', os', out'⟩ := w'
  simp only at h1 h2 h3 h4 h5 hd
  subst h1 h2 h3
  unfold grow World.drewN
  simp only [World.mk.injEq, true_and, and_true]
  refine ⟨?_, by omega⟩
  refine Array.ext_getElem? fun i => ?_
  rw [Array.getElem?_append]
  split
  · exact h5 i (by assumption)
  · rename_i hi
    rw [Array.getElem?_extract]
    split
    · congr 1; omega
    · rw [Array.getElem?_eq_none (by omega)]
section
variable {α : Type} [Inhabited α] {R : RowKind α}
theorem flat_cellsK (d : Array α) : (flatK R.enc R.k d).toList = R.cells d.toList := by
  refine List.ext_getElem? fun t => ?_
  have hk := R.k0
  by_cases ht : t < d.size * R.k
  · have e : t = t / R.k * R.k + t % R.k := by rw [Nat.mul_comm]; exact (Nat.div_add_mod t R.k).symm
    have hm := Nat.mod_lt t hk
    have hq : t / R.k < d.toList.length := Nat.div_lt_of_lt_mul (by rw [Nat.mul_comm]; simpa using ht)
    have h1 := R.cells_get d.toList (t / R.k) hq (t % R.k) hm
    rw [← e] at h1
    rw [h1]
    have h2 := get_flatK R.enc R.k d t ht
    have hs : t < (flatK R.enc R.k d).toList.length := by simpa using ht
    have hd : t / R.k < d.size := by simpa using hq
    have hp : d.toList[t / R.k]! = d[t / R.k]! := by simp [hd]
    rw [List.getElem?_eq_getElem hs, hp]
    rw [getElem!_pos (flatK R.enc R.k d) t (by simpa using ht)] at h2
    rw [Array.getElem_toList, h2]
    have h5 : t % R.k < (R.enc d[t / R.k]!).length := by rw [R.len]; exact hm
    rw [List.getElem?_eq_getElem h5]
    show some ((R.enc d[t / R.k]!)[t % R.k]!) = _
    rw [getElem!_pos (R.enc d[t / R.k]!) (t % R.k) h5]
  · rw [List.getElem?_eq_none (by simp; omega), List.getElem?_eq_none (by rw [R.cells_len]; simp; omega)]
theorem holds_ownK {B g cap : Nat} {w : World} {d : Array α} (h : R.Own B w (.slice (some ⟨g, 0, none⟩) d.toList.length cap) d.toList) : HoldsK R.enc R.k w g 0 d := by
  intro j hj
  rw [size_flatK] at hj
  have h1 := World.ownsRow.cellAt h j (by simpa using hj)
  have h2 := World.ownsRow.frozenAt h j
  have hf := flat_cellsK (R := R) d
  have hs : j < (flatK R.enc R.k d).size := by simpa using hj
  refine ⟨?_, by rw [Nat.zero_add]; exact h2⟩
  rw [Nat.zero_add, h1, ← hf, getElem!_pos (flatK R.enc R.k d) j hs]
  simp [hs]
theorem put_takeK (F cur : Array Value) (h : F.size ≤ cur.size) : (putCells id 0 F cur).toList.take F.size = F.toList := by
  refine List.ext_getElem? fun k => ?_
  rw [List.getElem?_take]
  split
  · rename_i hk
    have hc : k < cur.size := by omega
    simp [putCells, hk, hc]
  · rename_i hk
    rw [List.getElem?_eq_none (by simpa using hk)]
theorem own_putK {B g cap : Nat} {w : World} {xs : List α} (h : R.Own B w (.slice (some ⟨g, 0, none⟩) xs.length cap) xs) {d' : Array α} (hl : d'.size = xs.length) (n : Nat) (os : Array Obj) :
    R.Own B (sortWorldK R.enc R.k w g 0 n d' os) (.slice (some ⟨g, 0, none⟩) xs.length cap) d'.toList ∧ Below B w (sortWorldK R.enc R.k w g 0 n d' os) := by
  obtain ⟨h1, h2⟩ := h
  rcases h2 with ⟨e, _⟩ | ⟨g', cap', cur, e, hB, hg, hc, hm, hs, ht⟩
  · cases e
  · simp only [Value.slice.injEq, Option.some.injEq, Addr.mk.injEq, and_true, true_and] at e
    obtain ⟨e1, e2⟩ := e
    subst e1; subst e2
    have hlt : g < w.heap.size := (Array.getElem?_eq_some_iff.1 hg).1
    have hgrow : ∀ k, k < w.heap.size → (sortWorldK R.enc R.k w g 0 n d' os).heap[k]? = (w.heap.modify g (onCells (putCells id 0 (flatK R.enc R.k d'))))[k]? := by
      intro k hk
      show ((w.heap.modify g (onCells (putCells id 0 (flatK R.enc R.k d')))) ++ os)[k]? = _
      rw [Array.getElem?_append_left (by simpa using hk)]
    have hcell : (sortWorldK R.enc R.k w g 0 n d' os).heap[g]? = some (.cells (putCells id 0 (flatK R.enc R.k d') cur) R.tE (0, 0)) := by
      rw [hgrow g hlt, Array.getElem?_modify, if_pos rfl, hg]
      rfl
    have hpl : d'.toList.length = xs.length := by simpa using hl
    refine ⟨⟨R.cells_len _, .inr ⟨g, cap, putCells id 0 (flatK R.enc R.k d') cur, by rw [hpl], hB, hcell, by rw [hpl]; exact hc, hm, by simp [putCells, hs], ?_⟩⟩, rfl, rfl, rfl, ?_, ?_⟩
    · rw [← flat_cellsK, hpl]
      have hz : xs.length * R.k = (flatK R.enc R.k d').size := by simp [hl]
      rw [hz]
      refine put_takeK _ _ ?_
      rw [← hz, hs]
      exact Nat.mul_le_mul_right _ hc
    · show w.heap.size ≤ ((w.heap.modify g (onCells (putCells id 0 (flatK R.enc R.k d')))) ++ os).size
      simp
    · intro k hk
      rw [hgrow k (by omega), Array.getElem?_modify, if_neg (by omega)]
theorem put_grownK (w : World) (g n : Nat) (d' : Array α) (os : Array Obj) : w.grownBy (sortWorldK R.enc R.k w g 0 n d' os) (some g) := by
  refine ⟨rfl, rfl, rfl, ?_, fun k hk hne => ?_⟩
  · show w.heap.size ≤ ((w.heap.modify g (onCells (putCells id 0 (flatK R.enc R.k d')))) ++ os).size
    simp
  · show ((w.heap.modify g (onCells (putCells id 0 (flatK R.enc R.k d')))) ++ os)[k]? = _
    rw [Array.getElem?_append_left (by simpa using hk), Array.getElem?_modify, if_neg (fun e => hne (by rw [e]))]
/-- the sort of a row of the call's own -/
theorem sort_ownKL {ρ : Go.Shelf.Ren} (L : Go.Proofs.SlLaysF0.n6 Try.prog ρ) (aE : ∀ w, (isAgg (ρ.t 24)).run Try.prog w = .ok true w) (zE : ∀ w, (Go.sizeOf (ρ.t 24)).run Try.prog w = .ok R.k w) (cf : α → α → Int) (hO : SWO (ltOf cf)) (fc : Nat)
    (eg : ∀ args w, (callFunc fc args).run Try.prog w = .ok (.enter fc args) w) (hC : ∀ blk off size w, CmpLays Try.prog fc #[] R.enc R.k cf blk off size w)
    (B : Nat) (v : Value) (xs : List α) (w : World) (hown : R.Own B w v xs) (hB : B ≤ w.heap.size) (hlen : xs.length ≤ 1000000000000000) :
    Calls Try.prog (ρ.f 6) #[v, .func (.func fc) #[] #[]] w (fun e w' => e = .returned (.tuple #[]) ∧ ∃ ys : List α, ys.Perm xs ∧ ys.Pairwise (fun x y => ltOf cf y x = false) ∧ R.Own B w' v ys ∧ Below B w w' ∧ w.grownBy w' v.ownBlock) := by
  have hk := hown
  rcases hk.2 with ⟨e, hn⟩ | ⟨g, cap, cur, e, _, hg, _⟩
  · obtain rfl : xs = [] := List.length_eq_zero_iff.1 hn
    subst e
    refine (AnyF.slices_SortFunc_none L none 0 _ w).mono ?_
    rintro e w' ⟨rfl, rfl⟩
    exact ⟨rfl, [], List.Perm.refl _, List.Pairwise.nil, hown, Below.refl _ _, ⟨rfl, rfl, rfl, Nat.le_refl _, fun _ _ _ => rfl⟩⟩
  · subst e
    obtain ⟨d, rfl⟩ : ∃ d : Array α, xs = d.toList := ⟨xs.toArray, rfl⟩
    have hsl : d.size < 4611686018427387904 := by
      have e : d.toList.length = d.size := by simp
      omega
    have hcon := AnyQ.slices_SortFunc L R.k aE zE R.enc R.len R.one cf hO fc #[] g 0 cap d w eg (hC g 0 d.size w) (holds_ownK hown) (Array.getElem?_eq_some_iff.1 hg).1 hsl
    have hsz : d.toList.length = d.size := by simp
    rw [hsz]
    refine Calls.mono hcon ?_
    rintro e w' ⟨rfl, d', n, os, hp, hs, rfl⟩
    have hl : d'.size = d.toList.length := by rw [hp.1, hsz]
    have hq := own_putK hown hl n os
    rw [hsz] at hq
    refine ⟨rfl, d'.toList, ?_, ?_, hq.1, hq.2, put_grownK w g n d' os⟩
    · have h3 := hp.2.2
      rw [Array.extract_size, show d.size = d'.size by rw [hl, hsz], Array.extract_size] at h3
      simpa using h3
    · rw [List.pairwise_iff_getElem]
      intro i j hi hj hij
      have hi' : i < d'.size := by simpa using hi
      have hj' : j < d'.size := by simpa using hj
      have h4 := hs i j (Nat.zero_le _) hij (by omega)
      rw [getElem!_pos d' i hi', getElem!_pos d' j hj'] at h4
      simpa using h4
theorem sort_ownK {ρ : Go.Shelf.Ren} (L : Go.Proofs.SlLaysF0.n6 Try.prog ρ) (aE : ∀ w, (isAgg (ρ.t 24)).run Try.prog w = .ok true w) (zE : ∀ w, (Go.sizeOf (ρ.t 24)).run Try.prog w = .ok R.k w) (cf : α → α → Int) (hO : SWO (ltOf cf)) (fc : Nat)
    (eg : ∀ args w, (callFunc fc args).run Try.prog w = .ok (.enter fc args) w) (hC : ∀ blk off size w, CmpLays Try.prog fc #[] R.enc R.k cf blk off size w)
    (B : Nat) (v : Value) (xs : List α) (w : World) (hown : R.Own B w v xs) (hB : B ≤ w.heap.size) (hlen : xs.length ≤ 900000) :
    Calls Try.prog (ρ.f 6) #[v, .func (.func fc) #[] #[]] w (fun e w' => e = .returned (.tuple #[]) ∧ ∃ ys : List α, ys.Perm xs ∧ ys.Pairwise (fun x y => ltOf cf y x = false) ∧ R.Own B w' v ys ∧ Below B w w') :=
  (sort_ownKL L aE zE cf hO fc eg hC B v xs w hown hB (by omega)).mono fun e w' ⟨h1, ys, h2, h3, h4, h5, _⟩ => ⟨h1, ys, h2, h3, h4, h5⟩
end
end Go.Proofs.Ytacmdkbmakfdkaa
/- the library's sort over rows of steps -/
namespace Go.Proofs.Ytacmdkbmakfdkaa
open Go.RowKit Go.Sort Go.Shelf
set_option linter.unusedVariables false
set_option linter.unusedSimpArgs false

/- the library's sort, laid at rows of steps -/
def sortH_ren : Go.Shelf.Ren := ⟨fun | 6 => 40 | 15 => 66 | 14 => 65 | 28 => 91 | 29 => 92 | 20 => 83 | 21 => 84 | 22 => 85 | 23 => 86 | 24 => 87 | 25 => 88 | 26 => 89 | 27 => 90 | 46 => 97 | 47 => 98 | 48 => 99 | 49 => 100 | 50 => 101 | 57 => 103 | n => n, fun | 22 => 34 | 24 => 46 | 25 => 80 | 3 => 3 | 39 => 99 | 0 => 0 | 53 => 116 | 55 => 118 | 4 => 4 | 46 => 110 | 45 => 109 | 50 => 68 | 5 => 5 | 9 => 9 | 66 => 122 | 70 => 126 | 76 => 129 | 77 => 55 | n => n, fun | n => n⟩
theorem sortH : Go.Proofs.SlLaysF0.n6 Try.prog sortH_ren where
  mixed := by kernel_rfl
  f6 := ⟨ "slices.SortFunc[[]backwash/api.Hop,backwash/api.Hop]", by decide, Try.func40.trans (congrArg some (by kernel_rfl))⟩
  f14 := ⟨ "slices.pdqsortCmpFunc[backwash/api.Hop]", by decide, Try.func65.trans (congrArg some (by kernel_rfl))⟩
  f15 := Try.func66.trans (congrArg some (by kernel_rfl))
  f20 := ⟨ "slices.insertionSortCmpFunc[backwash/api.Hop]", by decide, Try.func83.trans (congrArg some (by kernel_rfl))⟩
  f21 := ⟨ "slices.heapSortCmpFunc[backwash/api.Hop]", by decide, Try.func84.trans (congrArg some (by kernel_rfl))⟩
  f22 := ⟨ "slices.breakPatternsCmpFunc[backwash/api.Hop]", by decide, Try.func85.trans (congrArg some (by kernel_rfl))⟩
  f23 := ⟨ "slices.choosePivotCmpFunc[backwash/api.Hop]", by decide, Try.func86.trans (congrArg some (by kernel_rfl))⟩
  f24 := ⟨ "slices.reverseRangeCmpFunc[backwash/api.Hop]", by decide, Try.func87.trans (congrArg some (by kernel_rfl))⟩
  f25 := ⟨ "slices.partialInsertionSortCmpFunc[backwash/api.Hop]", by decide, Try.func88.trans (congrArg some (by kernel_rfl))⟩
  f26 := ⟨ "slices.partitionEqualCmpFunc[backwash/api.Hop]", by decide, Try.func89.trans (congrArg some (by kernel_rfl))⟩
  f27 := ⟨ "slices.partitionCmpFunc[backwash/api.Hop]", by decide, Try.func90.trans (congrArg some (by kernel_rfl))⟩
  f28 := Try.func91.trans (congrArg some (by kernel_rfl))
  f29 := Try.func92.trans (congrArg some (by kernel_rfl))
  f46 := ⟨ "slices.siftDownCmpFunc[backwash/api.Hop]", by decide, Try.func97.trans (congrArg some (by kernel_rfl))⟩
  f47 := Try.func98.trans (congrArg some (by kernel_rfl))
  f48 := Try.func99.trans (congrArg some (by kernel_rfl))
  f49 := ⟨ "slices.medianAdjacentCmpFunc[backwash/api.Hop]", by decide, Try.func100.trans (congrArg some (by kernel_rfl))⟩
  f50 := ⟨ "slices.medianCmpFunc[backwash/api.Hop]", by decide, Try.func101.trans (congrArg some (by kernel_rfl))⟩
  f57 := ⟨ "slices.order2CmpFunc[backwash/api.Hop]", by decide, Try.func103.trans (congrArg some (by kernel_rfl))⟩
  t0 := Try.underlying0
  a0 := Try.isAgg0
  z0 := Try.sizeOf0
  v0 := Try.zeroValue0
  t3 := Try.underlying3
  a3 := Try.isAgg3
  z3 := Try.sizeOf3
  v3 := Try.zeroValue3
  t4 := Try.underlying4
  a4 := Try.isAgg4
  z4 := Try.sizeOf4
  v4 := Try.zeroValue4
  t5 := Try.underlying5
  a5 := Try.isAgg5
  z5 := Try.sizeOf5
  v5 := Try.zeroValue5
  t9 := Try.underlying9
  a9 := Try.isAgg9
  z9 := Try.sizeOf9
  v9 := Try.zeroValue9
  t22 := Try.underlying34
  a22 := Try.isAgg34
  z22 := Try.sizeOf34
  v22 := Try.zeroValue34
  t25 := Try.underlying80
  a25 := Try.isAgg80
  z25 := Try.sizeOf80
  v25 := Try.zeroValue80
  t39 := Try.underlying99
  a39 := Try.isAgg99
  z39 := Try.sizeOf99
  v39 := Try.zeroValue99
  t45 := Try.underlying109
  a45 := Try.isAgg109
  z45 := Try.sizeOf109
  v45 := Try.zeroValue109
  t46 := Try.underlying110
  a46 := Try.isAgg110
  z46 := Try.sizeOf110
  v46 := Try.zeroValue110
  t50 := Try.underlying68
  a50 := Try.isAgg68
  z50 := Try.sizeOf68
  v50 := Try.zeroValue68
  t53 := Try.underlying116
  a53 := Try.isAgg116
  z53 := Try.sizeOf116
  v53 := Try.zeroValue116
  t55 := Try.underlying118
  a55 := Try.isAgg118
  z55 := Try.sizeOf118
  v55 := Try.zeroValue118
  t66 := Try.underlying122
  a66 := Try.isAgg122
  z66 := Try.sizeOf122
  v66 := Try.zeroValue122
  t70 := Try.underlying126
  a70 := Try.isAgg126
  z70 := Try.sizeOf126
  v70 := Try.zeroValue126
  t76 := Try.underlying129
  a76 := Try.isAgg129
  z76 := Try.sizeOf129
  v76 := Try.zeroValue129
  t77 := Try.underlying55
  a77 := Try.isAgg55
  z77 := Try.sizeOf55
  v77 := Try.zeroValue55

theorem cmpH_lt (x y : HV) : ltOf cmpH x y = decide (lexI (keyH x) (keyH y) < 0) := by
  show decide (cmpH x y < 0) = _
  rw [cmpH_is]
theorem swoH : SWO (ltOf cmpH) where
  irrefl x := by rw [cmpH_lt]; exact decide_eq_false (lexI_self _)
  trans x y z h1 h2 := by rw [cmpH_lt] at *; exact decide_eq_true (lexI_trans _ _ _ (of_decide_eq_true h1) (of_decide_eq_true h2))
  ntrans x y z h1 h2 := by rw [cmpH_lt] at *; exact decide_eq_false (lexI_ntrans _ _ _ (of_decide_eq_false h1) (of_decide_eq_false h2))
theorem cmpLaysH (blk off size : Nat) (w : World) : CmpLays Try.prog 41 #[] HV.enc 11 cmpH blk off size w := fun m os dk hs x y =>
  (pcompare_any x y _).mono fun e w' h => ⟨h.1, grow_of_below h.2.1 h.2.2⟩
/-- a list of steps is sorted in its own place -/
theorem hsort_own (B : Nat) (v : Value) (xs : List HV) (w : World) (hown : RHp.Own B w v xs) (hB : B ≤ w.heap.size) (hlen : xs.length ≤ 1000000000000000) :
    Calls Try.prog 40 #[v, .func (.func 41) #[] #[]] w (fun e w' => e = .returned (.tuple #[]) ∧ ∃ ys : List HV, ys.Perm xs ∧ RHp.Own B w' v ys ∧ Below B w w' ∧ w.grownBy w' v.ownBlock) :=
  (sort_ownKL (R := RHp) sortH Try.isAgg46 Try.sizeOf46 cmpH swoH 41 (enters_of Try.func41 (by kernel_rfl) rfl) cmpLaysH B v xs w hown hB hlen).mono
    fun e w' ⟨h1, ys, h2, _, h4⟩ => ⟨h1, ys, h2, h4⟩
end Go.Proofs.Ytacmdkbmakfdkaa
/- ways loaded and stored; lists of lists of steps kept apart from ways; the program's way of going stays within the places -/
namespace Go.Proofs.Ytacmdkbmakfdkaa
open Go.RowKit
set_option linter.unusedVariables false
set_option linter.unusedSimpArgs false

/-- a whole way is loaded, wherever it lies -/
theorem loadWs (dst : Option Nat) (type : TypeId) (pos : String) (after : Array Edge) (guard : Option (Nat × Bool)) (x : Operand) (a : Act) (w : World) (next : Act → World → Prop) (Q : Exit → Act → World → Prop) :
    Oper.wp Try.prog ⟨dst, .load 74 x, type, pos, after, guard⟩ a w next Q = match a.eval x with
      | .pointer (some ad) => (match elemL w ad 0 12 with
        | some l => next (a.put dst (.agg l.toArray)) w
        | none => slowP (Oper.wp Try.prog ⟨dst, .load 74 x, type, pos, after, guard⟩ a w next Q))
      | _ => slowP (Oper.wp Try.prog ⟨dst, .load 74 x, type, pos, after, guard⟩ a w next Q) := by
  split
  · rename_i ad hx
    split
    · rename_i l hc
      obtain ⟨hn, hg⟩ := elemL_get hc
      have hl : (loadCells ad 12).run Try.prog w = .ok l.toArray w := by
        have := run_loadCells_list (P := Try.prog) w ad l (fun j v hj => by have := hg j v hj; rwa [Nat.zero_add] at this)
        rwa [hn] at this
      have ha : (isAgg 74).run Try.prog w = .ok true w := by kernel_rfl
      have hs : (sizeOf 74).run Try.prog w = .ok 12 w := by kernel_rfl
      have h : (loadVar 74 ad).run Try.prog w = .ok (.agg l.toArray) w := by
        simp [loadVar, ha, hs, Result.andThen, hl]
      have h2 : (Instr.loadAt 74 (.pointer (some ad))).run Try.prog w = .ok (.agg l.toArray) w := by
        rw [← h]; simp [Instr.loadAt, Instr.sureAddr]
      simp only [Oper.wp, execOp, hx, Sem.run_bind, h2, Result.andThen, Sem.run_pure, Oper.upon_value]
    · rfl
  · rfl
theorem storeW (dst : Option Nat) (type : TypeId) (pos : String) (after : Array Edge) (guard : Option (Nat × Bool)) (x y : Operand) (a : Act) (w : World) (next : Act → World → Prop) (Q : Exit → Act → World → Prop) :
    Oper.wp Try.prog ⟨dst, .store 74 x y, type, pos, after, guard⟩ a w next Q = match a.eval x, a.eval y with
      | .pointer (some ad), .agg cs => (match rowAt w ad with
        | some c => if c.size = 12 ∧ cs.size = 12 ∧ 12 ≠ 0 ∧ cs.toList.all Value.oneCell' = true then next (a.put dst undef) (setRow w ad.block cs) else slowP (Oper.wp Try.prog ⟨dst, .store 74 x y, type, pos, after, guard⟩ a w next Q)
        | none => slowP (Oper.wp Try.prog ⟨dst, .store 74 x y, type, pos, after, guard⟩ a w next Q))
      | _, _ => slowP (Oper.wp Try.prog ⟨dst, .store 74 x y, type, pos, after, guard⟩ a w next Q) := by
  split
  · rename_i ad cs hx hy
    split
    · rename_i c hc
      split
      · rename_i hn
        have h := run_storeAt_any Try.prog w 74 12 (by kernel_rfl) (.pointer (some ad)) (.agg cs)
        simp only [hc] at h
        rw [if_pos hn] at h
        simp only [Oper.wp, execOp, hx, hy, Sem.run_bind, h, Result.andThen, Sem.run_pure, Oper.upon_skip]
      · rfl
    · rfl
  · rfl
abbrev wvRow (p : WV) : Array Value := #[.int .i64 (p.1 : Int), .int .i64 p.2.f, .int .i64 p.2.k, .int .i64 p.2.t, .int .i64 p.2.a0, .int .i64 p.2.a1, .int .i64 p.2.a2, .int .i64 p.2.a3, .int .i64 p.2.b0, .int .i64 p.2.b1, .int .i64 p.2.b2, .int .i64 p.2.b3]
theorem row_elemW {w : World} {b : Nat} {p : WV} (h : rowOf w b = some (wvRow p)) : elemL w ⟨b, 0, none⟩ 0 12 = some (WV.enc p) :=
  elemL_of (l := WV.enc p) (i := 0) (fun j v hj => by
    rw [Addr.add_lit, Nat.zero_add, Nat.zero_add, rowOf_cell h]
    simpa [WV.enc, HV.enc] using hj)
theorem own_elemW {B : Nat} {w : World} {p : Option Addr} {n cap : Nat} {ys : List WV} (h : RWy.Own B w (.slice p n cap) ys) (j : Nat) (hj : j < ys.length) : ∃ g, p = some ⟨g, 0, none⟩ ∧ elemL w ⟨g, j * 12, none⟩ 0 12 = some (WV.enc ys[j]!) := by
  obtain ⟨h1, h2⟩ := h
  rcases h2 with ⟨e, hn⟩ | ⟨g, cap', cur, e, hB, hg, hc, hm, hs, ht⟩
  · omega
  · have hown : RWy.Own B w (.slice p n cap) ys := ⟨h1, .inr ⟨g, cap', cur, e, hB, hg, hc, hm, hs, ht⟩⟩
    simp only [Value.slice.injEq] at e
    obtain ⟨rfl, rfl, rfl⟩ := e
    refine ⟨g, rfl, ?_⟩
    rcases hown.is with ⟨rfl, _⟩ | ⟨_, b, off, cap'', e, hb, hr⟩
    · simp at hj
    · simp only [Value.slice.injEq, Option.some.injEq, Addr.mk.injEq, and_true, true_and] at e
      obtain ⟨⟨rfl, rfl⟩, _⟩ := e
      exact elemL_of (l := WV.enc ys[j]!) (i := 0) (fun i u hu => by
        rw [Addr.add_lit, Nat.zero_add]
        have := hr j hj i u hu
        rwa [Nat.zero_add] at this)
/-- rows of two kinds never share a block -/
theorem own_apart {α β : Type} {R : RowKind α} {S : RowKind β} (ht : R.tE ≠ S.tE) {B C : Nat} {w : World} {v u : Value} {xs : List α} {ys : List β} (h : R.Own B w v xs) (k : S.Own C w u ys) : ∀ i, v.ownBlock = some i → u.ownBlock ≠ some i := by
  intro i hi hu
  obtain ⟨_, ⟨rfl, _⟩ | ⟨g, cap, cur, rfl, _, hg, _⟩⟩ := h
  · cases hi
  · obtain ⟨_, ⟨rfl, _⟩ | ⟨g', cap', cur', rfl, _, hg', _⟩⟩ := k
    · cases hu
    · have e1 : g = i := Option.some.inj hi
      have e2 : g' = i := Option.some.inj hu
      subst e1; subst e2
      rw [hg] at hg'
      simp only [Option.some.injEq, Obj.cells.injEq] at hg'
      exact ht hg'.2.1
theorem way_hop : RWy.tE ≠ RHp.tE := by decide
theorem RowKind.Own.keepG {α : Type} {R : RowKind α} {B : Nat} {w w' : World} {v : Value} {xs : List α} {r : Option Nat} (h : R.Own B w v xs) (hg : w.grownBy w' r) (hne : ∀ i, v.ownBlock = some i → r ≠ some i) : R.Own B w' v xs :=
  h.keepJ fun l hl => hg.block l (h.lt l hl).2 fun e => hne l hl e.symm
namespace OHH
variable {B : Nat} {W W' : World} {blk : Nat} {svs : List SV} {rows : List (List HV)}
/-- another row has grown -/
theorem apart (h : OHH B W blk svs rows) {r : Option Nat} (hg : W.grownBy W' r) (h1 : r ≠ some blk) (h2 : ∀ m, m < svs.length → ∀ i, svs[m]!.val.ownBlock = some i → r ≠ some i) : OHH B W' blk svs rows :=
  ⟨h.lo, (hg.block blk h.lt fun e => h1 e.symm).trans h.heap, h.len, fun m hm => (h.own m hm).keepG hg (h2 m hm), h.ne, h.sep⟩
/-- one of the lists has turned in its own place -/
theorem turn (h : OHH B W blk svs rows) {m : Nat} (hm : m < svs.length) (hg : W.grownBy W' svs[m]!.val.ownBlock) {ys : List HV} (ho : RHp.Own B W' svs[m]!.val ys) : OHH B W' blk svs (rows.set m ys) := by
  refine ⟨h.lo, (hg.block blk h.lt fun e => h.ne m hm e.symm).trans h.heap, by rw [List.length_set]; exact h.len, fun j hj => ?_, h.ne, h.sep⟩
  rw [set_get _ _ _ _ (by rw [← h.len]; exact hm)]
  split
  · rename_i e
    subst e
    exact ho
  · rename_i hne
    exact (h.own j hj).keepG hg fun i hi e => h.sep m j hm hj hne i e hi
/-- ways lie in none of its blocks -/
theorem way_ne (h : OHH B W blk svs rows) {C : Nat} {u : Value} {ws : List WV} (k : RWy.Own C W u ws) : u.ownBlock ≠ some blk ∧ ∀ m, m < svs.length → ∀ i, svs[m]!.val.ownBlock = some i → u.ownBlock ≠ some i := by
  refine ⟨fun e => ?_, fun m hm i hi hu => own_apart (Ne.symm way_hop) (h.own m hm) k i hi hu⟩
  obtain ⟨_, ⟨rfl, _⟩ | ⟨g, cap, cur, rfl, _, hg, _⟩⟩ := k
  · cases e
  · have e : g = blk := Option.some.inj e
    subst e
    rw [h.heap] at hg
    simp only [Option.some.injEq, Obj.cells.injEq] at hg
    exact absurd hg.2.1 (by decide)
end OHH
theorem RowKind.Own.appendAnyBL {α : Type} [Inhabited α] {R : RowKind α} {ops : Array Oper} {rest : List Oper} {o : Oper} {a : Act} {Q : Exit → Act → World → Prop} {w : World} (hb0 : 0 < R.bytes) (hgd : o.guard = none) (s x : Operand)
    (ho : o.op = .call { callee := .builtin .append, args := #[s, x], argTypes := #[R.tS, R.tS] }) {B : Nat} {v vx : Value} {xs ys : List α} (hown : R.Own B w v xs) (hs : a.eval s = v)
    (hx : a.eval x = vx) (his : R.Is w vx ys) (hlen : (xs.length + ys.length) * R.bytes ≤ 140737488355328) (hbase : B ≤ w.heap.size)
    (h : ∀ v' w', R.Own B w' v' (xs ++ ys) → w.grownBy w' v.ownBlock → StaysOrNew w v v' → wpList Try.prog ops Q rest (a.put o.dst v') w') : wpList Try.prog ops Q (o :: rest) a w := by
  obtain ⟨v', w', hr, h1, h2, h3⟩ := run_appendAnyL hown his hb0 hlen hbase o.type
  exact wpList_plain hgd fun _ hK => wp_of_runB ho (by rw [hs, hx]; exact hr) (hK _ _ (h v' w' h1 h2 h3))
/-- the ways stay within the places -/
theorem biter_place {E : List NE} {N : Nat} (hE : ∀ e ∈ E, e.dst < N) {n : Nat} (hn : n < N) (h0 : HV) : ∀ k j, j < (biter E (bstart n N h0) k).ws.length → ((biter E (bstart n N h0) k).ws[j]!).1 < N
  | 0, j, hj => by
    have hj : j < 1 := hj
    obtain rfl : j = 0 := by omega
    exact hn
  | k + 1, j, hj => by
    have ih := biter_place hE hn h0 k
    revert hj
    show j < List.length (if _ then _ else _) → ((if _ then _ else _ : List WV)[j]!).1 < N
    generalize biter E (bstart n N h0) k = s at ih ⊢
    split
    · exact ih j
    · intro hj
      by_cases h1 : j < s.ws.length
      · rw [get_left _ _ h1]; exact ih j h1
      · rw [List.length_append] at hj
        rw [get_right _ _ (by omega) hj]
        have hmem : (longerW E (s.ws[k]!).1 (s.ws[k]!).2)[j - s.ws.length]! ∈ longerW E (s.ws[k]!).1 (s.ws[k]!).2 := by rw [getElem!_pos (longerW E (s.ws[k]!).1 (s.ws[k]!).2) (j - s.ws.length) (by omega)]; exact List.getElem_mem _
        obtain ⟨e, he, _, _, hpe⟩ := mem_longer.1 hmem
        rw [hpe]
        exact hE e he
theorem biter_succ (E : List NE) (s : BS) (k : Nat) {p : WV} (hp : (biter E s k).ws[k]! = p) : (biter E s (k + 1)).ws = (if putNo (biter E s k).low[p.1]! p.2 = true then (biter E s k).ws else (biter E s k).ws ++ longerW E p.1 p.2) ∧
    (biter E s (k + 1)).low = (biter E s k).low.set p.1 (putL (biter E s k).low[p.1]! p.2) := by
  subst hp
  exact ⟨rfl, rfl⟩
end Go.Proofs.Ytacmdkbmakfdkaa
/- an append to one of the lists of a list of lists, and the store of what came of it -/
namespace Go.Proofs.Ytacmdkbmakfdkaa
open Go.RowKit
set_option linter.unusedVariables false
set_option linter.unusedSimpArgs false

theorem RHp_lit (w : World) (h : HV) : RHp.Own w.heap.size (w.alloc (.cells (hvRow h) 46)) (.slice (some ⟨w.heap.size, 0, none⟩) 1 1) [h] :=
  ⟨rfl, .inr ⟨w.heap.size, 1, hvRow h, rfl, Nat.le_refl _, heap_alloc_new w _, Nat.le_refl 1, by decide, rfl, rfl⟩⟩
theorem OHH.drew {B : Nat} {W : World} {blk : Nat} {svs : List SV} {rows : List (List HV)} (h : OHH B W blk svs rows) : OHH B W.drew blk svs rows := ⟨h.lo, h.heap, h.len, h.own, h.ne, h.sep⟩
/-- an append to one of the lists, and the store of what came of it -/
theorem OHH.grow {B : Nat} {W W' : World} {blk : Nat} {svs : List SV} {rows : List (List HV)} (h : OHH B W blk svs rows) (hB : B ≤ W.heap.size) {m : Nat} (hm : m < svs.length) {v : Value} {ys : List HV} (hg : W.grownBy W' svs[m]!.val.ownBlock)
    (ho : RHp.Own B W' v ys) (hn : StaysOrNew W svs[m]!.val v) : ∃ s : SV, v = s.val ∧ OHH B (W'.setCell ⟨blk, m, none⟩ v) blk (svs.set m s) (rows.set m ys) := by
  obtain ⟨p, c, e⟩ := ho.is.slice
  refine ⟨⟨p, ys.length, c⟩, e, ?_⟩
  have e2 : v = (⟨p, ys.length, c⟩ : SV).val := e
  rw [e2] at ho hn ⊢
  exact h.put hB hm hg.size (fun l hl hne => hg.block l hl (fun q => hne q.symm)) ho hn
theorem setCell_alloc {w : World} (b i : Nat) (v : Value) (o : Obj) (h : b < w.heap.size) : (w.setCell ⟨b, i, none⟩ v).alloc o = (w.alloc o).setCell ⟨b, i, none⟩ v := by
  unfold World.setCell World.alloc
  congr 1
  apply Array.ext_getElem?
  intro k
  simp only [Array.getElem?_modify, Array.getElem?_push, Array.size_modify]
  by_cases hk : k = w.heap.size
  · subst hk
    simp [Nat.ne_of_lt h]
  · simp [hk]
/-- what the world is behind an append to one of the lists, ahead of the store and behind it -/
structure OGrown (B : Nat) (W w5 : World) (blk m : Nat) (svs : List SV) (rows : List (List HV)) (v : Value) (ys : List HV) : Prop where
  cell : w5.cell? ⟨blk, m, none⟩ = some svs[m]!.val
  frozen : w5.frozen? ⟨blk, m, none⟩ = false
  old : ∀ b o x, b < B → W.cell? ⟨b, o, none⟩ = some x → w5.cell? ⟨b, o, none⟩ = some x
  new : ∃ s : SV, v = s.val ∧ OHH B (w5.setCell ⟨blk, m, none⟩ v) blk (svs.set m s) (rows.set m ys)
  below : Below B W (w5.setCell ⟨blk, m, none⟩ v)
  box : ∀ k c t, Boxed W k c t → t ≠ 46 → t ≠ 34 → Boxed (w5.setCell ⟨blk, m, none⟩ v) k c t
theorem OHH.app {B : Nat} {W w5 : World} {blk : Nat} {svs : List SV} {rows : List (List HV)} (h : OHH B W blk svs rows) (hB : B ≤ W.heap.size) {m : Nat} (hm : m < svs.length) {v : Value} {ys : List HV} (hg : W.grownBy w5 svs[m]!.val.ownBlock)
    (ho : RHp.Own B w5 v ys) (hn : StaysOrNew W svs[m]!.val v) : OGrown B W w5 blk m svs rows v ys := by
  have hlt := (h.own m hm).lt
  have hbl : w5.heap[blk]? = W.heap[blk]? := hg.block blk h.lt (fun e => h.ne m hm e.symm)
  refine ⟨?_, ?_, fun b o x hb hx => ?_, h.grow hB hm hg ho hn, ?_, fun k c t hbx h1 h2 => ?_⟩
  · rw [← h.cell m hm]
    unfold World.cell?
    rw [hbl]
  · rw [← h.frozen m]
    unfold World.frozen?
    rw [hbl]
  · rw [← hx]
    unfold World.cell?
    rw [hg.block b (by omega) (fun e => by have := (hlt b e.symm).1; omega)]
  · exact ((Below.refl B W).grown hg hB (fun k hk => (hlt k hk).1)).setCell (by show B ≤ blk; exact h.lo) v
  · have hne := (h.own m hm).ne_boxed hbx h1
    have hkb : k ≠ blk := fun e => by
      subst e
      have a := h.heap
      unfold Boxed at hbx
      rw [hbx] at a
      simp only [Option.some.injEq, Obj.cells.injEq] at a
      exact h2 a.2.1
    exact (Below.heap_setCell w5 ⟨blk, m, none⟩ v k hkb).trans ((hg.block k hbx.lt hne).trans hbx)
end Go.Proofs.Ytacmdkbmakfdkaa
