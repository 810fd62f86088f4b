import Derived.Test.YtcaolilhemamiaaCr
import Derived.Shelf.SlSortCmp.NoneTotal
namespace Go.Proofs.Ytcaolilhemamiaa
open Go.RowKit Go.Sort Go.Shelf
set_option linter.unusedVariables false
set_option linter.unusedSimpArgs false

/- the library's sort, laid at rows of timestamps -/
def sortL_ren : Go.Shelf.Ren := ⟨fun | 6 => 62 | 15 => 70 | 14 => 69 | 28 => 80 | 29 => 81 | 20 => 72 | 21 => 73 | 22 => 74 | 23 => 75 | 24 => 76 | 25 => 77 | 26 => 78 | 27 => 79 | 46 => 82 | 47 => 83 | 48 => 84 | 49 => 85 | 50 => 86 | 57 => 87 | n => n, fun | 22 => 38 | 24 => 26 | 25 => 78 | 3 => 3 | 39 => 86 | 0 => 0 | 53 => 97 | 55 => 99 | 4 => 4 | 46 => 91 | 45 => 90 | 50 => 62 | 5 => 5 | 9 => 9 | 66 => 100 | 70 => 104 | 76 => 106 | 77 => 107 | n => n, fun | n => n⟩
theorem sortL : Go.Proofs.SlLaysF0.n6 Try.prog sortL_ren where
  mixed := by kernel_rfl
  f6 := ⟨ "slices.SortFunc[[]backwash/api.Time,backwash/api.Time]", by decide, Try.func62.trans (congrArg some (by kernel_rfl))⟩
  f14 := ⟨ "slices.pdqsortCmpFunc[backwash/api.Time]", by decide, Try.func69.trans (congrArg some (by kernel_rfl))⟩
  f15 := Try.func70.trans (congrArg some (by kernel_rfl))
  f20 := ⟨ "slices.insertionSortCmpFunc[backwash/api.Time]", by decide, Try.func72.trans (congrArg some (by kernel_rfl))⟩
  f21 := ⟨ "slices.heapSortCmpFunc[backwash/api.Time]", by decide, Try.func73.trans (congrArg some (by kernel_rfl))⟩
  f22 := ⟨ "slices.breakPatternsCmpFunc[backwash/api.Time]", by decide, Try.func74.trans (congrArg some (by kernel_rfl))⟩
  f23 := ⟨ "slices.choosePivotCmpFunc[backwash/api.Time]", by decide, Try.func75.trans (congrArg some (by kernel_rfl))⟩
  f24 := ⟨ "slices.reverseRangeCmpFunc[backwash/api.Time]", by decide, Try.func76.trans (congrArg some (by kernel_rfl))⟩
  f25 := ⟨ "slices.partialInsertionSortCmpFunc[backwash/api.Time]", by decide, Try.func77.trans (congrArg some (by kernel_rfl))⟩
  f26 := ⟨ "slices.partitionEqualCmpFunc[backwash/api.Time]", by decide, Try.func78.trans (congrArg some (by kernel_rfl))⟩
  f27 := ⟨ "slices.partitionCmpFunc[backwash/api.Time]", by decide, Try.func79.trans (congrArg some (by kernel_rfl))⟩
  f28 := Try.func80.trans (congrArg some (by kernel_rfl))
  f29 := Try.func81.trans (congrArg some (by kernel_rfl))
  f46 := ⟨ "slices.siftDownCmpFunc[backwash/api.Time]", by decide, Try.func82.trans (congrArg some (by kernel_rfl))⟩
  f47 := Try.func83.trans (congrArg some (by kernel_rfl))
  f48 := Try.func84.trans (congrArg some (by kernel_rfl))
  f49 := ⟨ "slices.medianAdjacentCmpFunc[backwash/api.Time]", by decide, Try.func85.trans (congrArg some (by kernel_rfl))⟩
  f50 := ⟨ "slices.medianCmpFunc[backwash/api.Time]", by decide, Try.func86.trans (congrArg some (by kernel_rfl))⟩
  f57 := ⟨ "slices.order2CmpFunc[backwash/api.Time]", by decide, Try.func87.trans (congrArg some (by kernel_rfl))⟩
  t0 := Try.underlying0
  a0 := Try.isAgg0
  z0 := Try.sizeOf0
  v0 := Try.zeroValue0
  t3 := Try.underlying3
  a3 := Try.isAgg3
  z3 := Try.sizeOf3
  v3 := Try.zeroValue3
  t4 := Try.underlying4
  a4 := Try.isAgg4
  z4 := Try.sizeOf4
  v4 := Try.zeroValue4
  t5 := Try.underlying5
  a5 := Try.isAgg5
  z5 := Try.sizeOf5
  v5 := Try.zeroValue5
  t9 := Try.underlying9
  a9 := Try.isAgg9
  z9 := Try.sizeOf9
  v9 := Try.zeroValue9
  t22 := Try.underlying38
  a22 := Try.isAgg38
  z22 := Try.sizeOf38
  v22 := Try.zeroValue38
  t25 := Try.underlying78
  a25 := Try.isAgg78
  z25 := Try.sizeOf78
  v25 := Try.zeroValue78
  t39 := Try.underlying86
  a39 := Try.isAgg86
  z39 := Try.sizeOf86
  v39 := Try.zeroValue86
  t45 := Try.underlying90
  a45 := Try.isAgg90
  z45 := Try.sizeOf90
  v45 := Try.zeroValue90
  t46 := Try.underlying91
  a46 := Try.isAgg91
  z46 := Try.sizeOf91
  v46 := Try.zeroValue91
  t50 := Try.underlying62
  a50 := Try.isAgg62
  z50 := Try.sizeOf62
  v50 := Try.zeroValue62
  t53 := Try.underlying97
  a53 := Try.isAgg97
  z53 := Try.sizeOf97
  v53 := Try.zeroValue97
  t55 := Try.underlying99
  a55 := Try.isAgg99
  z55 := Try.sizeOf99
  v55 := Try.zeroValue99
  t66 := Try.underlying100
  a66 := Try.isAgg100
  z66 := Try.sizeOf100
  v66 := Try.zeroValue100
  t70 := Try.underlying104
  a70 := Try.isAgg104
  z70 := Try.sizeOf104
  v70 := Try.zeroValue104
  t76 := Try.underlying106
  a76 := Try.isAgg106
  z76 := Try.sizeOf106
  v76 := Try.zeroValue106
  t77 := Try.underlying107
  a77 := Try.isAgg107
  z77 := Try.sizeOf107
  v77 := Try.zeroValue107

/-- a right timestamp -/
def OkT : Type := { t : TV // t.ok = true }
instance : Inhabited OkT := ⟨⟨⟨1, 0, 0, 0, 0⟩, by decide +kernel⟩⟩
def OkT.enc (x : OkT) : List Value := x.1.enc
def cmpO (x y : OkT) : Int := cmpT x.1 y.1
theorem cmpO_lt (x y : OkT) : ltOf cmpO x y = x.1.lt y.1 := by
  unfold ltOf cmpO cmpT
  cases h : x.1.lt y.1
  · cases y.1.lt x.1 <;> simp
  · simp
theorem lt_key (x y : OkT) : ltOf cmpO x y = decide (x.1.key < y.1.key) := by
  rw [cmpO_lt, Bool.eq_iff_iff, TV.lt_iff, decide_eq_true_eq]
  exact ⟨fun h => h.2.2, fun h => ⟨x.2, y.2, h⟩⟩
theorem swoO : SWO (ltOf cmpO) where
  irrefl x := by rw [lt_key]; simp
  trans x y z h1 h2 := by rw [lt_key] at *; simp at *; omega
  ntrans x y z h1 h2 := by rw [lt_key] at *; simp at *; omega
theorem cmpLays (blk off size : Nat) (w : World) : CmpLays Try.prog 63 #[] OkT.enc 5 cmpO blk off size w := fun m os dk hs x y =>
  (compare_any x.1 y.1 _).mono fun e w' h => ⟨h.1, grow_of_below h.2.1 h.2.2⟩

def plain (d : Array OkT) : List TV := d.toList.map fun x => x.1
theorem flat_cells (d : Array OkT) : (flatK OkT.enc 5 d).toList = cellsT (plain d) := by
  refine List.ext_getElem? fun t => ?_
  by_cases ht : t < d.size * 5
  · have e : t = t / 5 * 5 + t % 5 := by omega
    have hq : t / 5 < (plain d).length := by simp [plain]; omega
    have h1 := cellsT_get (plain d) (t / 5) hq (t % 5) (by omega)
    rw [← e] at h1
    rw [h1]
    have h2 := get_flatK OkT.enc 5 d t ht
    have hs : t < (flatK OkT.enc 5 d).toList.length := by simp [ht]
    have hp : (plain d)[t / 5]! = d[t / 5]!.1 := by
      have hd : t / 5 < d.size := by omega
      simp [plain, hd]
    rw [List.getElem?_eq_getElem hs, hp]
    rw [getElem!_pos (flatK OkT.enc 5 d) t (by simpa using ht)] at h2
    rw [Array.getElem_toList, h2]
    have h5 : t % 5 < (d[t / 5]!.1.enc).length := by rw [enc_len]; omega
    rw [List.getElem?_eq_getElem h5]
    show some ((d[t / 5]!.1.enc)[t % 5]!) = _
    rw [getElem!_pos (d[t / 5]!.1.enc) (t % 5) h5]
  · rw [List.getElem?_eq_none (by simp; omega), List.getElem?_eq_none (by rw [cellsT_len]; simp [plain]; omega)]

theorem holds_own {B g cap : Nat} {w : World} {xs : List TV} (h : OwnT B w (.slice (some ⟨g, 0, none⟩) xs.length cap) xs) {d : Array OkT} (hd : plain d = xs) : HoldsK OkT.enc 5 w g 0 d := by
  intro j hj
  rw [size_flatK] at hj
  have hl : d.size = xs.length := by rw [← hd]; simp [plain]
  have h1 := World.ownsRow.cellAt h j (by omega)
  have h2 := World.ownsRow.frozenAt h j
  have hf := flat_cells d
  rw [hd] at hf
  have hs : j < (flatK OkT.enc 5 d).size := by simp; omega
  refine ⟨?_, by rw [Nat.zero_add]; exact h2⟩
  rw [Nat.zero_add, h1, ← hf, getElem!_pos (flatK OkT.enc 5 d) j hs]
  simp [hs]
theorem put_take (F cur : Array Value) (h : F.size ≤ cur.size) : (putCells id 0 F cur).toList.take F.size = F.toList := by
  refine List.ext_getElem? fun k => ?_
  rw [List.getElem?_take]
  split
  · rename_i hk
    have hc : k < cur.size := by omega
    simp [putCells, hk, hc]
  · rename_i hk
    rw [List.getElem?_eq_none (by simpa using hk)]
theorem own_put {B g cap : Nat} {w : World} {xs : List TV} (h : OwnT B w (.slice (some ⟨g, 0, none⟩) xs.length cap) xs) {d' : Array OkT} (hl : d'.size = xs.length) (n : Nat) (os : Array Obj) :
    OwnT B (sortWorldK OkT.enc 5 w g 0 n d' os) (.slice (some ⟨g, 0, none⟩) xs.length cap) (plain d') ∧ Below B w (sortWorldK OkT.enc 5 w g 0 n d' os) := by
  obtain ⟨h1, h2⟩ := h
  rcases h2 with ⟨e, _⟩ | ⟨g', cap', cur, e, hB, hg, hc, hm, hs, ht⟩
  · cases e
  · simp only [Value.slice.injEq, Option.some.injEq, Addr.mk.injEq, and_true, true_and] at e
    obtain ⟨e1, e2⟩ := e
    subst e1; subst e2
    have hlt : g < w.heap.size := (Array.getElem?_eq_some_iff.1 hg).1
    have hgrow : ∀ k, k < w.heap.size → (sortWorldK OkT.enc 5 w g 0 n d' os).heap[k]? = (w.heap.modify g (onCells (putCells id 0 (flatK OkT.enc 5 d'))))[k]? := by
      intro k hk
      show ((w.heap.modify g (onCells (putCells id 0 (flatK OkT.enc 5 d')))) ++ os)[k]? = _
      rw [Array.getElem?_append_left (by simpa using hk)]
    have hcell : (sortWorldK OkT.enc 5 w g 0 n d' os).heap[g]? = some (.cells (putCells id 0 (flatK OkT.enc 5 d') cur) 26 (0, 0)) := by
      rw [hgrow g hlt, Array.getElem?_modify, if_pos rfl, hg]
      rfl
    have hpl : (plain d').length = xs.length := by simp [plain, hl]
    refine ⟨⟨cellsT_len _, .inr ⟨g, cap, putCells id 0 (flatK OkT.enc 5 d') cur, by rw [hpl], hB, hcell, by rw [hpl]; exact hc, hm, by simp [putCells, hs], ?_⟩⟩, rfl, rfl, rfl, ?_, ?_⟩
    · rw [← flat_cells, hpl]
      have hz : xs.length * 5 = (flatK OkT.enc 5 d').size := by simp [hl]
      rw [hz]
      refine put_take _ _ ?_
      rw [← hz, hs]
      omega
    · show w.heap.size ≤ ((w.heap.modify g (onCells (putCells id 0 (flatK OkT.enc 5 d')))) ++ os).size
      simp
    · intro k hk
      rw [hgrow k (by omega), Array.getElem?_modify, if_neg (by omega)]
theorem plain_of : ∀ (xs : List TV) (hok : ∀ x ∈ xs, x.ok = true), ∃ d : Array OkT, plain d = xs
  | [], _ => ⟨#[], rfl⟩
  | x :: xs, h => by
    obtain ⟨d, hd⟩ := plain_of xs fun y hy => h y (by simp [hy])
    exact ⟨(#[(⟨x, h x (by simp)⟩ : OkT)] : Array OkT) ++ d, by simp only [plain, Array.toList_append, List.map_append] at *; rw [hd]; rfl⟩
/-- the sort of a row of the call's own -/
theorem sort_own (B : Nat) (v : Value) (xs : List TV) (hok : ∀ x ∈ xs, x.ok = true) (w : World) (hown : OwnT B w v xs) (hB : B ≤ w.heap.size) (hlen : xs.length ≤ 900000) :
    Calls Try.prog 62 #[v, .func (.func 63) #[] #[]] w (fun e w' => e = .returned (.tuple #[]) ∧ ∃ ys, ys.Perm xs ∧ ys.Pairwise (fun x y => y.lt x = false) ∧ OwnT B w' v ys ∧ Below B w w') := by
  have hk := hown
  rcases hk.2 with ⟨e, hn⟩ | ⟨g, cap, cur, e, _, hg, _⟩
  · obtain rfl : xs = [] := List.length_eq_zero_iff.1 hn
    subst e
    refine (AnyF.slices_SortFunc_none sortL none 0 _ w).mono ?_
    rintro e w' ⟨rfl, rfl⟩
    exact ⟨rfl, [], List.Perm.refl _, List.Pairwise.nil, hown, Below.refl _ _⟩
  · subst e
    obtain ⟨d, hd⟩ := plain_of xs hok
    have hsz : d.size = xs.length := by rw [← hd]; simp [plain]
    have eg : ∀ args w, (callFunc 63 args).run Try.prog w = .ok (.enter 63 args) w := enters_of Try.func63 (by kernel_rfl) rfl
    have hcon := AnyQ.slices_SortFunc sortL 5 Try.isAgg26 Try.sizeOf26 OkT.enc (fun _ => rfl) (fun x u hu => enc_one x.1 u hu) cmpO swoO 63 #[] g 0 cap d w eg (cmpLays g 0 d.size w) (holds_own hown hd) (Array.getElem?_eq_some_iff.1 hg).1 (by omega)
    rw [hsz] at hcon
    refine Calls.mono hcon ?_
    rintro e w' ⟨rfl, d', n, os, hp, hs, rfl⟩
    have hl : d'.size = xs.length := by rw [hp.1, hsz]
    have hq := own_put hown hl n os
    refine ⟨rfl, plain d', ?_, ?_, hq.1, hq.2⟩
    · have h3 := hp.2.2
      rw [← hsz, Array.extract_size, show d.size = d'.size by rw [hl, hsz], Array.extract_size] at h3
      rw [← hd]
      exact h3.map _
    · rw [List.pairwise_iff_getElem]
      intro i j hi hj hij
      have hi' : i < d'.size := by simpa [plain] using hi
      have hj' : j < d'.size := by simpa [plain] using hj
      have h4 := hs i j (Nat.zero_le _) hij (by omega)
      rw [cmpO_lt, getElem!_pos d' i hi', getElem!_pos d' j hj'] at h4
      simpa [plain] using h4
end Go.Proofs.Ytcaolilhemamiaa
