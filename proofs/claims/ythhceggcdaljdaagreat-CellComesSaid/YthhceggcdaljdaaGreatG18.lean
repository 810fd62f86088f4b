import Derived.Test.YthhceggcdaljdaaGreatG08
import Derived.Sort.Grow
import Derived.Test.YthhceggcdaljdaaGreatG17
import Derived.Shelf.SlSortCmp.NoneTotal
import Derived.Deep.LoopGhost
import Derived.Deep.Draws
import Derived.Deep.Light
namespace Go.Proofs.YthhceggcdaljdaaGreat
open Go.RowKit Go.Sort
set_option linter.unusedVariables false
set_option linter.unusedSimpArgs false

/- the comparison that the sort is given -/

theorem lt_any (a b : TV) (W : World) : Calls Tryz.prog 58 #[a.val, b.val] W (RetD (.bool (a.lt b)) W) := less_drawn _ _ _ _ _ _ _ _ _ _ W
def cmpT (a b : TV) : Int := if a.lt b then -1 else if b.lt a then 1 else 0
set_option maxHeartbeats 2000000 in
theorem compare_any (a b : TV) (w : World) : Calls Tryz.prog 188 #[a.val, b.val] w (RetD (.int .i64 (cmpT a b)) w) := by
  have H1 : Hid (∀ W, Calls Tryz.prog 58 #[a.val, b.val] W (RetD (.bool (a.lt b)) W)) := lt_any a b
  have H2 : Hid (∀ W, Calls Tryz.prog 58 #[b.val, a.val] W (RetD (.bool (b.lt a)) W)) := lt_any b a
  have hc : cmpT a b = if a.lt b then -1 else if b.lt a then 1 else 0 := rfl
  generalize cmpT a b = r at hc ⊢
  generalize a.lt b = l1 at H1 hc
  generalize b.lt a = l2 at H2 hc
  have HC := Lib.hid hc; clear hc
  go_enter Tryz.func188, Tryz.ntmps188
  go_wp2_with fail
  refine (H1.out _).mono ?_
  rintro e w1 ⟨rfl, hb1, hd1⟩
  have hz := hb1.size
  have hB := bcall (B := w.heap.size) (a := w) (by go_grown) hb1 (by go_size)
  have hP := ((Own5.new w (.int .i64 a.d) (.int .i64 a.c0) (.int .i64 a.c1) (.int .i64 a.c2) (.int .i64 a.c3) 25).alloc _ (by go_size)).below hb1 (by go_size)
  have hA := (Own5.new _ (.int .i64 b.d) (.int .i64 b.c0) (.int .i64 b.c1) (.int .i64 b.c2) (.int .i64 b.c3) 25).below hb1 (by go_size)
  have hd : w.drawn ≤ w1.drawn := hd1
  obtain ⟨p0, p1, p2, p3, p4, q0, q1, q2, q3, q4⟩ := hP
  obtain ⟨a0, a1, a2, a3, a4, b0, b1, b2, b3, b4⟩ := hA
  simp only [World.size_alloc] at *
  clear hb1 hd1
  cases l1
  · go_wp2_with fail
    refine (H2.out _).mono ?_
    rintro e w2 ⟨rfl, hb2, hd2⟩
    have hB2 := bcall hB hb2 hB.size
    have hdd : w.drawn ≤ w2.drawn := Nat.le_trans hd hd2
    cases l2
    · skip
      go_wp2
      go_returns
      exact ⟨by rw [HC.out]; rfl, hB2, hdd⟩
    · skip
      go_wp2
      go_returns
      exact ⟨by rw [HC.out]; rfl, hB2, hdd⟩
  · skip
    go_wp2
    go_returns
    exact ⟨by rw [HC.out]; rfl, hB, hd⟩
end Go.Proofs.YthhceggcdaljdaaGreat
namespace Go.Proofs.YthhceggcdaljdaaGreat
open Go.RowKit Go.Sort Go.Shelf
set_option linter.unusedVariables false
set_option linter.unusedSimpArgs false

/- the library's sort, laid at rows of timestamps -/
def sortL_ren : Go.Shelf.Ren := ⟨fun | 6 => 187 | 15 => 169 | 14 => 235 | 28 => 213 | 29 => 214 | 20 => 255 | 21 => 256 | 22 => 257 | 23 => 258 | 24 => 259 | 25 => 260 | 26 => 261 | 27 => 262 | 46 => 270 | 47 => 241 | 48 => 242 | 49 => 271 | 50 => 272 | 57 => 281 | n => n, fun | 22 => 33 | 24 => 25 | 25 => 230 | 3 => 3 | 39 => 214 | 0 => 0 | 53 => 244 | 55 => 246 | 4 => 4 | 46 => 238 | 45 => 237 | 50 => 184 | 5 => 5 | 9 => 9 | 66 => 264 | 70 => 268 | 76 => 285 | 77 => 123 | n => n, fun | n => n⟩
theorem sortL : Go.Proofs.SlLaysF0.n6 Tryz.prog sortL_ren where
  mixed := by kernel_rfl
  f6 := ⟨ "slices.SortFunc[[]backwash/api.Time,backwash/api.Time]", by decide, Tryz.func187.trans (congrArg some (by kernel_rfl))⟩
  f14 := ⟨ "slices.pdqsortCmpFunc[backwash/api.Time]", by decide, Tryz.func235.trans (congrArg some (by kernel_rfl))⟩
  f15 := Tryz.func169.trans (congrArg some (by kernel_rfl))
  f20 := ⟨ "slices.insertionSortCmpFunc[backwash/api.Time]", by decide, Tryz.func255.trans (congrArg some (by kernel_rfl))⟩
  f21 := ⟨ "slices.heapSortCmpFunc[backwash/api.Time]", by decide, Tryz.func256.trans (congrArg some (by kernel_rfl))⟩
  f22 := ⟨ "slices.breakPatternsCmpFunc[backwash/api.Time]", by decide, Tryz.func257.trans (congrArg some (by kernel_rfl))⟩
  f23 := ⟨ "slices.choosePivotCmpFunc[backwash/api.Time]", by decide, Tryz.func258.trans (congrArg some (by kernel_rfl))⟩
  f24 := ⟨ "slices.reverseRangeCmpFunc[backwash/api.Time]", by decide, Tryz.func259.trans (congrArg some (by kernel_rfl))⟩
  f25 := ⟨ "slices.partialInsertionSortCmpFunc[backwash/api.Time]", by decide, Tryz.func260.trans (congrArg some (by kernel_rfl))⟩
  f26 := ⟨ "slices.partitionEqualCmpFunc[backwash/api.Time]", by decide, Tryz.func261.trans (congrArg some (by kernel_rfl))⟩
  f27 := ⟨ "slices.partitionCmpFunc[backwash/api.Time]", by decide, Tryz.func262.trans (congrArg some (by kernel_rfl))⟩
  f28 := Tryz.func213.trans (congrArg some (by kernel_rfl))
  f29 := Tryz.func214.trans (congrArg some (by kernel_rfl))
  f46 := ⟨ "slices.siftDownCmpFunc[backwash/api.Time]", by decide, Tryz.func270.trans (congrArg some (by kernel_rfl))⟩
  f47 := Tryz.func241.trans (congrArg some (by kernel_rfl))
  f48 := Tryz.func242.trans (congrArg some (by kernel_rfl))
  f49 := ⟨ "slices.medianAdjacentCmpFunc[backwash/api.Time]", by decide, Tryz.func271.trans (congrArg some (by kernel_rfl))⟩
  f50 := ⟨ "slices.medianCmpFunc[backwash/api.Time]", by decide, Tryz.func272.trans (congrArg some (by kernel_rfl))⟩
  f57 := ⟨ "slices.order2CmpFunc[backwash/api.Time]", by decide, Tryz.func281.trans (congrArg some (by kernel_rfl))⟩
  t0 := Tryz.underlying0
  a0 := Tryz.isAgg0
  z0 := Tryz.sizeOf0
  v0 := Tryz.zeroValue0
  t3 := Tryz.underlying3
  a3 := Tryz.isAgg3
  z3 := Tryz.sizeOf3
  v3 := Tryz.zeroValue3
  t4 := Tryz.underlying4
  a4 := Tryz.isAgg4
  z4 := Tryz.sizeOf4
  v4 := Tryz.zeroValue4
  t5 := Tryz.underlying5
  a5 := Tryz.isAgg5
  z5 := Tryz.sizeOf5
  v5 := Tryz.zeroValue5
  t9 := Tryz.underlying9
  a9 := Tryz.isAgg9
  z9 := Tryz.sizeOf9
  v9 := Tryz.zeroValue9
  t22 := Tryz.underlying33
  a22 := Tryz.isAgg33
  z22 := Tryz.sizeOf33
  v22 := Tryz.zeroValue33
  t25 := Tryz.underlying230
  a25 := Tryz.isAgg230
  z25 := Tryz.sizeOf230
  v25 := Tryz.zeroValue230
  t39 := Tryz.underlying214
  a39 := Tryz.isAgg214
  z39 := Tryz.sizeOf214
  v39 := Tryz.zeroValue214
  t45 := Tryz.underlying237
  a45 := Tryz.isAgg237
  z45 := Tryz.sizeOf237
  v45 := Tryz.zeroValue237
  t46 := Tryz.underlying238
  a46 := Tryz.isAgg238
  z46 := Tryz.sizeOf238
  v46 := Tryz.zeroValue238
  t50 := Tryz.underlying184
  a50 := Tryz.isAgg184
  z50 := Tryz.sizeOf184
  v50 := Tryz.zeroValue184
  t53 := Tryz.underlying244
  a53 := Tryz.isAgg244
  z53 := Tryz.sizeOf244
  v53 := Tryz.zeroValue244
  t55 := Tryz.underlying246
  a55 := Tryz.isAgg246
  z55 := Tryz.sizeOf246
  v55 := Tryz.zeroValue246
  t66 := Tryz.underlying264
  a66 := Tryz.isAgg264
  z66 := Tryz.sizeOf264
  v66 := Tryz.zeroValue264
  t70 := Tryz.underlying268
  a70 := Tryz.isAgg268
  z70 := Tryz.sizeOf268
  v70 := Tryz.zeroValue268
  t76 := Tryz.underlying285
  a76 := Tryz.isAgg285
  z76 := Tryz.sizeOf285
  v76 := Tryz.zeroValue285
  t77 := Tryz.underlying123
  a77 := Tryz.isAgg123
  z77 := Tryz.sizeOf123
  v77 := Tryz.zeroValue123

/-- a right timestamp -/
def OkT : Type := { t : TV // t.ok = true }
instance : Inhabited OkT := ⟨⟨⟨1, 0, 0, 0, 0⟩, by decide +kernel⟩⟩
def OkT.enc (x : OkT) : List Value := x.1.enc
def cmpO (x y : OkT) : Int := cmpT x.1 y.1
theorem cmpO_lt (x y : OkT) : ltOf cmpO x y = x.1.lt y.1 := by
  unfold ltOf cmpO cmpT
  cases h : x.1.lt y.1
  · cases y.1.lt x.1 <;> simp
  · simp
theorem lt_key (x y : OkT) : ltOf cmpO x y = decide (x.1.key < y.1.key) := by
  rw [cmpO_lt, Bool.eq_iff_iff, TV.lt_iff, decide_eq_true_eq]
  exact ⟨fun h => h.2.2, fun h => ⟨x.2, y.2, h⟩⟩
theorem swoO : SWO (ltOf cmpO) where
  irrefl x := by rw [lt_key]; simp
  trans x y z h1 h2 := by rw [lt_key] at *; simp at *; omega
  ntrans x y z h1 h2 := by rw [lt_key] at *; simp at *; omega
theorem cmpLays (blk off size : Nat) (w : World) : CmpLays Tryz.prog 188 #[] OkT.enc 5 cmpO blk off size w := fun m os dk hs x y =>
  (compare_any x.1 y.1 _).mono fun e w' h => ⟨h.1, grow_of_below h.2.1 h.2.2⟩

def plain (d : Array OkT) : List TV := d.toList.map fun x => x.1
theorem flat_cells (d : Array OkT) : (flatK OkT.enc 5 d).toList = cellsT (plain d) := by
  refine List.ext_getElem? fun t => ?_
  by_cases ht : t < d.size * 5
  · have e : t = t / 5 * 5 + t % 5 := by omega
    have hq : t / 5 < (plain d).length := by simp [plain]; omega
    have h1 := cellsT_get (plain d) (t / 5) hq (t % 5) (by omega)
    rw [← e] at h1
    rw [h1]
    have h2 := get_flatK OkT.enc 5 d t ht
    have hs : t < (flatK OkT.enc 5 d).toList.length := by simp [ht]
    have hp : (plain d)[t / 5]! = d[t / 5]!.1 := by
      have hd : t / 5 < d.size := by omega
      simp [plain, hd]
    rw [List.getElem?_eq_getElem hs, hp]
    rw [getElem!_pos (flatK OkT.enc 5 d) t (by simpa using ht)] at h2
    rw [Array.getElem_toList, h2]
    have h5 : t % 5 < (d[t / 5]!.1.enc).length := by rw [enc_len]; omega
    rw [List.getElem?_eq_getElem h5]
    show some ((d[t / 5]!.1.enc)[t % 5]!) = _
    rw [getElem!_pos (d[t / 5]!.1.enc) (t % 5) h5]
  · rw [List.getElem?_eq_none (by simp; omega), List.getElem?_eq_none (by rw [cellsT_len]; simp [plain]; omega)]

theorem holds_own {B g cap : Nat} {w : World} {xs : List TV} (h : OwnTT B w (.slice (some ⟨g, 0, none⟩) xs.length cap) xs) {d : Array OkT} (hd : plain d = xs) : HoldsK OkT.enc 5 w g 0 d := by
  intro j hj
  rw [size_flatK] at hj
  have hl : d.size = xs.length := by rw [← hd]; simp [plain]
  have h1 := World.ownsRow.cellAt h j (by omega)
  have h2 := World.ownsRow.frozenAt h j
  have hf := flat_cells d
  rw [hd] at hf
  have hs : j < (flatK OkT.enc 5 d).size := by simp; omega
  refine ⟨?_, by rw [Nat.zero_add]; exact h2⟩
  rw [Nat.zero_add, h1, ← hf, getElem!_pos (flatK OkT.enc 5 d) j hs]
  simp [hs]
theorem put_take (F cur : Array Value) (h : F.size ≤ cur.size) : (putCells id 0 F cur).toList.take F.size = F.toList := by
  refine List.ext_getElem? fun k => ?_
  rw [List.getElem?_take]
  split
  · rename_i hk
    have hc : k < cur.size := by omega
    simp [putCells, hk, hc]
  · rename_i hk
    rw [List.getElem?_eq_none (by simpa using hk)]
theorem own_put {B g cap : Nat} {w : World} {xs : List TV} (h : OwnTT B w (.slice (some ⟨g, 0, none⟩) xs.length cap) xs) {d' : Array OkT} (hl : d'.size = xs.length) (n : Nat) (os : Array Obj) :
    OwnTT B (sortWorldK OkT.enc 5 w g 0 n d' os) (.slice (some ⟨g, 0, none⟩) xs.length cap) (plain d') ∧ Below B w (sortWorldK OkT.enc 5 w g 0 n d' os) := by
  obtain ⟨h1, h2⟩ := h
  rcases h2 with ⟨e, _⟩ | ⟨g', cap', cur, e, hB, hg, hc, hm, hs, ht⟩
  · cases e
  · simp only [Value.slice.injEq, Option.some.injEq, Addr.mk.injEq, and_true, true_and] at e
    obtain ⟨e1, e2⟩ := e
    subst e1; subst e2
    have hlt : g < w.heap.size := (Array.getElem?_eq_some_iff.1 hg).1
    have hgrow : ∀ k, k < w.heap.size → (sortWorldK OkT.enc 5 w g 0 n d' os).heap[k]? = (w.heap.modify g (onCells (putCells id 0 (flatK OkT.enc 5 d'))))[k]? := by
      intro k hk
      show ((w.heap.modify g (onCells (putCells id 0 (flatK OkT.enc 5 d')))) ++ os)[k]? = _
      rw [Array.getElem?_append_left (by simpa using hk)]
    have hcell : (sortWorldK OkT.enc 5 w g 0 n d' os).heap[g]? = some (.cells (putCells id 0 (flatK OkT.enc 5 d') cur) 25 (0, 0)) := by
      rw [hgrow g hlt, Array.getElem?_modify, if_pos rfl, hg]
      rfl
    have hpl : (plain d').length = xs.length := by simp [plain, hl]
    refine ⟨⟨cellsT_len _, .inr ⟨g, cap, putCells id 0 (flatK OkT.enc 5 d') cur, by rw [hpl], hB, hcell, by rw [hpl]; exact hc, hm, by simp [putCells, hs], ?_⟩⟩, rfl, rfl, rfl, ?_, ?_⟩
    · rw [← flat_cells, hpl]
      have hz : xs.length * 5 = (flatK OkT.enc 5 d').size := by simp [hl]
      rw [hz]
      refine put_take _ _ ?_
      rw [← hz, hs]
      omega
    · show w.heap.size ≤ ((w.heap.modify g (onCells (putCells id 0 (flatK OkT.enc 5 d')))) ++ os).size
      simp
    · intro k hk
      rw [hgrow k (by omega), Array.getElem?_modify, if_neg (by omega)]
theorem plain_of : ∀ (xs : List TV) (hok : ∀ x ∈ xs, x.ok = true), ∃ d : Array OkT, plain d = xs
  | [], _ => ⟨#[], rfl⟩
  | x :: xs, h => by
    obtain ⟨d, hd⟩ := plain_of xs fun y hy => h y (by simp [hy])
    exact ⟨(#[(⟨x, h x (by simp)⟩ : OkT)] : Array OkT) ++ d, by simp only [plain, Array.toList_append, List.map_append] at *; rw [hd]; rfl⟩
/-- the sort of a row of the call's own -/
theorem sort_own (B : Nat) (v : Value) (xs : List TV) (hok : ∀ x ∈ xs, x.ok = true) (w : World) (hown : OwnTT B w v xs) (hB : B ≤ w.heap.size) (hlen : xs.length ≤ 2000000000000) :
    Calls Tryz.prog 187 #[v, .func (.func 188) #[] #[]] w (fun e w' => e = .returned (.tuple #[]) ∧ ∃ ys, ys.Perm xs ∧ ys.Pairwise (fun x y => y.lt x = false) ∧ OwnTT B w' v ys ∧ Below B w w') := by
  have hk := hown
  rcases hk.2 with ⟨e, hn⟩ | ⟨g, cap, cur, e, _, hg, _⟩
  · obtain rfl : xs = [] := List.length_eq_zero_iff.1 hn
    subst e
    refine (AnyF.slices_SortFunc_none sortL none 0 _ w).mono ?_
    rintro e w' ⟨rfl, rfl⟩
    exact ⟨rfl, [], List.Perm.refl _, List.Pairwise.nil, hown, Below.refl _ _⟩
  · subst e
    obtain ⟨d, hd⟩ := plain_of xs hok
    have hsz : d.size = xs.length := by rw [← hd]; simp [plain]
    have eg : ∀ args w, (callFunc 188 args).run Tryz.prog w = .ok (.enter 188 args) w := enters_of Tryz.func188 (by kernel_rfl) rfl
    have hcon := AnyQ.slices_SortFunc sortL 5 Tryz.isAgg25 Tryz.sizeOf25 OkT.enc (fun _ => rfl) (fun x u hu => enc_one x.1 u hu) cmpO swoO 188 #[] g 0 cap d w eg (cmpLays g 0 d.size w) (holds_own hown hd) (Array.getElem?_eq_some_iff.1 hg).1 (by omega)
    rw [hsz] at hcon
    refine Calls.mono hcon ?_
    rintro e w' ⟨rfl, d', n, os, hp, hs, rfl⟩
    have hl : d'.size = xs.length := by rw [hp.1, hsz]
    have hq := own_put hown hl n os
    refine ⟨rfl, plain d', ?_, ?_, hq.1, hq.2⟩
    · have h3 := hp.2.2
      rw [← hsz, Array.extract_size, show d.size = d'.size by rw [hl, hsz], Array.extract_size] at h3
      rw [← hd]
      exact h3.map _
    · rw [List.pairwise_iff_getElem]
      intro i j hi hj hij
      have hi' : i < d'.size := by simpa [plain] using hi
      have hj' : j < d'.size := by simpa [plain] using hj
      have h4 := hs i j (Nat.zero_le _) hij (by omega)
      rw [cmpO_lt, getElem!_pos d' i hi', getElem!_pos d' j hj'] at h4
      simpa [plain] using h4
end Go.Proofs.YthhceggcdaljdaaGreat
namespace Go.Proofs.YthhceggcdaljdaaGreat
open Go.RowKit
set_option linter.unusedVariables false
set_option linter.unusedSimpArgs false

/-- the call makes a row of its own, of these timestamps -/
def MadeT (xs : List TV) (w : World) (e : Ending) (w' : World) : Prop := ∃ v, e = .returned v ∧ OwnTT w.heap.size w' v xs ∧ Below w.heap.size w w'

set_option maxRecDepth 100000 in
set_option maxHeartbeats 4000000 in
theorem ordered_row (xs : List TV) (b off cap : Nat) (w : World) (hl : xs.length ≤ 2000000000000) (hb : b < w.heap.size) (hr : RowT w b off xs) :
    Calls Tryz.prog 146 #[.slice (some ⟨b, off, none⟩) xs.length cap] w (MadeT (sortedT xs) w) := by
  have hrow : Hid (∀ (W : World), Below w.heap.size w W → ∀ j, j < xs.length → _) := fun W hW j hj => (hr.below hW hb).at j hj
  clear hr
  generalize hn : xs.length = n at hl
  have HN := Lib.hid hn
  clear hn
  go_enter Tryz.func146, Tryz.ntmps146
  go_wp2
  go_loopg [3, 8] n (fun gg v i wr => ∃ k : Nat, k ≤ n ∧ n - k ≤ gg ∧ i = .int .i64 k ∧ Hid (Below w.heap.size w wr) ∧ Hid (OwnTT w.heap.size wr v ((xs.take k).filter TV.ok)))
  case atStart => exact ⟨0, Nat.zero_le _, by omega, rfl, Below.refl _ _, OwnTT.nil _ _⟩
  case round =>
    obtain ⟨k, hkn, hg, rfl, HB, HO⟩ := hrel
    by_cases hlt : k < n
    · have hlz : (k : Int) < (n : Int) := by omega
      have hc := hrow.out wr HB.out k (by rw [HN.out]; exact hlt)
      generalize hy : xs[k]! = y at hc
      have HY := Lib.hid hy; clear hy
      obtain ⟨e0, e1, e2, e3, e4⟩ := hc
      clear hrow
      go_wp2_with fail
      refine (ok_any _ _).mono ?_
      rintro e w1 ⟨rfl, hb1⟩
      have hz := hb1.size
      have hBx := (Own5.new wr (.int .i64 y.d) (.int .i64 y.c0) (.int .i64 y.c1) (.int .i64 y.c2) (.int .i64 y.c3) 25).below hb1 (by simp)
      have hO1 : OwnTT w.heap.size w1 u3 ((xs.take k).filter TV.ok) := (HO.out.alloc _).below hb1
      have hz0 := HB.out.size
      have hB1 : Below w.heap.size w w1 := bcall (HB.out.alloc hz0 _) hb1 (by simp; omega)
      rw [World.size_alloc] at hz
      clear hb1 e0 e1 e2 e3 e4 HB HO
      obtain ⟨p0, p1, p2, p3, p4, q0, q1, q2, q3, q4⟩ := hBx
      cases hy : y.ok
      · have HB1 := Lib.hid hB1; have HO1 := Lib.hid hO1
        clear hB1 hO1
        go_wp2
        go_roundg (n - (k + 1))
        case measure => omega
        case rel =>
          refine ⟨k + 1, by omega, by omega, by go_num, HB1.out, ?_⟩
          have ht := take_get xs k (by rw [HN.out]; exact hlt)
          rw [HY.out] at ht
          show OwnTT _ _ _ _
          rw [ht, List.filter_append, List.filter_cons_of_neg (by rw [hy]; decide), List.filter_nil, List.append_nil]
          exact HO1.out
      · have HB1 := Lib.hid hB1; have HO1 := Lib.hid hO1
        have hz2 := hB1.size
        have hlen : ((xs.take k).filter TV.ok).length ≤ 2000000000000 := by
          have h1 := List.length_filter_le TV.ok (xs.take k)
          rw [List.length_take] at h1
          omega
        clear hB1 hO1
        go_wp2_with (at_builtin; refine OwnTT.push HO1.out HB1.out hz2 rfl _ _ rfl rfl _ rfl hlen ?_; intro v2 w2 hO2 hB2 hz3)
        go_roundg (n - (k + 1))
        case measure => omega
        case rel =>
          refine ⟨k + 1, by omega, by omega, by go_num, hB2, ?_⟩
          have ht := take_get xs k (by rw [HN.out]; exact hlt)
          rw [HY.out] at ht
          show OwnTT _ _ _ _
          rw [ht, List.filter_append, List.filter_cons_of_pos hy, List.filter_nil]
          exact hO2
    · have hlz : ¬ (k : Int) < (n : Int) := by omega
      have : k = n := by omega
      subst this
      have hO : OwnTT w.heap.size wr u3 (xs.filter TV.ok) := by
        have h := HO.out
        rw [List.take_of_length_le (by rw [HN.out]; exact Nat.le_refl _)] at h
        exact h
      have hlen : (xs.filter TV.ok).length ≤ 2000000000000 := by
        have h1 := List.length_filter_le TV.ok xs
        rw [HN.out] at h1
        omega
      have hsort := sort_own w.heap.size u3 (xs.filter TV.ok) (fun x hx => (List.mem_filter.1 hx).2) wr hO HB.out.size hlen
      have HS := Lib.hid hsort
      clear hsort hO hlen
      go_wp2_with fail
      refine (HS.out).mono ?_
      rintro e w2 ⟨rfl, ys, hp, hs, hO2, hB2⟩
      have HR : Hid (OwnTT w.heap.size w2 u3 (sortedT xs)) := by show OwnTT _ _ _ _; rw [← sortedT_eq hp hs]; exact hO2
      have hB3 := HB.out.trans hB2
      clear hp hs hO2 hB2
      go_wp2
      go_returns
      exact ⟨_, rfl, HR.out, hB3⟩
set_option maxRecDepth 100000 in
set_option maxHeartbeats 4000000 in
theorem ordered_nil (p : Option Addr) (cap : Nat) (w : World) : Calls Tryz.prog 146 #[.slice p 0 cap] w (MadeT (sortedT []) w) := by
  have hsort := fun wr (hz : w.heap.size ≤ wr.heap.size) => sort_own w.heap.size (.slice none 0 0) [] (by simp) wr (OwnTT.nil _ _) hz (by simp)
  have HS := Lib.hid hsort
  clear hsort
  go_enter Tryz.func146, Tryz.ntmps146
  go_wp2
  refine wp_loop_rounds 1 ?_
  rw [rounds_succ]
  go_wp2_with fail
  refine (HS.out _ (Nat.le_refl _)).mono ?_
  rintro e w2 ⟨rfl, ys, hp, hs, hO2, hB2⟩
  have HR : Hid (OwnTT w.heap.size w2 (.slice none 0 0) (sortedT [])) := by show OwnTT _ _ _ _; rw [← sortedT_eq (xs := []) hp hs]; exact hO2
  clear hp hs hO2
  go_wp2
  go_returns
  exact ⟨_, rfl, HR.out, hB2⟩
theorem ordered_any (xs : List TV) (v : Value) (w : World) (hl : xs.length ≤ 2000000000000) (h : IsT w v xs) : Calls Tryz.prog 146 #[v] w (MadeT (sortedT xs) w) := by
  rcases h with ⟨rfl, p, cap, rfl, _⟩ | ⟨_, b, off, cap, rfl, hb, hr⟩
  · exact ordered_nil p cap w
  · exact ordered_row xs b off cap w hl hb hr
end Go.Proofs.YthhceggcdaljdaaGreat
namespace Go.Proofs.YthhceggcdaljdaaGreat
open Go.RowKit
set_option linter.unusedVariables false
set_option linter.unusedSimpArgs false

/- chain.Covers: a search by a closure that has caught the timestamp -/
structure BoxT (w : World) (b : Nat) (t : TV) : Prop where
  c : Own5 w b (.int .i64 t.d) (.int .i64 t.c0) (.int .i64 t.c1) (.int .i64 t.c2) (.int .i64 t.c3)
  l : b < w.heap.size
theorem BoxT.below {w w' : World} {b : Nat} {t : TV} (h : BoxT w b t) (hb : Below w.heap.size w w') : BoxT w' b t := ⟨h.c.below hb h.l, Nat.lt_of_lt_of_le h.l hb.size⟩
theorem BoxT.new (w : World) (t : TV) (ty : TypeId) : BoxT (w.alloc (.cells #[.int .i64 t.d, .int .i64 t.c0, .int .i64 t.c1, .int .i64 t.c2, .int .i64 t.c3] ty)) w.heap.size t := ⟨Own5.new w _ _ _ _ _ ty, by simp⟩

set_option maxHeartbeats 2000000 in
theorem closure_any (x t : TV) (B : Nat) (w : World) (h : BoxT w B t) : Calls Tryz.prog 190 #[x.val, .pointer (some ⟨B, 0, none⟩)] w (Ret (.bool (x.le t)) w) := by
  have HL := Lib.hid (fun W => tle_any x t W)
  have hn : B ≠ w.heap.size := Nat.ne_of_lt h.l
  have hn' := Ne.symm hn
  obtain ⟨⟨p0, p1, p2, p3, p4, q0, q1, q2, q3, q4⟩, hl⟩ := h
  generalize x.le t = r at HL ⊢
  go_enter Tryz.func190, Tryz.ntmps190
  go_wp2_with fail
  refine (HL.out _).mono ?_
  rintro e w1 ⟨rfl, hb1⟩
  have hB := bcall (B := w.heap.size) (a := w) (by go_grown) hb1 (by go_size)
  clear hb1 p0 p1 p2 p3 p4 q0 q1 q2 q3 q4
  go_wp2
  go_returns
  exact ⟨rfl, hB⟩

theorem cov_take_false {xs : List TV} {t : TV} {k : Nat} (hk : k < xs.length) (h : cov (xs.take k) t = false) (hx : (xs[k]!).le t = false) : cov (xs.take (k + 1)) t = false := by
  rw [take_get xs k hk, cov_append, h]
  simp only [cov, List.any_cons, List.any_nil, hx]
  rfl
theorem cov_hit {xs : List TV} {t : TV} {k : Nat} (hk : k < xs.length) (hx : (xs[k]!).le t = true) : cov xs t = true :=
  cov_iff.2 ⟨xs[k]!, by rw [getElem!_pos xs k hk]; exact List.getElem_mem hk, hx⟩
def IndexPost (xs : List TV) (t : TV) (w : World) (e : Ending) (w' : World) : Prop := ∃ r : Int, e = .returned (.int .i64 r) ∧ decide (0 ≤ r) = cov xs t ∧ Below w.heap.size w w'
set_option maxRecDepth 100000 in
set_option maxHeartbeats 4000000 in
theorem index_row (xs : List TV) (t : TV) (b off cap B : Nat) (w : World) (hl : xs.length ≤ 2000000000000) (hb : b < w.heap.size) (hr : RowT w b off xs) (hB : BoxT w B t) :
    Calls Tryz.prog 236 #[.slice (some ⟨b, off, none⟩) xs.length cap, .func (.func 190) #[] #[.pointer (some ⟨B, 0, none⟩)]] w (IndexPost xs t w) := by
  have hrow : Hid (∀ (W : World), Below w.heap.size w W → ∀ j, j < xs.length → _) := fun W hW j hj => (hr.below hW hb).at j hj
  have hcl : Hid (∀ (W : World) (x : TV), Below w.heap.size w W → _) := fun W x hW => closure_any x t B W (⟨hB.c.below hW hB.l, Nat.lt_of_lt_of_le hB.l hW.size⟩)
  clear hr hB
  generalize hn : xs.length = n at hl
  have HN := Lib.hid hn
  clear hn
  go_enter Tryz.func236, Tryz.ntmps236
  go_wp2
  go_loopg [8] n (fun gg i wr => ∃ k : Nat, k ≤ n ∧ n - k ≤ gg ∧ i = .int .i64 k ∧ Hid (Below w.heap.size w wr) ∧ Hid (cov (xs.take k) t = false))
  case atStart => exact ⟨0, Nat.zero_le _, by omega, rfl, Below.refl _ _, rfl⟩
  case round =>
    obtain ⟨k, hkn, hg, rfl, HB, HC⟩ := hrel
    by_cases hlt : k < n
    · have hlz : (k : Int) < (n : Int) := by omega
      have hc := hrow.out wr HB.out k (by rw [HN.out]; exact hlt)
      have hcall := hcl.out wr xs[k]! HB.out
      have hhit := fun h => cov_hit (xs := xs) (t := t) (k := k) (by rw [HN.out]; exact hlt) h
      have hmiss := fun h => cov_take_false (xs := xs) (t := t) (k := k) (by rw [HN.out]; exact hlt) HC.out h
      generalize xs[k]! = y at hc hcall hhit hmiss
      obtain ⟨e0, e1, e2, e3, e4⟩ := hc
      clear hrow hcl
      cases hq : y.le t
      · rw [hq] at hcall
        have HM := Lib.hid (hmiss hq)
        have HK := Lib.hid hcall
        clear hmiss hhit hcall hq
        go_wp2_with fail
        refine (HK.out).mono ?_
        rintro e w1 ⟨rfl, hb1⟩
        have HB1 := Lib.hid (HB.out.trans (hb1.mono HB.out.size))
        clear hb1 e0 e1 e2 e3 e4
        go_wp2
        go_roundg (n - (k + 1))
        case measure => omega
        case rel => exact ⟨k + 1, by omega, by omega, by go_num, HB1.out, HM.out⟩
      · rw [hq] at hcall
        have HM := Lib.hid (hhit hq)
        have HK := Lib.hid hcall
        clear hmiss hhit hcall hq
        go_wp2_with fail
        refine (HK.out).mono ?_
        rintro e w1 ⟨rfl, hb1⟩
        have HB1 := Lib.hid (HB.out.trans (hb1.mono HB.out.size))
        clear hb1 e0 e1 e2 e3 e4
        go_wp2
        go_returns
        exact ⟨_, rfl, by rw [HM.out]; exact decide_eq_true (by omega), HB1.out⟩
    · have hlz : ¬ (k : Int) < (n : Int) := by omega
      have : k = n := by omega
      subst this
      have HX : Hid (cov xs t = false) := by
        have h := HC.out
        rw [List.take_of_length_le (by rw [HN.out]; exact Nat.le_refl _)] at h
        exact h
      clear HC hrow hcl
      go_wp2
      go_returns
      exact ⟨_, rfl, by rw [HX.out]; rfl, HB.out⟩
set_option maxHeartbeats 2000000 in
theorem index_nil (t : TV) (p : Option Addr) (cap : Nat) (fv : Value) (w : World) :
    Calls Tryz.prog 236 #[.slice p 0 cap, fv] w (IndexPost [] t w) := by
  go_enter Tryz.func236, Tryz.ntmps236
  go_wp2
  refine wp_loop_rounds 1 ?_
  rw [rounds_succ]
  go_wp2
  go_returns
  exact ⟨_, rfl, rfl, Below.refl _ _⟩
theorem index_any (xs : List TV) (t : TV) (v : Value) (B : Nat) (w : World) (hl : xs.length ≤ 2000000000000) (h : IsT w v xs) (hB : BoxT w B t) :
    Calls Tryz.prog 236 #[v, .func (.func 190) #[] #[.pointer (some ⟨B, 0, none⟩)]] w (IndexPost xs t w) := by
  rcases h with ⟨rfl, p, cap, rfl, _⟩ | ⟨_, b, off, cap, rfl, hb, hr⟩
  · exact index_nil t p cap _ w
  · exact index_row xs t b off cap B w hl hb hr hB
set_option maxHeartbeats 2000000 in
theorem contains_any (xs : List TV) (t : TV) (v : Value) (B : Nat) (w : World) (hl : xs.length ≤ 2000000000000) (h : IsT w v xs) (hB : BoxT w B t) :
    Calls Tryz.prog 189 #[v, .func (.func 190) #[] #[.pointer (some ⟨B, 0, none⟩)]] w (Ret (.bool (cov xs t)) w) := by
  have HI := Lib.hid (index_any xs t v B w hl h hB)
  obtain ⟨p, c, rfl⟩ := h.slice
  clear h hB hl
  generalize xs.length = n at HI ⊢
  go_enter Tryz.func189, Tryz.ntmps189
  go_wp2_with fail
  refine (HI.out).mono ?_
  rintro e w1 ⟨r, rfl, hr, hb1⟩
  have HR := Lib.hid hr
  clear hr HI
  go_wp2
  go_returns
  exact ⟨ret_bool HR.out, hb1⟩
set_option maxHeartbeats 2000000 in
theorem covers_any (xs : List TV) (t : TV) (v : Value) (w : World) (hl : xs.length ≤ 2000000000000) (h : IsT w v xs) : Calls Tryz.prog 147 #[v, t.val] w (Ret (.bool (cov xs t)) w) := by
  have HB0 : ∀ o, Below w.heap.size w (w.alloc o) := fun o => (Below.refl _ w).alloc (Nat.le_refl _) o
  have HI := Lib.hid (fun ty => contains_any xs t v w.heap.size (w.alloc (.cells #[.int .i64 t.d, .int .i64 t.c0, .int .i64 t.c1, .int .i64 t.c2, .int .i64 t.c3] ty)) hl (h.below (HB0 _)) (BoxT.new w t ty))
  obtain ⟨p, c, rfl⟩ := h.slice
  clear h hl
  generalize xs.length = n at HI ⊢
  generalize cov xs t = r at HI ⊢
  have HB := Lib.hid HB0
  clear HB0
  go_enter Tryz.func147, Tryz.ntmps147
  go_wp2_with fail
  refine (HI.out _).mono ?_
  rintro e w1 ⟨rfl, hb1⟩
  have HB2 := Lib.hid ((HB.out _).trans (hb1.mono (HB.out _).size))
  clear HI hb1
  go_wp2
  go_returns
  exact ⟨rfl, HB2.out⟩
end Go.Proofs.YthhceggcdaljdaaGreat
namespace Go.Proofs.YthhceggcdaljdaaGreat
open Go.RowKit
set_option linter.unusedVariables false
set_option linter.unusedSimpArgs false

theorem foldl_take (ys : List TV) (k : Nat) (hk : k < ys.length) : (ys.take (k + 1)).foldl lowStep [] = lowStep ((ys.take k).foldl lowStep []) ys[k]! := by
  rw [take_get ys k hk, List.foldl_append]
  rfl
set_option maxRecDepth 100000 in
set_option maxHeartbeats 8000000 in
/-- chain.Of: the lowest, in a row of the call's own -/
theorem of_any (xs : List TV) (v : Value) (w : World) (hl : xs.length ≤ 2000000000000) (h : IsT w v xs) : Calls Tryz.prog 107 #[v] w (MadeT (ofT xs) w) := by
  have HO := Lib.hid (ordered_any xs v w hl h)
  have hm := sortedT_length xs
  have hrep : ofT xs = (sortedT xs).foldl lowStep [] := rfl
  generalize ofT xs = res at hrep ⊢
  generalize sortedT xs = ys at HO hm hrep
  have HR := Lib.hid hrep
  clear hrep h
  go_enter Tryz.func107, Tryz.ntmps107
  go_wp2_with fail
  refine (HO.out).mono ?_
  rintro e w1 ⟨u, rfl, hO, hB⟩
  have HB1 := Lib.hid hB
  clear hB HO
  rcases hO.is with ⟨rfl, p, cap, rfl, _⟩ | ⟨hne, b, off, cap, rfl, hb, hr⟩
  · clear hO
    go_wp2
    refine wp_loop_rounds 1 ?_
    rw [rounds_succ]
    go_wp2
    go_returns
    rw [HR.out]
    exact ⟨_, rfl, OwnTT.nil _ _, HB1.out⟩
  · have hrow : Hid (∀ (W : World), Below w1.heap.size w1 W → ∀ j, j < ys.length → _) := fun W hW j hj => (hr.below hW hb).at j hj
    clear hr hO hne
    generalize hn : ys.length = n at hm
    have HN := Lib.hid hn
    clear hn
    go_wp2
    go_loopg [3, 9] n (fun gg v i wr => ∃ k : Nat, k ≤ n ∧ n - k ≤ gg ∧ i = .int .i64 k ∧ Hid (Below w1.heap.size w1 wr) ∧ Hid (OwnTT w1.heap.size wr v ((ys.take k).foldl lowStep [])))
    case atStart => exact ⟨0, Nat.zero_le _, by omega, rfl, Below.refl _ _, OwnTT.nil _ _⟩
    case round =>
      obtain ⟨k, hkn, hg, rfl, HB, HO⟩ := hrel
      by_cases hlt : k < n
      · have hlz : (k : Int) < (n : Int) := by omega
        have hc := hrow.out wr HB.out k (by rw [HN.out]; exact hlt)
        have hf := foldl_take ys k (by rw [HN.out]; exact hlt)
        have hlen : ((ys.take k).foldl lowStep []).length ≤ 2000000000000 := by
          have h1 := low_length (ys.take k) []
          rw [List.length_take] at h1
          simp at h1
          omega
        generalize (ys.take k).foldl lowStep [] = acc at HO hf hlen
        generalize hy : ys[k]! = y at hc hf
        have HF := Lib.hid hf; clear hf hy
        obtain ⟨e0, e1, e2, e3, e4⟩ := hc
        clear hrow
        have hsz := HB.out.size
        have hcov := covers_any acc y u3 (wr.alloc (.cells #[.int .i64 y.d, .int .i64 y.c0, .int .i64 y.c1, .int .i64 y.c2, .int .i64 y.c3] 25)) hlen (HO.out.alloc _).is
        have hlow : lowStep acc y = if cov acc y then acc else acc ++ [y] := rfl
        generalize hq : cov acc y = q at hcov hlow
        have HC := Lib.hid hcov; have HL := Lib.hid hlow
        clear hcov hlow hq
        go_wp2_with fail
        refine (HC.out).mono ?_
        rintro e w2 ⟨rfl, hb1⟩
        have hz := hb1.size
        have hBx := (Own5.new wr (.int .i64 y.d) (.int .i64 y.c0) (.int .i64 y.c1) (.int .i64 y.c2) (.int .i64 y.c3) 25).below hb1 (by simp)
        have hO1 : OwnTT w1.heap.size w2 u3 acc := (HO.out.alloc _).below hb1
        have hB2 : Below w1.heap.size w1 w2 := bcall (HB.out.alloc hsz _) hb1 (by simp; omega)
        rw [World.size_alloc] at hz
        have hz2 := hB2.size
        clear hb1 e0 e1 e2 e3 e4 HB HO HC
        have HB2 := Lib.hid hB2; have HO1 := Lib.hid hO1
        clear hB2 hO1
        obtain ⟨p0, p1, p2, p3, p4, q0, q1, q2, q3, q4⟩ := hBx
        cases q
        · go_wp2_with (at_builtin; refine OwnTT.push HO1.out HB2.out hz2 rfl _ _ rfl rfl _ rfl hlen ?_; intro v3 w3 hO2 hB3 hz3)
          go_roundg (n - (k + 1))
          case measure => omega
          case rel =>
            refine ⟨k + 1, by omega, by omega, by go_num, hB3, ?_⟩
            show OwnTT _ _ _ _
            rw [HF.out, HL.out]
            exact hO2
        · go_wp2
          go_roundg (n - (k + 1))
          case measure => omega
          case rel =>
            refine ⟨k + 1, by omega, by omega, by go_num, HB2.out, ?_⟩
            show OwnTT _ _ _ _
            rw [HF.out, HL.out]
            exact HO1.out
      · have hlz : ¬ (k : Int) < (n : Int) := by omega
        have : k = n := by omega
        subst this
        have HX : Hid (OwnTT w1.heap.size wr u3 res) := by
          have h := HO.out
          rw [List.take_of_length_le (by rw [HN.out]; exact Nat.le_refl _)] at h
          show OwnTT _ _ _ _
          rw [HR.out]
          exact h
        clear HO hrow
        go_wp2
        go_returns
        exact ⟨_, rfl, HX.out.mono HB1.out.size, HB1.out.trans (HB.out.mono HB1.out.size)⟩
end Go.Proofs.YthhceggcdaljdaaGreat
