/- an operator, records and items as arguments, with the ranges of their numbers -/
import Derived.Test.YtgmpgemgoplafaaG42
import Derived.Test.YtgmpgemgoplafaaG03
import Derived.Sort.Grow
import Derived.Test.YtgmpgemgoplafaaG29
import Derived.Laws.Cover3
namespace Go.Proofs.Ytgmpgemgoplafaa
open Go.ChangeShapes Go.WideShapes Go.ChangeAt Go.RowKit Go.Deep
set_option linter.unusedVariables false
set_option linter.unusedSimpArgs false

theorem node_sizeO : Try.prog.cellsOf 24 = 4 := by kernel_rfl
theorem sl_sizeO : Try.prog.cellsOf 22 = 1 := by kernel_rfl
section
variable {H : Type} {enc : TypeId × Value → H} {w : World} {base : Nat} {sp : Nat → Bool} {held : Bool}
set_option maxRecDepth 100000 in
/-- a slice within an argument -/
theorem open_rowsO {α : Type} [Inhabited α] (R : RowKind α) (P : α → Prop) (hk : Try.prog.cellsOf R.tE = R.k)
    (hcell : ∀ (n : Nat) (cs : List Value) (x : DataW H × List MemPlace), DataW.trod enc Try.prog w base sp held n R.tE cs = some x → ∃ a : α, cs = R.enc a ∧ P a)
    {fuel : Nat} {cs : List Value} {x : DataW H × List MemPlace} (h : DataW.trod enc Try.prog w base sp held fuel R.tS cs = some x) : ∃ (p : Option Addr) (n c : Nat) (xs : List α), cs = [.slice p n c] ∧ R.Is w (.slice p n c) xs ∧ n ≤ c ∧ ∀ x ∈ xs, P x := by
  rcases open_slice R.under h with ⟨e, _⟩ | ⟨a, len, cap, m, n, D, Pl, e, hb, hl, hm, hmm, _, hx⟩
  · exact ⟨none, 0, 0, [], e, .inl ⟨rfl, none, 0, rfl, fun _ => rfl⟩, Nat.le_refl _, fun x hx => by cases hx⟩
  · have hlm : len ≤ m := by rw [hmm]; split <;> omega
    rw [hk] at hx
    have each : ∀ i, i < m → ∃ t : α, P t ∧ ∀ k u, (R.enc t)[k]? = some u → w.cell? ((a.add (i * R.k)).add k) = some u := by
      intro i hi
      obtain ⟨cs', h1, h2⟩ := hx i hi
      obtain ⟨_, hlen, hcl⟩ := World.cells?_some h1
      obtain ⟨t, rfl, hp⟩ := hcell _ _ _ h2
      refine ⟨t, hp, fun k u hu => ?_⟩
      have hk5 : k < R.k := by have := (List.getElem?_eq_some_iff.1 hu).1; rw [R.len] at this; exact this
      rw [hcl k hk5]
      exact hu
    obtain ⟨T, hT⟩ := choose_lt each
    by_cases h0 : len = 0
    · subst h0
      exact ⟨some a, 0, cap, [], e, .inl ⟨rfl, some a, cap, rfl, fun h => by cases h⟩, by omega, fun x hx => by cases hx⟩
    · have hk0 := R.k0
      obtain ⟨u0, hu0⟩ : ∃ u, (R.enc (T 0))[0]? = some u := ⟨_, List.getElem?_eq_getElem (by rw [R.len]; exact hk0)⟩
      have c00 := (hT 0 (by omega)).2 0 _ hu0
      have hspot : a.spot = none := by
        rw [add_add] at c00
        unfold World.cell? at c00
        split at c00
        · split at c00
          · cases c00
          · rename_i hn
            simp [Addr.add] at hn
            exact hn
        · cases c00
      obtain ⟨b, off, spot⟩ := a
      simp only at hspot
      subst hspot
      have hbl : b < w.heap.size := World.block_lt_of_cell? _ _ (by rw [add_add, Nat.add_zero, Addr.add_lit] at c00; exact c00)
      refine ⟨some ⟨b, off, none⟩, len, cap, (List.range len).map T, e, .inr ⟨by simp [h0], b, off, cap, by simp, hbl, ?_⟩, by omega, fun x hx => ?_⟩
      · intro j hj i u hu
        have hj' : j < len := by simpa using hj
        have hg : ((List.range len).map T)[j]! = T j := by simp [hj']
        rw [hg] at hu
        have := (hT j (by omega)).2 i u hu
        rw [add_add, Addr.add_lit, ← Nat.add_assoc] at this
        exact this
      · obtain ⟨j, hj, rfl⟩ := List.mem_map.1 hx
        exact (hT j (by have := List.mem_range.1 hj; omega)).1
set_option maxRecDepth 100000 in
theorem open_recQ_cells (n : Nat) (cs : List Value) (x : DataW H × List MemPlace) (h : DataW.trod enc Try.prog w base sp held n 41 cs = some x) : ∃ c : RV, cs = c.enc ∧ (inR c.k ∧ inR c.v) := by
  obtain ⟨xs, m, _, _, hl, hxl, hf⟩ := DataW.trod_struct Try.underlying41 h
  rw [rec_size] at hl
  match cs, hl with
  | [v0, v1], _ =>
    match xs, hxl with
    | [y0, y1], _ =>
      have g0 := hf 0 ⟨ "K", 2, 0, false, "", "", 0⟩ rfl
      have g1 := hf 1 ⟨ "V", 2, 1, false, "", "", 8⟩ rfl
      dsimp only at g0 g1
      rw [int64_size] at g0 g1
      simp only [List.drop_zero, List.take_succ_cons, List.take_zero, List.drop_succ_cons, List.getElem?_cons_zero, List.getElem?_cons_succ] at g0 g1
      obtain ⟨t, e0, _, hw0⟩ := DataW.trod_int Try.underlying2 g0
      obtain ⟨k, e1, _, hw1⟩ := DataW.trod_int Try.underlying2 g1
      have h0 := Bool.and_eq_true_iff.1 hw0
      have h1 := Bool.and_eq_true_iff.1 hw1
      refine ⟨⟨t, k⟩, ?_, ⟨of_decide_eq_true h0.1, of_decide_eq_true h0.2⟩, ⟨of_decide_eq_true h1.1, of_decide_eq_true h1.2⟩⟩
      have r : [v0, v1] = [v0] ++ [v1] := rfl
      rw [r, e0, e1]
      rfl
set_option maxRecDepth 100000 in
theorem open_itemQ_cells (n : Nat) (cs : List Value) (x : DataW H × List MemPlace) (h : DataW.trod enc Try.prog w base sp held n 43 cs = some x) : ∃ c : IV, cs = c.enc ∧ ((inR c.t.k ∧ inR c.t.v) ∧ inR c.n) := by
  obtain ⟨xs, m, _, _, hl, hxl, hf⟩ := DataW.trod_struct Try.underlying43 h
  rw [item_size] at hl
  match cs, hl with
  | [v0, v1, v2], _ =>
    match xs, hxl with
    | [y0, y1], _ =>
      have g0 := hf 0 ⟨ "Rec", 41, 0, false, "", "", 0⟩ rfl
      have g1 := hf 1 ⟨ "N", 3, 2, false, "", "", 16⟩ rfl
      dsimp only at g0 g1
      rw [rec_size] at g0
      rw [int_sizeI] at g1
      simp only [List.drop_zero, List.take_succ_cons, List.take_zero, List.drop_succ_cons, List.getElem?_cons_zero, List.getElem?_cons_succ] at g0 g1
      obtain ⟨t, e0, ht⟩ := open_recQ_cells _ _ _ g0
      obtain ⟨k, e1, _, hwf⟩ := DataW.trod_int Try.underlying3 g1
      have hh := Bool.and_eq_true_iff.1 hwf
      refine ⟨⟨t, k⟩, ?_, ht, of_decide_eq_true hh.1, of_decide_eq_true hh.2⟩
      have r : [v0, v1, v2] = [v0, v1] ++ [v2] := rfl
      rw [r, e0, e1]
      rfl
set_option maxRecDepth 100000 in
theorem open_itemsQ {r : Reach} {b0 : Nat} {v : Value} {d : DataW H} {ps : List MemPlace} (hval : Value.okWide Try.prog w r b0 28 v) (hd : DataW.Trod enc Try.prog w base sp held 28 v d ps) : ∃ xs : List IV, RI.Is w v xs ∧ capOk v ∧ ∀ x ∈ xs, (inR x.t.k ∧ inR x.t.v) ∧ inR x.n :=
  open_rows RI _ item_size open_itemQ_cells hval hd
set_option maxRecDepth 100000 in
theorem open_recsQ {r : Reach} {b0 : Nat} {v : Value} {d : DataW H} {ps : List MemPlace} (hval : Value.okWide Try.prog w r b0 25 v) (hd : DataW.Trod enc Try.prog w base sp held 25 v d ps) : ∃ xs : List RV, RR.Is w v xs ∧ capOk v ∧ ∀ x ∈ xs, inR x.k ∧ inR x.v :=
  open_rows RR _ rec_size open_recQ_cells hval hd
set_option maxRecDepth 100000 in
theorem open_nodeO {r : Reach} {b0 : Nat} {v : Value} {d : DataW H} {ps : List MemPlace} (hval : Value.okWide Try.prog w r b0 24 v) (hd : DataW.Trod enc Try.prog w base sp held 24 v d ps) :
    ∃ (k s arg : Int) (q : Option Addr) (c : Nat) (p : List NV), v = .agg #[.int .i64 k, .int .i64 s, .int .i64 arg, .slice q p.length c] ∧ RC.Is w (.slice q p.length c) p ∧ inR arg ∧ ∀ x ∈ p, inR x.n := by
  obtain ⟨fuel, h⟩ := hd
  obtain ⟨cs, rfl, hsz⟩ := okWide_struct Try.underlying24 hval
  obtain ⟨xs, m, _, _, hl, hxl, hf⟩ := DataW.trod_struct Try.underlying24 h
  rw [node_sizeO] at hsz
  obtain ⟨l⟩ := cs
  match l, hsz with
  | [v0, v1, v2, v3], _ =>
    match xs, hxl with
    | [y0, y1, y2, y3], _ =>
      have g0 := hf 0 ⟨ "Kind", 3, 0, false, "", "", 0⟩ rfl
      have g1 := hf 1 ⟨ "Scope", 3, 1, false, "", "", 8⟩ rfl
      have g2 := hf 2 ⟨ "Arg", 2, 2, false, "", "", 16⟩ rfl
      have g3 := hf 3 ⟨ "Prog", 22, 3, false, "", "", 24⟩ rfl
      dsimp only at g0 g1 g2 g3
      rw [int_sizeI] at g0 g1
      rw [int64_size] at g2
      rw [sl_sizeO] at g3
      simp only [Value.cells, List.drop_zero, List.take_succ_cons, List.take_zero, List.drop_succ_cons, List.getElem?_cons_zero, List.getElem?_cons_succ] at g0 g1 g2 g3
      obtain ⟨t0, e0, _, _⟩ := DataW.trod_int Try.underlying3 g0
      obtain ⟨t1, e1, _, _⟩ := DataW.trod_int Try.underlying3 g1
      obtain ⟨t2, e2, _, hwf⟩ := DataW.trod_int Try.underlying2 g2
      obtain ⟨p, k, c, L, e3, hI, _, hL⟩ := open_rowsO RC (fun c => inR c.n) ins_size open_ins_cells g3
      have hh := Bool.and_eq_true_iff.1 hwf
      obtain rfl := (List.cons.inj e0).1
      obtain rfl := (List.cons.inj e1).1
      obtain rfl := (List.cons.inj e2).1
      obtain rfl := (List.cons.inj e3).1
      obtain ⟨p', c', e⟩ := hI.slice
      cases e
      exact ⟨t0, t1, t2, p, c, L, rfl, hI, ⟨of_decide_eq_true hh.1, of_decide_eq_true hh.2⟩, hL⟩
end
end Go.Proofs.Ytgmpgemgoplafaa
namespace Go.Proofs.Ytgmpgemgoplafaa
open Go.RowKit Go.Sort Go.Shelf
set_option linter.unusedVariables false
set_option linter.unusedSimpArgs false

/- the library's sort, laid at rows of records -/
def sortL_ren : Go.Shelf.Ren := ⟨fun | 6 => 18 | 15 => 28 | 14 => 27 | 28 => 47 | 29 => 48 | 20 => 39 | 21 => 40 | 22 => 41 | 23 => 42 | 24 => 43 | 25 => 44 | 26 => 45 | 27 => 46 | 46 => 57 | 47 => 58 | 48 => 59 | 49 => 60 | 50 => 61 | 57 => 77 | n => n, fun | 22 => 25 | 24 => 41 | 25 => 49 | 3 => 3 | 39 => 56 | 0 => 0 | 53 => 76 | 55 => 78 | 4 => 4 | 46 => 69 | 45 => 68 | 50 => 73 | 5 => 5 | 9 => 9 | 66 => 87 | 70 => 91 | 76 => 105 | 77 => 106 | n => n, fun | n => n⟩
theorem sortL : Go.Proofs.SlLaysF0.n6 Try.prog sortL_ren where
  mixed := by kernel_rfl
  f6 := ⟨ "slices.SortFunc[[]backwash/api.Rec,backwash/api.Rec]", by decide, Try.func18.trans (congrArg some (by kernel_rfl))⟩
  f14 := ⟨ "slices.pdqsortCmpFunc[backwash/api.Rec]", by decide, Try.func27.trans (congrArg some (by kernel_rfl))⟩
  f15 := Try.func28.trans (congrArg some (by kernel_rfl))
  f20 := ⟨ "slices.insertionSortCmpFunc[backwash/api.Rec]", by decide, Try.func39.trans (congrArg some (by kernel_rfl))⟩
  f21 := ⟨ "slices.heapSortCmpFunc[backwash/api.Rec]", by decide, Try.func40.trans (congrArg some (by kernel_rfl))⟩
  f22 := ⟨ "slices.breakPatternsCmpFunc[backwash/api.Rec]", by decide, Try.func41.trans (congrArg some (by kernel_rfl))⟩
  f23 := ⟨ "slices.choosePivotCmpFunc[backwash/api.Rec]", by decide, Try.func42.trans (congrArg some (by kernel_rfl))⟩
  f24 := ⟨ "slices.reverseRangeCmpFunc[backwash/api.Rec]", by decide, Try.func43.trans (congrArg some (by kernel_rfl))⟩
  f25 := ⟨ "slices.partialInsertionSortCmpFunc[backwash/api.Rec]", by decide, Try.func44.trans (congrArg some (by kernel_rfl))⟩
  f26 := ⟨ "slices.partitionEqualCmpFunc[backwash/api.Rec]", by decide, Try.func45.trans (congrArg some (by kernel_rfl))⟩
  f27 := ⟨ "slices.partitionCmpFunc[backwash/api.Rec]", by decide, Try.func46.trans (congrArg some (by kernel_rfl))⟩
  f28 := Try.func47.trans (congrArg some (by kernel_rfl))
  f29 := Try.func48.trans (congrArg some (by kernel_rfl))
  f46 := ⟨ "slices.siftDownCmpFunc[backwash/api.Rec]", by decide, Try.func57.trans (congrArg some (by kernel_rfl))⟩
  f47 := Try.func58.trans (congrArg some (by kernel_rfl))
  f48 := Try.func59.trans (congrArg some (by kernel_rfl))
  f49 := ⟨ "slices.medianAdjacentCmpFunc[backwash/api.Rec]", by decide, Try.func60.trans (congrArg some (by kernel_rfl))⟩
  f50 := ⟨ "slices.medianCmpFunc[backwash/api.Rec]", by decide, Try.func61.trans (congrArg some (by kernel_rfl))⟩
  f57 := ⟨ "slices.order2CmpFunc[backwash/api.Rec]", by decide, Try.func77.trans (congrArg some (by kernel_rfl))⟩
  t0 := Try.underlying0
  a0 := Try.isAgg0
  z0 := Try.sizeOf0
  v0 := Try.zeroValue0
  t3 := Try.underlying3
  a3 := Try.isAgg3
  z3 := Try.sizeOf3
  v3 := Try.zeroValue3
  t4 := Try.underlying4
  a4 := Try.isAgg4
  z4 := Try.sizeOf4
  v4 := Try.zeroValue4
  t5 := Try.underlying5
  a5 := Try.isAgg5
  z5 := Try.sizeOf5
  v5 := Try.zeroValue5
  t9 := Try.underlying9
  a9 := Try.isAgg9
  z9 := Try.sizeOf9
  v9 := Try.zeroValue9
  t22 := Try.underlying25
  a22 := Try.isAgg25
  z22 := Try.sizeOf25
  v22 := Try.zeroValue25
  t25 := Try.underlying49
  a25 := Try.isAgg49
  z25 := Try.sizeOf49
  v25 := Try.zeroValue49
  t39 := Try.underlying56
  a39 := Try.isAgg56
  z39 := Try.sizeOf56
  v39 := Try.zeroValue56
  t45 := Try.underlying68
  a45 := Try.isAgg68
  z45 := Try.sizeOf68
  v45 := Try.zeroValue68
  t46 := Try.underlying69
  a46 := Try.isAgg69
  z46 := Try.sizeOf69
  v46 := Try.zeroValue69
  t50 := Try.underlying73
  a50 := Try.isAgg73
  z50 := Try.sizeOf73
  v50 := Try.zeroValue73
  t53 := Try.underlying76
  a53 := Try.isAgg76
  z53 := Try.sizeOf76
  v53 := Try.zeroValue76
  t55 := Try.underlying78
  a55 := Try.isAgg78
  z55 := Try.sizeOf78
  v55 := Try.zeroValue78
  t66 := Try.underlying87
  a66 := Try.isAgg87
  z66 := Try.sizeOf87
  v66 := Try.zeroValue87
  t70 := Try.underlying91
  a70 := Try.isAgg91
  z70 := Try.sizeOf91
  v70 := Try.zeroValue91
  t76 := Try.underlying105
  a76 := Try.isAgg105
  z76 := Try.sizeOf105
  v76 := Try.zeroValue105
  t77 := Try.underlying106
  a77 := Try.isAgg106
  z77 := Try.sizeOf106
  v77 := Try.zeroValue106

def cmpO (x y : RV) : Int := cmpR x y
theorem cmpO_lt (x y : RV) : ltOf cmpO x y = x.lt y := cmpR_lt x y
theorem swoO : SWO (ltOf cmpO) where
  irrefl x := by rw [cmpO_lt]; exact RV.lt_irrefl x
  trans x y z h1 h2 := by rw [cmpO_lt] at *; exact RV.lt_trans h1 h2
  ntrans x y z h1 h2 := by rw [cmpO_lt] at *; rw [RV.lt_no] at *; omega
theorem cmpLays (blk off size : Nat) (w : World) : CmpLays Try.prog 19 #[] RV.enc 2 cmpO blk off size w := fun m os dk hs x y =>
  (bcompare_any x y _).mono fun e w' h => ⟨h.1, grow_of_below h.2.1 h.2.2⟩

theorem bsort_own (B : Nat) (v : Value) (xs : List RV) (w : World) (hown : RR.Own B w v xs) (hB : B ≤ w.heap.size) (hlen : xs.length ≤ 900000) :
    Calls Try.prog 18 #[v, .func (.func 19) #[] #[]] w (fun e w' => e = .returned (.tuple #[]) ∧ ∃ ys : List RV, ys.Perm xs ∧ ys.Pairwise (fun x y => y.lt x = false) ∧ RR.Own B w' v ys ∧ Below B w w') :=
  (sort_ownK (R := RR) sortL Try.isAgg41 Try.sizeOf41 cmpO swoO 19 (enters_of Try.func19 (by kernel_rfl) rfl) cmpLays B v xs w hown hB hlen).mono
    fun e w' ⟨h1, ys, h2, h3, h4⟩ => ⟨h1, ys, h2, h3.imp (fun {x y} h => by rw [cmpO_lt] at h; exact h), h4⟩
end Go.Proofs.Ytgmpgemgoplafaa
namespace Go.Proofs.Ytgmpgemgoplafaa
open Go.RowKit
set_option linter.unusedVariables false
set_option linter.unusedSimpArgs false

theorem eqNilR (a : Option Addr) (l c : Nat) (w : World) : (binOp .eql 25 (.slice a l c) (.slice none 0 0)).run Try.prog w = .ok (.bool a.isNone) w := by
  simp only [binOp]
  simp [run_equal_slice_nil w _ _ a l c Try.underlying25]
attribute [local go_sem ↓] eqNilR
set_option maxRecDepth 100000 in
set_option maxHeartbeats 4000000 in
theorem bcloneR_any (xs : List RV) (v : Value) (w : World) (hl : xs.length ≤ 900000) (h : RR.Is w v xs) : Calls Try.prog 17 #[v] w (RR.Made xs w) := by
  obtain ⟨p, c, rfl⟩ := h.slice
  have HI := Lib.hid h
  cases p with
  | none =>
    have hx : xs = [] ∧ c = 0 := by
      rcases h with ⟨hx, q, d, e, hq⟩ | ⟨_, b, off, cap, e, _⟩
      · simp only [Value.slice.injEq] at e
        obtain ⟨rfl, _, rfl⟩ := e
        exact ⟨hx, hq rfl⟩
      · cases e
    obtain ⟨rfl, rfl⟩ := hx
    clear h HI
    show Calls _ _ #[.slice none 0 0] _ _
    clear hl
    go_enter Try.func17, Try.ntmps17
    go_wp2
    go_returns
    exact ⟨_, rfl, RowKind.Own.nil RR _ _, Below.refl _ _⟩
  | some ad =>
    clear h
    have HO := Lib.hid (show RR.Own w.heap.size (w.alloc (.cells #[] 41)) (.slice (some ⟨w.heap.size, 0, none⟩) 0 0) [] from World.ownsRow_made w #[] 0 (Nat.le_refl _) (Nat.zero_le _) rfl)
    have HB := Lib.hid ((Below.refl w.heap.size w).alloc (Nat.le_refl _) (.cells #[] 41))
    have HL : Hid (([] : List RV).length + xs.length ≤ 1000000) := by show _ ≤ _; simp; omega
    have HZ := Lib.hid HB.out.size
    have HI2 := Lib.hid (HI.out.below HB.out)
    generalize xs.length = n at HI HI2 ⊢
    go_enter Try.func17, Try.ntmps17
    go_wp2_with (at_builtin; refine RowKind.Own.appendAny (R := RR) (ys := xs) HO.out HB.out HZ.out rfl _ _ rfl rfl rfl HI2.out HL.out ?_; intro v2 w2 hO2 hB2 hz2)
    have HO2 := Lib.hid hO2; have HB2 := Lib.hid hB2
    go_returns
    exact ⟨_, rfl, HO2.out, HB2.out⟩
end Go.Proofs.Ytgmpgemgoplafaa
