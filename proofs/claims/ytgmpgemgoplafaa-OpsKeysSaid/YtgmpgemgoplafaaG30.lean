/- the program's compare, and the library's sort of items -/
import Derived.Test.YtgmpgemgoplafaaG26
import Derived.Test.YtgmpgemgoplafaaG03
import Derived.Sort.Grow
import Derived.Test.YtgmpgemgoplafaaG29
import Derived.Test.YtgmpgemgoplafaaG02
import Derived.ArgAppend
namespace Go.Proofs.Ytgmpgemgoplafaa
open Go.RowKit Go.Sort Go.Shelf
set_option linter.unusedVariables false
set_option linter.unusedSimpArgs false

/- the library's sort, laid at rows of items -/
def sortLI_ren : Go.Shelf.Ren := ⟨fun | 6 => 36 | 15 => 28 | 14 => 56 | 28 => 47 | 29 => 48 | 20 => 69 | 21 => 70 | 22 => 71 | 23 => 72 | 24 => 73 | 25 => 74 | 26 => 75 | 27 => 76 | 46 => 84 | 47 => 58 | 48 => 59 | 49 => 85 | 50 => 86 | 57 => 91 | n => n, fun | 22 => 28 | 24 => 43 | 25 => 65 | 3 => 3 | 39 => 56 | 0 => 0 | 53 => 76 | 55 => 78 | 4 => 4 | 46 => 69 | 45 => 68 | 50 => 73 | 5 => 5 | 9 => 9 | 66 => 87 | 70 => 91 | 76 => 105 | 77 => 106 | n => n, fun | n => n⟩
theorem sortLI : Go.Proofs.SlLaysF0.n6 Try.prog sortLI_ren where
  mixed := by kernel_rfl
  f6 := ⟨ "slices.SortFunc[[]backwash/api.Item,backwash/api.Item]", by decide, Try.func36.trans (congrArg some (by kernel_rfl))⟩
  f14 := ⟨ "slices.pdqsortCmpFunc[backwash/api.Item]", by decide, Try.func56.trans (congrArg some (by kernel_rfl))⟩
  f15 := Try.func28.trans (congrArg some (by kernel_rfl))
  f20 := ⟨ "slices.insertionSortCmpFunc[backwash/api.Item]", by decide, Try.func69.trans (congrArg some (by kernel_rfl))⟩
  f21 := ⟨ "slices.heapSortCmpFunc[backwash/api.Item]", by decide, Try.func70.trans (congrArg some (by kernel_rfl))⟩
  f22 := ⟨ "slices.breakPatternsCmpFunc[backwash/api.Item]", by decide, Try.func71.trans (congrArg some (by kernel_rfl))⟩
  f23 := ⟨ "slices.choosePivotCmpFunc[backwash/api.Item]", by decide, Try.func72.trans (congrArg some (by kernel_rfl))⟩
  f24 := ⟨ "slices.reverseRangeCmpFunc[backwash/api.Item]", by decide, Try.func73.trans (congrArg some (by kernel_rfl))⟩
  f25 := ⟨ "slices.partialInsertionSortCmpFunc[backwash/api.Item]", by decide, Try.func74.trans (congrArg some (by kernel_rfl))⟩
  f26 := ⟨ "slices.partitionEqualCmpFunc[backwash/api.Item]", by decide, Try.func75.trans (congrArg some (by kernel_rfl))⟩
  f27 := ⟨ "slices.partitionCmpFunc[backwash/api.Item]", by decide, Try.func76.trans (congrArg some (by kernel_rfl))⟩
  f28 := Try.func47.trans (congrArg some (by kernel_rfl))
  f29 := Try.func48.trans (congrArg some (by kernel_rfl))
  f46 := ⟨ "slices.siftDownCmpFunc[backwash/api.Item]", by decide, Try.func84.trans (congrArg some (by kernel_rfl))⟩
  f47 := Try.func58.trans (congrArg some (by kernel_rfl))
  f48 := Try.func59.trans (congrArg some (by kernel_rfl))
  f49 := ⟨ "slices.medianAdjacentCmpFunc[backwash/api.Item]", by decide, Try.func85.trans (congrArg some (by kernel_rfl))⟩
  f50 := ⟨ "slices.medianCmpFunc[backwash/api.Item]", by decide, Try.func86.trans (congrArg some (by kernel_rfl))⟩
  f57 := ⟨ "slices.order2CmpFunc[backwash/api.Item]", by decide, Try.func91.trans (congrArg some (by kernel_rfl))⟩
  t0 := Try.underlying0
  a0 := Try.isAgg0
  z0 := Try.sizeOf0
  v0 := Try.zeroValue0
  t3 := Try.underlying3
  a3 := Try.isAgg3
  z3 := Try.sizeOf3
  v3 := Try.zeroValue3
  t4 := Try.underlying4
  a4 := Try.isAgg4
  z4 := Try.sizeOf4
  v4 := Try.zeroValue4
  t5 := Try.underlying5
  a5 := Try.isAgg5
  z5 := Try.sizeOf5
  v5 := Try.zeroValue5
  t9 := Try.underlying9
  a9 := Try.isAgg9
  z9 := Try.sizeOf9
  v9 := Try.zeroValue9
  t22 := Try.underlying28
  a22 := Try.isAgg28
  z22 := Try.sizeOf28
  v22 := Try.zeroValue28
  t25 := Try.underlying65
  a25 := Try.isAgg65
  z25 := Try.sizeOf65
  v25 := Try.zeroValue65
  t39 := Try.underlying56
  a39 := Try.isAgg56
  z39 := Try.sizeOf56
  v39 := Try.zeroValue56
  t45 := Try.underlying68
  a45 := Try.isAgg68
  z45 := Try.sizeOf68
  v45 := Try.zeroValue68
  t46 := Try.underlying69
  a46 := Try.isAgg69
  z46 := Try.sizeOf69
  v46 := Try.zeroValue69
  t50 := Try.underlying73
  a50 := Try.isAgg73
  z50 := Try.sizeOf73
  v50 := Try.zeroValue73
  t53 := Try.underlying76
  a53 := Try.isAgg76
  z53 := Try.sizeOf76
  v53 := Try.zeroValue76
  t55 := Try.underlying78
  a55 := Try.isAgg78
  z55 := Try.sizeOf78
  v55 := Try.zeroValue78
  t66 := Try.underlying87
  a66 := Try.isAgg87
  z66 := Try.sizeOf87
  v66 := Try.zeroValue87
  t70 := Try.underlying91
  a70 := Try.isAgg91
  z70 := Try.sizeOf91
  v70 := Try.zeroValue91
  t76 := Try.underlying105
  a76 := Try.isAgg105
  z76 := Try.sizeOf105
  v76 := Try.zeroValue105
  t77 := Try.underlying106
  a77 := Try.isAgg106
  z77 := Try.sizeOf106
  v77 := Try.zeroValue106


theorem blessD_any (a b : RV) (w : World) : Calls Try.prog 26 #[a.val, b.val] w (RetD (.bool (a.lt b)) w) := by
  have H : Hid (∀ W, Calls Try.prog 19 #[.agg #[.int .i64 a.k, .int .i64 a.v], .agg #[.int .i64 b.k, .int .i64 b.v]] W (RetD (.int .i64 (cmpR a b)) W)) := fun W => bcompare_any a b W
  have hc := (cmpR_lt a b).symm
  generalize cmpR a b = r at *
  generalize a.lt b = q at *
  have HC := Lib.hid hc
  clear hc
  show Calls _ _ #[.agg #[.int .i64 a.k, .int .i64 a.v], .agg #[.int .i64 b.k, .int .i64 b.v]] _ _
  go_enter Try.func26, Try.ntmps26
  go_wp2_with fail
  refine (H.out _).mono ?_
  rintro e w1 ⟨rfl, hb1, hd1⟩
  have hB : Below w.heap.size w w1 := bcall (by repeat' first | exact Below.refl _ _ | (apply Below.alloc) | (simp; done)) hb1 (by simp; omega)
  have HB := Lib.hid hB
  have HD : Hid (w.drawn ≤ w1.drawn) := hd1
  clear hb1 hd1
  go_wp2
  go_returns
  exact ⟨ret_bool HC.out.symm, HB.out, HD.out⟩
def cmpI (a b : IV) : Int := if a.t.lt b.t = true then -1 else if b.t.lt a.t = true then 1 else 0
theorem cmpI_lt (a b : IV) : ltOf cmpI a b = a.t.lt b.t := by
  show decide (cmpI a b < 0) = _
  unfold cmpI
  cases h : a.t.lt b.t
  · cases h2 : b.t.lt a.t <;> simp
  · simp
set_option maxRecDepth 100000 in
set_option maxHeartbeats 8000000 in
theorem pcompare_any (a b : IV) (w : World) : Calls Try.prog 37 #[a.val, b.val] w (RetD (.int .i64 (cmpI a b)) w) := by
  have HL1 := Lib.hid (fun W => blessD_any a.t b.t W)
  have HL2 := Lib.hid (fun W => blessD_any b.t a.t W)
  unfold cmpI
  generalize a.t.lt b.t = p at *
  generalize b.t.lt a.t = q at *
  obtain ⟨⟨k1, v1⟩, n1⟩ := a
  obtain ⟨⟨k2, v2⟩, n2⟩ := b
  show Calls _ _ #[.agg #[.int .i64 k1, .int .i64 v1, .int .i64 n1], .agg #[.int .i64 k2, .int .i64 v2, .int .i64 n2]] _ _
  have HX0 : Hid (rowOf ((w.alloc (.cells #[.int .i64 k1, .int .i64 v1, .int .i64 n1] 43)).alloc (.cells #[.int .i64 k2, .int .i64 v2, .int .i64 n2] 43)) w.heap.size = some #[.int .i64 k1, .int .i64 v1, .int .i64 n1]) := row_old (row_new rfl)
  have HX1 : Hid (rowOf ((w.alloc (.cells #[.int .i64 k1, .int .i64 v1, .int .i64 n1] 43)).alloc (.cells #[.int .i64 k2, .int .i64 v2, .int .i64 n2] 43)) (w.heap.size + 1) = some #[.int .i64 k2, .int .i64 v2, .int .i64 n2]) := row_new (by rw [World.size_alloc])
  have HB0 : Hid (Below w.heap.size w ((w.alloc (.cells #[.int .i64 k1, .int .i64 v1, .int .i64 n1] 43)).alloc (.cells #[.int .i64 k2, .int .i64 v2, .int .i64 n2] 43))) := ((Below.refl _ _).alloc (Nat.le_refl _) _).alloc (by rw [World.size_alloc]; omega) _
  cases p
  · cases q
    all_goals
      simp only [Bool.false_eq_true, if_false, if_true]
      go_enter Try.func37, Try.ntmps37
      go_wp2_with fail
      refine (HL1.out _).mono ?_
      rintro e w1 ⟨rfl, hb1, hd1⟩
      have HB1 := Lib.hid (HB0.out.trans (hb1.mono HB0.out.size))
      have HD1 : Hid (w.drawn ≤ w1.drawn) := hd1
      have hx0 := rowOf_below HX0.out hb1 (rowOf_lt HX0.out)
      have hx1 := rowOf_below HX1.out hb1 (rowOf_lt HX1.out)
      have c0 : w1.cell? ⟨w.heap.size, 0, none⟩ = some (.int .i64 k1) := rowOf_cell hx0 0
      have c1 : w1.cell? ⟨w.heap.size, 1, none⟩ = some (.int .i64 v1) := rowOf_cell hx0 1
      have d0 : w1.cell? ⟨w.heap.size + 1, 0, none⟩ = some (.int .i64 k2) := rowOf_cell hx1 0
      have d1 : w1.cell? ⟨w.heap.size + 1, 1, none⟩ = some (.int .i64 v2) := rowOf_cell hx1 1
      clear hb1 hd1 HX0 HX1 HL1 HB0 hx0 hx1
      go_wp2_with fail
      refine (HL2.out _).mono ?_
      rintro e w2 ⟨rfl, hb1, hd1⟩
      have HB2 := Lib.hid (HB1.out.trans (hb1.mono HB1.out.size))
      have HD2 : Hid (w.drawn ≤ w2.drawn) := Nat.le_trans HD1.out hd1
      clear hb1 hd1 c0 c1 d0 d1 HL2 HB1 HD1
      go_wp2
      go_returns
      exact ⟨rfl, HB2.out, HD2.out⟩
  · simp only [if_true]
    go_enter Try.func37, Try.ntmps37
    go_wp2_with fail
    refine (HL1.out _).mono ?_
    rintro e w1 ⟨rfl, hb1, hd1⟩
    have HB1 := Lib.hid (HB0.out.trans (hb1.mono HB0.out.size))
    have HD1 : Hid (w.drawn ≤ w1.drawn) := hd1
    clear hb1 hd1 HX0 HX1 HL1 HL2 HB0
    go_wp2
    go_returns
    exact ⟨rfl, HB1.out, HD1.out⟩
theorem swoI : SWO (ltOf cmpI) where
  irrefl x := by rw [cmpI_lt]; exact RV.lt_irrefl x.t
  trans x y z h1 h2 := by rw [cmpI_lt] at *; exact RV.lt_trans h1 h2
  ntrans x y z h1 h2 := by rw [cmpI_lt] at *; rw [RV.lt_no] at *; omega
theorem cmpLaysI (blk off size : Nat) (w : World) : CmpLays Try.prog 37 #[] IV.enc 3 cmpI blk off size w := fun m os dk hs x y =>
  (pcompare_any x y _).mono fun e w' h => ⟨h.1, grow_of_below h.2.1 h.2.2⟩
theorem isort_own (B : Nat) (v : Value) (xs : List IV) (w : World) (hown : RI.Own B w v xs) (hB : B ≤ w.heap.size) (hlen : xs.length ≤ 900000) :
    Calls Try.prog 36 #[v, .func (.func 37) #[] #[]] w (fun e w' => e = .returned (.tuple #[]) ∧ ∃ ys : List IV, ys.Perm xs ∧ ys.Pairwise (fun x y => y.t.lt x.t = false) ∧ RI.Own B w' v ys ∧ Below B w w') :=
  (sort_ownK (R := RI) sortLI Try.isAgg43 Try.sizeOf43 cmpI swoI 37 (enters_of Try.func37 (by kernel_rfl) rfl) cmpLaysI B v xs w hown hB hlen).mono
    fun e w' ⟨h1, ys, h2, h3, h4⟩ => ⟨h1, ys, h2, h3.imp (fun {x y} h => by rw [cmpI_lt] at h; exact h), h4⟩
end Go.Proofs.Ytgmpgemgoplafaa
/- append to a row of the call's own: the block stays, or it is new -/
namespace Go.Proofs.Ytgmpgemgoplafaa
open Go.RowKit
set_option linter.unusedVariables false
set_option linter.unusedSimpArgs false

/-- the block stays, or it is a new one -/
def StaysOrNew (w : World) (v v' : Value) : Prop := v'.ownBlock = v.ownBlock ∨ ∀ k, v'.ownBlock = some k → w.heap.size ≤ k
namespace RowKind
variable {α : Type} {R : RowKind α}
theorem run_appendB {w : World} {B : Nat} {v vx : Value} {xs ys : List α} (hown : R.Own B w v xs) (hz : R.App w vx ys) (hlen : xs.length + ys.length ≤ 1000000) (hB : B ≤ w.heap.size) (ty : TypeId) :
    ∃ v' w', (Builtin.append_ #[R.tS, R.tS] ty #[v, vx]).run Try.prog w = .ok v' w' ∧ R.Own B w' v' (xs ++ ys) ∧ w.grownBy w' v.ownBlock ∧ StaysOrNew w v v' := by
  obtain ⟨i0, hi, hz0, hz1, hz2⟩ := info_parts R.info
  obtain ⟨ad, c, rfl, hc⟩ := hz
  have hm : xs.length + ys.length ≤ maxLen := by unfold maxLen; omega
  obtain ⟨v', w', hr, h1, h2, _⟩ := run_append_own (P := Try.prog) w B R.tS ty R.tE i0 R.zero R.k R.bytes R.under hi hz0 hz1 hz2 R.zlen R.k0 v xs.length (R.cells xs) hown ad ys.length c (R.cells ys) (R.cells_len ys) hc one_cells hm (byt_ok hlen) hB
  refine ⟨v', w', hr, ?_, h2, ?_⟩
  · unfold Own
    rw [R.cells_append, List.length_append]
    exact h1
  · obtain ⟨hl, ⟨rfl, hn⟩ | ⟨g, cap, cur, rfl, hg0, hg, hle, hmx, hcs, htk⟩⟩ := hown
    · have hx : xs = [] := List.length_eq_zero_iff.1 hn
      subst hx
      obtain ⟨v2, w2, hr2, k1, _, _⟩ := run_append_own (P := Try.prog) w w.heap.size R.tS ty R.tE i0 R.zero R.k R.bytes R.under hi hz0 hz1 hz2 R.zlen R.k0 (.slice none 0 0) 0 [] (World.ownsRow_nil w _ R.tE R.k) ad ys.length c (R.cells ys) (R.cells_len ys) hc one_cells (by simpa using hm) (byt_ok (by simpa using hlen)) (Nat.le_refl _)
      rw [hr] at hr2
      injection hr2 with e1 e2
      subst e1
      subst e2
      exact .inr fun k hk => (World.ownsRow.lt k1 k hk).1
    · by_cases hroom : xs.length + ys.length ≤ cap
      · have hk := R.k0
        have hsz : ∀ j, j < (R.cells ys).length → xs.length * i0.size + j < cur.size := fun j hj => by
          rw [R.cells_len] at hj
          rw [hcs, hz1]
          have : (xs.length + ys.length) * R.k ≤ cap * R.k := Nat.mul_le_mul_right _ hroom
          rw [Nat.add_mul] at this
          omega
        have hrun := run_append_room_cells (P := Try.prog) w R.tS ty R.tE i0 R.under hi g 0 xs.length cap ad ys.length c (R.cells ys) (by rw [hz1]; exact R.cells_len ys) hc one_cells hroom
          (fun j hj => by rw [Nat.zero_add]; unfold World.cell?; simp only [hg]; rw [Array.getElem?_eq_getElem (hsz j hj)]; rfl)
          (fun j hj => by unfold World.frozen?; simp only [hg]; simp)
        rw [hr] at hrun
        injection hrun with e1 e2
        subst e1
        exact .inl rfl
      · obtain ⟨v2, w2, hr2, k1, _⟩ := run_append_arg_grows (P := Try.prog) w R.tS ty R.tE i0 R.zero R.k R.bytes R.under hi hz0 hz1 hz2 R.zlen R.k0 ⟨g, 0, none⟩ xs.length cap (R.cells xs) (R.cells_len xs)
          (fun j u hj => by
            rw [Addr.add_lit, Nat.zero_add]
            unfold World.cell?
            simp only [hg]
            rw [← htk] at hj
            rw [List.getElem?_take] at hj
            split at hj
            · simpa using hj
            · cases hj)
          ad ys.length c (R.cells ys) (R.cells_len ys) hc (by omega) hm (byt_ok hlen)
        rw [hr] at hr2
        injection hr2 with e1 e2
        subst e1
        subst e2
        exact .inr fun k hk => (World.ownsRow.lt k1 k hk).1
theorem wp_of_runB {P : Program} {o : Oper} {a : Act} {K : Act → World → Prop} {Q : Exit → Act → World → Prop} {w w' : World} {v : Value} {s x : Operand} {t : TypeId}
    (ho : o.op = .call { callee := .builtin .append, args := #[s, x], argTypes := #[t, t] }) (hr : (Builtin.append_ #[t, t] o.type #[a.eval s, a.eval x]).run P w = .ok v w') (h : K (a.put o.dst v) w') : o.wp P a w K Q := by
  unfold Oper.wp execOp
  simp only [ho, resolve, invoke, builtin, Sem.run_bind, Sem.run_pure, Result.andThen_ok, List.map_toArray, List.map_cons, List.map_nil, hr]
  exact h
theorem Own.appendB {ops : Array Oper} {rest : List Oper} {o : Oper} {a : Act} {Q : Exit → Act → World → Prop} {w : World} (hgd : o.guard = none) (s x : Operand)
    (ho : o.op = .call { callee := .builtin .append, args := #[s, x], argTypes := #[R.tS, R.tS] }) {B : Nat} {v vx : Value} {xs : List α} (hown : R.Own B w v xs) (hs : a.eval s = v) (ys : List α)
    (hx : a.eval x = vx) (hz : R.App w vx ys) (hlen : xs.length + ys.length ≤ 1000000) (hbase : B ≤ w.heap.size)
    (h : ∀ v' w', R.Own B w' v' (xs ++ ys) → w.grownBy w' v.ownBlock → StaysOrNew w v v' → wpList Try.prog ops Q rest (a.put o.dst v') w') : wpList Try.prog ops Q (o :: rest) a w := by
  obtain ⟨v', w', hr, h1, h2, h3⟩ := run_appendB hown hz hlen hbase o.type
  refine wpList_plain hgd fun _ hK => wp_of_runB ho (by rw [hs, hx]; exact hr) (hK _ _ (h v' w' h1 h2 h3))
theorem Own.appendBR {ops : Array Oper} {o : Oper} {a : Act} {K : Act → World → Prop} {Q : Exit → Act → World → Prop} {E : Prop} {w : World} (hgd : o.guard = none) (s x : Operand)
    (ho : o.op = .call { callee := .builtin .append, args := #[s, x], argTypes := #[R.tS, R.tS] }) {B : Nat} {v vx : Value} {xs : List α} (hown : R.Own B w v xs) (hs : a.eval s = v) (ys : List α)
    (hx : a.eval x = vx) (hz : R.App w vx ys) (hlen : xs.length + ys.length ≤ 1000000) (hbase : B ≤ w.heap.size)
    (h : ∀ v' w', R.Own B w' v' (xs ++ ys) → w.grownBy w' v.ownBlock → StaysOrNew w v v' → K (a.put o.dst v') w') :
    if Region.wanted o (yielded ops a.tmps) = true then Oper.wp Try.prog o a w K Q else E := by
  have hw : Region.wanted o (yielded ops a.tmps) = true := by simp [Region.wanted, hgd]
  rw [if_pos hw]
  obtain ⟨v', w', hr, h1, h2, h3⟩ := run_appendB hown hz hlen hbase o.type
  exact wp_of_runB ho (by rw [hs, hx]; exact hr) (h v' w' h1 h2 h3)
end RowKind
end Go.Proofs.Ytgmpgemgoplafaa
