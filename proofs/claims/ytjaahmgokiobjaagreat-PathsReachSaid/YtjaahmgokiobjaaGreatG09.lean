/- the document's has and Like on steps -/
import Derived.Test.YtjaahmgokiobjaaGreatG08
import Derived.Test.YtjaahmgokiobjaaGreatG06
import Derived.Test.YtjaahmgokiobjaaGreatG05
namespace Go.Proofs.YtjaahmgokiobjaaGreat
open Go.RowKit
set_option linter.unusedVariables false
set_option linter.unusedSimpArgs false
attribute [local go_sem ↓] loadHs
attribute [local simp] size_setRow
attribute [local go_sem] rowAt_head rowOf_alloc_at rowOf_alloc_past rowOf_drew rowOf_drewN rowOf_setRow_same rowOf_setRow_other rowOf_setCell_same rowOf_setCell_other size_setRow setRow_drew setRow_alloc_at setRow_alloc_past one_int one_bool cell_setRow_same cell_setRow_other frozen_setRow_same frozen_setRow_other
attribute [local go_sem ↓] run_imin

def hasH (l : List HV) (h : HV) : Bool := l.any fun x => leH x h && leH h x
theorem hasH_hit {xs : List HV} {h : HV} {k : Nat} (hk : k < xs.length) (e : (leH xs[k]! h && leH h xs[k]!) = true) : hasH xs h = true :=
  List.any_eq_true.2 ⟨xs[k]!, by rw [getElem!_pos xs k hk]; exact List.getElem_mem hk, e⟩
theorem hasH_miss {xs : List HV} {h : HV} {k : Nat} (hk : k < xs.length) (p : hasH (xs.take k) h = false) (e : (leH xs[k]! h && leH h xs[k]!) = false) : hasH (xs.take (k + 1)) h = false := by
  rw [take_getA xs k hk]
  unfold hasH at *
  rw [List.any_append, p]
  simpa using e
/-- the cells of a step in a row, whatever was made since -/
theorem hop_bx {w W : World} {b off : Nat} {xs : List HV} (hr : RHp.Row w b off xs) (hb : b < w.heap.size) (hB : Below w.heap.size w W) (j : Nat) (hj : j < xs.length) (i : Nat) {u : Value} (hu : (HV.enc xs[j]!)[i]? = some u) (p : Bx W) :
    p.w.cell? ⟨b, off + j * 11 + i, none⟩ = some u := bx_cell ((hr.below hB hb) j hj i u hu) p
theorem hop_bx0 {w W : World} {b off : Nat} {xs : List HV} (hr : RHp.Row w b off xs) (hb : b < w.heap.size) (hB : Below w.heap.size w W) (j : Nat) (hj : j < xs.length) {u : Value} (hu : (HV.enc xs[j]!)[0]? = some u) (p : Bx W) :
    p.w.cell? ⟨b, off + j * 11, none⟩ = some u := bx_cell ((hr.below hB hb) j hj 0 u hu) p
theorem hop_at {w W : World} {b off : Nat} {xs : List HV} (hr : RHp.Row w b off xs) (hb : b < w.heap.size) (hB : Below w.heap.size w W) (j : Nat) (hj : j < xs.length) (i : Nat) {u : Value} (hu : (HV.enc xs[j]!)[i]? = some u) :
    W.cell? ⟨b, off + j * 11 + i, none⟩ = some u := (hr.below hB hb) j hj i u hu
def likeH (a b : List HV) : Bool := decide (a.length = b.length) && (List.range a.length).all fun i => hasH b a[i]! && hasH a b[i]!
theorem likeH_iff (a b : List HV) : likeH a b = true ↔ a.length = b.length ∧ ∀ i, i < a.length → hasH b a[i]! = true ∧ hasH a b[i]! = true := by
  unfold likeH
  simp only [Bool.and_eq_true, decide_eq_true_eq, List.all_eq_true, List.mem_range]
attribute [local go_sem] HV.enc
end Go.Proofs.YtjaahmgokiobjaaGreat
/- append to rows that may be very long (as long as a slice may be) -/
namespace Go.Proofs.YtjaahmgokiobjaaGreat
open Go.RowKit
set_option linter.unusedVariables false
set_option linter.unusedSimpArgs false

namespace RowKind
theorem len_ok {b n : Nat} (hb : 0 < b) (h : n * b ≤ 140737488355328) : n ≤ maxLen := by
  have : n * 1 ≤ n * b := Nat.mul_le_mul_left n hb
  unfold maxLen
  omega
section
variable {α : Type} {R : RowKind α}
/-- append of a row -/
theorem Own.appendL {ops : Array Oper} {rest : List Oper} {o : Oper} {a : Act} {Q : Exit → Act → World → Prop} {w : World} (hb0 : 0 < R.bytes) (hgd : o.guard = none) (s x : Operand)
    (ho : o.op = .call { callee := .builtin .append, args := #[s, x], argTypes := #[R.tS, R.tS] }) {B : Nat} {v vx : Value} {xs : List α} (hown : R.Own B w v xs) (hs : a.eval s = v) (ys : List α)
    (hx : a.eval x = vx) (hz : R.App w vx ys) (hlen : (xs.length + ys.length) * R.bytes ≤ 140737488355328) (hbase : B ≤ w.heap.size)
    (h : ∀ v' w', R.Own B w' v' (xs ++ ys) → w.grownBy w' v.ownBlock → wpList Tryz.prog ops Q rest (a.put o.dst v') w') : wpList Tryz.prog ops Q (o :: rest) a w := by
  obtain ⟨i0, hi, hz0, hz1, hz2⟩ := info_parts R.info
  obtain ⟨ad, c, rfl, hc⟩ := hz
  refine wpList_append_own _ hgd s x R.tS ho B R.tE i0 R.zero R.k R.bytes R.under hi hz0 hz1 hz2 R.zlen R.k0 v xs.length (R.cells xs) hs hown ad ys.length c (R.cells ys) hx (R.cells_len ys) hc one_cells ?_ hlen hbase ?_
  · exact len_ok hb0 hlen
  · intro v' w' h1 h2 _
    refine h v' w' ?_ h2
    unfold Own
    rw [R.cells_append, List.length_append]
    exact h1
/-- the same inside a region -/
theorem Own.appendRL {ops : Array Oper} {o : Oper} {a : Act} {K : Act → World → Prop} {Q : Exit → Act → World → Prop} {E : Prop} {w : World} (hb0 : 0 < R.bytes) (hgd : o.guard = none) (s x : Operand)
    (ho : o.op = .call { callee := .builtin .append, args := #[s, x], argTypes := #[R.tS, R.tS] }) {B : Nat} {v vx : Value} {xs : List α} (hown : R.Own B w v xs) (hs : a.eval s = v) (ys : List α)
    (hx : a.eval x = vx) (hz : R.App w vx ys) (hlen : (xs.length + ys.length) * R.bytes ≤ 140737488355328) (hbase : B ≤ w.heap.size)
    (h : ∀ v' w', R.Own B w' v' (xs ++ ys) → w.grownBy w' v.ownBlock → K (a.put o.dst v') w') :
    if Region.wanted o (yielded ops a.tmps) = true then Oper.wp Tryz.prog o a w K Q else E := by
  have hw : Region.wanted o (yielded ops a.tmps) = true := by simp [Region.wanted, hgd]
  rw [if_pos hw]
  obtain ⟨i0, hi, hz0, hz1, hz2⟩ := info_parts R.info
  obtain ⟨ad, c, rfl, hc⟩ := hz
  refine wp_append_own _ s x R.tS ho B R.tE i0 R.zero R.k R.bytes R.under hi hz0 hz1 hz2 R.zlen R.k0 v xs.length (R.cells xs) hs hown ad ys.length c (R.cells ys) hx (R.cells_len ys) hc one_cells ?_ hlen hbase ?_
  · exact len_ok hb0 hlen
  · intro v' w' h1 h2 _
    refine h v' w' ?_ h2
    unfold Own
    rw [R.cells_append, List.length_append]
    exact h1
end
section
variable {α : Type} [Inhabited α] {R : RowKind α}
/-- append of one that was just made -/
theorem Own.pushL {ops : Array Oper} {rest : List Oper} {o : Oper} {a : Act} {Q : Exit → Act → World → Prop} {w0 w : World} {B : Nat} {v : Value} {xs : List α} {y : α} (hown : R.Own B w v xs) (hb : Below B w0 w) (hB : B ≤ w.heap.size)
    (hb0 : 0 < R.bytes) (hgd : o.guard = none) (s x : Operand) (ho : o.op = .call { callee := .builtin .append, args := #[s, x], argTypes := #[R.tS, R.tS] }) (hs : a.eval s = v) (t : TypeId)
    (hx : a.eval x = .slice (some ⟨w.heap.size, 0, none⟩) 1 1) (hlen : (xs.length + 1) * R.bytes ≤ 140737488355328) (h0 : B ≤ w0.heap.size)
    (h : ∀ v' w', R.Own B w' v' (xs ++ [y]) → Below B w0 w' → w.heap.size ≤ w'.heap.size → wpList Tryz.prog ops Q rest (a.put o.dst v') w') :
    wpList Tryz.prog ops Q (o :: rest) a (w.alloc (.cells (R.enc y).toArray t)) := by
  have hown' : R.Own B (w.alloc (.cells (R.enc y).toArray t)) v xs := hown.alloc _
  refine Own.appendL (R := R) hb0 hgd s x ho hown' hs [y] hx (Row.app (ys := [y]) (Row.new w y t)) (by rw [List.length_singleton]; exact hlen) (by simp; omega) ?_
  intro v' w' h1 h2
  have hlt := hown'.lt
  have hsz := h2.size
  refine h v' w' h1 ?_ (by simp at hsz; omega)
  exact (hb.alloc hB _).grown h2 (by simp; omega) (fun k hk => (hlt k hk).1)
theorem Own.pushRL {ops : Array Oper} {o : Oper} {a : Act} {K : Act → World → Prop} {Q : Exit → Act → World → Prop} {E : Prop} {w0 w : World} {B : Nat} {v : Value} {xs : List α} {y : α} (hown : R.Own B w v xs) (hb : Below B w0 w) (hB : B ≤ w.heap.size)
    (hb0 : 0 < R.bytes) (hgd : o.guard = none) (s x : Operand) (ho : o.op = .call { callee := .builtin .append, args := #[s, x], argTypes := #[R.tS, R.tS] }) (hs : a.eval s = v) (t : TypeId)
    (hx : a.eval x = .slice (some ⟨w.heap.size, 0, none⟩) 1 1) (hlen : (xs.length + 1) * R.bytes ≤ 140737488355328)
    (h : ∀ v' w', R.Own B w' v' (xs ++ [y]) → Below B w0 w' → w.heap.size ≤ w'.heap.size → K (a.put o.dst v') w') :
    if Region.wanted o (yielded ops a.tmps) = true then Oper.wp Tryz.prog o a (w.alloc (.cells (R.enc y).toArray t)) K Q else E := by
  have hown' : R.Own B (w.alloc (.cells (R.enc y).toArray t)) v xs := hown.alloc _
  refine Own.appendRL (R := R) hb0 hgd s x ho hown' hs [y] hx (Row.app (ys := [y]) (Row.new w y t)) (by rw [List.length_singleton]; exact hlen) (by simp; omega) ?_
  intro v' w' h1 h2
  have hlt := hown'.lt
  have hsz := h2.size
  refine h v' w' h1 ?_ (by simp at hsz; omega)
  exact (hb.alloc hB _).grown h2 (by simp; omega) (fun k hk => (hlt k hk).1)
/-- append of a slice, wherever it lies, nil too -/
theorem Own.appendAnyL {ops : Array Oper} {rest : List Oper} {o : Oper} {a : Act} {Q : Exit → Act → World → Prop} {w0 w : World} {B : Nat} {v vx : Value} {xs ys : List α} (hown : R.Own B w v xs) (hb : Below B w0 w) (hB : B ≤ w.heap.size)
    (hb0 : 0 < R.bytes) (hgd : o.guard = none) (s x : Operand) (ho : o.op = .call { callee := .builtin .append, args := #[s, x], argTypes := #[R.tS, R.tS] }) (hs : a.eval s = v)
    (hx : a.eval x = vx) (his : R.Is w vx ys) (hlen : (xs.length + ys.length) * R.bytes ≤ 140737488355328)
    (h : ∀ v' w', R.Own B w' v' (xs ++ ys) → Below B w0 w' → w.heap.size ≤ w'.heap.size → wpList Tryz.prog ops Q rest (a.put o.dst v') w') :
    wpList Tryz.prog ops Q (o :: rest) a w := by
  have hlt := hown.lt
  have fin : ∀ v' w', R.Own B w' v' (xs ++ ys) → w.grownBy w' v.ownBlock → wpList Tryz.prog ops Q rest (a.put o.dst v') w' := fun v' w' h1 h2 =>
    h v' w' h1 (hb.grown h2 hB (fun k hk => (hlt k hk).1)) h2.size
  rcases his with ⟨rfl, p, cap, rfl, hp⟩ | ⟨_, b, off, cap, rfl, _, hr⟩
  · cases p with
    | none =>
      obtain rfl := hp rfl
      obtain ⟨i0, hi, _⟩ := info_parts R.info
      refine wpList_append_own_none hgd s x R.tS ho B R.tE i0 R.k R.under hi v _ _ hs hown hx ?_
      exact h v w (by rw [List.append_nil]; exact hown) hb (Nat.le_refl _)
    | some ad =>
      refine Own.appendL (R := R) hb0 hgd s x ho hown hs [] hx ⟨ad, cap, rfl, fun j u hu => by simp [cells] at hu⟩ hlen hB fin
  · exact Own.appendL hb0 hgd s x ho hown hs ys hx hr.app hlen hB fin
end
end RowKind
end Go.Proofs.YtjaahmgokiobjaaGreat
/- the document's Least on steps -/
namespace Go.Proofs.YtjaahmgokiobjaaGreat
open Go.RowKit
set_option linter.unusedVariables false
set_option linter.unusedSimpArgs false
attribute [local go_sem ↓] loadHs
attribute [local simp] size_setRow
attribute [local go_sem] rowAt_head rowOf_alloc_at rowOf_alloc_past rowOf_drew rowOf_drewN rowOf_setRow_same rowOf_setRow_other rowOf_setCell_same rowOf_setCell_other size_setRow setRow_drew setRow_alloc_at setRow_alloc_past one_int one_bool cell_setRow_same cell_setRow_other frozen_setRow_same frozen_setRow_other
attribute [local go_sem ↓] run_imin
attribute [local go_sem] HV.enc

/-- is the i-th of them low, as far as the first k tell? -/
def lowTo (l : List HV) (i k : Nat) : Bool := (l[i]!).rightB && (List.range k).all fun j => decide (j = i) || (!leH l[j]! l[i]! || (leH l[i]! l[j]! && !decide (j < i)))
def leastK (l : List HV) (m : Nat) : List HV := ((List.range m).filter fun i => lowTo l i l.length).map fun i => l[i]!
/-- the lowest of some steps -/
def leastH (l : List HV) : List HV := leastK l l.length
theorem lowTo_step (l : List HV) (i k : Nat) : lowTo l i (k + 1) = (lowTo l i k && (decide (k = i) || (!leH l[k]! l[i]! || (leH l[i]! l[k]! && !decide (k < i))))) := by
  unfold lowTo
  rw [List.range_succ, List.all_append, Bool.and_assoc]
  congr 1
  simp
theorem leastK_step (l : List HV) (m : Nat) : leastK l (m + 1) = leastK l m ++ (if lowTo l m l.length = true then [l[m]!] else []) := by
  unfold leastK
  rw [List.range_succ, List.filter_append, List.map_append]
  congr 1
  simp only [List.filter_cons, List.filter_nil]
  split <;> simp_all
theorem leastK_len (l : List HV) (m : Nat) : (leastK l m).length ≤ m := by
  unfold leastK
  rw [List.length_map]
  exact Nat.le_trans (List.length_filter_le _ _) (by rw [List.length_range]; exact Nat.le_refl _)
end Go.Proofs.YtjaahmgokiobjaaGreat
/- plain: the order of steps, steps put together, lowest steps of a set -/
namespace Go.Proofs.YtjaahmgokiobjaaGreat
open Go.RowKit
set_option linter.unusedVariables false
set_option linter.unusedSimpArgs false

theorem leH_iff (a b : HV) : leH a b = true ↔ a.rightB = true ∧ b.rightB = true ∧ a.f = b.f ∧ a.k + a.t = b.k + b.t ∧ ∀ j : Nat, (j : Int) < a.k + a.t → a.at j ≤ b.at j ∧ (a.k ≤ j ∨ (j : Int) < b.k) := by
  rw [leH_eq, decide_eq_true_eq]
  constructor
  · rintro ⟨ha, hb, hf, hg, h0, h1, h2, h3⟩
    refine ⟨ha, hb, hf, hg, fun j hj => ?_⟩
    have s := right_size (shape_of ha)
    have : j = 0 ∨ j = 1 ∨ j = 2 ∨ j = 3 := by omega
    rcases this with rfl | rfl | rfl | rfl
    · exact h0 hj
    · exact h1 hj
    · exact h2 hj
    · exact h3 hj
  · rintro ⟨ha, hb, hf, hg, h⟩
    exact ⟨ha, hb, hf, hg, fun q => h 0 q, fun q => h 1 q, fun q => h 2 q, fun q => h 3 q⟩
theorem leH_k {a b : HV} (h : leH a b = true) : a.k ≤ b.k := by
  obtain ⟨ha, hb, _, hg, hj⟩ := (leH_iff a b).1 h
  have sa := right_size (shape_of ha); have sb := right_size (shape_of hb)
  by_cases q : a.k ≤ b.k
  · exact q
  · have := hj b.k.toNat (by omega)
    omega
theorem leH_self {a : HV} (h : a.rightB = true) : leH a a = true := order_self h
theorem leH_trans {a b c : HV} (h : leH a b = true) (k : leH b c = true) : leH a c = true := by
  obtain ⟨ha, hb, hf, hg, hj⟩ := (leH_iff a b).1 h
  obtain ⟨_, hc, kf, kg, kj⟩ := (leH_iff b c).1 k
  refine (leH_iff a c).2 ⟨ha, hc, hf.trans kf, hg.trans kg, fun j q => ?_⟩
  have x := hj j q
  have y := kj j (by omega)
  omega
theorem leH_anti {a b : HV} (h : leH a b = true) (k : leH b a = true) : a = b := order_one h k (by have := leH_k h; have := leH_k k; omega)

/-- a step that has no numbers beyond its places, and small ones there, is right -/
theorem right_of_at {R : HV} (ht : R.tidy) (h1 : 1 ≤ R.f) (h4 : R.f ≤ 4) (hk : R.k ≤ R.f) (hg1 : 1 ≤ R.k + R.t) (hg4 : R.k + R.t ≤ 4) (h : ∀ j : Nat, (j : Int) < R.k + R.t → 0 ≤ R.at j ∧ R.at j ≤ 1048576) : R.right := by
  obtain ⟨k0, k4, t0, z0, z1, z2, z3, y0, y1, y2, y3⟩ := ht
  have hA : ∀ j : Nat, (j : Int) < R.k → R.at j = R.add j := fun j hj => by unfold HV.at; rw [if_pos hj]
  have hT : ∀ j : Nat, (j : Int) < R.t → R.at ((R.k.toNat + j : Nat) : Int) = R.tl j := fun j hj => by unfold HV.at; rw [if_neg (by omega)]; congr 1; omega
  have A : ∀ j : Nat, (j : Int) < R.k → 0 ≤ R.add j ∧ R.add j ≤ 1048576 := fun j hj => by rw [← hA j hj]; exact h j (by omega)
  have T : ∀ j : Nat, (j : Int) < R.t → 0 ≤ R.tl j ∧ R.tl j ≤ 1048576 := fun j hj => by rw [← hT j hj]; exact h _ (by omega)
  have A0 : 0 < R.k → 0 ≤ R.a0 ∧ R.a0 ≤ 1048576 := fun q => A 0 q
  have A1 : 1 < R.k → 0 ≤ R.a1 ∧ R.a1 ≤ 1048576 := fun q => A 1 q
  have A2 : 2 < R.k → 0 ≤ R.a2 ∧ R.a2 ≤ 1048576 := fun q => A 2 q
  have A3 : 3 < R.k → 0 ≤ R.a3 ∧ R.a3 ≤ 1048576 := fun q => A 3 q
  have T0 : 0 < R.t → 0 ≤ R.b0 ∧ R.b0 ≤ 1048576 := fun q => T 0 q
  have T1 : 1 < R.t → 0 ≤ R.b1 ∧ R.b1 ≤ 1048576 := fun q => T 1 q
  have T2 : 2 < R.t → 0 ≤ R.b2 ∧ R.b2 ≤ 1048576 := fun q => T 2 q
  have T3 : 3 < R.t → 0 ≤ R.b3 ∧ R.b3 ≤ 1048576 := fun q => T 3 q
  have one : ∀ (x n i : Int), (i < n → 0 ≤ x ∧ x ≤ 1048576) → (n ≤ i → x = 0) → 0 ≤ x ∧ x ≤ 1048576 ∧ (i < n ∨ x = 0) := fun x n i p q => by
    by_cases e : i < n
    · exact ⟨(p e).1, (p e).2, .inl e⟩
    · have := q (by omega)
      exact ⟨by omega, by omega, .inr this⟩
  exact ⟨⟨h1, h4, k0, hk, t0, by omega⟩, hg1, hg4, ⟨one _ _ _ A0 z0, one _ _ _ A1 z1, one _ _ _ A2 z2, one _ _ _ A3 z3⟩, ⟨one _ _ _ T0 y0, one _ _ _ T1 y1, one _ _ _ T2 y2, one _ _ _ T3 y3⟩⟩
theorem thenOk_at (a b : HV) : thenOk a b = true ↔ a.rightB = true ∧ b.rightB = true ∧ a.k + a.t = b.f ∧ ∀ j : Nat, (j : Int) < b.k → b.at j + a.at j ≤ 1048576 := by
  rw [thenOk_iff]
  constructor
  · rintro ⟨ha, hb, hg, hr⟩
    refine ⟨ha, hb, hg, fun j hj => ?_⟩
    have ra := shape_of ha; have rb := shape_of hb
    have sb := right_size rb
    have q := at_bound (shape_of hr) j
    rw [nums_then ra rb j (by omega) (by omega), if_pos hj] at q
    exact q.2
  · rintro ⟨ha, hb, hg, h⟩
    refine ⟨ha, hb, hg, decide_eq_true ?_⟩
    have ra := shape_of ha; have rb := shape_of hb
    have sa := right_size ra; have sb := right_size rb
    have hm : 0 ≤ imin a.k b.k ∧ imin a.k b.k ≤ a.k ∧ imin a.k b.k ≤ b.k := by unfold imin; split <;> omega
    refine right_of_at (tidy_then ra rb) sa.1 sa.2.1 (show imin a.k b.k ≤ a.f by omega) (show 1 ≤ imin a.k b.k + (b.k + b.t - imin a.k b.k) by omega) (show imin a.k b.k + (b.k + b.t - imin a.k b.k) ≤ 4 by omega) (fun j hj => ?_)
    have hj2 : (j : Int) < b.k + b.t := by
      have : (j : Int) < imin a.k b.k + (b.k + b.t - imin a.k b.k) := hj
      omega
    rw [nums_then ra rb j (by omega) hj2]
    have x := at_bound ra j; have y := at_bound rb j
    split
    · rename_i q
      have := h j q
      omega
    · exact y
theorem thenV_facts {a b : HV} (o : thenOk a b = true) : (thenV a b).rightB = true ∧ (thenV a b).f = a.f ∧ (thenV a b).k = imin a.k b.k ∧ (thenV a b).k + (thenV a b).t = b.k + b.t ∧
    ∀ j : Nat, (j : Int) < b.k + b.t → (thenV a b).at j = if (j : Int) < b.k then b.at j + a.at j else b.at j := by
  obtain ⟨ha, hb, hg, hr⟩ := (thenOk_iff a b).1 o
  rw [thenV_ok o]
  exact ⟨hr, rfl, rfl, by show imin a.k b.k + (b.k + b.t - imin a.k b.k) = _; omega, fun j hj => nums_then (shape_of ha) (shape_of hb) j (by omega) hj⟩
/-- what may be put behind a step may be put behind each lower one, and is lower there -/
theorem then_lower {a b s : HV} (h : leH a b = true) (o : thenOk b s = true) : thenOk a s = true ∧ leH (thenV a s) (thenV b s) = true := by
  obtain ⟨ha, hb, hf, hg, hj⟩ := (leH_iff a b).1 h
  obtain ⟨_, hs, hgs, hn⟩ := (thenOk_at b s).1 o
  have ss := right_size (shape_of hs)
  have oa : thenOk a s = true := (thenOk_at a s).2 ⟨ha, hs, by omega, fun j hj2 => by
    have := hn j hj2
    have := hj j (by omega)
    omega⟩
  exact ⟨oa, keeps_left h oa o⟩

/-! ### lowest steps -/
/-- these are the lowest steps of a set, each once -/
structure LeastOf (S : HV → Prop) (l : List HV) : Prop where
  nodup : l.Nodup
  mem : ∀ h ∈ l, S h
  right : ∀ h ∈ l, h.rightB = true
  anti : ∀ h ∈ l, ∀ x ∈ l, leH x h = true → x = h
  cover : ∀ x, S x → ∃ h ∈ l, leH h x = true
theorem nodup_len {α : Type} [DecidableEq α] : ∀ {l m : List α}, l.Nodup → (∀ x ∈ l, x ∈ m) → l.length ≤ m.length
  | [], _, _, _ => Nat.zero_le _
  | x :: l, m, hn, h => by
    have hx : x ∈ m := h x List.mem_cons_self
    have h2 := List.nodup_cons.1 hn
    have := nodup_len (l := l) (m := m.erase x) h2.2 (fun y hy => by
      have hne : y ≠ x := fun e => h2.1 (e ▸ hy)
      exact (List.mem_erase_of_ne hne).2 (h y (List.mem_cons_of_mem _ hy)))
    rw [List.length_erase_of_mem hx] at this
    have := List.length_pos_of_mem hx
    rw [List.length_cons]
    omega
instance : DecidableEq HV := fun x y => if h : x.f = y.f ∧ x.k = y.k ∧ x.t = y.t ∧ x.a0 = y.a0 ∧ x.a1 = y.a1 ∧ x.a2 = y.a2 ∧ x.a3 = y.a3 ∧ x.b0 = y.b0 ∧ x.b1 = y.b1 ∧ x.b2 = y.b2 ∧ x.b3 = y.b3
  then isTrue (by obtain ⟨h0, h1, h2, h3, h4, h5, h6, h7, h8, h9, h10⟩ := h; exact hv_eq h0 h1 h2 h3 h4 h5 h6 h7 h8 h9 h10)
  else isFalse (fun e => h (by rw [e]; exact ⟨rfl, rfl, rfl, rfl, rfl, rfl, rfl, rfl, rfl, rfl, rfl⟩))
theorem LeastOf.sub {S : HV → Prop} {a b : List HV} (ha : LeastOf S a) (hb : LeastOf S b) : ∀ h ∈ a, h ∈ b := by
  intro h hm
  obtain ⟨x, hx, hl⟩ := hb.cover h (ha.mem h hm)
  obtain ⟨y, hy, hl2⟩ := ha.cover x (hb.mem x hx)
  have e := ha.anti h hm y hy (leH_trans hl2 hl)
  subst e
  rw [leH_anti hl2 hl]
  exact hx
theorem hasH_of {l : List HV} {h : HV} (hm : h ∈ l) (hr : h.rightB = true) : hasH l h = true :=
  List.any_eq_true.2 ⟨h, hm, by rw [leH_self hr]; rfl⟩
theorem hasH_mem {l : List HV} {h : HV} (e : hasH l h = true) : h ∈ l := by
  obtain ⟨x, hx, hq⟩ := List.any_eq_true.1 e
  rw [Bool.and_eq_true] at hq
  rw [← leH_anti hq.1 hq.2]
  exact hx
theorem mem_get {l : List HV} {i : Nat} (h : i < l.length) : l[i]! ∈ l := by rw [getElem!_pos l i h]; exact List.getElem_mem h
theorem LeastOf.like {S : HV → Prop} {a b : List HV} (ha : LeastOf S a) (hb : LeastOf S b) : likeH a b = true := by
  have hl : a.length = b.length := Nat.le_antisymm (nodup_len ha.nodup (ha.sub hb)) (nodup_len hb.nodup (hb.sub ha))
  refine (likeH_iff a b).2 ⟨hl, fun i hi => ?_⟩
  have m1 := mem_get hi
  have m2 := mem_get (l := b) (i := i) (by omega)
  exact ⟨hasH_of (ha.sub hb _ m1) (ha.right _ m1), hasH_of (hb.sub ha _ m2) (hb.right _ m2)⟩
theorem likeH_sub {a b : List HV} (h : likeH a b = true) : (∀ x ∈ a, x ∈ b) ∧ ∀ x ∈ b, x ∈ a := by
  obtain ⟨hl, h⟩ := (likeH_iff a b).1 h
  constructor
  · intro x hx
    obtain ⟨i, hi, rfl⟩ := List.mem_iff_getElem.1 hx
    have := (h i hi).1
    rw [getElem!_pos a i hi] at this
    exact hasH_mem this
  · intro x hx
    obtain ⟨i, hi, rfl⟩ := List.mem_iff_getElem.1 hx
    have := (h i (by omega)).2
    rw [getElem!_pos b i hi] at this
    exact hasH_mem this
end Go.Proofs.YtjaahmgokiobjaaGreat
/- plain: what the document's Least answers are the lowest steps of the list -/
namespace Go.Proofs.YtjaahmgokiobjaaGreat
open Go.RowKit
set_option linter.unusedVariables false
set_option linter.unusedSimpArgs false

theorem countP_lt' {α : Type} {p q : α → Bool} : ∀ {l : List α}, (∀ x ∈ l, p x = true → q x = true) → ∀ {y : α}, y ∈ l → q y = true → p y = false → l.countP p < l.countP q
  | x :: l, h, y, hy, hq, hp => by
    rw [List.countP_cons, List.countP_cons]
    have hmono : l.countP p ≤ l.countP q := List.countP_mono_left fun z hz => h z (List.mem_cons_of_mem _ hz)
    rcases List.mem_cons.1 hy with rfl | hm
    · rw [hp, hq]
      simp
      omega
    · have := countP_lt' (fun z hz => h z (List.mem_cons_of_mem _ hz)) hm hq hp
      have hx := h x List.mem_cons_self
      cases h1 : p x
      · cases h2 : q x <;> simp <;> omega
      · rw [hx h1]; simp; omega
theorem lowTo_iff (l : List HV) (i n : Nat) : lowTo l i n = true ↔ (l[i]!).rightB = true ∧ ∀ j, j < n → j = i ∨ leH l[j]! l[i]! = false ∨ (leH l[i]! l[j]! = true ∧ ¬ j < i) := by
  unfold lowTo
  simp only [Bool.and_eq_true, List.all_eq_true, List.mem_range, Bool.or_eq_true, decide_eq_true_eq, Bool.not_eq_true', decide_eq_false_iff_not]
theorem mem_leastH (l : List HV) (h : HV) : h ∈ leastH l ↔ ∃ i, i < l.length ∧ lowTo l i l.length = true ∧ l[i]! = h := by
  unfold leastH leastK
  simp only [List.mem_map, List.mem_filter, List.mem_range, and_assoc]
theorem least_low (l : List HV) : ∀ m i, i < l.length → (l[i]!).rightB = true → ((List.range l.length).countP fun j => leH l[j]! l[i]!) * (l.length + 1) + i ≤ m → ∃ h ∈ leastH l, leH h l[i]! = true
  | m, i, hi, hr, hm => by
    by_cases hl : lowTo l i l.length = true
    · exact ⟨l[i]!, (mem_leastH l _).2 ⟨i, hi, hl, rfl⟩, leH_self hr⟩
    · have : ∃ j, j < l.length ∧ j ≠ i ∧ leH l[j]! l[i]! = true ∧ (leH l[i]! l[j]! = false ∨ j < i) := by
        apply Classical.byContradiction
        intro hn
        refine hl ((lowTo_iff l i _).2 ⟨hr, fun j hj => ?_⟩)
        by_cases e : j = i
        · exact .inl e
        · cases h1 : leH l[j]! l[i]!
          · exact .inr (.inl rfl)
          · cases h2 : leH l[i]! l[j]!
            · exact absurd ⟨j, hj, e, h1, .inl h2⟩ hn
            · exact .inr (.inr ⟨rfl, fun e2 => hn ⟨j, hj, e, h1, .inr e2⟩⟩)
      obtain ⟨j, hj, hne, h1, h2⟩ := this
      have hrj : (l[j]!).rightB = true := ((leH_iff _ _).1 h1).1
      have hmono : ∀ x ∈ List.range l.length, leH l[x]! l[j]! = true → leH l[x]! l[i]! = true := fun x _ hx => leH_trans hx h1
      have hlt : ((List.range l.length).countP fun q => leH l[q]! l[j]!) * (l.length + 1) + j < ((List.range l.length).countP fun q => leH l[q]! l[i]!) * (l.length + 1) + i := by
        rcases h2 with h2 | h2
        · have := countP_lt' (p := fun q => leH l[q]! l[j]!) (q := fun q => leH l[q]! l[i]!) hmono (List.mem_range.2 hi) (leH_self hr) h2
          have h3 : (((List.range l.length).countP fun q => leH l[q]! l[j]!) + 1) * (l.length + 1) ≤ ((List.range l.length).countP fun q => leH l[q]! l[i]!) * (l.length + 1) := Nat.mul_le_mul_right _ this
          rw [Nat.add_mul] at h3
          omega
        · have := List.countP_mono_left (p := fun q => leH l[q]! l[j]!) (q := fun q => leH l[q]! l[i]!) hmono
          have h3 := Nat.mul_le_mul_right (l.length + 1) this
          omega
      cases m with
      | zero => omega
      | succ m =>
        obtain ⟨h, hh, hle⟩ := least_low l m j hj hrj (by omega)
        exact ⟨h, hh, leH_trans hle h1⟩
/-- what Least answers are the lowest of the list's right steps -/
theorem leastH_of (l : List HV) : LeastOf (fun h => h ∈ l ∧ h.rightB = true) (leastH l) := by
  constructor
  · unfold leastH leastK List.Nodup
    rw [List.pairwise_map]
    refine List.Pairwise.imp_of_mem (R := fun a b => a < b) ?_ (List.pairwise_lt_range.filter _)
    intro a b ha hb hab e
    have h1 := (lowTo_iff l b _).1 (List.mem_filter.1 hb).2
    have h2 := (lowTo_iff l a _).1 (List.mem_filter.1 ha).2
    have hal := List.mem_range.1 (List.mem_filter.1 ha).1
    rcases h1.2 a hal with q | q | q
    · omega
    · rw [← e, leH_self h2.1] at q
      cases q
    · exact q.2 hab
  · intro h hm
    obtain ⟨i, hi, hl, rfl⟩ := (mem_leastH l h).1 hm
    exact ⟨mem_get hi, ((lowTo_iff l i _).1 hl).1⟩
  · intro h hm
    obtain ⟨i, hi, hl, rfl⟩ := (mem_leastH l h).1 hm
    exact ((lowTo_iff l i _).1 hl).1
  · intro h hm x hx hle
    obtain ⟨i, hi, hl, rfl⟩ := (mem_leastH l h).1 hm
    obtain ⟨j, hj, hl2, rfl⟩ := (mem_leastH l x).1 hx
    rcases ((lowTo_iff l i _).1 hl).2 j hj with q | q | q
    · rw [q]
    · rw [hle] at q; cases q
    · exact leH_anti hle q.1
  · rintro x ⟨hx, hr⟩
    obtain ⟨i, hi, rfl⟩ := List.mem_iff_getElem.1 hx
    have e : l[i]! = l[i] := getElem!_pos l i hi
    rw [← e] at hr ⊢
    exact least_low l _ i hi hr (Nat.le_refl _)
end Go.Proofs.YtjaahmgokiobjaaGreat
