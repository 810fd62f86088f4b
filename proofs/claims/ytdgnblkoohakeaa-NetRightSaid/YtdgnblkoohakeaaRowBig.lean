/- append to rows that may be very long (as long as a slice may be) -/
import Derived.Test.YtdgnblkoohakeaaRow
namespace Go.Proofs.Ytdgnblkoohakeaa
open Go.RowKit
set_option linter.unusedVariables false
set_option linter.unusedSimpArgs false

namespace RowKind
theorem len_ok {b n : Nat} (hb : 0 < b) (h : n * b ≤ 140737488355328) : n ≤ maxLen := by
  have : n * 1 ≤ n * b := Nat.mul_le_mul_left n hb
  unfold maxLen
  omega
section
variable {α : Type} {R : RowKind α}
/-- append of a row -/
theorem Own.appendL {ops : Array Oper} {rest : List Oper} {o : Oper} {a : Act} {Q : Exit → Act → World → Prop} {w : World} (hb0 : 0 < R.bytes) (hgd : o.guard = none) (s x : Operand)
    (ho : o.op = .call { callee := .builtin .append, args := #[s, x], argTypes := #[R.tS, R.tS] }) {B : Nat} {v vx : Value} {xs : List α} (hown : R.Own B w v xs) (hs : a.eval s = v) (ys : List α)
    (hx : a.eval x = vx) (hz : R.App w vx ys) (hlen : (xs.length + ys.length) * R.bytes ≤ 140737488355328) (hbase : B ≤ w.heap.size)
    (h : ∀ v' w', R.Own B w' v' (xs ++ ys) → w.grownBy w' v.ownBlock → wpList Try.prog ops Q rest (a.put o.dst v') w') : wpList Try.prog ops Q (o :: rest) a w := by
  obtain ⟨i0, hi, hz0, hz1, hz2⟩ := info_parts R.info
  obtain ⟨ad, c, rfl, hc⟩ := hz
  refine wpList_append_own _ hgd s x R.tS ho B R.tE i0 R.zero R.k R.bytes R.under hi hz0 hz1 hz2 R.zlen R.k0 v xs.length (R.cells xs) hs hown ad ys.length c (R.cells ys) hx (R.cells_len ys) hc one_cells ?_ hlen hbase ?_
  · exact len_ok hb0 hlen
  · intro v' w' h1 h2 _
    refine h v' w' ?_ h2
    unfold Own
    rw [R.cells_append, List.length_append]
    exact h1
/-- the same inside a region -/
theorem Own.appendRL {ops : Array Oper} {o : Oper} {a : Act} {K : Act → World → Prop} {Q : Exit → Act → World → Prop} {E : Prop} {w : World} (hb0 : 0 < R.bytes) (hgd : o.guard = none) (s x : Operand)
    (ho : o.op = .call { callee := .builtin .append, args := #[s, x], argTypes := #[R.tS, R.tS] }) {B : Nat} {v vx : Value} {xs : List α} (hown : R.Own B w v xs) (hs : a.eval s = v) (ys : List α)
    (hx : a.eval x = vx) (hz : R.App w vx ys) (hlen : (xs.length + ys.length) * R.bytes ≤ 140737488355328) (hbase : B ≤ w.heap.size)
    (h : ∀ v' w', R.Own B w' v' (xs ++ ys) → w.grownBy w' v.ownBlock → K (a.put o.dst v') w') :
    if Region.wanted o (yielded ops a.tmps) = true then Oper.wp Try.prog o a w K Q else E := by
  have hw : Region.wanted o (yielded ops a.tmps) = true := by simp [Region.wanted, hgd]
  rw [if_pos hw]
  obtain ⟨i0, hi, hz0, hz1, hz2⟩ := info_parts R.info
  obtain ⟨ad, c, rfl, hc⟩ := hz
  refine wp_append_own _ s x R.tS ho B R.tE i0 R.zero R.k R.bytes R.under hi hz0 hz1 hz2 R.zlen R.k0 v xs.length (R.cells xs) hs hown ad ys.length c (R.cells ys) hx (R.cells_len ys) hc one_cells ?_ hlen hbase ?_
  · exact len_ok hb0 hlen
  · intro v' w' h1 h2 _
    refine h v' w' ?_ h2
    unfold Own
    rw [R.cells_append, List.length_append]
    exact h1
end
section
variable {α : Type} [Inhabited α] {R : RowKind α}
/-- append of one that was just made -/
theorem Own.pushL {ops : Array Oper} {rest : List Oper} {o : Oper} {a : Act} {Q : Exit → Act → World → Prop} {w0 w : World} {B : Nat} {v : Value} {xs : List α} {y : α} (hown : R.Own B w v xs) (hb : Below B w0 w) (hB : B ≤ w.heap.size)
    (hb0 : 0 < R.bytes) (hgd : o.guard = none) (s x : Operand) (ho : o.op = .call { callee := .builtin .append, args := #[s, x], argTypes := #[R.tS, R.tS] }) (hs : a.eval s = v) (t : TypeId)
    (hx : a.eval x = .slice (some ⟨w.heap.size, 0, none⟩) 1 1) (hlen : (xs.length + 1) * R.bytes ≤ 140737488355328) (h0 : B ≤ w0.heap.size)
    (h : ∀ v' w', R.Own B w' v' (xs ++ [y]) → Below B w0 w' → w.heap.size ≤ w'.heap.size → wpList Try.prog ops Q rest (a.put o.dst v') w') :
    wpList Try.prog ops Q (o :: rest) a (w.alloc (.cells (R.enc y).toArray t)) := by
  have hown' : R.Own B (w.alloc (.cells (R.enc y).toArray t)) v xs := hown.alloc _
  refine Own.appendL (R := R) hb0 hgd s x ho hown' hs [y] hx (Row.app (ys := [y]) (Row.new w y t)) (by rw [List.length_singleton]; exact hlen) (by simp; omega) ?_
  intro v' w' h1 h2
  have hlt := hown'.lt
  have hsz := h2.size
  refine h v' w' h1 ?_ (by simp at hsz; omega)
  exact (hb.alloc hB _).grown h2 (by simp; omega) (fun k hk => (hlt k hk).1)
theorem Own.pushRL {ops : Array Oper} {o : Oper} {a : Act} {K : Act → World → Prop} {Q : Exit → Act → World → Prop} {E : Prop} {w0 w : World} {B : Nat} {v : Value} {xs : List α} {y : α} (hown : R.Own B w v xs) (hb : Below B w0 w) (hB : B ≤ w.heap.size)
    (hb0 : 0 < R.bytes) (hgd : o.guard = none) (s x : Operand) (ho : o.op = .call { callee := .builtin .append, args := #[s, x], argTypes := #[R.tS, R.tS] }) (hs : a.eval s = v) (t : TypeId)
    (hx : a.eval x = .slice (some ⟨w.heap.size, 0, none⟩) 1 1) (hlen : (xs.length + 1) * R.bytes ≤ 140737488355328)
    (h : ∀ v' w', R.Own B w' v' (xs ++ [y]) → Below B w0 w' → w.heap.size ≤ w'.heap.size → K (a.put o.dst v') w') :
    if Region.wanted o (yielded ops a.tmps) = true then Oper.wp Try.prog o a (w.alloc (.cells (R.enc y).toArray t)) K Q else E := by
  have hown' : R.Own B (w.alloc (.cells (R.enc y).toArray t)) v xs := hown.alloc _
  refine Own.appendRL (R := R) hb0 hgd s x ho hown' hs [y] hx (Row.app (ys := [y]) (Row.new w y t)) (by rw [List.length_singleton]; exact hlen) (by simp; omega) ?_
  intro v' w' h1 h2
  have hlt := hown'.lt
  have hsz := h2.size
  refine h v' w' h1 ?_ (by simp at hsz; omega)
  exact (hb.alloc hB _).grown h2 (by simp; omega) (fun k hk => (hlt k hk).1)
/-- append of a slice, wherever it lies, nil too -/
theorem Own.appendAnyL {ops : Array Oper} {rest : List Oper} {o : Oper} {a : Act} {Q : Exit → Act → World → Prop} {w0 w : World} {B : Nat} {v vx : Value} {xs ys : List α} (hown : R.Own B w v xs) (hb : Below B w0 w) (hB : B ≤ w.heap.size)
    (hb0 : 0 < R.bytes) (hgd : o.guard = none) (s x : Operand) (ho : o.op = .call { callee := .builtin .append, args := #[s, x], argTypes := #[R.tS, R.tS] }) (hs : a.eval s = v)
    (hx : a.eval x = vx) (his : R.Is w vx ys) (hlen : (xs.length + ys.length) * R.bytes ≤ 140737488355328)
    (h : ∀ v' w', R.Own B w' v' (xs ++ ys) → Below B w0 w' → w.heap.size ≤ w'.heap.size → wpList Try.prog ops Q rest (a.put o.dst v') w') :
    wpList Try.prog ops Q (o :: rest) a w := by
  have hlt := hown.lt
  have fin : ∀ v' w', R.Own B w' v' (xs ++ ys) → w.grownBy w' v.ownBlock → wpList Try.prog ops Q rest (a.put o.dst v') w' := fun v' w' h1 h2 =>
    h v' w' h1 (hb.grown h2 hB (fun k hk => (hlt k hk).1)) h2.size
  rcases his with ⟨rfl, p, cap, rfl, hp⟩ | ⟨_, b, off, cap, rfl, _, hr⟩
  · cases p with
    | none =>
      obtain rfl := hp rfl
      obtain ⟨i0, hi, _⟩ := info_parts R.info
      refine wpList_append_own_none hgd s x R.tS ho B R.tE i0 R.k R.under hi v _ _ hs hown hx ?_
      exact h v w (by rw [List.append_nil]; exact hown) hb (Nat.le_refl _)
    | some ad =>
      refine Own.appendL (R := R) hb0 hgd s x ho hown hs [] hx ⟨ad, cap, rfl, fun j u hu => by simp [cells] at hu⟩ hlen hB fin
  · exact Own.appendL hb0 hgd s x ho hown hs ys hx hr.app hlen hB fin
end
end RowKind
end Go.Proofs.Ytdgnblkoohakeaa
