/- append to a row of the call's own leaves a box of another type as it was, even one that is younger than the row -/
import Derived.Test.YtdgnblkoohakeaaRow
namespace Go.Proofs.Ytdgnblkoohakeaa
open Go.RowKit
set_option linter.unusedVariables false
set_option linter.unusedSimpArgs false

/-- block k holds just these cells, none of them frozen, and is of type t -/
def Boxed (w : World) (k : Nat) (c : Array Value) (t : TypeId) : Prop := w.heap[k]? = some (.cells c t (0, 0))
theorem Boxed.lt {w : World} {k : Nat} {c : Array Value} {t : TypeId} (h : Boxed w k c t) : k < w.heap.size := (Array.getElem?_eq_some_iff.1 h).1
theorem Boxed.new (w : World) (c : Array Value) (t : TypeId) : Boxed (w.alloc (.cells c t)) w.heap.size c t := heap_alloc_new w _
theorem Boxed.alloc {w : World} {k : Nat} {c : Array Value} {t : TypeId} (h : Boxed w k c t) (o : Obj) : Boxed (w.alloc o) k c t := (Below.heap_alloc w o k h.lt).trans h
theorem Boxed.below {w w' : World} {B k : Nat} {c : Array Value} {t : TypeId} (h : Boxed w k c t) (hb : Below B w w') (hk : k < B) : Boxed w' k c t := (hb.block k hk).trans h
theorem Boxed.cell {w : World} {k : Nat} {c : Array Value} {t : TypeId} (h : Boxed w k c t) (i : Nat) : w.cell? ⟨k, i, none⟩ = c[i]? := by
  unfold Boxed at h
  simp [World.cell?, h]
theorem Boxed.frozen {w : World} {k : Nat} {c : Array Value} {t : TypeId} (h : Boxed w k c t) (i : Nat) : w.frozen? ⟨k, i, none⟩ = false := by
  unfold Boxed at h
  simp [World.frozen?, h]
theorem Boxed.three {w : World} {k : Nat} {a b c : Value} {t : TypeId} (h : Boxed w k #[a, b, c] t) : w.cell? ⟨k, 0, none⟩ = some a ∧ w.cell? ⟨k, 1, none⟩ = some b ∧ w.cell? ⟨k, 2, none⟩ = some c := ⟨h.cell 0, h.cell 1, h.cell 2⟩
theorem Boxed.two {w : World} {k : Nat} {a b : Value} {t : TypeId} (h : Boxed w k #[a, b] t) : w.cell? ⟨k, 0, none⟩ = some a ∧ w.cell? ⟨k, 1, none⟩ = some b := ⟨h.cell 0, h.cell 1⟩
namespace RowKind
variable {α : Type} {R : RowKind α}
theorem Own.ne_boxed {B : Nat} {w : World} {v : Value} {xs : List α} (h : R.Own B w v xs) {k : Nat} {c : Array Value} {t : TypeId} (hb : Boxed w k c t) (ht : t ≠ R.tE) : some k ≠ v.ownBlock := by
  intro e
  obtain ⟨_, ⟨rfl, _⟩ | ⟨g, cap, cur, rfl, _, hg, _⟩⟩ := h
  · cases e
  · have e2 : k = g := Option.some.inj e
    subst e2
    unfold Boxed at hb
    rw [hb] at hg
    simp only [Option.some.injEq, Obj.cells.injEq] at hg
    exact ht hg.2.1
theorem Own.ne_late {B : Nat} {w : World} {v : Value} {xs : List α} (h : R.Own B w v xs) {k : Nat} (hk : w.heap.size ≤ k) : some k ≠ v.ownBlock := fun e => by
  have := (h.lt k e.symm).2
  omega
variable [Inhabited α]
theorem Own.pushK {ops : Array Oper} {rest : List Oper} {o : Oper} {a : Act} {Q : Exit → Act → World → Prop} {w0 w : World} {B : Nat} {v : Value} {xs : List α} {y : α} (hown : R.Own B w v xs) (hb : Below B w0 w) (hB : B ≤ w.heap.size)
    {k : Nat} {c : Array Value} {tb : TypeId} (hbx : Boxed w k c tb) (htb : tb ≠ R.tE)
    (hgd : o.guard = none) (s x : Operand) (ho : o.op = .call { callee := .builtin .append, args := #[s, x], argTypes := #[R.tS, R.tS] }) (hs : a.eval s = v) (t : TypeId)
    (hx : a.eval x = .slice (some ⟨w.heap.size, 0, none⟩) 1 1) (hlen : xs.length ≤ 900000)
    (h : ∀ v' w', R.Own B w' v' (xs ++ [y]) → Below B w0 w' → w.heap.size ≤ w'.heap.size → Boxed w' k c tb → wpList Try.prog ops Q rest (a.put o.dst v') w') :
    wpList Try.prog ops Q (o :: rest) a (w.alloc (.cells (R.enc y).toArray t)) := by
  have hown' : R.Own B (w.alloc (.cells (R.enc y).toArray t)) v xs := hown.alloc _
  have hbx' := hbx.alloc (.cells (R.enc y).toArray t)
  have hne := hown'.ne_boxed hbx' htb
  refine Own.append (R := R) hgd s x ho hown' hs [y] hx (Row.app (ys := [y]) (Row.new w y t)) (by simp; omega) (by simp; omega) ?_
  intro v' w' h1 h2
  have hlt := hown'.lt
  have hsz := h2.size
  refine h v' w' h1 ?_ (by simp at hsz; omega) ((h2.block k hbx'.lt hne).trans hbx')
  exact (hb.alloc hB _).grown h2 (by simp; omega) (fun k hk => (hlt k hk).1)
/-- the same, where the box is told to be another block -/
theorem Own.pushN {ops : Array Oper} {rest : List Oper} {o : Oper} {a : Act} {Q : Exit → Act → World → Prop} {w0 w : World} {B : Nat} {v : Value} {xs : List α} {y : α} (hown : R.Own B w v xs) (hb : Below B w0 w) (hB : B ≤ w.heap.size)
    {k : Nat} {c : Array Value} {tb : TypeId} (hbx : Boxed w k c tb) (hne : some k ≠ v.ownBlock)
    (hgd : o.guard = none) (s x : Operand) (ho : o.op = .call { callee := .builtin .append, args := #[s, x], argTypes := #[R.tS, R.tS] }) (hs : a.eval s = v) (t : TypeId)
    (hx : a.eval x = .slice (some ⟨w.heap.size, 0, none⟩) 1 1) (hlen : xs.length ≤ 900000)
    (h : ∀ v' w', R.Own B w' v' (xs ++ [y]) → Below B w0 w' → w.heap.size ≤ w'.heap.size → Boxed w' k c tb → wpList Try.prog ops Q rest (a.put o.dst v') w') :
    wpList Try.prog ops Q (o :: rest) a (w.alloc (.cells (R.enc y).toArray t)) := by
  have hown' : R.Own B (w.alloc (.cells (R.enc y).toArray t)) v xs := hown.alloc _
  have hbx' := hbx.alloc (.cells (R.enc y).toArray t)
  refine Own.append (R := R) hgd s x ho hown' hs [y] hx (Row.app (ys := [y]) (Row.new w y t)) (by simp; omega) (by simp; omega) ?_
  intro v' w' h1 h2
  have hlt := hown'.lt
  have hsz := h2.size
  refine h v' w' h1 ?_ (by simp at hsz; omega) ((h2.block k hbx'.lt hne).trans hbx')
  exact (hb.alloc hB _).grown h2 (by simp; omega) (fun k hk => (hlt k hk).1)
end RowKind
end Go.Proofs.Ytdgnblkoohakeaa
