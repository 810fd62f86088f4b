import Derived.Test.YtjaahmgokiobjaaGreatG46
import Derived.Test.YtjaahmgokiobjaaGreatG48
import Derived.Deep.RegionHeldLaw
import Derived.Deep.RegionLaw
namespace Go.Proofs.YtjaahmgokiobjaaGreat
open Go.RowKit
set_option linter.unusedVariables false
set_option linter.unusedSimpArgs false
attribute [local go_sem ↓] eqTime neTime

theorem cellsT_cons (x : TV) (xs : List TV) : cellsT (x :: xs) = .int .i64 x.d :: .int .i64 x.c0 :: .int .i64 x.c1 :: .int .i64 x.c2 :: .int .i64 x.c3 :: cellsT xs := rfl
theorem cellsT_set (y : TV) : ∀ (xs : List TV) (j : Nat), j < xs.length → cellsT (xs.set j y) = (((((cellsT xs).set (j * 5) (.int .i64 y.d)).set (j * 5 + 1) (.int .i64 y.c0)).set (j * 5 + 2) (.int .i64 y.c1)).set (j * 5 + 3) (.int .i64 y.c2)).set (j * 5 + 4) (.int .i64 y.c3)
  | x :: xs, 0, _ => by simp [cellsT_cons]
  | x :: xs, j + 1, h => by
    have ih := cellsT_set y xs j (by simpa using h)
    rw [List.set_cons_succ, cellsT_cons, cellsT_cons, ih]
    rw [show (j + 1) * 5 = j * 5 + 1 + 1 + 1 + 1 + 1 by omega, show j * 5 + 1 + 1 + 1 + 1 + 1 + 1 = j * 5 + 1 + 1 + 1 + 1 + 1 + 1 from rfl]
    simp only [List.set_cons_succ, show ∀ a : Nat, a + 1 + 1 + 1 + 1 + 1 + 2 = a + 2 + 1 + 1 + 1 + 1 + 1 from fun a => by omega, show ∀ a : Nat, a + 1 + 1 + 1 + 1 + 1 + 3 = a + 3 + 1 + 1 + 1 + 1 + 1 from fun a => by omega, show ∀ a : Nat, a + 1 + 1 + 1 + 1 + 1 + 4 = a + 4 + 1 + 1 + 1 + 1 + 1 from fun a => by omega]
/-- a store of a timestamp into a row of the call's own -/
def setT (w : World) (g o : Nat) (y : TV) : World := ((((w.setCell ⟨g, o, none⟩ (.int .i64 y.d)).setCell ⟨g, o + 1, none⟩ (.int .i64 y.c0)).setCell ⟨g, o + 2, none⟩ (.int .i64 y.c1)).setCell ⟨g, o + 3, none⟩ (.int .i64 y.c2)).setCell ⟨g, o + 4, none⟩ (.int .i64 y.c3)
theorem OwnTT.set {B : Nat} {w : World} {g n cap : Nat} {xs : List TV} (h : OwnTT B w (.slice (some ⟨g, 0, none⟩) n cap) xs) (hn : n = xs.length) (j : Nat) (hj : j < xs.length) (y : TV) :
    OwnTT B (setT w g (j * 5) y) (.slice (some ⟨g, 0, none⟩) n cap) (xs.set j y) := by
  subst hn
  unfold OwnTT
  rw [cellsT_set y xs j hj, List.length_set]
  exact (World.ownsRow.stored (World.ownsRow.stored (World.ownsRow.stored (World.ownsRow.stored (World.ownsRow.stored h (j * 5) _).1 (j * 5 + 1) _).1 (j * 5 + 2) _).1 (j * 5 + 3) _).1 (j * 5 + 4) _).1
theorem below_setT {B : Nat} {w0 w : World} (h : Below B w0 w) {g : Nat} (hg : B ≤ g) (o : Nat) (y : TV) : Below B w0 (setT w g o y) :=
  ((((h.setCell hg _).setCell hg _).setCell hg _).setCell hg _).setCell hg _
theorem OwnTT.cell5 {B : Nat} {w : World} {g n cap : Nat} {xs : List TV} (h : OwnTT B w (.slice (some ⟨g, 0, none⟩) n cap) xs) (hn : n = xs.length) (j : Nat) (hj : j < n) :
    w.cell? ⟨g, j * 5, none⟩ = some (.int .i64 xs[j]!.d) ∧ w.cell? ⟨g, j * 5 + 1, none⟩ = some (.int .i64 xs[j]!.c0) ∧ w.cell? ⟨g, j * 5 + 2, none⟩ = some (.int .i64 xs[j]!.c1) ∧ w.cell? ⟨g, j * 5 + 3, none⟩ = some (.int .i64 xs[j]!.c2) ∧ w.cell? ⟨g, j * 5 + 4, none⟩ = some (.int .i64 xs[j]!.c3) := by
  subst hn
  have q : ∀ i, i < 5 → w.cell? ⟨g, j * 5 + i, none⟩ = (xs[j]!.enc)[i]? := fun i hi => by rw [World.ownsRow.cellAt h (j * 5 + i) (by omega), cellsT_get xs j hj i hi]
  exact ⟨q 0 (by decide), q 1 (by decide), q 2 (by decide), q 3 (by decide), q 4 (by decide)⟩
/-- a store of a timestamp, at a step of a region that draws its order -/
theorem step_setT {ops : Array Oper} {o : Oper} {a : Act} {K : Act → World → Prop} {Q : Exit → Act → World → Prop} {E : Prop} {w0 w : World} {B g n cap : Nat} {xs : List TV} (hown : OwnTT B w (.slice (some ⟨g, 0, none⟩) n cap) xs) (hb : Below B w0 w) (hn : n = xs.length)
    (hgd : o.guard = none) (p z : Operand) (ho : o.op = .store 29 p z) (j : Nat) (hj : j < n) (y : TV) (hp : a.eval p = .pointer (some ⟨g, j * 5, none⟩)) (hz : a.eval z = y.val) (hg : B ≤ g)
    (h : ∀ w', OwnTT B w' (.slice (some ⟨g, 0, none⟩) n cap) (xs.set j y) → Below B w0 w' → K (a.put o.dst undef) w') :
    if Region.wanted o (yielded ops a.tmps) = true then Oper.wp Tryz.prog o a w K Q else E := by
  have hw : Region.wanted o (yielded ops a.tmps) = true := by simp [Region.wanted, hgd]
  rw [if_pos hw]
  have hc := hown.cell5 hn j hj
  have hf : ∀ t, w.frozen? ⟨g, t, none⟩ = false := fun t => by
    subst hn
    have h' : w.ownsRow B 29 5 (.slice (some ⟨g, 0, none⟩) xs.length cap) xs.length (cellsT xs) := hown
    exact World.ownsRow.frozenAt h' t
  refine wp_store_mid 29 p z ho g (j * 5) y.enc.toArray hp hz ?_ (by kernel_rfl) (all_oneCell_toArray (enc_one y)) ?_
  · intro i hi
    have hi5 : i = 0 ∨ i = 1 ∨ i = 2 ∨ i = 3 ∨ i = 4 := by simp [TV.enc] at hi; omega
    refine ⟨?_, hf _⟩
    rcases hi5 with rfl | rfl | rfl | rfl | rfl
    · rw [Nat.add_zero, hc.1]; rfl
    · rw [hc.2.1]; rfl
    · rw [hc.2.2.1]; rfl
    · rw [hc.2.2.2.1]; rfl
    · rw [hc.2.2.2.2]; rfl
  · exact h (setT w g (j * 5) y) (hown.set hn j (by omega) y) (below_setT hb hg _ _)
theorem rlist_ok (t : TV) (w : World) : Calls Tryz.prog 46 #[t.val] w (fun e w' => ∃ v, e = .returned (.tuple #[v, .bool t.ok]) ∧ Below w.heap.size w w') := by
  refine (list_any _ _ _ _ _ _).mono ?_
  rintro e w' (⟨h, v, he, _, hb⟩ | ⟨h, he, hb⟩)
  · exact ⟨v, by rw [he]; unfold TV.ok; rw [h], hb⟩
  · exact ⟨_, by rw [he]; unfold TV.ok; rw [h], hb⟩
theorem OwnTT.form {B : Nat} {w : World} {v : Value} {xs : List TV} (h : OwnTT B w v xs) (hx : 0 < xs.length) : ∃ g cap, v = .slice (some ⟨g, 0, none⟩) xs.length cap ∧ B ≤ g ∧ g < w.heap.size := by
  rcases h.2 with ⟨_, h0⟩ | ⟨g, cap, cur, hv, hb, hg, _⟩
  · omega
  · exact ⟨g, cap, hv, hb, (Array.getElem?_eq_some_iff.1 hg).1⟩
end Go.Proofs.YtjaahmgokiobjaaGreat
/- what a swap in a row of the call's own does -/
namespace Go.Proofs.YtjaahmgokiobjaaGreat
open Go.RowKit
set_option linter.unusedVariables false
set_option linter.unusedSimpArgs false

theorem swap_facts {B : Nat} {w0 w : World} {g n cap : Nat} {R : List TV} (hO : OwnTT B w (.slice (some ⟨g, 0, none⟩) n cap) R) (hb : Below B w0 w) (hn : n = R.length) (m : Nat) (hm : m + 1 < n) :
    ∃ o, m * 5 = o ∧ (m + 1) * 5 = o + 5 ∧ (w.cell? ⟨g, o, none⟩ = some (.int .i64 R[m]!.d) ∧ w.cell? ⟨g, o + 1, none⟩ = some (.int .i64 R[m]!.c0) ∧ w.cell? ⟨g, o + 2, none⟩ = some (.int .i64 R[m]!.c1) ∧ w.cell? ⟨g, o + 3, none⟩ = some (.int .i64 R[m]!.c2) ∧ w.cell? ⟨g, o + 4, none⟩ = some (.int .i64 R[m]!.c3) ∧ w.cell? ⟨g, o + 5, none⟩ = some (.int .i64 R[m + 1]!.d) ∧ w.cell? ⟨g, o + 6, none⟩ = some (.int .i64 R[m + 1]!.c0) ∧ w.cell? ⟨g, o + 7, none⟩ = some (.int .i64 R[m + 1]!.c1) ∧ w.cell? ⟨g, o + 8, none⟩ = some (.int .i64 R[m + 1]!.c2) ∧ w.cell? ⟨g, o + 9, none⟩ = some (.int .i64 R[m + 1]!.c3)) ∧ (w.frozen? ⟨g, o, none⟩ = false ∧ w.frozen? ⟨g, o + 1, none⟩ = false ∧ w.frozen? ⟨g, o + 2, none⟩ = false ∧ w.frozen? ⟨g, o + 3, none⟩ = false ∧ w.frozen? ⟨g, o + 4, none⟩ = false ∧ w.frozen? ⟨g, o + 5, none⟩ = false ∧ w.frozen? ⟨g, o + 6, none⟩ = false ∧ w.frozen? ⟨g, o + 7, none⟩ = false ∧ w.frozen? ⟨g, o + 8, none⟩ = false ∧ w.frozen? ⟨g, o + 9, none⟩ = false) ∧
      (OwnTT B ((((((((((w.setCell ⟨g, o + 5, none⟩ (.int .i64 R[m]!.d)).setCell ⟨g, o + 6, none⟩ (.int .i64 R[m]!.c0)).setCell ⟨g, o + 7, none⟩ (.int .i64 R[m]!.c1)).setCell ⟨g, o + 8, none⟩ (.int .i64 R[m]!.c2)).setCell ⟨g, o + 9, none⟩ (.int .i64 R[m]!.c3)).setCell ⟨g, o, none⟩ (.int .i64 R[m + 1]!.d)).setCell ⟨g, o + 1, none⟩ (.int .i64 R[m + 1]!.c0)).setCell ⟨g, o + 2, none⟩ (.int .i64 R[m + 1]!.c1)).setCell ⟨g, o + 3, none⟩ (.int .i64 R[m + 1]!.c2)).setCell ⟨g, o + 4, none⟩ (.int .i64 R[m + 1]!.c3)) (.slice (some ⟨g, 0, none⟩) n cap) ((R.set (m + 1) R[m]!).set m R[m + 1]!) ∧ Below B w0 ((((((((((w.setCell ⟨g, o + 5, none⟩ (.int .i64 R[m]!.d)).setCell ⟨g, o + 6, none⟩ (.int .i64 R[m]!.c0)).setCell ⟨g, o + 7, none⟩ (.int .i64 R[m]!.c1)).setCell ⟨g, o + 8, none⟩ (.int .i64 R[m]!.c2)).setCell ⟨g, o + 9, none⟩ (.int .i64 R[m]!.c3)).setCell ⟨g, o, none⟩ (.int .i64 R[m + 1]!.d)).setCell ⟨g, o + 1, none⟩ (.int .i64 R[m + 1]!.c0)).setCell ⟨g, o + 2, none⟩ (.int .i64 R[m + 1]!.c1)).setCell ⟨g, o + 3, none⟩ (.int .i64 R[m + 1]!.c2)).setCell ⟨g, o + 4, none⟩ (.int .i64 R[m + 1]!.c3))) ∧
      (OwnTT B ((((((((((w.setCell ⟨g, o, none⟩ (.int .i64 R[m + 1]!.d)).setCell ⟨g, o + 1, none⟩ (.int .i64 R[m + 1]!.c0)).setCell ⟨g, o + 2, none⟩ (.int .i64 R[m + 1]!.c1)).setCell ⟨g, o + 3, none⟩ (.int .i64 R[m + 1]!.c2)).setCell ⟨g, o + 4, none⟩ (.int .i64 R[m + 1]!.c3)).setCell ⟨g, o + 5, none⟩ (.int .i64 R[m]!.d)).setCell ⟨g, o + 6, none⟩ (.int .i64 R[m]!.c0)).setCell ⟨g, o + 7, none⟩ (.int .i64 R[m]!.c1)).setCell ⟨g, o + 8, none⟩ (.int .i64 R[m]!.c2)).setCell ⟨g, o + 9, none⟩ (.int .i64 R[m]!.c3)) (.slice (some ⟨g, 0, none⟩) n cap) ((R.set (m + 1) R[m]!).set m R[m + 1]!) ∧ Below B w0 ((((((((((w.setCell ⟨g, o, none⟩ (.int .i64 R[m + 1]!.d)).setCell ⟨g, o + 1, none⟩ (.int .i64 R[m + 1]!.c0)).setCell ⟨g, o + 2, none⟩ (.int .i64 R[m + 1]!.c1)).setCell ⟨g, o + 3, none⟩ (.int .i64 R[m + 1]!.c2)).setCell ⟨g, o + 4, none⟩ (.int .i64 R[m + 1]!.c3)).setCell ⟨g, o + 5, none⟩ (.int .i64 R[m]!.d)).setCell ⟨g, o + 6, none⟩ (.int .i64 R[m]!.c0)).setCell ⟨g, o + 7, none⟩ (.int .i64 R[m]!.c1)).setCell ⟨g, o + 8, none⟩ (.int .i64 R[m]!.c2)).setCell ⟨g, o + 9, none⟩ (.int .i64 R[m]!.c3))) := by
  have hg : B ≤ g := by
    obtain ⟨g2, c2, e2, hb2, _⟩ := hO.form (by omega)
    simp only [Value.slice.injEq, Option.some.injEq, Addr.mk.injEq, and_true] at e2
    obtain ⟨rfl, _, _⟩ := e2
    exact hb2
  have hf : ∀ t, w.frozen? ⟨g, t, none⟩ = false := fun t => by
    subst hn
    have h' : w.ownsRow B 29 5 (.slice (some ⟨g, 0, none⟩) R.length cap) R.length (cellsT R) := hO
    exact World.ownsRow.frozenAt h' t
  have c0 := hO.cell5 hn m (by omega)
  have c1 := hO.cell5 hn (m + 1) hm
  have hj : (m + 1) * 5 = m * 5 + 5 := by omega
  have o1 := (hO.set hn (m + 1) (by omega) R[m]!).set (by rw [List.length_set]; exact hn) m (by rw [List.length_set]; omega) R[m + 1]!
  have o2 := (hO.set hn m (by omega) R[m + 1]!).set (by rw [List.length_set]; exact hn) (m + 1) (by rw [List.length_set]; omega) R[m]!
  have b1 := below_setT (below_setT hb hg ((m + 1) * 5) R[m]!) hg (m * 5) R[m + 1]!
  have b2 := below_setT (below_setT hb hg (m * 5) R[m + 1]!) hg ((m + 1) * 5) R[m]!
  rw [List.set_comm _ _ (by omega : m ≠ m + 1)] at o2
  rw [hj] at c1 o1 o2 b1 b2
  generalize R[m]! = y at *
  generalize R[m + 1]! = x at *
  refine ⟨m * 5, rfl, hj, ⟨c0.1, c0.2.1, c0.2.2.1, c0.2.2.2.1, c0.2.2.2.2, c1.1, c1.2.1, c1.2.2.1, c1.2.2.2.1, c1.2.2.2.2⟩, ⟨hf _, hf _, hf _, hf _, hf _, hf _, hf _, hf _, hf _, hf _⟩, ⟨o1, b1⟩, ⟨o2, b2⟩⟩
theorem swap_at {B : Nat} {w0 w : World} {g n cap : Nat} {R : List TV} (hO : OwnTT B w (.slice (some ⟨g, 0, none⟩) n cap) R) (hb : Below B w0 w) (hn : n = R.length) (m j : Nat) (x y : TV) (hj : m + 1 = j) (hx : R[j]! = x) (hy : R[m]! = y) (hm : j < n) :
    ∃ o, m * 5 = o ∧ j * 5 = o + 5 ∧ (w.cell? ⟨g, o, none⟩ = some (.int .i64 y.d) ∧ w.cell? ⟨g, o + 1, none⟩ = some (.int .i64 y.c0) ∧ w.cell? ⟨g, o + 2, none⟩ = some (.int .i64 y.c1) ∧ w.cell? ⟨g, o + 3, none⟩ = some (.int .i64 y.c2) ∧ w.cell? ⟨g, o + 4, none⟩ = some (.int .i64 y.c3) ∧ w.cell? ⟨g, o + 5, none⟩ = some (.int .i64 x.d) ∧ w.cell? ⟨g, o + 6, none⟩ = some (.int .i64 x.c0) ∧ w.cell? ⟨g, o + 7, none⟩ = some (.int .i64 x.c1) ∧ w.cell? ⟨g, o + 8, none⟩ = some (.int .i64 x.c2) ∧ w.cell? ⟨g, o + 9, none⟩ = some (.int .i64 x.c3)) ∧ (w.frozen? ⟨g, o, none⟩ = false ∧ w.frozen? ⟨g, o + 1, none⟩ = false ∧ w.frozen? ⟨g, o + 2, none⟩ = false ∧ w.frozen? ⟨g, o + 3, none⟩ = false ∧ w.frozen? ⟨g, o + 4, none⟩ = false ∧ w.frozen? ⟨g, o + 5, none⟩ = false ∧ w.frozen? ⟨g, o + 6, none⟩ = false ∧ w.frozen? ⟨g, o + 7, none⟩ = false ∧ w.frozen? ⟨g, o + 8, none⟩ = false ∧ w.frozen? ⟨g, o + 9, none⟩ = false) ∧
      (OwnTT B ((((((((((w.setCell ⟨g, o + 5, none⟩ (.int .i64 y.d)).setCell ⟨g, o + 6, none⟩ (.int .i64 y.c0)).setCell ⟨g, o + 7, none⟩ (.int .i64 y.c1)).setCell ⟨g, o + 8, none⟩ (.int .i64 y.c2)).setCell ⟨g, o + 9, none⟩ (.int .i64 y.c3)).setCell ⟨g, o, none⟩ (.int .i64 x.d)).setCell ⟨g, o + 1, none⟩ (.int .i64 x.c0)).setCell ⟨g, o + 2, none⟩ (.int .i64 x.c1)).setCell ⟨g, o + 3, none⟩ (.int .i64 x.c2)).setCell ⟨g, o + 4, none⟩ (.int .i64 x.c3)) (.slice (some ⟨g, 0, none⟩) n cap) ((R.set j y).set m x) ∧ Below B w0 ((((((((((w.setCell ⟨g, o + 5, none⟩ (.int .i64 y.d)).setCell ⟨g, o + 6, none⟩ (.int .i64 y.c0)).setCell ⟨g, o + 7, none⟩ (.int .i64 y.c1)).setCell ⟨g, o + 8, none⟩ (.int .i64 y.c2)).setCell ⟨g, o + 9, none⟩ (.int .i64 y.c3)).setCell ⟨g, o, none⟩ (.int .i64 x.d)).setCell ⟨g, o + 1, none⟩ (.int .i64 x.c0)).setCell ⟨g, o + 2, none⟩ (.int .i64 x.c1)).setCell ⟨g, o + 3, none⟩ (.int .i64 x.c2)).setCell ⟨g, o + 4, none⟩ (.int .i64 x.c3))) ∧
      (OwnTT B ((((((((((w.setCell ⟨g, o, none⟩ (.int .i64 x.d)).setCell ⟨g, o + 1, none⟩ (.int .i64 x.c0)).setCell ⟨g, o + 2, none⟩ (.int .i64 x.c1)).setCell ⟨g, o + 3, none⟩ (.int .i64 x.c2)).setCell ⟨g, o + 4, none⟩ (.int .i64 x.c3)).setCell ⟨g, o + 5, none⟩ (.int .i64 y.d)).setCell ⟨g, o + 6, none⟩ (.int .i64 y.c0)).setCell ⟨g, o + 7, none⟩ (.int .i64 y.c1)).setCell ⟨g, o + 8, none⟩ (.int .i64 y.c2)).setCell ⟨g, o + 9, none⟩ (.int .i64 y.c3)) (.slice (some ⟨g, 0, none⟩) n cap) ((R.set j y).set m x) ∧ Below B w0 ((((((((((w.setCell ⟨g, o, none⟩ (.int .i64 x.d)).setCell ⟨g, o + 1, none⟩ (.int .i64 x.c0)).setCell ⟨g, o + 2, none⟩ (.int .i64 x.c1)).setCell ⟨g, o + 3, none⟩ (.int .i64 x.c2)).setCell ⟨g, o + 4, none⟩ (.int .i64 x.c3)).setCell ⟨g, o + 5, none⟩ (.int .i64 y.d)).setCell ⟨g, o + 6, none⟩ (.int .i64 y.c0)).setCell ⟨g, o + 7, none⟩ (.int .i64 y.c1)).setCell ⟨g, o + 8, none⟩ (.int .i64 y.c2)).setCell ⟨g, o + 9, none⟩ (.int .i64 y.c3))) := by
  subst hj hx hy
  exact swap_facts hO hb hn m hm
theorem swap_nums (m j q : Nat) (hj : m + 1 = j) (hq : q ≤ 2000000000000) (hjq : j < q + 1) : IntKind.i64.wrap ((j : Int) - 1) = (m : Int) ∧ IntKind.i64.wrap (m : Int) = (m : Int) ∧ wrap64 ((j : Int) - 1) = (m : Int) ∧ wrap64 (m : Int) = (m : Int) ∧ (m : Int) < (q : Int) + 1 ∧ (j : Int) < (q : Int) + 1 := by
  refine ⟨by rw [IntKind.wrap_i64]; omega, by rw [IntKind.wrap_i64]; omega, by unfold wrap64; omega, by unfold wrap64; omega, by omega, by omega⟩
end Go.Proofs.YtjaahmgokiobjaaGreat
