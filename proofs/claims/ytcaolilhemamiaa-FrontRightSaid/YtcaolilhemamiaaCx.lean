import Derived.Test.YtcaolilhemamiaaCv
import Derived.Test.YtcaolilhemamiaaCu
import Derived.Deep.RegionHeldLaw
import Derived.Deep.RegionLaw
namespace Go.Proofs.Ytcaolilhemamiaa
open Go.RowKit
set_option linter.unusedVariables false
set_option linter.unusedSimpArgs false
attribute [local go_sem ↓] eqTime neTime

theorem cellsT_cons (x : TV) (xs : List TV) : cellsT (x :: xs) = .int .i64 x.d :: .int .i64 x.c0 :: .int .i64 x.c1 :: .int .i64 x.c2 :: .int .i64 x.c3 :: cellsT xs := rfl
theorem cellsT_set (y : TV) : ∀ (xs : List TV) (j : Nat), j < xs.length → cellsT (xs.set j y) = (((((cellsT xs).set (j * 5) (.int .i64 y.d)).set (j * 5 + 1) (.int .i64 y.c0)).set (j * 5 + 2) (.int .i64 y.c1)).set (j * 5 + 3) (.int .i64 y.c2)).set (j * 5 + 4) (.int .i64 y.c3)
  | x :: xs, 0, _ => by simp [cellsT_cons]
  | x :: xs, j + 1, h => by
    have ih := cellsT_set y xs j (by simpa using h)
    rw [List.set_cons_succ, cellsT_cons, cellsT_cons, ih]
    rw [show (j + 1) * 5 = j * 5 + 1 + 1 + 1 + 1 + 1 by omega, show j * 5 + 1 + 1 + 1 + 1 + 1 + 1 = j * 5 + 1 + 1 + 1 + 1 + 1 + 1 from rfl]
    simp only [List.set_cons_succ, show ∀ a : Nat, a + 1 + 1 + 1 + 1 + 1 + 2 = a + 2 + 1 + 1 + 1 + 1 + 1 from fun a => by omega, show ∀ a : Nat, a + 1 + 1 + 1 + 1 + 1 + 3 = a + 3 + 1 + 1 + 1 + 1 + 1 from fun a => by omega, show ∀ a : Nat, a + 1 + 1 + 1 + 1 + 1 + 4 = a + 4 + 1 + 1 + 1 + 1 + 1 from fun a => by omega]
/-- a store of a timestamp into a row of the call's own -/
def setT (w : World) (g o : Nat) (y : TV) : World := ((((w.setCell ⟨g, o, none⟩ (.int .i64 y.d)).setCell ⟨g, o + 1, none⟩ (.int .i64 y.c0)).setCell ⟨g, o + 2, none⟩ (.int .i64 y.c1)).setCell ⟨g, o + 3, none⟩ (.int .i64 y.c2)).setCell ⟨g, o + 4, none⟩ (.int .i64 y.c3)
theorem OwnT.set {B : Nat} {w : World} {g n cap : Nat} {xs : List TV} (h : OwnT B w (.slice (some ⟨g, 0, none⟩) n cap) xs) (hn : n = xs.length) (j : Nat) (hj : j < xs.length) (y : TV) :
    OwnT B (setT w g (j * 5) y) (.slice (some ⟨g, 0, none⟩) n cap) (xs.set j y) := by
  subst hn
  unfold OwnT
  rw [cellsT_set y xs j hj, List.length_set]
  exact (World.ownsRow.stored (World.ownsRow.stored (World.ownsRow.stored (World.ownsRow.stored (World.ownsRow.stored h (j * 5) _).1 (j * 5 + 1) _).1 (j * 5 + 2) _).1 (j * 5 + 3) _).1 (j * 5 + 4) _).1
theorem below_setT {B : Nat} {w0 w : World} (h : Below B w0 w) {g : Nat} (hg : B ≤ g) (o : Nat) (y : TV) : Below B w0 (setT w g o y) :=
  ((((h.setCell hg _).setCell hg _).setCell hg _).setCell hg _).setCell hg _
theorem OwnT.cell5 {B : Nat} {w : World} {g n cap : Nat} {xs : List TV} (h : OwnT B w (.slice (some ⟨g, 0, none⟩) n cap) xs) (hn : n = xs.length) (j : Nat) (hj : j < n) :
    w.cell? ⟨g, j * 5, none⟩ = some (.int .i64 xs[j]!.d) ∧ w.cell? ⟨g, j * 5 + 1, none⟩ = some (.int .i64 xs[j]!.c0) ∧ w.cell? ⟨g, j * 5 + 2, none⟩ = some (.int .i64 xs[j]!.c1) ∧ w.cell? ⟨g, j * 5 + 3, none⟩ = some (.int .i64 xs[j]!.c2) ∧ w.cell? ⟨g, j * 5 + 4, none⟩ = some (.int .i64 xs[j]!.c3) := by
  subst hn
  have q : ∀ i, i < 5 → w.cell? ⟨g, j * 5 + i, none⟩ = (xs[j]!.enc)[i]? := fun i hi => by rw [World.ownsRow.cellAt h (j * 5 + i) (by omega), cellsT_get xs j hj i hi]
  exact ⟨q 0 (by decide), q 1 (by decide), q 2 (by decide), q 3 (by decide), q 4 (by decide)⟩
/-- a store of a timestamp, at a step of a region that draws its order -/
theorem step_setT {ops : Array Oper} {o : Oper} {a : Act} {K : Act → World → Prop} {Q : Exit → Act → World → Prop} {E : Prop} {w0 w : World} {B g n cap : Nat} {xs : List TV} (hown : OwnT B w (.slice (some ⟨g, 0, none⟩) n cap) xs) (hb : Below B w0 w) (hn : n = xs.length)
    (hgd : o.guard = none) (p z : Operand) (ho : o.op = .store 26 p z) (j : Nat) (hj : j < n) (y : TV) (hp : a.eval p = .pointer (some ⟨g, j * 5, none⟩)) (hz : a.eval z = y.val) (hg : B ≤ g)
    (h : ∀ w', OwnT B w' (.slice (some ⟨g, 0, none⟩) n cap) (xs.set j y) → Below B w0 w' → K (a.put o.dst undef) w') :
    if Region.wanted o (yielded ops a.tmps) = true then Oper.wp Try.prog o a w K Q else E := by
  have hw : Region.wanted o (yielded ops a.tmps) = true := by simp [Region.wanted, hgd]
  rw [if_pos hw]
  have hc := hown.cell5 hn j hj
  have hf : ∀ t, w.frozen? ⟨g, t, none⟩ = false := fun t => by
    subst hn
    have h' : w.ownsRow B 26 5 (.slice (some ⟨g, 0, none⟩) xs.length cap) xs.length (cellsT xs) := hown
    exact World.ownsRow.frozenAt h' t
  refine wp_store_mid 26 p z ho g (j * 5) y.enc.toArray hp hz ?_ (by kernel_rfl) (all_oneCell_toArray (enc_one y)) ?_
  · intro i hi
    have hi5 : i = 0 ∨ i = 1 ∨ i = 2 ∨ i = 3 ∨ i = 4 := by simp [TV.enc] at hi; omega
    refine ⟨?_, hf _⟩
    rcases hi5 with rfl | rfl | rfl | rfl | rfl
    · rw [Nat.add_zero, hc.1]; rfl
    · rw [hc.2.1]; rfl
    · rw [hc.2.2.1]; rfl
    · rw [hc.2.2.2.1]; rfl
    · rw [hc.2.2.2.2]; rfl
  · exact h (setT w g (j * 5) y) (hown.set hn j (by omega) y) (below_setT hb hg _ _)
theorem rlist_ok (t : TV) (w : World) : Calls Try.prog 43 #[t.val] w (fun e w' => ∃ v, e = .returned (.tuple #[v, .bool t.ok]) ∧ Below w.heap.size w w') := by
  refine (list_any _ _ _ _ _ _).mono ?_
  rintro e w' (⟨h, v, he, _, hb⟩ | ⟨h, he, hb⟩)
  · exact ⟨v, by rw [he]; unfold TV.ok; rw [h], hb⟩
  · exact ⟨_, by rw [he]; unfold TV.ok; rw [h], hb⟩
theorem OwnT.form {B : Nat} {w : World} {v : Value} {xs : List TV} (h : OwnT B w v xs) (hx : 0 < xs.length) : ∃ g cap, v = .slice (some ⟨g, 0, none⟩) xs.length cap ∧ B ≤ g ∧ g < w.heap.size := by
  rcases h.2 with ⟨_, h0⟩ | ⟨g, cap, cur, hv, hb, hg, _⟩
  · omega
  · exact ⟨g, cap, hv, hb, (Array.getElem?_eq_some_iff.1 hg).1⟩
end Go.Proofs.Ytcaolilhemamiaa
