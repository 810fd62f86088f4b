/- an append to one of the lists of a list of lists, and the store of what came of it -/
import Derived.Test.YtbjecaajeokdoaaKb
import Derived.Test.YtbjecaajeokdoaaRowKeep
namespace Go.Proofs.Ytbjecaajeokdoaa
open Go.RowKit
set_option linter.unusedVariables false
set_option linter.unusedSimpArgs false

theorem RI_lit (w : World) (h : IV) : RI.Own w.heap.size (w.alloc (.cells (h.enc.toArray) 31)) (.slice (some ⟨w.heap.size, 0, none⟩) 1 1) [h] :=
  ⟨rfl, .inr ⟨w.heap.size, 1, h.enc.toArray, rfl, Nat.le_refl _, heap_alloc_new w _, Nat.le_refl 1, by decide, rfl, rfl⟩⟩
theorem OII.drew {B : Nat} {W : World} {blk : Nat} {svs : List SVI} {rows : List (List IV)} (h : OII B W blk svs rows) : OII B W.drew blk svs rows := ⟨h.lo, h.heap, h.len, h.own, h.ne, h.sep⟩
/-- an append to one of the lists, and the store of what came of it -/
theorem OII.grow {B : Nat} {W W' : World} {blk : Nat} {svs : List SVI} {rows : List (List IV)} (h : OII B W blk svs rows) (hB : B ≤ W.heap.size) {m : Nat} (hm : m < svs.length) {v : Value} {ys : List IV} (hg : W.grownBy W' svs[m]!.val.ownBlock)
    (ho : RI.Own B W' v ys) (hn : StaysOrNew W svs[m]!.val v) : ∃ s : SVI, v = s.val ∧ OII B (W'.setCell ⟨blk, m, none⟩ v) blk (svs.set m s) (rows.set m ys) := by
  obtain ⟨p, c, e⟩ := ho.is.slice
  refine ⟨⟨p, ys.length, c⟩, e, ?_⟩
  have e2 : v = (⟨p, ys.length, c⟩ : SVI).val := e
  rw [e2] at ho hn ⊢
  exact h.put hB hm hg.size (fun l hl hne => hg.block l hl (fun q => hne q.symm)) ho hn
theorem setCell_allocI {w : World} (b i : Nat) (v : Value) (o : Obj) (h : b < w.heap.size) : (w.setCell ⟨b, i, none⟩ v).alloc o = (w.alloc o).setCell ⟨b, i, none⟩ v := by
  unfold World.setCell World.alloc
  congr 1
  apply Array.ext_getElem?
  intro k
  simp only [Array.getElem?_modify, Array.getElem?_push, Array.size_modify]
  by_cases hk : k = w.heap.size
  · subst hk
    simp [Nat.ne_of_lt h]
  · simp [hk]
/-- what the world is behind an append to one of the lists, ahead of the store and behind it -/
structure OGrownI (B : Nat) (W w5 : World) (blk m : Nat) (svs : List SVI) (rows : List (List IV)) (v : Value) (ys : List IV) : Prop where
  cell : w5.cell? ⟨blk, m, none⟩ = some svs[m]!.val
  frozen : w5.frozen? ⟨blk, m, none⟩ = false
  old : ∀ b o x, b < B → W.cell? ⟨b, o, none⟩ = some x → w5.cell? ⟨b, o, none⟩ = some x
  new : ∃ s : SVI, v = s.val ∧ OII B (w5.setCell ⟨blk, m, none⟩ v) blk (svs.set m s) (rows.set m ys)
  below : Below B W (w5.setCell ⟨blk, m, none⟩ v)
  box : ∀ k c t, Boxed W k c t → t ≠ 31 → t ≠ 25 → Boxed (w5.setCell ⟨blk, m, none⟩ v) k c t
theorem OII.app {B : Nat} {W w5 : World} {blk : Nat} {svs : List SVI} {rows : List (List IV)} (h : OII B W blk svs rows) (hB : B ≤ W.heap.size) {m : Nat} (hm : m < svs.length) {v : Value} {ys : List IV} (hg : W.grownBy w5 svs[m]!.val.ownBlock)
    (ho : RI.Own B w5 v ys) (hn : StaysOrNew W svs[m]!.val v) : OGrownI B W w5 blk m svs rows v ys := by
  have hlt := (h.own m hm).lt
  have hbl : w5.heap[blk]? = W.heap[blk]? := hg.block blk h.lt (fun e => h.ne m hm e.symm)
  refine ⟨?_, ?_, fun b o x hb hx => ?_, h.grow hB hm hg ho hn, ?_, fun k c t hbx h1 h2 => ?_⟩
  · rw [← h.cell m hm]
    unfold World.cell?
    rw [hbl]
  · rw [← h.frozen m]
    unfold World.frozen?
    rw [hbl]
  · rw [← hx]
    unfold World.cell?
    rw [hg.block b (by omega) (fun e => by have := (hlt b e.symm).1; omega)]
  · exact ((Below.refl B W).grown hg hB (fun k hk => (hlt k hk).1)).setCell (by show B ≤ blk; exact h.lo) v
  · have hne := (h.own m hm).ne_boxed hbx h1
    have hkb : k ≠ blk := fun e => by
      subst e
      have a := h.heap
      unfold Boxed at hbx
      rw [hbx] at a
      simp only [Option.some.injEq, Obj.cells.injEq] at a
      exact h2 a.2.1
    exact (Below.heap_setCell w5 ⟨blk, m, none⟩ v k hkb).trans ((hg.block k hbx.lt hne).trans hbx)
end Go.Proofs.Ytbjecaajeokdoaa
