/- two appends, to a new row: bytes, and one behind them -/
import Derived.Test.YtdhmoiiagplbpaaVaq
namespace Go.Proofs.Ytdhmoiiagplbpaa
open Go.RowKit
set_option linter.unusedVariables false
set_option linter.unusedSimpArgs false

theorem apart9 {w : World} {k l : Nat} {v : Value} (hs : StaysOrNew w (.slice (some ⟨k, 0, none⟩) 0 0) v) (hl : l < w.heap.size) (hn : l ≠ k) : some l ≠ v.ownBlock := fun e => by
  rcases hs with hs | hs
  · rw [hs] at e
    exact hn (Option.some.inj e)
  · have := hs l e.symm
    omega
/-- where the appends stand: a row of the call's own, a box beside it -/
structure CA (w W : World) (v : Value) (L : List Int) (xb : Nat) (cells : Array Value) : Prop where
  own : RB.Own w.heap.size W v L
  size : w.heap.size ≤ W.heap.size
  below : Below w.heap.size w W
  row : rowOf W xb = some cells
  apart : some xb ≠ v.ownBlock
theorem CA.init {w w4 : World} (hB : Below w.heap.size w w4) (c0 c1 c2 c3 : Value) : CA w ((w4.alloc (.cells #[c0, c1, c2, c3] 26)).alloc (.cells #[] 5)) (.slice (some ⟨w4.heap.size + 1, 0, none⟩) 0 0) [] w4.heap.size #[c0, c1, c2, c3] := by
  have hz := hB.size
  refine ⟨⟨rfl, .inr ⟨w4.heap.size + 1, 0, #[], rfl, by omega, ?_, Nat.le_refl _, by decide, rfl, rfl⟩⟩, ?_, ?_, ?_, fun e => ?_⟩
  · have := heap_alloc_new (w4.alloc (.cells #[c0, c1, c2, c3] 26)) (.cells #[] 5)
    rw [World.size_alloc] at this
    exact this
  · rw [World.size_alloc, World.size_alloc]; omega
  · exact (hB.alloc hB.size _).alloc (by rw [World.size_alloc]; omega) _
  · exact rowOf_below (row_new rfl) ((Below.refl _ _).alloc (Nat.le_refl _) _) (by simp)
  · have e : w4.heap.size = w4.heap.size + 1 := Option.some.inj e
    omega
theorem CA.app {w W W' : World} {v v' : Value} {L L' : List Int} {xb : Nat} {cells : Array Value} (h : CA w W v L xb cells) (ho : RB.Own w.heap.size W' v' L') (hg : W.grownBy W' v.ownBlock) (hs : StaysOrNew W v v') : CA w W' v' L' xb cells := by
  have hl := rowOf_lt h.row
  refine ⟨ho, Nat.le_trans h.size hg.size, h.below.grown hg h.size (fun k hk => (h.own.lt k hk).1), (rowOf_block (hg.block xb hl h.apart)).trans h.row, fun e => ?_⟩
  rcases hs with hs | hs
  · rw [hs] at e
    exact h.apart e
  · have := hs xb e.symm
    omega
theorem CA.alloc {w W : World} {v : Value} {L : List Int} {xb : Nat} {cells : Array Value} (h : CA w W v L xb cells) (o : Obj) : CA w (W.alloc o) v L xb cells :=
  ⟨h.own.alloc o, Nat.le_trans h.size (by rw [World.size_alloc]; omega), h.below.alloc h.size o, rowOf_below h.row ((Below.refl _ _).alloc (Nat.le_refl _) o) (rowOf_lt h.row), h.apart⟩
end Go.Proofs.Ytdhmoiiagplbpaa
