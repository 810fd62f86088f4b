import Derived.Test.YtimfpbmlbihlnaaTs1
namespace Go.Proofs.Ytimfpbmlbihlnaa
open Go.RowKit
set_option linter.unusedVariables false
attribute [local go_sem] ix4_0 ix4_1 ix4_2 ix4_3

theorem bcell {W w1 : World} (hb : Below W.heap.size W w1) : (∀ b o, b < W.heap.size → w1.cell? ⟨b, o, none⟩ = W.cell? ⟨b, o, none⟩) ∧ (∀ b o, b < W.heap.size → w1.frozen? ⟨b, o, none⟩ = W.frozen? ⟨b, o, none⟩) :=
  ⟨fun b o h => hb.cell (p := ⟨b, o, none⟩) h, fun b o h => hb.frozen (p := ⟨b, o, none⟩) h⟩

def pairedB (d c0 c1 c2 c3 e x0 x1 x2 x3 : Int) : Bool := (d == e) && rightB d c0 c1 c2 c3 && rightB e x0 x1 x2 x3

theorem bcall {B : Nat} {a W w1 : World} (h : Below B a W) (hb : Below W.heap.size W w1) (hB : B ≤ W.heap.size) : Below B a w1 := h.trans (hb.mono hB)

end Go.Proofs.Ytimfpbmlbihlnaa
