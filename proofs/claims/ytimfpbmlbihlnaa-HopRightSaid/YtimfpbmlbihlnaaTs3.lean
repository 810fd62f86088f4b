import Derived.Test.YtimfpbmlbihlnaaTs2
import Derived.Deep.Cut
namespace Go.Proofs.Ytimfpbmlbihlnaa
open Go.RowKit
set_option linter.unusedVariables false
attribute [local go_sem] ix4_0 ix4_1 ix4_2 ix4_3

def leB (d c0 c1 c2 c3 e x0 x1 x2 x3 : Int) : Bool := pairedB d c0 c1 c2 c3 e x0 x1 x2 x3 && decide (c0 ≤ x0 ∧ c1 ≤ x1 ∧ c2 ≤ x2 ∧ c3 ≤ x3)


/-- five cells of a block that can be written, and what they hold -/
structure Own5 (w : World) (b : Nat) (v0 v1 v2 v3 v4 : Value) : Prop where
  l0 : w.cell? ⟨b, 0, none⟩ = some v0
  l1 : w.cell? ⟨b, 1, none⟩ = some v1
  l2 : w.cell? ⟨b, 2, none⟩ = some v2
  l3 : w.cell? ⟨b, 3, none⟩ = some v3
  l4 : w.cell? ⟨b, 4, none⟩ = some v4
  q0 : w.frozen? ⟨b, 0, none⟩ = false
  q1 : w.frozen? ⟨b, 1, none⟩ = false
  q2 : w.frozen? ⟨b, 2, none⟩ = false
  q3 : w.frozen? ⟨b, 3, none⟩ = false
  q4 : w.frozen? ⟨b, 4, none⟩ = false
theorem Own5.below {W w1 : World} {B b : Nat} {v0 v1 v2 v3 v4 : Value} (h : Own5 W b v0 v1 v2 v3 v4) (hb : Below B W w1) (hl : b < B) : Own5 w1 b v0 v1 v2 v3 v4 :=
  ⟨(hb.cell (p := ⟨b, 0, none⟩) hl).trans h.l0, (hb.cell (p := ⟨b, 1, none⟩) hl).trans h.l1, (hb.cell (p := ⟨b, 2, none⟩) hl).trans h.l2, (hb.cell (p := ⟨b, 3, none⟩) hl).trans h.l3, (hb.cell (p := ⟨b, 4, none⟩) hl).trans h.l4,
   (hb.frozen (p := ⟨b, 0, none⟩) hl).trans h.q0, (hb.frozen (p := ⟨b, 1, none⟩) hl).trans h.q1, (hb.frozen (p := ⟨b, 2, none⟩) hl).trans h.q2, (hb.frozen (p := ⟨b, 3, none⟩) hl).trans h.q3, (hb.frozen (p := ⟨b, 4, none⟩) hl).trans h.q4⟩
theorem Own5.new (w : World) (v0 v1 v2 v3 v4 : Value) (t : TypeId) : Own5 (w.alloc (.cells #[v0, v1, v2, v3, v4] t)) w.heap.size v0 v1 v2 v3 v4 := by
  constructor <;> simp [go_sem]
theorem Own5.alloc {w : World} {b : Nat} {v0 v1 v2 v3 v4 : Value} (h : Own5 w b v0 v1 v2 v3 v4) (o : Obj) (hl : b < w.heap.size) : Own5 (w.alloc o) b v0 v1 v2 v3 v4 :=
  h.below ((Below.refl w.heap.size w).alloc (Nat.le_refl _) o) hl
/-- go on from a world of which only F is known -/
theorem gen_world {P : Program} {c : Code} {Q : Exit → Act → World → Prop} {a : Act} {W : World} (F : World → Prop) (hF : F W) (h : ∀ W2, F W2 → Code.wp P c Q a W2) : Code.wp P c Q a W := h W hF
theorem quiet_left {P : Program} {f : FuncId} {args : Array Value} {w : World} {n : Nat} {v : Value}
    (h : Calls P f args (w.drewN n) fun e w' => e = .returned v ∧ w.drewN n = w') : Calls P f args (w.drewN n) fun e w'' => e = .returned v ∧ ∃ m, w'' = w.drewN m :=
  h.mono fun _ _ ⟨he, hm⟩ => ⟨he, n, hm.symm⟩
theorem below_drewN {B : Nat} {a w : World} (h : Below B a w) (n : Nat) : Below B a (w.drewN n) := ⟨h.os, h.tape, h.output, h.size, h.block⟩
def imax (x y : Int) : Int := if y > x then y else x
def imin (x y : Int) : Int := if y < x then y else x
theorem run_imax (P : Program) (w : World) (ts : Array TypeId) (t : TypeId) (x y : Int) : (Builtin.max_ ts t #[.int .i64 x, .int .i64 y]).run P w = .ok (.int .i64 (imax x y)) w := run_max_int2 w ts t _ _ _ _
theorem run_imin (P : Program) (w : World) (ts : Array TypeId) (t : TypeId) (x y : Int) : (Builtin.min_ ts t #[.int .i64 x, .int .i64 y]).run P w = .ok (.int .i64 (imin x y)) w := run_min_int2 w ts t _ _ _ _
/-- a result's coordinate -/
def bc (ok join : Bool) (x y : Int) : Int := if ok then (if join then imax x y else imin x y) else 0
def gate (ok : Bool) (x : Int) : Int := if ok then x else 0
def bothV (join : Bool) (d c0 c1 c2 c3 e x0 x1 x2 x3 : Int) (ok : Bool) : Value :=
  .tuple #[.agg #[.int .i64 (gate ok d), .int .i64 (bc ok join c0 x0), .int .i64 (bc ok join c1 x1), .int .i64 (bc ok join c2 x2), .int .i64 (bc ok join c3 x3)], .bool ok]

end Go.Proofs.Ytimfpbmlbihlnaa
