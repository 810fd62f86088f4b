/- graphs in memory: rows of edges (RE), of nodes (RW), a node's program in a row of its own; a graph that is read (IsG) -/
import Derived.Test.YtdhmoiiagplbpaaVb
import Derived.Test.YtdhmoiiagplbpaaRn
import Derived.Laws.StructEq
namespace Go.Proofs.Ytdhmoiiagplbpaa
open Go.RowKit
set_option linter.unusedVariables false
set_option linter.unusedSimpArgs false

def RE : RowKind GE where
  enc := fun x => [.int .i64 x.src, .int .i64 x.dst, .int .i64 x.port, .bool x.ex]
  k := 4
  k0 := by decide
  len := fun _ => rfl
  one := by
    intro c u hu
    simp at hu
    rcases hu with rfl | rfl | rfl | rfl <;> rfl
  tE := 58
  tS := 24
  zero := .agg #[.int .i64 0, .int .i64 0, .int .i64 0, .bool false]
  bytes := 32
  info := by kernel_rfl
  under := Try.underlying24
  zlen := rfl
  byt := by decide
/-- a node as it lies in its row -/
structure NW where
  kind : Int
  scope : Int
  arg : Int
  p : Option Addr
  n : Nat
  c : Nat
instance : Inhabited NW := ⟨⟨0, 0, 0, none, 0, 0⟩⟩
def RW : RowKind NW where
  enc := fun x => [.int .i64 x.kind, .int .i64 x.scope, .int .i64 x.arg, .slice x.p x.n x.c]
  k := 4
  k0 := by decide
  len := fun _ => rfl
  one := by
    intro c u hu
    simp at hu
    rcases hu with rfl | rfl | rfl | rfl <;> rfl
  tE := 46
  tS := 23
  zero := .agg #[.int .i64 0, .int .i64 0, .int .i64 0, .slice none 0 0]
  bytes := 48
  info := by kernel_rfl
  under := Try.underlying23
  zlen := rfl
  byt := by decide
theorem atE {w : World} {b off : Nat} {xs : List GE} (h : RE.Row w b off xs) (j : Nat) (hj : j < xs.length) :
    w.cell? ⟨b, off + j * 4, none⟩ = some (.int .i64 xs[j]!.src) ∧ w.cell? ⟨b, off + j * 4 + 1, none⟩ = some (.int .i64 xs[j]!.dst) ∧ w.cell? ⟨b, off + j * 4 + 2, none⟩ = some (.int .i64 xs[j]!.port) ∧ w.cell? ⟨b, off + j * 4 + 3, none⟩ = some (.bool xs[j]!.ex) :=
  ⟨h j hj 0 _ rfl, h j hj 1 _ rfl, h j hj 2 _ rfl, h j hj 3 _ rfl⟩
theorem atW {w : World} {b off : Nat} {xs : List NW} (h : RW.Row w b off xs) (j : Nat) (hj : j < xs.length) :
    w.cell? ⟨b, off + j * 4, none⟩ = some (.int .i64 xs[j]!.kind) ∧ w.cell? ⟨b, off + j * 4 + 1, none⟩ = some (.int .i64 xs[j]!.scope) ∧ w.cell? ⟨b, off + j * 4 + 2, none⟩ = some (.int .i64 xs[j]!.arg) ∧ w.cell? ⟨b, off + j * 4 + 3, none⟩ = some (.slice xs[j]!.p xs[j]!.n xs[j]!.c) :=
  ⟨h j hj 0 _ rfl, h j hj 1 _ rfl, h j hj 2 _ rfl, h j hj 3 _ rfl⟩
/-- where the slice's first cell lies, if it has one -/
theorem RowKind.Is.opened {α : Type} [Inhabited α] {R : RowKind α} {w : World} {v : Value} {xs : List α} (h : R.Is w v xs) : ∃ p c, v = .slice p xs.length c ∧ ∀ j, j < xs.length → ∃ b off, p = some ⟨b, off, none⟩ ∧ b < w.heap.size ∧ R.Row w b off xs := by
  rcases h with ⟨rfl, p, cap, rfl, _⟩ | ⟨h0, b, off, cap, rfl, hb, hr⟩
  · exact ⟨p, cap, rfl, fun j hj => absurd hj (by simp)⟩
  · exact ⟨_, cap, rfl, fun j _ => ⟨b, off, rfl, hb, hr⟩⟩
/-- this raw node is that node -/
def isN (w : World) (x : NW) (g : GN) : Prop := x.kind = g.kind ∧ x.scope = g.scope ∧ x.arg = g.arg ∧ RC.Is w (.slice x.p x.n x.c) g.prog
theorem isN.below {w w' : World} {x : NW} {g : GN} (h : isN w x g) (hb : Below w.heap.size w w') : isN w' x g := ⟨h.1, h.2.1, h.2.2.1, h.2.2.2.below hb⟩
def areN (w : World) (xs : List NW) (ns : List GN) : Prop := xs.length = ns.length ∧ ∀ i, i < ns.length → isN w xs[i]! ns[i]!
theorem areN.below {w w' : World} {xs : List NW} {ns : List GN} (h : areN w xs ns) (hb : Below w.heap.size w w') : areN w' xs ns := ⟨h.1, fun i hi => (h.2 i hi).below hb⟩
/-- v is a slice of these nodes -/
def IsNs (w : World) (v : Value) (ns : List GN) : Prop := ∃ xs : List NW, RW.Is w v xs ∧ areN w xs ns
theorem IsNs.below {w w' : World} {v : Value} {ns : List GN} (h : IsNs w v ns) (hb : Below w.heap.size w w') : IsNs w' v ns := by
  obtain ⟨xs, h1, h2⟩ := h
  exact ⟨xs, h1.below hb, h2.below hb⟩
/-- v is this graph -/
def IsG (w : World) (v : Value) (g : GV) : Prop := ∃ pv bv nv ev, v = .agg #[pv, bv, nv, ev] ∧ RN.Is w pv g.parent ∧ RN.Is w bv g.bound ∧ IsNs w nv g.nodes ∧ RE.Is w ev g.edges
theorem IsG.below {w w' : World} {v : Value} {g : GV} (h : IsG w v g) (hb : Below w.heap.size w w') : IsG w' v g := by
  obtain ⟨pv, bv, nv, ev, e, h1, h2, h3, h4⟩ := h
  exact ⟨pv, bv, nv, ev, e, h1.below hb, h2.below hb, h3.below hb, h4.below hb⟩
/-- two instructions, two edges: the same? -/
def eqV (a b : NV) : Bool := decide (a = b)
def eqE (a b : GE) : Bool := decide (a = b)
theorem eqV_iff (a b : NV) : eqV a b = (decide (a.op = b.op) && decide (a.n = b.n)) := by
  rw [Bool.eq_iff_iff]
  simp only [eqV, decide_eq_true_eq, Bool.and_eq_true]
  constructor
  · intro h; subst h; exact ⟨rfl, rfl⟩
  · rintro ⟨h0, h1⟩; cases a; cases b; simp only at h0 h1; subst h0; subst h1; rfl
theorem eqE_iff (a b : GE) : eqE a b = (decide (a.src = b.src) && (decide (a.dst = b.dst) && (decide (a.port = b.port) && decide (a.ex = b.ex)))) := by
  rw [Bool.eq_iff_iff]
  simp only [eqE, decide_eq_true_eq, Bool.and_eq_true]
  constructor
  · intro h; subst h; exact ⟨rfl, rfl, rfl, rfl⟩
  · rintro ⟨h0, h1, h2, h3⟩; cases a; cases b; simp only at h0 h1 h2 h3; subst h0; subst h1; subst h2; subst h3; rfl
set_option maxRecDepth 100000 in
theorem eqInsIn (d : Nat) (a0 a1 b0 b1 : Int) (w : World) : (Op.equalIn (d + 1 + 1) 56 (.agg #[.int .i64 a0, .int .i64 a1]) (.agg #[.int .i64 b0, .int .i64 b1])).run Try.prog w = .ok (eqV ⟨a0, a1⟩ ⟨b0, b1⟩) w := by
  have u3 := Try.underlying2
  have u4 := Try.underlying3
  have hS : Try.prog.underlying 56 = some (.struct (Try.prog.fieldsOf 56)) := by kernel_rfl
  have hp : Try.prog.stoodInHeld 56 = false := by kernel_rfl
  rw [run_equalIn_agg w (d + 1) 56 _ _ hS hp]
  simp only [Program.fieldsOf, Try.underlying56]
  rw [eqV_iff]
  simp only
  go_simp
  by_cases h0 : a0 = b0 <;> by_cases h1 : a1 = b1 <;> simp [h0, h1, Result.andThen]
set_option maxRecDepth 100000 in
theorem neIns (a0 a1 b0 b1 : Int) (w : World) : (binOp .neq 56 (.agg #[.int .i64 a0, .int .i64 a1]) (.agg #[.int .i64 b0, .int .i64 b1])).run Try.prog w = .ok (.bool (!eqV ⟨a0, a1⟩ ⟨b0, b1⟩)) w := by
  rw [run_neq_struct, show (10000 : Nat) = 9998 + 1 + 1 from rfl, eqInsIn]
  rfl
set_option maxRecDepth 100000 in
theorem eqEdgeIn (d : Nat) (a0 a1 a2 b0 b1 b2 : Int) (a3 b3 : Bool) (w : World) : (Op.equalIn (d + 1 + 1) 58 (.agg #[.int .i64 a0, .int .i64 a1, .int .i64 a2, .bool a3]) (.agg #[.int .i64 b0, .int .i64 b1, .int .i64 b2, .bool b3])).run Try.prog w = .ok (eqE ⟨a0, a1, a2, a3⟩ ⟨b0, b1, b2, b3⟩) w := by
  have u4 := Try.underlying3
  have u5 := Try.underlying4
  have hS : Try.prog.underlying 58 = some (.struct (Try.prog.fieldsOf 58)) := by kernel_rfl
  have hp : Try.prog.stoodInHeld 58 = false := by kernel_rfl
  rw [run_equalIn_agg w (d + 1) 58 _ _ hS hp]
  simp only [Program.fieldsOf, Try.underlying58]
  rw [eqE_iff]
  simp only
  go_simp
  by_cases h0 : a0 = b0 <;> by_cases h1 : a1 = b1 <;> by_cases h2 : a2 = b2 <;> cases a3 <;> cases b3 <;> simp [h0, h1, h2, Result.andThen]
set_option maxRecDepth 100000 in
theorem neEdge (a0 a1 a2 b0 b1 b2 : Int) (a3 b3 : Bool) (w : World) : (binOp .neq 58 (.agg #[.int .i64 a0, .int .i64 a1, .int .i64 a2, .bool a3]) (.agg #[.int .i64 b0, .int .i64 b1, .int .i64 b2, .bool b3])).run Try.prog w = .ok (.bool (!eqE ⟨a0, a1, a2, a3⟩ ⟨b0, b1, b2, b3⟩)) w := by
  rw [run_neq_struct, show (10000 : Nat) = 9998 + 1 + 1 from rfl, eqEdgeIn]
  rfl
set_option maxRecDepth 100000 in
theorem eqIns (a0 a1 b0 b1 : Int) (w : World) : (binOp .eql 56 (.agg #[.int .i64 a0, .int .i64 a1]) (.agg #[.int .i64 b0, .int .i64 b1])).run Try.prog w = .ok (.bool (eqV ⟨a0, a1⟩ ⟨b0, b1⟩)) w := by
  rw [run_eql_struct, show (10000 : Nat) = 9998 + 1 + 1 from rfl, eqInsIn]
  rfl
set_option maxRecDepth 100000 in
theorem eqEdge (a0 a1 a2 b0 b1 b2 : Int) (a3 b3 : Bool) (w : World) : (binOp .eql 58 (.agg #[.int .i64 a0, .int .i64 a1, .int .i64 a2, .bool a3]) (.agg #[.int .i64 b0, .int .i64 b1, .int .i64 b2, .bool b3])).run Try.prog w = .ok (.bool (eqE ⟨a0, a1, a2, a3⟩ ⟨b0, b1, b2, b3⟩)) w := by
  rw [run_eql_struct, show (10000 : Nat) = 9998 + 1 + 1 from rfl, eqEdgeIn]
  rfl
end Go.Proofs.Ytdhmoiiagplbpaa
