/- counts: a timestamp and how often it is there; rows of them; timestamps' rows as rows of the general kind -/
import Derived.Test.YtcaolilhemamiaaCs
import Derived.Test.YtcaolilhemamiaaRow
namespace Go.Proofs.Ytcaolilhemamiaa
open Go.RowKit
set_option linter.unusedVariables false
set_option linter.unusedSimpArgs false

structure CV where
  t : TV
  n : Int
instance : Inhabited CV := ⟨⟨default, 0⟩⟩
def CV.enc (c : CV) : List Value := [.int .i64 c.t.d, .int .i64 c.t.c0, .int .i64 c.t.c1, .int .i64 c.t.c2, .int .i64 c.t.c3, .int .i64 c.n]
def CV.val (c : CV) : Value := .agg #[.int .i64 c.t.d, .int .i64 c.t.c0, .int .i64 c.t.c1, .int .i64 c.t.c2, .int .i64 c.t.c3, .int .i64 c.n]
def RC : RowKind CV where
  enc := CV.enc
  k := 6
  k0 := by decide
  len := fun _ => rfl
  one := by
    intro c u hu
    simp [CV.enc] at hu
    rcases hu with rfl | rfl | rfl | rfl | rfl | rfl <;> rfl
  tE := 52
  tS := 46
  zero := .agg #[.int .i64 0, .int .i64 0, .int .i64 0, .int .i64 0, .int .i64 0, .int .i64 0]
  bytes := 48
  info := by kernel_rfl
  under := Try.underlying46
  zlen := rfl
  byt := by decide
def RT : RowKind TV where
  enc := TV.enc
  k := 5
  k0 := by decide
  len := fun _ => rfl
  one := enc_one
  tE := 26
  tS := 38
  zero := .agg #[.int .i64 0, .int .i64 0, .int .i64 0, .int .i64 0, .int .i64 0]
  bytes := 40
  info := infoT
  under := Try.underlying38
  zlen := rfl
  byt := by decide
theorem isT_iff {w : World} {v : Value} {xs : List TV} : IsT w v xs ↔ RT.Is w v xs := Iff.rfl
theorem ownT_iff {B : Nat} {w : World} {v : Value} {xs : List TV} : OwnT B w v xs ↔ RT.Own B w v xs := Iff.rfl
theorem atC {w : World} {b off : Nat} {xs : List CV} (h : RC.Row w b off xs) (j : Nat) (hj : j < xs.length) :
    w.cell? ⟨b, off + j * 6, none⟩ = some (.int .i64 xs[j]!.t.d) ∧ w.cell? ⟨b, off + j * 6 + 1, none⟩ = some (.int .i64 xs[j]!.t.c0) ∧ w.cell? ⟨b, off + j * 6 + 2, none⟩ = some (.int .i64 xs[j]!.t.c1) ∧ w.cell? ⟨b, off + j * 6 + 3, none⟩ = some (.int .i64 xs[j]!.t.c2) ∧ w.cell? ⟨b, off + j * 6 + 4, none⟩ = some (.int .i64 xs[j]!.t.c3) ∧ w.cell? ⟨b, off + j * 6 + 5, none⟩ = some (.int .i64 xs[j]!.n) :=
  ⟨h j hj 0 _ rfl, h j hj 1 _ rfl, h j hj 2 _ rfl, h j hj 3 _ rfl, h j hj 4 _ rfl, h j hj 5 _ rfl⟩
/-- a boxed count: six cells that may be written -/
structure Own6 (w : World) (b : Nat) (v0 v1 v2 v3 v4 v5 : Value) : Prop where
  l0 : w.cell? ⟨b, 0, none⟩ = some v0
  l1 : w.cell? ⟨b, 1, none⟩ = some v1
  l2 : w.cell? ⟨b, 2, none⟩ = some v2
  l3 : w.cell? ⟨b, 3, none⟩ = some v3
  l4 : w.cell? ⟨b, 4, none⟩ = some v4
  l5 : w.cell? ⟨b, 5, none⟩ = some v5
theorem Own6.new (w : World) (v0 v1 v2 v3 v4 v5 : Value) (t : TypeId) : Own6 (w.alloc (.cells #[v0, v1, v2, v3, v4, v5] t)) w.heap.size v0 v1 v2 v3 v4 v5 := ⟨by simp, by simp, by simp, by simp, by simp, by simp⟩
theorem Own6.below {w w' : World} {B b : Nat} {v0 v1 v2 v3 v4 v5 : Value} (h : Own6 w b v0 v1 v2 v3 v4 v5) (hb : Below B w w') (hl : b < B) : Own6 w' b v0 v1 v2 v3 v4 v5 :=
  ⟨(hb.cell (p := ⟨b, 0, none⟩) hl).trans h.l0, (hb.cell (p := ⟨b, 1, none⟩) hl).trans h.l1, (hb.cell (p := ⟨b, 2, none⟩) hl).trans h.l2, (hb.cell (p := ⟨b, 3, none⟩) hl).trans h.l3, (hb.cell (p := ⟨b, 4, none⟩) hl).trans h.l4, (hb.cell (p := ⟨b, 5, none⟩) hl).trans h.l5⟩

structure Own6q (w : World) (b : Nat) : Prop where
  q0 : w.frozen? ⟨b, 0, none⟩ = false
  q1 : w.frozen? ⟨b, 1, none⟩ = false
  q2 : w.frozen? ⟨b, 2, none⟩ = false
  q3 : w.frozen? ⟨b, 3, none⟩ = false
  q4 : w.frozen? ⟨b, 4, none⟩ = false
  q5 : w.frozen? ⟨b, 5, none⟩ = false
theorem Own6q.new (w : World) (v0 v1 v2 v3 v4 v5 : Value) (t : TypeId) : Own6q (w.alloc (.cells #[v0, v1, v2, v3, v4, v5] t)) w.heap.size := ⟨by simp, by simp, by simp, by simp, by simp, by simp⟩
theorem Own6q.below {w w' : World} {B b : Nat} (h : Own6q w b) (hb : Below B w w') (hl : b < B) : Own6q w' b :=
  ⟨(hb.frozen (p := ⟨b, 0, none⟩) hl).trans h.q0, (hb.frozen (p := ⟨b, 1, none⟩) hl).trans h.q1, (hb.frozen (p := ⟨b, 2, none⟩) hl).trans h.q2, (hb.frozen (p := ⟨b, 3, none⟩) hl).trans h.q3, (hb.frozen (p := ⟨b, 4, none⟩) hl).trans h.q4, (hb.frozen (p := ⟨b, 5, none⟩) hl).trans h.q5⟩

/- counts as plain facts -/
def fitsN (n : Int) : Bool := decide (-2147483648 ≤ n ∧ n ≤ 2147483648)
def CV.ok (c : CV) : Bool := c.t.ok && (!(c.n == 0) && fitsN c.n)
/-- the first k are right, and in order -/
def upC (xs : List CV) (k : Nat) : Bool := decide (∀ j, j < k → (xs[j]!).ok = true ∧ (0 < j → (xs[j - 1]!).t.lt (xs[j]!).t = true))
def rightC (xs : List CV) : Bool := upC xs xs.length
theorem upC_zero (xs : List CV) : upC xs 0 = true := decide_eq_true (by intro j h; omega)
theorem upC_succ {xs : List CV} {k : Nat} (h : upC xs k = true) (h1 : (xs[k]!).ok = true) (h2 : 0 < k → (xs[k - 1]!).t.lt (xs[k]!).t = true) : upC xs (k + 1) = true := by
  refine decide_eq_true fun j hj => ?_
  by_cases e : j = k
  · subst e; exact ⟨h1, h2⟩
  · exact of_decide_eq_true h j (by omega)
theorem right_no_ok {xs : List CV} {k : Nat} (hk : k < xs.length) (h1 : (xs[k]!).ok = false) : rightC xs = false :=
  decide_eq_false fun h => by have := (h k hk).1; rw [h1] at this; cases this
theorem right_no_lt {xs : List CV} {k : Nat} (hk : k < xs.length) (h0 : 0 < k) (h1 : (xs[k - 1]!).t.lt (xs[k]!).t = false) : rightC xs = false :=
  decide_eq_false fun h => by have := (h k hk).2 h0; rw [h1] at this; cases this
end Go.Proofs.Ytcaolilhemamiaa
