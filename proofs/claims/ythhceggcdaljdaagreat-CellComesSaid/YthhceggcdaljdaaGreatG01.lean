/- what every walk of a call says: it returns a value, and old memory is as it was (no function of the program is named here) -/
import Derived.Test.YthhceggcdaljdaaGreatProg
import Derived.WalkKit
import Derived.Below
import Derived.Handy
import Derived.Deep.QuietTactic
import Derived.BigQuiet
import Derived.Lib.Hide
import Derived.Deep.Light
import Derived.Deep.Cut
import Derived.Deep.Draws
import Derived.Deep.LoopGhost
namespace Go.Proofs.YthhceggcdaljdaaGreat
open Go.RowKit
set_option linter.unusedVariables false
set_option linter.unusedSimpArgs false

/-- the call returns the value v, and old memory is as it was -/
def Ret (v : Value) (w : World) (e : Ending) (w' : World) : Prop := e = .returned v ∧ Below w.heap.size w w'
theorem ret_bool {a b : Bool} (h : a = b) : Ending.returned (.bool a) = .returned (.bool b) := by rw [h]
theorem ret_int {k : IntKind} {a b : Int} (h : a = b) : Ending.returned (.int k a) = .returned (.int k b) := by rw [h]
/-- the call returns the value v, old memory is as it was, and draws are not taken back -/
def RetD (v : Value) (w : World) (e : Ending) (w' : World) : Prop := e = .returned v ∧ Below w.heap.size w w' ∧ w.drawn ≤ w'.drawn
theorem RetD.ret {v : Value} {w : World} {e : Ending} {w' : World} (h : RetD v w e w') : Ret v w e w' := ⟨h.1, h.2.1⟩
theorem drawn_alloc (w : World) (o : Obj) : (w.alloc o).drawn = w.drawn := rfl
theorem drawn_drew (w : World) : w.drew.drawn = w.drawn + 1 := rfl
theorem drawn_drewN (w : World) (n : Nat) : (w.drewN n).drawn = w.drawn + n := rfl
theorem drawn_setCell (w : World) (a : Addr) (v : Value) : (w.setCell a v).drawn = w.drawn := rfl
/-- the call returns the value v, and all is as it was -/
def RetW (v : Value) (w : World) (e : Ending) (w' : World) : Prop := e = .returned v ∧ w' = w
theorem bcell {W w1 : World} (hb : Below W.heap.size W w1) : (∀ b o, b < W.heap.size → w1.cell? ⟨b, o, none⟩ = W.cell? ⟨b, o, none⟩) ∧ (∀ b o, b < W.heap.size → w1.frozen? ⟨b, o, none⟩ = W.frozen? ⟨b, o, none⟩) :=
  ⟨fun b o h => hb.cell (p := ⟨b, o, none⟩) h, fun b o h => hb.frozen (p := ⟨b, o, none⟩) h⟩
theorem bcall {B : Nat} {a W w1 : World} (h : Below B a W) (hb : Below W.heap.size W w1) (hB : B ≤ W.heap.size) : Below B a w1 := h.trans (hb.mono hB)
/-- go on from a world of which only F is known -/
theorem gen_world {P : Program} {c : Code} {Q : Exit → Act → World → Prop} {a : Act} {W : World} (F : World → Prop) (hF : F W) (h : ∀ W2, F W2 → Code.wp P c Q a W2) : Code.wp P c Q a W := h W hF
theorem gen_q {Q : Exit → Act → World → Prop} {a : Act} {W : World} {e : Exit} (F : World → Prop) (hF : F W) (h : ∀ W2, F W2 → Q e a W2) : Q e a W := h W hF
theorem below_drewN {B : Nat} {a w : World} (h : Below B a w) (n : Nat) : Below B a (w.drewN n) := ⟨h.os, h.tape, h.output, h.size, h.block⟩
def imax (x y : Int) : Int := if y > x then y else x
def imin (x y : Int) : Int := if y < x then y else x
theorem run_imax (P : Program) (w : World) (ts : Array TypeId) (t : TypeId) (x y : Int) : (Builtin.max_ ts t #[.int .i64 x, .int .i64 y]).run P w = .ok (.int .i64 (imax x y)) w := run_max_int2 w ts t _ _ _ _
theorem run_imin (P : Program) (w : World) (ts : Array TypeId) (t : TypeId) (x y : Int) : (Builtin.min_ ts t #[.int .i64 x, .int .i64 y]).run P w = .ok (.int .i64 (imin x y)) w := run_min_int2 w ts t _ _ _ _
theorem cutTo (b n : Nat) (hb : 0 < b) : ∃ m : Nat, imin (n : Int) (b : Int) = (m : Int) ∧ m ≤ n ∧ m ≤ b ∧ (m = 0 → n = 0) := by
  unfold imin
  split
  · exact ⟨b, rfl, by omega, by omega, by omega⟩
  · exact ⟨n, rfl, by omega, by omega, by omega⟩
/-- a world in which all that was in W is as it was -/
structure Beh (W : World) where
  w : World
  h : Below W.heap.size W w
instance (W : World) : Nonempty (Beh W) := ⟨⟨W, Below.refl _ _⟩⟩
theorem wp_region_beh {P : Program} {id : Nat} {Q : Exit → Act → World → Prop} {a : Act} {w : World} {l : List Oper} (hm : P.follows .mixedOrders = true) (hB : Region.lexB .any l.toArray = true)
    (h : wpQuiet P l.toArray (fun w' => ∃ p : Beh w, w' = p.w) (fun a' => ∀ w', (∃ p : Beh w, w' = p.w) → Q .normal a' w') l a) : (Code.region id l.toArray true).wp P Q a w :=
  wp_region_quiet (C := fun w' => ∃ p : Beh w, w' = p.w) hm hB ⟨⟨_, (Below.refl _ _).drew⟩, rfl⟩ (by simpa using h)
theorem Calls.beh {P : Program} {f : FuncId} {args : Array Value} {W : World} {p : Beh W} {v : Value} (h : Calls P f args p.w (Ret v p.w)) : Calls P f args p.w fun e w'' => e = .returned v ∧ ∃ q : Beh W, w'' = q.w :=
  h.mono fun _ w' ⟨he, hb⟩ => ⟨he, ⟨w', bcall p.h hb p.h.size⟩, rfl⟩
theorem beh_cell {W : World} {a : Addr} {v : Value} (h : W.cell? a = some v) (p : Beh W) : p.w.cell? a = some v := (p.h.cell (World.block_lt_of_cell? _ _ h)).trans h
/-- no slice is longer than its room -/
def capOk (v : Value) : Prop := ∀ p n c, v = .slice p n c → n ≤ c
end Go.Proofs.YthhceggcdaljdaaGreat
namespace Go.Proofs.YthhceggcdaljdaaGreat
open Go.RowKit
set_option linter.unusedVariables false

def greatestS (d i : Int) : Int := if i ≥ d then 0 else if i = 0 then 1048576 else 64

theorem greatest_any (d i : Int) (w : World) :
    Calls Tryz.prog 88 #[.int .i64 d, .int .i64 i] w fun e w' => e = .returned (.int .i64 (greatestS d i)) ∧ w = w' := by
  by_cases h : i ≥ d
  · have h2 : d ≤ i := h
    go_enter Tryz.func88, Tryz.ntmps88
    go_wp2
    go_ret
    exact ⟨by simp [greatestS, h], rfl⟩
  · by_cases h0 : i = 0
    · subst h0
      have h2 : ¬ d ≤ 0 := h
      go_enter Tryz.func88, Tryz.ntmps88
      go_wp2
      go_ret
      exact ⟨by simp [greatestS]; omega, rfl⟩
    · have hb : (i == 0) = false := beq_eq_false_iff_ne.2 h0
      have h2 : ¬ d ≤ i := h
      go_enter Tryz.func88, Tryz.ntmps88
      go_wp2
      go_ret
      exact ⟨by simp [greatestS, h, h0], rfl⟩

def rightP (d c0 c1 c2 c3 : Int) : Prop := 1 ≤ d ∧ d ≤ 4 ∧ 0 ≤ c0 ∧ c0 ≤ greatestS d 0 ∧ 0 ≤ c1 ∧ c1 ≤ greatestS d 1 ∧ 0 ≤ c2 ∧ c2 ≤ greatestS d 2 ∧ 0 ≤ c3 ∧ c3 ≤ greatestS d 3
instance (d c0 c1 c2 c3 : Int) : Decidable (rightP d c0 c1 c2 c3) := by unfold rightP; infer_instance
def rightB (d c0 c1 c2 c3 : Int) : Bool := decide (rightP d c0 c1 c2 c3)

theorem ix4_0 (c0 c1 c2 c3 : Value) (w : World) : (Instr.index 23 (.agg #[c0, c1, c2, c3]) (.int .i64 0)).run Tryz.prog w = .ok c0 w := by kernel_rfl
theorem ix4_1 (c0 c1 c2 c3 : Value) (w : World) : (Instr.index 23 (.agg #[c0, c1, c2, c3]) (.int .i64 1)).run Tryz.prog w = .ok c1 w := by kernel_rfl
theorem ix4_2 (c0 c1 c2 c3 : Value) (w : World) : (Instr.index 23 (.agg #[c0, c1, c2, c3]) (.int .i64 2)).run Tryz.prog w = .ok c2 w := by kernel_rfl
theorem ix4_3 (c0 c1 c2 c3 : Value) (w : World) : (Instr.index 23 (.agg #[c0, c1, c2, c3]) (.int .i64 3)).run Tryz.prog w = .ok c3 w := by kernel_rfl
attribute [local go_sem] ix4_0 ix4_1 ix4_2 ix4_3



set_option maxHeartbeats 2000000 in
theorem right_any (d c0 c1 c2 c3 : Int) (w : World) :
    Calls Tryz.prog 47 #[.agg #[.int .i64 d, .int .i64 c0, .int .i64 c1, .int .i64 c2, .int .i64 c3]] w (Ret (.bool (rightB d c0 c1 c2 c3)) w) := by
  by_cases hb : 1 ≤ d ∧ d ≤ 4
  · obtain ⟨hd, hd4⟩ := hb
    go_enter Tryz.func47, Tryz.ntmps47
    go_wp2
    refine wp_loop_rounds 5 ?_
    repeat any_goals (rw [rounds_succ]; go_wp2_with (go_at_call 88; refine (greatest_any _ _ _).mono ?_; rintro e w' ⟨rfl, rfl⟩))
    all_goals go_returns
    all_goals (refine ⟨ret_bool ?_, by go_grown⟩)
    all_goals (simp only [rightB, rightP]; first | (apply Eq.symm; apply decide_eq_true; omega) | (apply Eq.symm; apply decide_eq_false; omega))
  · go_enter Tryz.func47, Tryz.ntmps47
    have hr : rightB d c0 c1 c2 c3 = false := by simp only [rightB, rightP]; exact decide_eq_false (by omega)
    rw [hr]
    by_cases h1 : d < 1
    · go_wp2
      all_goals go_returns
      all_goals exact ⟨rfl, by go_grown⟩
    · have h4 : 4 < d := by omega
      go_wp2
      all_goals go_returns
      all_goals exact ⟨rfl, by go_grown⟩
end Go.Proofs.YthhceggcdaljdaaGreat
namespace Go.Proofs.YthhceggcdaljdaaGreat
open Go.RowKit
set_option linter.unusedVariables false
attribute [local go_sem] ix4_0 ix4_1 ix4_2 ix4_3


def pairedB (d c0 c1 c2 c3 e x0 x1 x2 x3 : Int) : Bool := (d == e) && rightB d c0 c1 c2 c3 && rightB e x0 x1 x2 x3


set_option maxHeartbeats 1000000 in
theorem paired_any (d c0 c1 c2 c3 e x0 x1 x2 x3 : Int) (w : World) :
    Calls Tryz.prog 99 #[.agg #[.int .i64 d, .int .i64 c0, .int .i64 c1, .int .i64 c2, .int .i64 c3], .agg #[.int .i64 e, .int .i64 x0, .int .i64 x1, .int .i64 x2, .int .i64 x3]] w
      (Ret (.bool (pairedB d c0 c1 c2 c3 e x0 x1 x2 x3)) w) := by
  have hp : pairedB d c0 c1 c2 c3 e x0 x1 x2 x3 = ((d == e) && rightB d c0 c1 c2 c3 && rightB e x0 x1 x2 x3) := rfl
  rw [hp]; clear hp
  by_cases h : (d == e) = true
  · cases hr : rightB d c0 c1 c2 c3
    · go_enter Tryz.func99, Tryz.ntmps99
      go_wp2_with fail
      refine (right_any _ _ _ _ _ _).mono ?_
      rintro e w1 ⟨rfl, hb1⟩
      obtain ⟨hc1, hf1⟩ := bcell hb1
      have hB := bcall (B := w.heap.size) (a := w) (by go_grown) hb1 (by go_size)
      go_wp2
      go_returns
      exact ⟨by simp, by go_grown⟩
    · go_enter Tryz.func99, Tryz.ntmps99
      go_wp2_with fail
      refine (right_any _ _ _ _ _ _).mono ?_
      rintro e w1 ⟨rfl, hb1⟩
      obtain ⟨hc1, hf1⟩ := bcell hb1
      have hB := bcall (B := w.heap.size) (a := w) (by go_grown) hb1 (by go_size)
      go_wp2_with fail
      refine (right_any _ _ _ _ _ _).mono ?_
      rintro e w2 ⟨rfl, hb2⟩
      have hB2 := bcall hB hb2 hB.size
      go_wp2
      go_returns
      exact ⟨by simp [h], by go_grown⟩
  · have h' : (d == e) = false := by simpa using h
    rw [h']
    go_enter Tryz.func99, Tryz.ntmps99
    go_wp2
    go_returns
    exact ⟨by simp, by go_grown⟩
end Go.Proofs.YthhceggcdaljdaaGreat
namespace Go.Proofs.YthhceggcdaljdaaGreat
open Go.RowKit
set_option linter.unusedVariables false
attribute [local go_sem] ix4_0 ix4_1 ix4_2 ix4_3

def leB (d c0 c1 c2 c3 e x0 x1 x2 x3 : Int) : Bool := pairedB d c0 c1 c2 c3 e x0 x1 x2 x3 && decide (c0 ≤ x0 ∧ c1 ≤ x1 ∧ c2 ≤ x2 ∧ c3 ≤ x3)

set_option maxHeartbeats 2000000 in
theorem le_any (d c0 c1 c2 c3 e x0 x1 x2 x3 : Int) (w : World) :
    Calls Tryz.prog 64 #[.agg #[.int .i64 d, .int .i64 c0, .int .i64 c1, .int .i64 c2, .int .i64 c3], .agg #[.int .i64 e, .int .i64 x0, .int .i64 x1, .int .i64 x2, .int .i64 x3]] w
      (Ret (.bool (leB d c0 c1 c2 c3 e x0 x1 x2 x3)) w) := by
  cases hp : pairedB d c0 c1 c2 c3 e x0 x1 x2 x3
  · have hl : leB d c0 c1 c2 c3 e x0 x1 x2 x3 = false := by simp [leB, hp]
    rw [hl]; clear hl
    go_enter Tryz.func64, Tryz.ntmps64
    go_wp2_with fail
    refine (paired_any _ _ _ _ _ _ _ _ _ _ _).mono ?_
    rintro e w1 ⟨rfl, hb1⟩
    obtain ⟨hc1, hf1⟩ := bcell hb1
    have hB := bcall (B := w.heap.size) (a := w) (by go_grown) hb1 (by go_size)
    go_wp2
    go_returns
    exact ⟨rfl, by go_grown⟩
  · go_enter Tryz.func64, Tryz.ntmps64
    go_wp2_with fail
    refine (paired_any _ _ _ _ _ _ _ _ _ _ _).mono ?_
    rintro e w1 ⟨rfl, hb1⟩
    obtain ⟨hc1, hf1⟩ := bcell hb1
    have hB := bcall (B := w.heap.size) (a := w) (by go_grown) hb1 (by go_size)
    go_wp2
    go_rounds 5
    all_goals (try go_wp2)
    all_goals go_returns
    all_goals refine ⟨ret_bool ?_, by go_grown⟩
    all_goals (clear hc1 hf1; have HP := Lib.hid hp; clear hp; simp only [leB, HP.out, Bool.true_and]; first | (apply Eq.symm; apply decide_eq_true; omega) | (apply Eq.symm; apply decide_eq_false; omega))

/-- five cells of a block that can be written, and what they hold -/
structure Own5 (w : World) (b : Nat) (v0 v1 v2 v3 v4 : Value) : Prop where
  l0 : w.cell? ⟨b, 0, none⟩ = some v0
  l1 : w.cell? ⟨b, 1, none⟩ = some v1
  l2 : w.cell? ⟨b, 2, none⟩ = some v2
  l3 : w.cell? ⟨b, 3, none⟩ = some v3
  l4 : w.cell? ⟨b, 4, none⟩ = some v4
  q0 : w.frozen? ⟨b, 0, none⟩ = false
  q1 : w.frozen? ⟨b, 1, none⟩ = false
  q2 : w.frozen? ⟨b, 2, none⟩ = false
  q3 : w.frozen? ⟨b, 3, none⟩ = false
  q4 : w.frozen? ⟨b, 4, none⟩ = false
theorem Own5.below {W w1 : World} {B b : Nat} {v0 v1 v2 v3 v4 : Value} (h : Own5 W b v0 v1 v2 v3 v4) (hb : Below B W w1) (hl : b < B) : Own5 w1 b v0 v1 v2 v3 v4 :=
  ⟨(hb.cell (p := ⟨b, 0, none⟩) hl).trans h.l0, (hb.cell (p := ⟨b, 1, none⟩) hl).trans h.l1, (hb.cell (p := ⟨b, 2, none⟩) hl).trans h.l2, (hb.cell (p := ⟨b, 3, none⟩) hl).trans h.l3, (hb.cell (p := ⟨b, 4, none⟩) hl).trans h.l4,
   (hb.frozen (p := ⟨b, 0, none⟩) hl).trans h.q0, (hb.frozen (p := ⟨b, 1, none⟩) hl).trans h.q1, (hb.frozen (p := ⟨b, 2, none⟩) hl).trans h.q2, (hb.frozen (p := ⟨b, 3, none⟩) hl).trans h.q3, (hb.frozen (p := ⟨b, 4, none⟩) hl).trans h.q4⟩
theorem Own5.new (w : World) (v0 v1 v2 v3 v4 : Value) (t : TypeId) : Own5 (w.alloc (.cells #[v0, v1, v2, v3, v4] t)) w.heap.size v0 v1 v2 v3 v4 := by
  constructor <;> simp [go_sem]
theorem Own5.alloc {w : World} {b : Nat} {v0 v1 v2 v3 v4 : Value} (h : Own5 w b v0 v1 v2 v3 v4) (o : Obj) (hl : b < w.heap.size) : Own5 (w.alloc o) b v0 v1 v2 v3 v4 :=
  h.below ((Below.refl w.heap.size w).alloc (Nat.le_refl _) o) hl
theorem quiet_left {P : Program} {f : FuncId} {args : Array Value} {w : World} {n : Nat} {v : Value}
    (h : Calls P f args (w.drewN n) fun e w' => e = .returned v ∧ w.drewN n = w') : Calls P f args (w.drewN n) fun e w'' => e = .returned v ∧ ∃ m, w'' = w.drewN m :=
  h.mono fun _ _ ⟨he, hm⟩ => ⟨he, n, hm.symm⟩
/-- a result's coordinate -/
def bc (ok join : Bool) (x y : Int) : Int := if ok then (if join then imax x y else imin x y) else 0
def gate (ok : Bool) (x : Int) : Int := if ok then x else 0
def bothV (join : Bool) (d c0 c1 c2 c3 e x0 x1 x2 x3 : Int) (ok : Bool) : Value :=
  .tuple #[.agg #[.int .i64 (gate ok d), .int .i64 (bc ok join c0 x0), .int .i64 (bc ok join c1 x1), .int .i64 (bc ok join c2 x2), .int .i64 (bc ok join c3 x3)], .bool ok]

end Go.Proofs.YthhceggcdaljdaaGreat
namespace Go.Proofs.YthhceggcdaljdaaGreat
open Go.RowKit
set_option linter.unusedVariables false
set_option linter.unusedSimpArgs false
attribute [local go_sem] ix4_0 ix4_1 ix4_2 ix4_3
attribute [local go_sem ↓] run_imax run_imin

def stepV (ok : Bool) (d c0 c1 c2 c3 : Int) : Value :=
  .tuple #[.agg #[.int .i64 (gate ok d), .int .i64 (gate ok c0), .int .i64 (gate ok c1), .int .i64 (gate ok c2), .int .i64 (gate ok c3)], .bool ok]
/-- of a right timestamp: its coordinates' numbers -/
theorem right_of {d c0 c1 c2 c3 : Int} (h : rightB d c0 c1 c2 c3 = true) : rightP d c0 c1 c2 c3 := of_decide_eq_true h
def enterB (d c0 c1 c2 c3 : Int) : Bool := rightB d c0 c1 c2 c3 && !(d == 4)
def leaveB (d c0 c1 c2 c3 : Int) : Bool := rightB d c0 c1 c2 c3 && !(d == 1)
/-- the number of the last coordinate -/
def lastOf (d c0 c1 c2 c3 : Int) : Int := if d = 1 then c0 else if d = 2 then c1 else if d = 3 then c2 else c3
def nextB (d c0 c1 c2 c3 : Int) : Bool := rightB d c0 c1 c2 c3 && !(lastOf d c0 c1 c2 c3 == greatestS d (d - 1))
def leftV (d c0 c1 c2 c3 : Int) : Value := stepV (leaveB d c0 c1 c2 c3) (d - 1) (if d = 1 then 0 else c0) (if d = 2 then 0 else c1) (if d = 3 then 0 else c2) (if d = 4 then 0 else c3)
def nextV (d c0 c1 c2 c3 : Int) : Value := stepV (nextB d c0 c1 c2 c3) d (if d = 1 then c0 + 1 else c0) (if d = 2 then c1 + 1 else c1) (if d = 3 then c2 + 1 else c2) (if d = 4 then c3 + 1 else c3)
end Go.Proofs.YthhceggcdaljdaaGreat
namespace Go.Proofs.YthhceggcdaljdaaGreat
open Go.RowKit
set_option linter.unusedVariables false
set_option linter.unusedSimpArgs false
attribute [local go_sem ↓] run_imax run_imin

def lexB (d c0 c1 c2 c3 e0 x0 x1 x2 x3 : Int) : Bool :=
  if 0 < imin d e0 ∧ c0 ≠ x0 then decide (c0 < x0) else if 1 < imin d e0 ∧ c1 ≠ x1 then decide (c1 < x1) else if 2 < imin d e0 ∧ c2 ≠ x2 then decide (c2 < x2) else if 3 < imin d e0 ∧ c3 ≠ x3 then decide (c3 < x3) else decide (d < e0)
def lessB (d c0 c1 c2 c3 e0 x0 x1 x2 x3 : Int) : Bool := rightB d c0 c1 c2 c3 && rightB e0 x0 x1 x2 x3 && lexB d c0 c1 c2 c3 e0 x0 x1 x2 x3
theorem imin_le (d e : Int) (h : d ≤ 4) : imin d e ≤ 4 := by unfold imin; split <;> omega

set_option maxHeartbeats 4000000 in
theorem less_any (d c0 c1 c2 c3 e0 x0 x1 x2 x3 : Int) (w : World) :
    Calls Tryz.prog 58 #[.agg #[.int .i64 d, .int .i64 c0, .int .i64 c1, .int .i64 c2, .int .i64 c3], .agg #[.int .i64 e0, .int .i64 x0, .int .i64 x1, .int .i64 x2, .int .i64 x3]] w (Ret (.bool (lessB d c0 c1 c2 c3 e0 x0 x1 x2 x3)) w) := by
  cases hp : rightB d c0 c1 c2 c3
  · have he : lessB d c0 c1 c2 c3 e0 x0 x1 x2 x3 = false := by simp [lessB, hp]
    rw [he]; clear he
    go_enter Tryz.func58, Tryz.ntmps58
    go_wp2_with fail
    refine (right_any _ _ _ _ _ _).mono ?_
    rintro e w1 ⟨rfl, hb1⟩
    have hz := hb1.size
    have hB := bcall (B := w.heap.size) (a := w) (by go_grown) hb1 (by go_size)
    have hP := ((Own5.new w (.int .i64 d) (.int .i64 c0) (.int .i64 c1) (.int .i64 c2) (.int .i64 c3) 25).alloc _ (by go_size)).below hb1 (by go_size)
    have hA := (Own5.new _ (.int .i64 e0) (.int .i64 x0) (.int .i64 x1) (.int .i64 x2) (.int .i64 x3) 25).below hb1 (by go_size)
    obtain ⟨p0, p1, p2, p3, p4, q0, q1, q2, q3, q4⟩ := hP
    obtain ⟨a0, a1, a2, a3, a4, b0, b1, b2, b3, b4⟩ := hA
    simp only [World.size_alloc] at *
    clear hb1
    go_wp2
    go_returns
    exact ⟨rfl, by repeat' (first | (with_reducible refine below_drewN ?_ _) | go_grown)⟩
  · cases hp2 : rightB e0 x0 x1 x2 x3
    · have he : lessB d c0 c1 c2 c3 e0 x0 x1 x2 x3 = false := by simp [lessB, hp2]
      rw [he]; clear he
      go_enter Tryz.func58, Tryz.ntmps58
      go_wp2_with fail
      refine (right_any _ _ _ _ _ _).mono ?_
      rintro e w1 ⟨rfl, hb1⟩
      have hz := hb1.size
      have hB := bcall (B := w.heap.size) (a := w) (by go_grown) hb1 (by go_size)
      have hP := ((Own5.new w (.int .i64 d) (.int .i64 c0) (.int .i64 c1) (.int .i64 c2) (.int .i64 c3) 25).alloc _ (by go_size)).below hb1 (by go_size)
      have hA := (Own5.new _ (.int .i64 e0) (.int .i64 x0) (.int .i64 x1) (.int .i64 x2) (.int .i64 x3) 25).below hb1 (by go_size)
      obtain ⟨p0, p1, p2, p3, p4, q0, q1, q2, q3, q4⟩ := hP
      obtain ⟨a0, a1, a2, a3, a4, b0, b1, b2, b3, b4⟩ := hA
      simp only [World.size_alloc] at *
      clear hb1
      go_wp2_with fail
      refine (right_any _ _ _ _ _ _).mono ?_
      rintro e w2 ⟨rfl, hb2⟩
      have hB2 := bcall hB hb2 hB.size
      have hP2 := (Own5.mk p0 p1 p2 p3 p4 q0 q1 q2 q3 q4).below hb2 (by omega)
      have hA2 := (Own5.mk a0 a1 a2 a3 a4 b0 b1 b2 b3 b4).below hb2 (by omega)
      clear p0 p1 p2 p3 p4 q0 q1 q2 q3 q4 a0 a1 a2 a3 a4 b0 b1 b2 b3 b4 hb2 hB hz
      obtain ⟨p0, p1, p2, p3, p4, q0, q1, q2, q3, q4⟩ := hP2
      obtain ⟨a0, a1, a2, a3, a4, b0, b1, b2, b3, b4⟩ := hA2
      go_wp2
      go_returns
      exact ⟨rfl, by repeat' (first | (with_reducible refine below_drewN ?_ _) | go_grown)⟩
    · have he : lessB d c0 c1 c2 c3 e0 x0 x1 x2 x3 = lexB d c0 c1 c2 c3 e0 x0 x1 x2 x3 := by simp [lessB, hp2, hp]
      rw [he]; clear he
      have hm : imin d e0 ≤ 4 := imin_le d e0 (right_of hp).2.1
      go_enter Tryz.func58, Tryz.ntmps58
      go_wp2_with fail
      refine (right_any _ _ _ _ _ _).mono ?_
      rintro e w1 ⟨rfl, hb1⟩
      have hz := hb1.size
      have hB := bcall (B := w.heap.size) (a := w) (by go_grown) hb1 (by go_size)
      have hP := ((Own5.new w (.int .i64 d) (.int .i64 c0) (.int .i64 c1) (.int .i64 c2) (.int .i64 c3) 25).alloc _ (by go_size)).below hb1 (by go_size)
      have hA := (Own5.new _ (.int .i64 e0) (.int .i64 x0) (.int .i64 x1) (.int .i64 x2) (.int .i64 x3) 25).below hb1 (by go_size)
      obtain ⟨p0, p1, p2, p3, p4, q0, q1, q2, q3, q4⟩ := hP
      obtain ⟨a0, a1, a2, a3, a4, b0, b1, b2, b3, b4⟩ := hA
      simp only [World.size_alloc] at *
      clear hb1
      go_wp2_with fail
      refine (right_any _ _ _ _ _ _).mono ?_
      rintro e w2 ⟨rfl, hb2⟩
      have hB2 := bcall hB hb2 hB.size
      have hP2 := (Own5.mk p0 p1 p2 p3 p4 q0 q1 q2 q3 q4).below hb2 (by omega)
      have hA2 := (Own5.mk a0 a1 a2 a3 a4 b0 b1 b2 b3 b4).below hb2 (by omega)
      clear p0 p1 p2 p3 p4 q0 q1 q2 q3 q4 a0 a1 a2 a3 a4 b0 b1 b2 b3 b4 hb2 hB hz
      obtain ⟨p0, p1, p2, p3, p4, q0, q1, q2, q3, q4⟩ := hP2
      obtain ⟨a0, a1, a2, a3, a4, b0, b1, b2, b3, b4⟩ := hA2
      go_wp2
      refine wp_loop_rounds 5 ?_
      by_cases hk0 : 0 < imin d e0
      · by_cases he0 : c0 = x0
        · have hn0 : (c0 != x0) = false := by simp [he0]
          have He0 := Lib.hid he0; clear he0
          rw [rounds_succ]; go_wp2
          go_quiet (fail)
          go_wp2
          by_cases hk1 : 1 < imin d e0
          · by_cases he1 : c1 = x1
            · have hn1 : (c1 != x1) = false := by simp [he1]
              have He1 := Lib.hid he1; clear he1
              rw [rounds_succ]; go_wp2
              go_quiet (fail)
              go_wp2
              by_cases hk2 : 2 < imin d e0
              · by_cases he2 : c2 = x2
                · have hn2 : (c2 != x2) = false := by simp [he2]
                  have He2 := Lib.hid he2; clear he2
                  rw [rounds_succ]; go_wp2
                  go_quiet (fail)
                  go_wp2
                  by_cases hk3 : 3 < imin d e0
                  · by_cases he3 : c3 = x3
                    · have hn3 : (c3 != x3) = false := by simp [he3]
                      have He3 := Lib.hid he3; clear he3
                      rw [rounds_succ]; go_wp2
                      go_quiet (fail)
                      go_wp2
                      rw [rounds_succ]; go_wp2
                      go_returns
                      exact ⟨ret_bool (by unfold lexB; rw [if_neg (fun h => h.2 (by simpa using hn0)), if_neg (fun h => h.2 (by simpa using hn1)), if_neg (fun h => h.2 (by simpa using hn2)), if_neg (fun h => h.2 (by simpa using hn3))]), by repeat' (first | (with_reducible refine below_drewN ?_ _) | go_grown)⟩
                    · have hn3 : (c3 != x3) = true := by simp [he3]
                      rw [rounds_succ]; go_wp2
                      go_quiet (fail)
                      go_wp2
                      go_quiet (fail)
                      go_wp2
                      go_returns
                      exact ⟨ret_bool (by unfold lexB; rw [if_neg (fun h => h.2 (by simpa using hn0)), if_neg (fun h => h.2 (by simpa using hn1)), if_neg (fun h => h.2 (by simpa using hn2)), if_pos ⟨hk3, by simpa using hn3⟩]), by repeat' (first | (with_reducible refine below_drewN ?_ _) | go_grown)⟩
                  · rw [rounds_succ]; go_wp2
                    go_returns
                    exact ⟨ret_bool (by unfold lexB; rw [if_neg (fun h => h.2 (by simpa using hn0)), if_neg (fun h => h.2 (by simpa using hn1)), if_neg (fun h => h.2 (by simpa using hn2)), if_neg (fun h => absurd h.1 (by omega))]), by repeat' (first | (with_reducible refine below_drewN ?_ _) | go_grown)⟩
                · have hn2 : (c2 != x2) = true := by simp [he2]
                  rw [rounds_succ]; go_wp2
                  go_quiet (fail)
                  go_wp2
                  go_quiet (fail)
                  go_wp2
                  go_returns
                  exact ⟨ret_bool (by unfold lexB; rw [if_neg (fun h => h.2 (by simpa using hn0)), if_neg (fun h => h.2 (by simpa using hn1)), if_pos ⟨hk2, by simpa using hn2⟩]), by repeat' (first | (with_reducible refine below_drewN ?_ _) | go_grown)⟩
              · rw [rounds_succ]; go_wp2
                go_returns
                exact ⟨ret_bool (by unfold lexB; rw [if_neg (fun h => h.2 (by simpa using hn0)), if_neg (fun h => h.2 (by simpa using hn1)), if_neg (fun h => absurd h.1 (by omega)), if_neg (fun h => absurd h.1 (by omega))]), by repeat' (first | (with_reducible refine below_drewN ?_ _) | go_grown)⟩
            · have hn1 : (c1 != x1) = true := by simp [he1]
              rw [rounds_succ]; go_wp2
              go_quiet (fail)
              go_wp2
              go_quiet (fail)
              go_wp2
              go_returns
              exact ⟨ret_bool (by unfold lexB; rw [if_neg (fun h => h.2 (by simpa using hn0)), if_pos ⟨hk1, by simpa using hn1⟩]), by repeat' (first | (with_reducible refine below_drewN ?_ _) | go_grown)⟩
          · rw [rounds_succ]; go_wp2
            go_returns
            exact ⟨ret_bool (by unfold lexB; rw [if_neg (fun h => h.2 (by simpa using hn0)), if_neg (fun h => absurd h.1 (by omega)), if_neg (fun h => absurd h.1 (by omega)), if_neg (fun h => absurd h.1 (by omega))]), by repeat' (first | (with_reducible refine below_drewN ?_ _) | go_grown)⟩
        · have hn0 : (c0 != x0) = true := by simp [he0]
          rw [rounds_succ]; go_wp2
          go_quiet (fail)
          go_wp2
          go_quiet (fail)
          go_wp2
          go_returns
          exact ⟨ret_bool (by unfold lexB; rw [if_pos ⟨hk0, by simpa using hn0⟩]), by repeat' (first | (with_reducible refine below_drewN ?_ _) | go_grown)⟩
      · rw [rounds_succ]; go_wp2
        go_returns
        exact ⟨ret_bool (by unfold lexB; rw [if_neg (fun h => absurd h.1 (by omega)), if_neg (fun h => absurd h.1 (by omega)), if_neg (fun h => absurd h.1 (by omega)), if_neg (fun h => absurd h.1 (by omega))]), by repeat' (first | (with_reducible refine below_drewN ?_ _) | go_grown)⟩
end Go.Proofs.YthhceggcdaljdaaGreat
namespace Go.Proofs.YthhceggcdaljdaaGreat
open Go.RowKit
set_option linter.unusedVariables false
set_option linter.unusedSimpArgs false
attribute [local go_sem] ix4_0 ix4_1 ix4_2 ix4_3

/-- a step's numbers -/
structure HV where
  f : Int
  k : Int
  t : Int
  a0 : Int
  a1 : Int
  a2 : Int
  a3 : Int
  b0 : Int
  b1 : Int
  b2 : Int
  b3 : Int
abbrev HV.val (h : HV) : Value := .agg #[.int .i64 h.f, .int .i64 h.k, .int .i64 h.t, .int .i64 h.a0, .int .i64 h.a1, .int .i64 h.a2, .int .i64 h.a3, .int .i64 h.b0, .int .i64 h.b1, .int .i64 h.b2, .int .i64 h.b3]
/-- a timestamp's numbers -/
structure TV where
  d : Int
  c0 : Int
  c1 : Int
  c2 : Int
  c3 : Int
abbrev TV.val (t : TV) : Value := .agg #[.int .i64 t.d, .int .i64 t.c0, .int .i64 t.c1, .int .i64 t.c2, .int .i64 t.c3]
def HV.zero : HV := ⟨0, 0, 0, 0, 0, 0, 0, 0, 0, 0, 0⟩
def TV.zero : TV := ⟨0, 0, 0, 0, 0⟩

def fitsP (l0 l1 l2 l3 n : Int) : Prop := (0 ≤ l0 ∧ l0 ≤ 1048576 ∧ (0 < n ∨ l0 = 0)) ∧ (0 ≤ l1 ∧ l1 ≤ 1048576 ∧ (1 < n ∨ l1 = 0)) ∧ (0 ≤ l2 ∧ l2 ≤ 1048576 ∧ (2 < n ∨ l2 = 0)) ∧ (0 ≤ l3 ∧ l3 ≤ 1048576 ∧ (3 < n ∨ l3 = 0))
instance (l0 l1 l2 l3 n : Int) : Decidable (fitsP l0 l1 l2 l3 n) := by unfold fitsP; infer_instance
def fitsB (l0 l1 l2 l3 n : Int) : Bool := decide (fitsP l0 l1 l2 l3 n)

set_option maxHeartbeats 4000000 in
theorem fits_any (l0 l1 l2 l3 n : Int) (w : World) :
    Calls Tryz.prog 173 #[.agg #[.int .i64 l0, .int .i64 l1, .int .i64 l2, .int .i64 l3], .int .i64 n] w (Ret (.bool (fitsB l0 l1 l2 l3 n)) w) := by
  go_enter Tryz.func173, Tryz.ntmps173
  go_wp2
  go_rounds 5
  all_goals (try go_wp2)
  all_goals go_returns
  all_goals refine ⟨ret_bool ?_, by go_grown⟩
  all_goals (go_light; (try simp only [bne_eq_false_iff_eq, bne_iff_ne, ne_eq] at *); simp only [fitsB, fitsP]; first | (apply Eq.symm; apply decide_eq_true; omega) | (apply Eq.symm; apply decide_eq_false; omega))

theorem gives_any (h : HV) (h0 : 0 ≤ h.k) (h1 : h.k ≤ 4) (h2 : 0 ≤ h.t) (h3 : h.t ≤ 4) (w : World) :
    Calls Tryz.prog 126 #[h.val] w (Ret (.int .i64 (h.k + h.t)) w) := by
  go_enter Tryz.func126, Tryz.ntmps126
  go_wp2
  go_returns
  exact ⟨rfl, by go_grown⟩

def HV.add (h : HV) (i : Int) : Int := if i = 0 then h.a0 else if i = 1 then h.a1 else if i = 2 then h.a2 else h.a3
def HV.tl (h : HV) (i : Int) : Int := if i = 0 then h.b0 else if i = 1 then h.b1 else if i = 2 then h.b2 else h.b3
/-- what stands at a place of what a step gives -/
def HV.at (h : HV) (i : Int) : Int := if i < h.k then h.add i else h.tl (i - h.k)

set_option maxHeartbeats 4000000 in
theorem at_any (h : HV) (i : Int) (h0 : 0 ≤ h.k) (h1 : h.k ≤ 4) (h2 : 0 ≤ h.t) (h3 : h.k + h.t ≤ 4) (hi : 0 ≤ i) (hg : i < h.k + h.t) (w : World) :
    Calls Tryz.prog 127 #[h.val, .int .i64 i] w (Ret (.tuple #[.int .i64 (h.at i), .bool (decide (i < h.k))]) w) := by
  obtain ⟨f, k, t, a0, a1, a2, a3, b0, b1, b2, b3⟩ := h
  simp only at h0 h1 h2 h3 hg
  by_cases hk : i < k
  · have hi3 : i = 0 ∨ i = 1 ∨ i = 2 ∨ i = 3 := by omega
    rw [show decide (i < k) = true from decide_eq_true hk]
    rcases hi3 with rfl | rfl | rfl | rfl
    all_goals
      go_enter Tryz.func127, Tryz.ntmps127
      go_wp2
      go_returns
      exact ⟨by simp [HV.at, HV.add, hk], by go_grown⟩
  · have hk3 : (k = 0 ∨ k = 1 ∨ k = 2 ∨ k = 3) ∧ (i = 0 ∨ i = 1 ∨ i = 2 ∨ i = 3) := by omega
    rw [show decide (i < k) = false from decide_eq_false hk]
    obtain ⟨rfl | rfl | rfl | rfl, rfl | rfl | rfl | rfl⟩ := hk3
    all_goals first | (exfalso; omega) | skip
    all_goals
      go_enter Tryz.func127, Tryz.ntmps127
      go_wp2
      go_returns
      exact ⟨by simp [HV.at, HV.tl], by go_grown⟩
end Go.Proofs.YthhceggcdaljdaaGreat
