/- records (RV), records that are counted (IV), rows of them -/
import Derived.Test.YtbjecaajeokdoaaRow
namespace Go.Proofs.Ytbjecaajeokdoaa
open Go.RowKit
set_option linter.unusedVariables false
set_option linter.unusedSimpArgs false

structure RV where
  k : Int
  v : Int
instance : Inhabited RV := ⟨⟨0, 0⟩⟩
instance : DecidableEq RV := fun a b =>
  if h : a.k = b.k ∧ a.v = b.v then .isTrue (by obtain ⟨h1, h2⟩ := h; cases a; cases b; simp only at h1 h2; subst h1; subst h2; rfl)
  else .isFalse fun e => h (by subst e; exact ⟨rfl, rfl⟩)
def RV.enc (r : RV) : List Value := [.int .i64 r.k, .int .i64 r.v]
abbrev RV.val (r : RV) : Value := .agg #[.int .i64 r.k, .int .i64 r.v]
structure IV where
  t : RV
  n : Int
instance : Inhabited IV := ⟨⟨default, 0⟩⟩
instance : DecidableEq IV := fun a b =>
  if h : a.t = b.t ∧ a.n = b.n then .isTrue (by obtain ⟨h1, h2⟩ := h; cases a; cases b; simp only at h1 h2; subst h1; subst h2; rfl)
  else .isFalse fun e => h (by subst e; exact ⟨rfl, rfl⟩)
def IV.enc (c : IV) : List Value := [.int .i64 c.t.k, .int .i64 c.t.v, .int .i64 c.n]
abbrev IV.val (c : IV) : Value := .agg #[.int .i64 c.t.k, .int .i64 c.t.v, .int .i64 c.n]
def RI : RowKind IV where
  enc := IV.enc
  k := 3
  k0 := by decide
  len := fun _ => rfl
  one := by
    intro c u hu
    simp [IV.enc] at hu
    rcases hu with rfl | rfl | rfl <;> rfl
  tE := 31
  tS := 25
  zero := .agg #[.int .i64 0, .int .i64 0, .int .i64 0]
  bytes := 24
  info := by kernel_rfl
  under := Try.underlying25
  zlen := rfl
  byt := by decide
theorem atI {w : World} {b off : Nat} {xs : List IV} (h : RI.Row w b off xs) (j : Nat) (hj : j < xs.length) :
    w.cell? ⟨b, off + j * 3, none⟩ = some (.int .i64 xs[j]!.t.k) ∧ w.cell? ⟨b, off + j * 3 + 1, none⟩ = some (.int .i64 xs[j]!.t.v) ∧ w.cell? ⟨b, off + j * 3 + 2, none⟩ = some (.int .i64 xs[j]!.n) :=
  ⟨h j hj 0 _ rfl, h j hj 1 _ rfl, h j hj 2 _ rfl⟩
theorem ownCapK {α : Type} {R : RowKind α} {B : Nat} {w : World} {v : Value} {xs : List α} (h : R.Own B w v xs) : capOk v := by
  obtain ⟨_, ⟨rfl, _⟩ | ⟨g, cap, cur, rfl, _, _, hle, _⟩⟩ := h
  · intro p n c e; cases e; exact Nat.le_refl _
  · intro p n c e; cases e; exact hle

/- the order -/
def RV.lt (a b : RV) : Bool := decide (a.k < b.k) || (decide (a.k = b.k) && decide (a.v < b.v))
theorem RV.lt_iff (a b : RV) : a.lt b = true ↔ a.k < b.k ∨ (a.k = b.k ∧ a.v < b.v) := by simp [RV.lt]
theorem RV.lt_no (a b : RV) : a.lt b = false ↔ ¬ (a.k < b.k ∨ (a.k = b.k ∧ a.v < b.v)) := by rw [← RV.lt_iff]; simp
theorem RV.ext2 {a b : RV} (h1 : a.k = b.k) (h2 : a.v = b.v) : a = b := by cases a; cases b; simp only at h1 h2; subst h1; subst h2; rfl
theorem RV.lt_trans {a b c : RV} (h : a.lt b = true) (k : b.lt c = true) : a.lt c = true := by
  rw [RV.lt_iff] at *; omega
theorem RV.lt_irrefl (a : RV) : a.lt a = false := by rw [RV.lt_no]; omega
theorem RV.lt_asym {a b : RV} (h : a.lt b = true) : b.lt a = false := by rw [RV.lt_iff] at h; rw [RV.lt_no]; omega
theorem RV.tri {a b : RV} (h : a.lt b = false) (k : b.lt a = false) : a = b := by
  rw [RV.lt_no] at *
  exact RV.ext2 (by omega) (by omega)
def cmpZ (a b : Int) : Int := if a < b then -1 else if b < a then 1 else 0
def orZ (a b : Int) : Int := if a ≠ 0 then a else b
def cmpR (a b : RV) : Int := orZ (cmpZ a.k b.k) (cmpZ a.v b.v)
theorem cmpR_lt (a b : RV) : decide (cmpR a b < 0) = a.lt b := by
  rw [Bool.eq_iff_iff, decide_eq_true_eq, RV.lt_iff]
  unfold cmpR orZ cmpZ
  repeat' split
  all_goals omega
theorem cmpR_gt (a b : RV) : decide (0 < cmpR a b) = b.lt a := by
  rw [Bool.eq_iff_iff, decide_eq_true_eq, RV.lt_iff]
  unfold cmpR orZ cmpZ
  repeat' split
  all_goals omega
theorem cmpR_zero (a b : RV) : cmpR a b = 0 ↔ a = b := by
  constructor
  · intro h
    refine RV.tri ?_ ?_
    · rw [← cmpR_lt, h]; rfl
    · rw [← cmpR_gt, h]; rfl
  · intro h
    subst h
    unfold cmpR orZ cmpZ
    simp
end Go.Proofs.Ytbjecaajeokdoaa
