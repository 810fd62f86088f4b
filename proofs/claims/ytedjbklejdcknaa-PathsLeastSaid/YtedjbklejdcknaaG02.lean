import Derived.Test.YtedjbklejdcknaaG01
import Derived.Deep.Light
namespace Go.Proofs.Ytedjbklejdcknaa
open Go.RowKit
set_option linter.unusedVariables false
set_option linter.unusedSimpArgs false
attribute [local go_sem] ix4_0 ix4_1 ix4_2 ix4_3

/-- a step's numbers -/
structure HV where
  f : Int
  k : Int
  t : Int
  a0 : Int
  a1 : Int
  a2 : Int
  a3 : Int
  b0 : Int
  b1 : Int
  b2 : Int
  b3 : Int
abbrev HV.val (h : HV) : Value := .agg #[.int .i64 h.f, .int .i64 h.k, .int .i64 h.t, .int .i64 h.a0, .int .i64 h.a1, .int .i64 h.a2, .int .i64 h.a3, .int .i64 h.b0, .int .i64 h.b1, .int .i64 h.b2, .int .i64 h.b3]
/-- a timestamp's numbers -/
structure TV where
  d : Int
  c0 : Int
  c1 : Int
  c2 : Int
  c3 : Int
abbrev TV.val (t : TV) : Value := .agg #[.int .i64 t.d, .int .i64 t.c0, .int .i64 t.c1, .int .i64 t.c2, .int .i64 t.c3]
def HV.zero : HV := ⟨0, 0, 0, 0, 0, 0, 0, 0, 0, 0, 0⟩
def TV.zero : TV := ⟨0, 0, 0, 0, 0⟩

def fitsP (l0 l1 l2 l3 n : Int) : Prop := (0 ≤ l0 ∧ l0 ≤ 1048576 ∧ (0 < n ∨ l0 = 0)) ∧ (0 ≤ l1 ∧ l1 ≤ 1048576 ∧ (1 < n ∨ l1 = 0)) ∧ (0 ≤ l2 ∧ l2 ≤ 1048576 ∧ (2 < n ∨ l2 = 0)) ∧ (0 ≤ l3 ∧ l3 ≤ 1048576 ∧ (3 < n ∨ l3 = 0))
instance (l0 l1 l2 l3 n : Int) : Decidable (fitsP l0 l1 l2 l3 n) := by unfold fitsP; infer_instance
def fitsB (l0 l1 l2 l3 n : Int) : Bool := decide (fitsP l0 l1 l2 l3 n)

set_option maxHeartbeats 4000000 in
theorem fits_any (l0 l1 l2 l3 n : Int) (w : World) :
    Calls Try.prog 30 #[.agg #[.int .i64 l0, .int .i64 l1, .int .i64 l2, .int .i64 l3], .int .i64 n] w (Ret (.bool (fitsB l0 l1 l2 l3 n)) w) := by
  go_enter Try.func30, Try.ntmps30
  go_wp2
  go_rounds 5
  all_goals (try go_wp2)
  all_goals go_returns
  all_goals refine ⟨ret_bool ?_, by go_grown⟩
  all_goals (go_light; (try simp only [bne_eq_false_iff_eq, bne_iff_ne, ne_eq] at *); simp only [fitsB, fitsP]; first | (apply Eq.symm; apply decide_eq_true; omega) | (apply Eq.symm; apply decide_eq_false; omega))

theorem gives_any (h : HV) (h0 : 0 ≤ h.k) (h1 : h.k ≤ 4) (h2 : 0 ≤ h.t) (h3 : h.t ≤ 4) (w : World) :
    Calls Try.prog 29 #[h.val] w (Ret (.int .i64 (h.k + h.t)) w) := by
  go_enter Try.func29, Try.ntmps29
  go_wp2
  go_returns
  exact ⟨rfl, by go_grown⟩

def HV.add (h : HV) (i : Int) : Int := if i = 0 then h.a0 else if i = 1 then h.a1 else if i = 2 then h.a2 else h.a3
def HV.tl (h : HV) (i : Int) : Int := if i = 0 then h.b0 else if i = 1 then h.b1 else if i = 2 then h.b2 else h.b3
/-- what stands at a place of what a step gives -/
def HV.at (h : HV) (i : Int) : Int := if i < h.k then h.add i else h.tl (i - h.k)

set_option maxHeartbeats 4000000 in
theorem at_any (h : HV) (i : Int) (h0 : 0 ≤ h.k) (h1 : h.k ≤ 4) (h2 : 0 ≤ h.t) (h3 : h.k + h.t ≤ 4) (hi : 0 ≤ i) (hg : i < h.k + h.t) (w : World) :
    Calls Try.prog 31 #[h.val, .int .i64 i] w (Ret (.tuple #[.int .i64 (h.at i), .bool (decide (i < h.k))]) w) := by
  obtain ⟨f, k, t, a0, a1, a2, a3, b0, b1, b2, b3⟩ := h
  simp only at h0 h1 h2 h3 hg
  by_cases hk : i < k
  · have hi3 : i = 0 ∨ i = 1 ∨ i = 2 ∨ i = 3 := by omega
    rw [show decide (i < k) = true from decide_eq_true hk]
    rcases hi3 with rfl | rfl | rfl | rfl
    all_goals
      go_enter Try.func31, Try.ntmps31
      go_wp2
      go_returns
      exact ⟨by simp [HV.at, HV.add, hk], by go_grown⟩
  · have hk3 : (k = 0 ∨ k = 1 ∨ k = 2 ∨ k = 3) ∧ (i = 0 ∨ i = 1 ∨ i = 2 ∨ i = 3) := by omega
    rw [show decide (i < k) = false from decide_eq_false hk]
    obtain ⟨rfl | rfl | rfl | rfl, rfl | rfl | rfl | rfl⟩ := hk3
    all_goals first | (exfalso; omega) | skip
    all_goals
      go_enter Try.func31, Try.ntmps31
      go_wp2
      go_returns
      exact ⟨by simp [HV.at, HV.tl], by go_grown⟩
end Go.Proofs.Ytedjbklejdcknaa
namespace Go.Proofs.Ytedjbklejdcknaa
open Go.ChangeShapes Go.WideShapes Go.ChangeAt Go.RowKit
set_option linter.unusedVariables false

theorem hop_cells : Try.prog.cellTypes Try.prog.depth 39 = some [3, 3, 3, 3, 3, 3, 3, 3, 3, 3, 3] := by kernel_rfl
theorem hop_size : Try.prog.cellsOf 39 = 11 := by kernel_rfl
set_option maxRecDepth 100000 in
theorem open_hop {W : World} {r : Reach} {b : Nat} {v : Value} (h : Value.okWide Try.prog W r b 39 v) : ∃ x : HV, v = x.val := by
  unfold Value.okWide at h
  rw [Try.underlying39] at h
  obtain ⟨cs, rfl, hsz, ts, hts, _, hall⟩ := h
  rw [hop_cells] at hts
  obtain rfl := Option.some.inj hts
  rw [hop_size] at hsz
  obtain ⟨l⟩ := cs
  match l, hsz with
  | [v0, v1, v2, v3, v4, v5, v6, v7, v8, v9, v10], _ =>
    have g : ∀ (i : Nat) (v : Value), (#[v0, v1, v2, v3, v4, v5, v6, v7, v8, v9, v10] : Array Value)[i]? = some v → ∃ n : Int, v = Value.int .i64 n := by
      intro i v hv
      obtain ⟨u, hu, hc⟩ := hall i v hv
      have hi : i < 11 := by have := (Array.getElem?_eq_some_iff.1 hv).1; simpa using this
      have hu3 : u = 3 := by
        match i, hi, hu with
        | 0, _, hu => simpa using hu.symm
        | 1, _, hu => simpa using hu.symm
        | 2, _, hu => simpa using hu.symm
        | 3, _, hu => simpa using hu.symm
        | 4, _, hu => simpa using hu.symm
        | 5, _, hu => simpa using hu.symm
        | 6, _, hu => simpa using hu.symm
        | 7, _, hu => simpa using hu.symm
        | 8, _, hu => simpa using hu.symm
        | 9, _, hu => simpa using hu.symm
        | 10, _, hu => simpa using hu.symm
      subst hu3
      obtain ⟨m, hm, _⟩ := cell_int Try.underlying3 hc
      exact ⟨m, hm⟩
    obtain ⟨x0, rfl⟩ := g 0 v0 rfl
    obtain ⟨x1, rfl⟩ := g 1 v1 rfl
    obtain ⟨x2, rfl⟩ := g 2 v2 rfl
    obtain ⟨x3, rfl⟩ := g 3 v3 rfl
    obtain ⟨x4, rfl⟩ := g 4 v4 rfl
    obtain ⟨x5, rfl⟩ := g 5 v5 rfl
    obtain ⟨x6, rfl⟩ := g 6 v6 rfl
    obtain ⟨x7, rfl⟩ := g 7 v7 rfl
    obtain ⟨x8, rfl⟩ := g 8 v8 rfl
    obtain ⟨x9, rfl⟩ := g 9 v9 rfl
    obtain ⟨x10, rfl⟩ := g 10 v10 rfl
    exact ⟨⟨x0, x1, x2, x3, x4, x5, x6, x7, x8, x9, x10⟩, rfl⟩
end Go.Proofs.Ytedjbklejdcknaa
