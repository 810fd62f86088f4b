import Derived.Test.YtimfpbmlbihlnaaLift
namespace Go.Proofs.Ytimfpbmlbihlnaa
open Go.ChangeShapes Go.WideShapes Go.ChangeAt Go.RowKit
set_option linter.unusedVariables false

theorem time_cells : Try.prog.cellTypes Try.prog.depth 26 = some [3, 3, 3, 3, 3] := by kernel_rfl
theorem time_size : Try.prog.cellsOf 26 = 5 := by kernel_rfl
set_option maxRecDepth 100000 in
theorem open_time {W : World} {r : Reach} {b : Nat} {v : Value} (h : Value.okWide Try.prog W r b 26 v) :
    ∃ d c0 c1 c2 c3 : Int, v = .agg #[.int .i64 d, .int .i64 c0, .int .i64 c1, .int .i64 c2, .int .i64 c3] ∧ IntKind.i64.has d ∧ IntKind.i64.has c0 ∧ IntKind.i64.has c1 ∧ IntKind.i64.has c2 ∧ IntKind.i64.has c3 := by
  unfold Value.okWide at h
  rw [Try.underlying26] at h
  obtain ⟨cs, rfl, hsz, ts, hts, _, hall⟩ := h
  rw [time_cells] at hts
  obtain rfl := Option.some.inj hts
  rw [time_size] at hsz
  obtain ⟨l⟩ := cs
  match l, hsz with
  | [v0, v1, v2, v3, v4], _ =>
    have g : ∀ (i : Nat) (v : Value), (#[v0, v1, v2, v3, v4] : Array Value)[i]? = some v → ∃ n : Int, v = Value.int .i64 n ∧ IntKind.i64.has n := by
      intro i v hv
      obtain ⟨u, hu, hc⟩ := hall i v hv
      have hi : i < 5 := by have := (Array.getElem?_eq_some_iff.1 hv).1; simpa using this
      have hu3 : u = 3 := by
        match i, hi, hu with
        | 0, _, hu => simpa using hu.symm
        | 1, _, hu => simpa using hu.symm
        | 2, _, hu => simpa using hu.symm
        | 3, _, hu => simpa using hu.symm
        | 4, _, hu => simpa using hu.symm
      subst hu3
      exact cell_int Try.underlying3 hc
    obtain ⟨d, rfl, h0⟩ := g 0 v0 rfl
    obtain ⟨c0, rfl, h1⟩ := g 1 v1 rfl
    obtain ⟨c1, rfl, h2⟩ := g 2 v2 rfl
    obtain ⟨c2, rfl, h3⟩ := g 3 v3 rfl
    obtain ⟨c3, rfl, h4⟩ := g 4 v4 rfl
    exact ⟨d, c0, c1, c2, c3, rfl, h0, h1, h2, h3, h4⟩
end Go.Proofs.Ytimfpbmlbihlnaa
