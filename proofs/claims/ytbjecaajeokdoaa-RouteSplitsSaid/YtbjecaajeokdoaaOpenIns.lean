/- instructions and records as arguments, with their bounds -/
import Derived.Test.YtbjecaajeokdoaaOpenAny
import Derived.Test.YtbjecaajeokdoaaOpenNum
import Derived.Test.YtbjecaajeokdoaaQ0
namespace Go.Proofs.Ytbjecaajeokdoaa
open Go.ChangeShapes Go.WideShapes Go.ChangeAt Go.RowKit Go.Deep
set_option linter.unusedVariables false
set_option linter.unusedSimpArgs false

theorem rec2_cells : Try.prog.cellTypes Try.prog.depth 29 = some [2, 2] := by kernel_rfl
theorem rec2_size : Try.prog.cellsOf 29 = 2 := by kernel_rfl
theorem i64_size2 : Try.prog.cellsOf 2 = 1 := by kernel_rfl
theorem int_size2 : Try.prog.cellsOf 3 = 1 := by kernel_rfl
theorem has_inR {n : Int} (h : IntKind.i64.has n) : inR n := ⟨h.1, h.2⟩
set_option maxRecDepth 100000 in
theorem open_rec2 {W : World} {r : Reach} {b : Nat} {v : Value} (h : Value.okWide Try.prog W r b 29 v) : ∃ k n : Int, v = .agg #[.int .i64 k, .int .i64 n] ∧ inR k ∧ inR n := by
  unfold Value.okWide at h
  rw [Try.underlying29] at h
  obtain ⟨cs, rfl, hsz, ts, hts, _, hall⟩ := h
  rw [rec2_cells] at hts
  obtain rfl := Option.some.inj hts
  rw [rec2_size] at hsz
  obtain ⟨l⟩ := cs
  match l, hsz with
  | [v0, v1], _ =>
    have g : ∀ (i : Nat) (v : Value), (#[v0, v1] : Array Value)[i]? = some v → ∃ n : Int, v = Value.int .i64 n ∧ IntKind.i64.has n := by
      intro i v hv
      obtain ⟨u, hu, hc⟩ := hall i v hv
      have hi : i < 2 := by have := (Array.getElem?_eq_some_iff.1 hv).1; simpa using this
      have hu3 : u = 2 := by
        match i, hi, hu with
        | 0, _, hu => simpa using hu.symm
        | 1, _, hu => simpa using hu.symm
      subst hu3
      exact cell_int Try.underlying2 hc
    obtain ⟨d, rfl, h0⟩ := g 0 v0 rfl
    obtain ⟨c0, rfl, h1⟩ := g 1 v1 rfl
    exact ⟨d, c0, rfl, has_inR h0, has_inR h1⟩
section
variable {H : Type} {enc : TypeId × Value → H} {w : World} {base : Nat} {sp : Nat → Bool} {held : Bool}
end
end Go.Proofs.Ytbjecaajeokdoaa
