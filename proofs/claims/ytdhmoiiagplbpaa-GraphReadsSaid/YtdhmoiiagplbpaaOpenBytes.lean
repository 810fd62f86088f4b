/- bytes as an argument -/
import Derived.Test.YtdhmoiiagplbpaaOpenAny
import Derived.Test.YtdhmoiiagplbpaaWa
namespace Go.Proofs.Ytdhmoiiagplbpaa
open Go.ChangeShapes Go.WideShapes Go.ChangeAt Go.RowKit Go.Deep
set_option linter.unusedVariables false
set_option linter.unusedSimpArgs false

theorem byte_size : Try.prog.cellsOf 5 = 1 := by kernel_rfl
section
variable {H : Type} {enc : TypeId × Value → H} {w : World} {base : Nat} {sp : Nat → Bool} {held : Bool}
theorem open_byte_cells (n : Nat) (cs : List Value) (x : DataW H × List MemPlace) (h : DataW.trod enc Try.prog w base sp held n 5 cs = some x) : ∃ c : Int, cs = RB.enc c ∧ (0 ≤ c ∧ c < 256) := by
  obtain ⟨k, e1, _, hwf⟩ := DataW.trod_int Try.underlying5 h
  refine ⟨k, e1, ?_⟩
  have hh := Bool.and_eq_true_iff.1 hwf
  have h1 : (0 : Int) ≤ k := of_decide_eq_true hh.1
  have h2 : k ≤ 255 := of_decide_eq_true hh.2
  exact ⟨h1, by omega⟩
theorem open_bytes {r : Reach} {b0 : Nat} {v : Value} {d : DataW H} {ps : List MemPlace} (hval : Value.okWide Try.prog w r b0 29 v) (hd : DataW.Trod enc Try.prog w base sp held 29 v d ps) : ∃ xs : List Int, RB.Is w v xs ∧ capOk v ∧ okB xs :=
  open_rows RB _ byte_size open_byte_cells hval hd
end
end Go.Proofs.Ytdhmoiiagplbpaa
