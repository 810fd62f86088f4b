import Derived.Test.YtimfpbmlbihlnaaLift
import Derived.Test.YtimfpbmlbihlnaaH1
namespace Go.Proofs.Ytimfpbmlbihlnaa
open Go.ChangeShapes Go.WideShapes Go.ChangeAt Go.RowKit
set_option linter.unusedVariables false

theorem hop_cells : Try.prog.cellTypes Try.prog.depth 24 = some [3, 3, 3, 3, 3, 3, 3, 3, 3, 3, 3] := by kernel_rfl
theorem hop_size : Try.prog.cellsOf 24 = 11 := by kernel_rfl
theorem open_hop {W : World} {r : Reach} {b : Nat} {v : Value} (h : Value.okWide Try.prog W r b 24 v) : ∃ x : HV, v = x.val := by
  unfold Value.okWide at h
  rw [Try.underlying24] at h
  obtain ⟨cs, rfl, hsz, ts, hts, _, hall⟩ := h
  rw [hop_cells] at hts
  obtain rfl := Option.some.inj hts
  rw [hop_size] at hsz
  obtain ⟨l⟩ := cs
  match l, hsz with
  | [v0, v1, v2, v3, v4, v5, v6, v7, v8, v9, v10], _ =>
    have g : ∀ (i : Nat) (v : Value), (#[v0, v1, v2, v3, v4, v5, v6, v7, v8, v9, v10] : Array Value)[i]? = some v → ∃ n : Int, v = Value.int .i64 n := by
      intro i v hv
      obtain ⟨u, hu, hc⟩ := hall i v hv
      have hi : i < 11 := by have := (Array.getElem?_eq_some_iff.1 hv).1; simpa using this
      have hu3 : u = 3 := by
        match i, hi, hu with
        | 0, _, hu => simpa using hu.symm
        | 1, _, hu => simpa using hu.symm
        | 2, _, hu => simpa using hu.symm
        | 3, _, hu => simpa using hu.symm
        | 4, _, hu => simpa using hu.symm
        | 5, _, hu => simpa using hu.symm
        | 6, _, hu => simpa using hu.symm
        | 7, _, hu => simpa using hu.symm
        | 8, _, hu => simpa using hu.symm
        | 9, _, hu => simpa using hu.symm
        | 10, _, hu => simpa using hu.symm
      subst hu3
      obtain ⟨m, hm, _⟩ := cell_int Try.underlying3 hc
      exact ⟨m, hm⟩
    obtain ⟨x0, rfl⟩ := g 0 v0 rfl
    obtain ⟨x1, rfl⟩ := g 1 v1 rfl
    obtain ⟨x2, rfl⟩ := g 2 v2 rfl
    obtain ⟨x3, rfl⟩ := g 3 v3 rfl
    obtain ⟨x4, rfl⟩ := g 4 v4 rfl
    obtain ⟨x5, rfl⟩ := g 5 v5 rfl
    obtain ⟨x6, rfl⟩ := g 6 v6 rfl
    obtain ⟨x7, rfl⟩ := g 7 v7 rfl
    obtain ⟨x8, rfl⟩ := g 8 v8 rfl
    obtain ⟨x9, rfl⟩ := g 9 v9 rfl
    obtain ⟨x10, rfl⟩ := g 10 v10 rfl
    exact ⟨⟨x0, x1, x2, x3, x4, x5, x6, x7, x8, x9, x10⟩, rfl⟩
end Go.Proofs.Ytimfpbmlbihlnaa
