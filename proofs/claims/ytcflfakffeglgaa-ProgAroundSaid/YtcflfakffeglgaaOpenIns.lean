/- instructions and records as arguments, with their bounds -/
import Derived.Test.YtcflfakffeglgaaOpenAny
import Derived.Test.YtcflfakffeglgaaOpenNum
import Derived.Test.YtcflfakffeglgaaQd
namespace Go.Proofs.Ytcflfakffeglgaa
open Go.ChangeShapes Go.WideShapes Go.ChangeAt Go.RowKit Go.Deep
set_option linter.unusedVariables false
set_option linter.unusedSimpArgs false

theorem rec2_cells : Try.prog.cellTypes Try.prog.depth 24 = some [2, 2] := by kernel_rfl
theorem rec2_size : Try.prog.cellsOf 24 = 2 := by kernel_rfl
theorem ins_size : Try.prog.cellsOf 33 = 2 := by kernel_rfl
theorem i64_size2 : Try.prog.cellsOf 2 = 1 := by kernel_rfl
theorem int_size2 : Try.prog.cellsOf 3 = 1 := by kernel_rfl
theorem has_inR {n : Int} (h : IntKind.i64.has n) : inR n := ⟨h.1, h.2⟩
set_option maxRecDepth 100000 in
theorem open_rec2 {W : World} {r : Reach} {b : Nat} {v : Value} (h : Value.okWide Try.prog W r b 24 v) : ∃ k n : Int, v = .agg #[.int .i64 k, .int .i64 n] ∧ inR k ∧ inR n := by
  unfold Value.okWide at h
  rw [Try.underlying24] at h
  obtain ⟨cs, rfl, hsz, ts, hts, _, hall⟩ := h
  rw [rec2_cells] at hts
  obtain rfl := Option.some.inj hts
  rw [rec2_size] at hsz
  obtain ⟨l⟩ := cs
  match l, hsz with
  | [v0, v1], _ =>
    have g : ∀ (i : Nat) (v : Value), (#[v0, v1] : Array Value)[i]? = some v → ∃ n : Int, v = Value.int .i64 n ∧ IntKind.i64.has n := by
      intro i v hv
      obtain ⟨u, hu, hc⟩ := hall i v hv
      have hi : i < 2 := by have := (Array.getElem?_eq_some_iff.1 hv).1; simpa using this
      have hu3 : u = 2 := by
        match i, hi, hu with
        | 0, _, hu => simpa using hu.symm
        | 1, _, hu => simpa using hu.symm
      subst hu3
      exact cell_int Try.underlying2 hc
    obtain ⟨d, rfl, h0⟩ := g 0 v0 rfl
    obtain ⟨c0, rfl, h1⟩ := g 1 v1 rfl
    exact ⟨d, c0, rfl, has_inR h0, has_inR h1⟩
section
variable {H : Type} {enc : TypeId × Value → H} {w : World} {base : Nat} {sp : Nat → Bool} {held : Bool}
set_option maxRecDepth 100000 in
theorem open_ins_cells (n : Nat) (cs : List Value) (x : DataW H × List MemPlace) (h : DataW.trod enc Try.prog w base sp held n 33 cs = some x) : ∃ c : NV, cs = c.enc ∧ inR c.n := by
  obtain ⟨xs, m, _, _, hl, hxl, hf⟩ := DataW.trod_struct Try.underlying33 h
  rw [ins_size] at hl
  match cs, hl with
  | [v0, v1], _ =>
    match xs, hxl with
    | [y0, y1], _ =>
      have g0 := hf 0 ⟨ "Op", 3, 0, false, "", "", 0⟩ rfl
      have g1 := hf 1 ⟨ "N", 2, 1, false, "", "", 8⟩ rfl
      dsimp only at g0 g1
      rw [int_size2] at g0
      rw [i64_size2] at g1
      simp only [List.drop_zero, List.take_succ_cons, List.take_zero, List.drop_succ_cons, List.getElem?_cons_zero, List.getElem?_cons_succ] at g0 g1
      obtain ⟨t, e0, _, _⟩ := DataW.trod_int Try.underlying3 g0
      obtain ⟨k, e1, _, hwf⟩ := DataW.trod_int Try.underlying2 g1
      refine ⟨⟨t, k⟩, ?_, ?_⟩
      · have r : [v0, v1] = [v0] ++ [v1] := rfl
        rw [r, e0, e1]
        rfl
      · have hh := Bool.and_eq_true_iff.1 hwf
        exact ⟨of_decide_eq_true hh.1, of_decide_eq_true hh.2⟩
theorem open_inss {r : Reach} {b0 : Nat} {v : Value} {d : DataW H} {ps : List MemPlace} (hval : Value.okWide Try.prog w r b0 22 v) (hd : DataW.Trod enc Try.prog w base sp held 22 v d ps) : ∃ xs : List NV, RC.Is w v xs ∧ capOk v ∧ ∀ x ∈ xs, inR x.n :=
  open_rows RC _ ins_size open_ins_cells hval hd
end
end Go.Proofs.Ytcflfakffeglgaa
