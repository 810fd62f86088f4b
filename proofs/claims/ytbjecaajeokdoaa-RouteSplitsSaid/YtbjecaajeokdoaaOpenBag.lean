/- records and items as arguments -/
import Derived.Test.YtbjecaajeokdoaaOpenAny
import Derived.Test.YtbjecaajeokdoaaBa
namespace Go.Proofs.Ytbjecaajeokdoaa
open Go.ChangeShapes Go.WideShapes Go.ChangeAt Go.RowKit Go.Deep
set_option linter.unusedVariables false
set_option linter.unusedSimpArgs false

theorem rec_cells : Try.prog.cellTypes Try.prog.depth 29 = some [2, 2] := by kernel_rfl
theorem rec_size : Try.prog.cellsOf 29 = 2 := by kernel_rfl
theorem item_size : Try.prog.cellsOf 31 = 3 := by kernel_rfl
theorem int64_size : Try.prog.cellsOf 2 = 1 := by kernel_rfl
theorem int_sizeI : Try.prog.cellsOf 3 = 1 := by kernel_rfl
set_option maxRecDepth 100000 in
theorem open_rec {W : World} {r : Reach} {b : Nat} {v : Value} (h : Value.okWide Try.prog W r b 29 v) : ∃ x : RV, v = x.val := by
  unfold Value.okWide at h
  rw [Try.underlying29] at h
  obtain ⟨cs, rfl, hsz, ts, hts, _, hall⟩ := h
  rw [rec_cells] at hts
  obtain rfl := Option.some.inj hts
  rw [rec_size] at hsz
  obtain ⟨l⟩ := cs
  match l, hsz with
  | [v0, v1], _ =>
    have g : ∀ (i : Nat) (v : Value), (#[v0, v1] : Array Value)[i]? = some v → ∃ n : Int, v = Value.int .i64 n ∧ IntKind.i64.has n := by
      intro i v hv
      obtain ⟨u, hu, hc⟩ := hall i v hv
      have hi : i < 2 := by have := (Array.getElem?_eq_some_iff.1 hv).1; simpa using this
      have hu3 : u = 2 := by
        match i, hi, hu with
        | 0, _, hu => simpa using hu.symm
        | 1, _, hu => simpa using hu.symm
      subst hu3
      exact cell_int Try.underlying2 hc
    obtain ⟨d, rfl, h0⟩ := g 0 v0 rfl
    obtain ⟨c0, rfl, h1⟩ := g 1 v1 rfl
    exact ⟨⟨d, c0⟩, rfl⟩
section
variable {H : Type} {enc : TypeId × Value → H} {w : World} {base : Nat} {sp : Nat → Bool} {held : Bool}
set_option maxRecDepth 100000 in
theorem open_rec_cells (n : Nat) (cs : List Value) (x : DataW H × List MemPlace) (h : DataW.trod enc Try.prog w base sp held n 29 cs = some x) : ∃ c : RV, cs = c.enc ∧ True := by
  obtain ⟨xs, m, _, _, hl, hxl, hf⟩ := DataW.trod_struct Try.underlying29 h
  rw [rec_size] at hl
  match cs, hl with
  | [v0, v1], _ =>
    match xs, hxl with
    | [y0, y1], _ =>
      have g0 := hf 0 ⟨ "K", 2, 0, false, "", "", 0⟩ rfl
      have g1 := hf 1 ⟨ "V", 2, 1, false, "", "", 8⟩ rfl
      dsimp only at g0 g1
      rw [int64_size] at g0 g1
      simp only [List.drop_zero, List.take_succ_cons, List.take_zero, List.drop_succ_cons, List.getElem?_cons_zero, List.getElem?_cons_succ] at g0 g1
      obtain ⟨t, e0, _, _⟩ := DataW.trod_int Try.underlying2 g0
      obtain ⟨k, e1, _, _⟩ := DataW.trod_int Try.underlying2 g1
      refine ⟨⟨t, k⟩, ?_, trivial⟩
      have r : [v0, v1] = [v0] ++ [v1] := rfl
      rw [r, e0, e1]
      rfl
set_option maxRecDepth 100000 in
theorem open_item_cells (n : Nat) (cs : List Value) (x : DataW H × List MemPlace) (h : DataW.trod enc Try.prog w base sp held n 31 cs = some x) : ∃ c : IV, cs = c.enc ∧ (-9223372036854775808 ≤ c.n ∧ c.n ≤ 9223372036854775807) := by
  obtain ⟨xs, m, _, _, hl, hxl, hf⟩ := DataW.trod_struct Try.underlying31 h
  rw [item_size] at hl
  match cs, hl with
  | [v0, v1, v2], _ =>
    match xs, hxl with
    | [y0, y1], _ =>
      have g0 := hf 0 ⟨ "Rec", 29, 0, false, "", "", 0⟩ rfl
      have g1 := hf 1 ⟨ "N", 3, 2, false, "", "", 16⟩ rfl
      dsimp only at g0 g1
      rw [rec_size] at g0
      rw [int_sizeI] at g1
      simp only [List.drop_zero, List.take_succ_cons, List.take_zero, List.drop_succ_cons, List.getElem?_cons_zero, List.getElem?_cons_succ] at g0 g1
      obtain ⟨t, e0, _⟩ := open_rec_cells _ _ _ g0
      obtain ⟨k, e1, _, hwf⟩ := DataW.trod_int Try.underlying3 g1
      refine ⟨⟨t, k⟩, ?_, ?_⟩
      · have r : [v0, v1, v2] = [v0, v1] ++ [v2] := rfl
        rw [r, e0, e1]
        rfl
      · have hh := Bool.and_eq_true_iff.1 hwf
        exact ⟨of_decide_eq_true hh.1, of_decide_eq_true hh.2⟩
set_option maxRecDepth 100000 in
theorem open_items {r : Reach} {b0 : Nat} {v : Value} {d : DataW H} {ps : List MemPlace} (hval : Value.okWide Try.prog w r b0 25 v) (hd : DataW.Trod enc Try.prog w base sp held 25 v d ps) : ∃ xs : List IV, RI.Is w v xs ∧ capOk v ∧ ∀ x ∈ xs, -9223372036854775808 ≤ x.n ∧ x.n ≤ 9223372036854775807 :=
  open_rows RI _ item_size open_item_cells hval hd
end
end Go.Proofs.Ytbjecaajeokdoaa
