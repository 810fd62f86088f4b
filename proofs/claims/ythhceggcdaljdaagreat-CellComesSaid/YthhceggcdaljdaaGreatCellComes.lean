/- CellComes: for every input it is true, each argument as before; no conditions. -/
import Derived.Test.YthhceggcdaljdaaGreatG30
import Derived.Test.YthhceggcdaljdaaGreatK24
import Derived.Handed
namespace Go.Proofs.YthhceggcdaljdaaGreat.cellComes
open Go.ChangeShapes Go.WideShapes Go.ChangeAt Go.RowKit

set_option maxRecDepth 100000 in
theorem contract (H : Type) (enc : TypeId × Value → H) (W : World) (base : Nat) (args : Array Value) (ds gs : List (DataW H)) (before : List MemPlace)
    (hval : ∀ (j : Nat) t v, Tryz.f3.params[j]? = some t → args[j]? = some v → Value.okWide Tryz.prog W .any base t v)
    (hW : DataW.Whole enc Tryz.prog Tryz.f3.params.toList Rows.cellComesSpec.vars false W args.toList ds gs before) :
    Calls Tryz.prog 3 args W fun e W' => ∃ v, e = .returned v ∧ Rows.cellComesSpec.post enc Tryz.prog Tryz.f3 false true false false W args v W' := by
  obtain ⟨ps0, hA⟩ : ∃ ps0, DataW.TrodAll enc Tryz.prog W 0 (fun _ => true) true Tryz.f3.params.toList args.toList ds ps0 := ⟨_, hW.choose_spec.choose_spec.1⟩
  have hlen := lift_len hA
  rw [Tryz.params3] at hlen hval hA
  obtain ⟨l⟩ := args
  match l, ds, hlen with
  | [v0, v1, v2, v3, v4, v5], [e0, e1, e2, e3, e4, e5], _ =>
    refine lift_law (tb := 4) lift_laid Tryz.underlying4 (by kernel_rfl) (by rw [Tryz.params3]; intro t ht; revert t; decide +kernel) rfl rfl hW ?_
    obtain ⟨pp0, pq0, hT0, hA, _⟩ := hA
    obtain ⟨pp1, pq1, hT1, hA, _⟩ := hA
    obtain ⟨pp2, pq2, hT2, hA, _⟩ := hA
    obtain ⟨pp3, pq3, hT3, hA, _⟩ := hA
    obtain ⟨pp4, pq4, hT4, hA, _⟩ := hA
    obtain ⟨pp5, pq5, hT5, hA, _⟩ := hA
    obtain ⟨xs0, hX0, hC0⟩ := open_cell (hval 0 _ _ rfl rfl) hT0
    obtain ⟨n1, rfl, hn1⟩ := open_num Tryz.underlying3 (hval 1 _ _ rfl rfl)
    obtain ⟨n2, rfl, hn2⟩ := open_num Tryz.underlying3 (hval 2 _ _ rfl rfl)
    obtain ⟨d3, p3, q3, r3, s3, rfl, _⟩ := open_time (hval 3 _ _ rfl rfl)
    obtain ⟨x4, rfl⟩ := open_rec (hval 4 _ _ rfl rfl)
    obtain ⟨n5, rfl, hn5⟩ := open_num Tryz.underlying3 (hval 5 _ _ rfl rfl)
    exact cellComes_walk xs0 _ n1 n2 ⟨d3, p3, q3, r3, s3⟩ x4 n5 W hX0

set_option maxRecDepth 100000 in
theorem lifted (os : Os) (started : os.Started) (H : Type) (enc : TypeId × Value → H) :
    ReturnsInHanded {} Tryz.checked os 3 .any (Rows.cellComesSpec.pre6 enc Tryz.prog Tryz.f3 Rows.cellComesRow.domain false) (Rows.cellComesSpec.post enc Tryz.prog Tryz.f3 false true false false) := by
  refine returnsInHanded_of_change (C := Tryz.checked) lift_own started (by kernel_rfl) Tryz.func3
    (ChangeSpec.witness6 (enc := enc) (C := Tryz.checked) false ⟨#[], #[.slice none 0 0, .int .i64 0, .int .i64 0, .agg #[.int .i64 0, .int .i64 0, .int .i64 0, .int .i64 0, .int .i64 0], .agg #[.int .i64 0, .int .i64 0], .int .i64 0], []⟩ 8 (by kernel_rfl) (by kernel_rfl) (by kernel_rfl) (by kernel_rfl)) ?_
  intro W base args ds gs before hval hW _ _
  exact contract H enc W base args ds gs before hval hW

theorem proved : Rows.CellComesSaid :=
  OpenClaim.holds_of_wide 3 Tryz.f3 rfl rfl rfl rfl rfl rfl rfl ⟨rfl, rfl, rfl, rfl, rfl⟩ rfl rfl rfl rfl rfl (by kernel_rfl) Tryz.func3 (by kernel_rfl)
    (of_decide_eq_true (by kernel_rfl)) (by unfold Func.isWrapper; first | (rw [if_pos (by decide +kernel)]; kernel_rfl) | (rw [if_neg (by decide +kernel)]; exact ⟨rfl, rfl⟩))
    (fun os started H enc _ => lifted os started H enc)
end Go.Proofs.YthhceggcdaljdaaGreat.cellComes
