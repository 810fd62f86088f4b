/- ProgAround: for every input the law returns true, and each argument reads as before; no conditions. -/
import Derived.Test.YtcflfakffeglgaaOpenIns
import Derived.Test.YtcflfakffeglgaaOpenNum
import Derived.Test.YtcflfakffeglgaaQp
import Derived.Test.YtcflfakffeglgaaQi
import Derived.Handed
namespace Go.Proofs.Ytcflfakffeglgaa.progAround
open Go.ChangeShapes Go.WideShapes Go.ChangeAt Go.RowKit
set_option linter.unusedVariables false

theorem contract (H : Type) (enc : TypeId × Value → H) (W : World) (base : Nat) (args : Array Value) (ds gs : List (DataW H)) (before : List MemPlace)
    (hval : ∀ (j : Nat) t v, Try.f6.params[j]? = some t → args[j]? = some v → Value.okWide Try.prog W .any base t v)
    (hW : DataW.Whole enc Try.prog Try.f6.params.toList Rows.progAroundSpec.vars false W args.toList ds gs before) :
    Calls Try.prog 6 args W fun e W' => ∃ v, e = .returned v ∧ Rows.progAroundSpec.post enc Try.prog Try.f6 false true false false W args v W' := by
  have hA : DataW.TrodAll enc Try.prog W 0 (fun _ => true) true Try.f6.params.toList args.toList ds _ := hW.choose_spec.choose_spec.1
  have hlen := lift_len hA
  rw [Try.params6] at hlen hval
  obtain ⟨l⟩ := args
  match l, ds, hlen with
  | [v0, v1], [e0, e1], _ =>
    refine lift_law (tb := 4) lift_laid Try.underlying4 (by kernel_rfl) (by rw [Try.params6]; intro t ht; revert t; decide +kernel) rfl rfl hW ?_
    obtain ⟨n0, rfl, hn0⟩ := open_num Try.underlying5 (hval 0 _ _ rfl rfl)
    have hm0 : 0 ≤ n0 ∧ n0 ≤ 255 := ⟨hn0.1, hn0.2⟩
    obtain ⟨k1, v1, rfl, hk1, hv1⟩ := open_rec2 (hval 1 _ _ rfl rfl)
    exact progAround_walk progC n0 hm0.1 hm0.2 k1 v1 hk1 hv1 W

set_option maxRecDepth 100000 in
theorem lifted (os : Os) (started : os.Started) (H : Type) (enc : TypeId × Value → H) :
    ReturnsInHanded {} Try.checked os 6 .any (Rows.progAroundSpec.pre6 enc Try.prog Try.f6 Rows.progAroundRow.domain false) (Rows.progAroundSpec.post enc Try.prog Try.f6 false true false false) := by
  refine returnsInHanded_of_change (C := Try.checked) lift_own started (by kernel_rfl) Try.func6
    (ChangeSpec.witness6 (enc := enc) (C := Try.checked) false ⟨#[], #[.int .u8 0, .agg #[.int .i64 0, .int .i64 0]], []⟩ 8 (by kernel_rfl) (by kernel_rfl) (by kernel_rfl) (by kernel_rfl)) ?_
  intro W base args ds gs before hval hW _ _
  exact contract H enc W base args ds gs before hval hW

theorem proved : Rows.ProgAroundSaid :=
  OpenClaim.holds_of_wide 6 Try.f6 rfl rfl rfl rfl rfl rfl rfl ⟨rfl, rfl, rfl, rfl, rfl⟩ rfl rfl rfl rfl rfl (by kernel_rfl) Try.func6 (by kernel_rfl)
    (of_decide_eq_true (by kernel_rfl)) (by unfold Func.isWrapper; first | (rw [if_pos (by decide +kernel)]; kernel_rfl) | (rw [if_neg (by decide +kernel)]; exact ⟨rfl, rfl⟩))
    (fun os started H enc _ => lifted os started H enc)
#print axioms proved
end Go.Proofs.Ytcflfakffeglgaa.progAround
