/- NetRight: for every input the law returns true, and each argument reads as before; no conditions. -/
import Derived.Test.YtdgnblkoohakeaaOpenBox
import Derived.Test.YtdgnblkoohakeaaOpenNum
import Derived.Test.YtdgnblkoohakeaaUnr
import Derived.Handed
namespace Go.Proofs.Ytdgnblkoohakeaa.netRight
open Go.ChangeShapes Go.WideShapes Go.ChangeAt Go.RowKit
set_option linter.unusedVariables false

set_option maxRecDepth 100000 in
theorem contract (H : Type) (enc : TypeId × Value → H) (W : World) (base : Nat) (args : Array Value) (ds gs : List (DataW H)) (before : List MemPlace)
    (hval : ∀ (j : Nat) t v, Try.f3.params[j]? = some t → args[j]? = some v → Value.okWide Try.prog W .any base t v)
    (hW : DataW.Whole enc Try.prog Try.f3.params.toList Rows.netRightSpec.vars false W args.toList ds gs before) :
    Calls Try.prog 3 args W fun e W' => ∃ v, e = .returned v ∧ Rows.netRightSpec.post enc Try.prog Try.f3 false true false false W args v W' := by
  obtain ⟨ps0, hA⟩ : ∃ ps0, DataW.TrodAll enc Try.prog W 0 (fun _ => true) true Try.f3.params.toList args.toList ds ps0 := ⟨_, hW.choose_spec.choose_spec.1⟩
  have hlen := lift_len hA
  rw [Try.params3] at hlen hval hA
  obtain ⟨l⟩ := args
  match l, ds, hlen with
  | [v0, v1, v2, v3, v4, v5, v6], [e0, e1, e2, e3, e4, e5, e6], _ =>
    refine lift_law (tb := 4) lift_laid Try.underlying4 (by kernel_rfl) (by rw [Try.params3]; intro t ht; revert t; decide +kernel) rfl rfl hW ?_
    obtain ⟨pp0, pq0, hT0, hA, _⟩ := hA
    obtain ⟨pp1, pq1, hT1, hA, _⟩ := hA
    obtain ⟨pp2, pq2, hT2, hA, _⟩ := hA
    obtain ⟨pp3, pq3, hT3, hA, _⟩ := hA
    obtain ⟨pp4, pq4, hT4, hA, _⟩ := hA
    obtain ⟨pp5, pq5, hT5, hA, _⟩ := hA
    obtain ⟨pp6, pq6, hT6, hA, _⟩ := hA
    obtain ⟨xs0, hX0, hC0⟩ := open_boxes (hval 0 _ _ rfl rfl) hT0
    obtain ⟨n1, rfl, hn1⟩ := open_num Try.underlying3 (hval 1 _ _ rfl rfl)
    obtain ⟨n2, rfl, hn2⟩ := open_num Try.underlying3 (hval 2 _ _ rfl rfl)
    obtain ⟨n3, rfl, hn3⟩ := open_num Try.underlying3 (hval 3 _ _ rfl rfl)
    obtain ⟨n4, rfl, hn4⟩ := open_num Try.underlying3 (hval 4 _ _ rfl rfl)
    obtain ⟨n5, rfl, hn5⟩ := open_num Try.underlying3 (hval 5 _ _ rfl rfl)
    obtain ⟨m6, rfl⟩ := open_msg (hval 6 _ _ rfl rfl)
    exact netRight_walk xs0 _ n1 n2 n3 n4 n5 m6 W hX0

set_option maxRecDepth 100000 in
theorem lifted (os : Os) (started : os.Started) (H : Type) (enc : TypeId × Value → H) :
    ReturnsInHanded {} Try.checked os 3 .any (Rows.netRightSpec.pre6 enc Try.prog Try.f3 Rows.netRightRow.domain false) (Rows.netRightSpec.post enc Try.prog Try.f3 false true false false) := by
  refine returnsInHanded_of_change (C := Try.checked) lift_own started (by kernel_rfl) Try.func3
    (ChangeSpec.witness6 (enc := enc) (C := Try.checked) false ⟨#[], #[.slice none 0 0, .int .i64 0, .int .i64 0, .int .i64 0, .int .i64 0, .int .i64 0, .agg #[.int .i64 0, .int .i64 0, .int .i64 0, .int .i64 0, .int .i64 0, .int .i64 0, .int .i64 0, .int .i64 0, .int .i64 0, .int .i64 0]], []⟩ 8 (by kernel_rfl) (by kernel_rfl) (by kernel_rfl) (by kernel_rfl)) ?_
  intro W base args ds gs before hval hW _ _
  exact contract H enc W base args ds gs before hval hW

theorem proved : Rows.NetRightSaid :=
  OpenClaim.holds_of_wide 3 Try.f3 rfl rfl rfl rfl rfl rfl rfl ⟨rfl, rfl, rfl, rfl, rfl⟩ rfl rfl rfl rfl rfl (by kernel_rfl) Try.func3 (by kernel_rfl)
    (of_decide_eq_true (by kernel_rfl)) (by unfold Func.isWrapper; first | (rw [if_pos (by decide +kernel)]; kernel_rfl) | (rw [if_neg (by decide +kernel)]; exact ⟨rfl, rfl⟩))
    (fun os started H enc _ => lifted os started H enc)
#print axioms proved
end Go.Proofs.Ytdgnblkoohakeaa.netRight
