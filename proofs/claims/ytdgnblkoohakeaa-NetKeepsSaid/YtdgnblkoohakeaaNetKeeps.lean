/- NetKeeps: for every input the law returns true, and each argument reads as before; no conditions. -/
import Derived.Test.YtdgnblkoohakeaaOpenBox
import Derived.Test.YtdgnblkoohakeaaOpenNum
import Derived.Test.YtdgnblkoohakeaaUl
import Derived.Test.YtdgnblkoohakeaaUzd
import Derived.Handed
namespace Go.Proofs.Ytdgnblkoohakeaa.netKeeps
open Go.ChangeShapes Go.WideShapes Go.ChangeAt Go.RowKit
set_option linter.unusedVariables false

set_option maxRecDepth 100000 in
theorem contract (H : Type) (enc : TypeId × Value → H) (W : World) (base : Nat) (args : Array Value) (ds gs : List (DataW H)) (before : List MemPlace)
    (hval : ∀ (j : Nat) t v, Try.f4.params[j]? = some t → args[j]? = some v → Value.okWide Try.prog W .any base t v)
    (hW : DataW.Whole enc Try.prog Try.f4.params.toList Rows.netKeepsSpec.vars false W args.toList ds gs before) :
    Calls Try.prog 4 args W fun e W' => ∃ v, e = .returned v ∧ Rows.netKeepsSpec.post enc Try.prog Try.f4 false true false false W args v W' := by
  obtain ⟨ps0, hA⟩ : ∃ ps0, DataW.TrodAll enc Try.prog W 0 (fun _ => true) true Try.f4.params.toList args.toList ds ps0 := ⟨_, hW.choose_spec.choose_spec.1⟩
  have hlen := lift_len hA
  rw [Try.params4] at hlen hval hA
  obtain ⟨l⟩ := args
  match l, ds, hlen with
  | [v0, v1], [e0, e1], _ =>
    refine lift_law (tb := 4) lift_laid Try.underlying4 (by kernel_rfl) (by rw [Try.params4]; intro t ht; revert t; decide +kernel) rfl rfl hW ?_
    obtain ⟨pp0, pq0, hT0, hA, _⟩ := hA
    obtain ⟨pp1, pq1, hT1, hA, _⟩ := hA
    obtain ⟨xs0, hX0, hC0, hQ0⟩ := open_steps (hval 0 _ _ rfl rfl) hT0
    obtain ⟨n1, rfl, hn1⟩ := open_num Try.underlying5 (hval 1 _ _ rfl rfl)
    have hm1 : 0 ≤ n1 ∧ n1 ≤ 255 := ⟨hn1.1, hn1.2⟩
    exact netKeeps_walk netC xs0 n1 _ W hm1 hX0 hQ0

set_option maxRecDepth 100000 in
theorem lifted (os : Os) (started : os.Started) (H : Type) (enc : TypeId × Value → H) :
    ReturnsInHanded {} Try.checked os 4 .any (Rows.netKeepsSpec.pre6 enc Try.prog Try.f4 Rows.netKeepsRow.domain false) (Rows.netKeepsSpec.post enc Try.prog Try.f4 false true false false) := by
  refine returnsInHanded_of_change (C := Try.checked) lift_own started (by kernel_rfl) Try.func4
    (ChangeSpec.witness6 (enc := enc) (C := Try.checked) false ⟨#[], #[.slice none 0 0, .int .u8 0], []⟩ 8 (by kernel_rfl) (by kernel_rfl) (by kernel_rfl) (by kernel_rfl)) ?_
  intro W base args ds gs before hval hW _ _
  exact contract H enc W base args ds gs before hval hW

theorem proved : Rows.NetKeepsSaid :=
  OpenClaim.holds_of_wide 4 Try.f4 rfl rfl rfl rfl rfl rfl rfl ⟨rfl, rfl, rfl, rfl, rfl⟩ rfl rfl rfl rfl rfl (by kernel_rfl) Try.func4 (by kernel_rfl)
    (of_decide_eq_true (by kernel_rfl)) (by unfold Func.isWrapper; first | (rw [if_pos (by decide +kernel)]; kernel_rfl) | (rw [if_neg (by decide +kernel)]; exact ⟨rfl, rfl⟩))
    (fun os started H enc _ => lifted os started H enc)
#print axioms proved
end Go.Proofs.Ytdgnblkoohakeaa.netKeeps
