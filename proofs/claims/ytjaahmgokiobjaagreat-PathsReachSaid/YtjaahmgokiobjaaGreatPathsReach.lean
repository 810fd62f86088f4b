/- PathsReach: for every input the law returns true, and each argument reads as before; no conditions. -/
import Derived.Test.YtjaahmgokiobjaaGreatG16
import Derived.Test.YtjaahmgokiobjaaGreatG01
import Derived.Test.YtjaahmgokiobjaaGreatG42
import Derived.Test.YtjaahmgokiobjaaGreatG53
import Derived.Handed
namespace Go.Proofs.YtjaahmgokiobjaaGreat.pathsReach
open Go.ChangeShapes Go.WideShapes Go.ChangeAt Go.RowKit
set_option linter.unusedVariables false

set_option maxRecDepth 100000 in
theorem contract (H : Type) (enc : TypeId × Value → H) (W : World) (base : Nat) (args : Array Value) (ds gs : List (DataW H)) (before : List MemPlace)
    (hval : ∀ (j : Nat) t v, Tryz.f3.params[j]? = some t → args[j]? = some v → Value.okWide Tryz.prog W .any base t v)
    (hW : DataW.Whole enc Tryz.prog Tryz.f3.params.toList Rows.pathsReachSpec.vars false W args.toList ds gs before) :
    Calls Tryz.prog 3 args W fun e W' => ∃ v, e = .returned v ∧ Rows.pathsReachSpec.post enc Tryz.prog Tryz.f3 false true false false W args v W' := by
  obtain ⟨ps0, hA⟩ : ∃ ps0, DataW.TrodAll enc Tryz.prog W 0 (fun _ => true) true Tryz.f3.params.toList args.toList ds ps0 := ⟨_, hW.choose_spec.choose_spec.1⟩
  have hlen := lift_len hA
  rw [Tryz.params3] at hlen hval hA
  obtain ⟨l⟩ := args
  match l, ds, hlen with
  | [v0, v1, v2, v3, v4, v5], [e0, e1, e2, e3, e4, e5], _ =>
    refine lift_law (tb := 4) lift_laid Tryz.underlying4 (by kernel_rfl) (by rw [Tryz.params3]; intro t ht; revert t; decide +kernel) rfl rfl hW ?_
    obtain ⟨pp0, pq0, hT0, hA, _⟩ := hA
    obtain ⟨pp1, pq1, hT1, hA, _⟩ := hA
    obtain ⟨pp2, pq2, hT2, hA, _⟩ := hA
    obtain ⟨pp3, pq3, hT3, hA, _⟩ := hA
    obtain ⟨pp4, pq4, hT4, hA, _⟩ := hA
    obtain ⟨pp5, pq5, hT5, hA, _⟩ := hA
    obtain ⟨xs0, hX0, hC0⟩ := open_graph (hval 0 _ _ rfl rfl) hT0
    obtain ⟨n1, rfl, hn1⟩ := open_num Tryz.underlying3 (hval 1 _ _ rfl rfl)
    obtain ⟨d2, p2, q2, r2, s2, rfl, _⟩ := open_time (hval 2 _ _ rfl rfl)
    obtain ⟨n3, rfl, hn3⟩ := open_num Tryz.underlying3 (hval 3 _ _ rfl rfl)
    obtain ⟨d4, p4, q4, r4, s4, rfl, _⟩ := open_time (hval 4 _ _ rfl rfl)
    obtain ⟨xs5, hX5⟩ := open_pts (hval 5 _ _ rfl rfl) hT5
    exact pathsReach_walk xs0 n1 ⟨d2, p2, q2, r2, s2⟩ n3 ⟨d4, p4, q4, r4, s4⟩ xs5 _ _ W hX0 hC0 hX5

set_option maxRecDepth 100000 in
theorem lifted (os : Os) (started : os.Started) (H : Type) (enc : TypeId × Value → H) :
    ReturnsInHanded {} Tryz.checked os 3 .any (Rows.pathsReachSpec.pre6 enc Tryz.prog Tryz.f3 Rows.pathsReachRow.domain false) (Rows.pathsReachSpec.post enc Tryz.prog Tryz.f3 false true false false) := by
  refine returnsInHanded_of_change (C := Tryz.checked) lift_own started (by kernel_rfl) Tryz.func3
    (ChangeSpec.witness6 (enc := enc) (C := Tryz.checked) false ⟨#[], #[.agg #[.slice none 0 0, .slice none 0 0, .slice none 0 0, .slice none 0 0], .int .i64 0, .agg #[.int .i64 0, .int .i64 0, .int .i64 0, .int .i64 0, .int .i64 0], .int .i64 0, .agg #[.int .i64 0, .int .i64 0, .int .i64 0, .int .i64 0, .int .i64 0], .slice none 0 0], []⟩ 8 (by kernel_rfl) (by kernel_rfl) (by kernel_rfl) (by kernel_rfl)) ?_
  intro W base args ds gs before hval hW _ _
  exact contract H enc W base args ds gs before hval hW

theorem proved : Rows.PathsReachSaid :=
  OpenClaim.holds_of_wide 3 Tryz.f3 rfl rfl rfl rfl rfl rfl rfl ⟨rfl, rfl, rfl, rfl, rfl⟩ rfl rfl rfl rfl rfl (by kernel_rfl) Tryz.func3 (by kernel_rfl)
    (of_decide_eq_true (by kernel_rfl)) (by unfold Func.isWrapper; first | (rw [if_pos (by decide +kernel)]; kernel_rfl) | (rw [if_neg (by decide +kernel)]; exact ⟨rfl, rfl⟩))
    (fun os started H enc _ => lifted os started H enc)
#print axioms proved
end Go.Proofs.YtjaahmgokiobjaaGreat.pathsReach
