/- CellOrder: for every input the law returns true, and each argument reads as before; no conditions. -/
import Derived.Test.YthomddbekiknjaaGreatG44
import Derived.Test.YthomddbekiknjaaGreatH02
import Derived.Test.YthomddbekiknjaaGreatG43
import Derived.Handed
namespace Go.Proofs.YthomddbekiknjaaGreat.cellOrder
open Go.ChangeShapes Go.WideShapes Go.ChangeAt Go.RowKit
set_option linter.unusedVariables false

set_option maxRecDepth 100000 in
theorem contract (H : Type) (enc : TypeId × Value → H) (W : World) (base : Nat) (args : Array Value) (ds gs : List (DataW H)) (before : List MemPlace)
    (hval : ∀ (j : Nat) t v, Tryz.f5.params[j]? = some t → args[j]? = some v → Value.okWide Tryz.prog W .any base t v)
    (hW : DataW.Whole enc Tryz.prog Tryz.f5.params.toList Rows.cellOrderSpec.vars false W args.toList ds gs before) :
    Calls Tryz.prog 5 args W fun e W' => ∃ v, e = .returned v ∧ Rows.cellOrderSpec.post enc Tryz.prog Tryz.f5 false true false false W args v W' := by
  obtain ⟨ps0, hA⟩ : ∃ ps0, DataW.TrodAll enc Tryz.prog W 0 (fun _ => true) true Tryz.f5.params.toList args.toList ds ps0 := ⟨_, hW.choose_spec.choose_spec.1⟩
  have hlen := lift_len hA
  rw [Tryz.params5] at hlen hval hA
  obtain ⟨l⟩ := args
  match l, ds, hlen with
  | [v0, v1, v2, v3, v4, v5, v6, v7], [e0, e1, e2, e3, e4, e5, e6, e7], _ =>
    refine lift_law (tb := 4) lift_laid Tryz.underlying4 (by kernel_rfl) (by rw [Tryz.params5]; intro t ht; revert t; decide +kernel) rfl rfl hW ?_
    obtain ⟨pp0, pq0, hT0, hA, _⟩ := hA
    obtain ⟨pp1, pq1, hT1, hA, _⟩ := hA
    obtain ⟨pp2, pq2, hT2, hA, _⟩ := hA
    obtain ⟨pp3, pq3, hT3, hA, _⟩ := hA
    obtain ⟨pp4, pq4, hT4, hA, _⟩ := hA
    obtain ⟨pp5, pq5, hT5, hA, _⟩ := hA
    obtain ⟨pp6, pq6, hT6, hA, _⟩ := hA
    obtain ⟨pp7, pq7, hT7, hA, _⟩ := hA
    obtain ⟨xs0, hX0, hC0⟩ := open_cell (hval 0 _ _ rfl rfl) hT0
    obtain ⟨n1, rfl, hn1⟩ := open_num Tryz.underlying3 (hval 1 _ _ rfl rfl)
    obtain ⟨d2, p2, q2, r2, s2, rfl, _⟩ := open_time (hval 2 _ _ rfl rfl)
    obtain ⟨d3, p3, q3, r3, s3, rfl, _⟩ := open_time (hval 3 _ _ rfl rfl)
    obtain ⟨x4, rfl⟩ := open_rec (hval 4 _ _ rfl rfl)
    obtain ⟨x5, rfl⟩ := open_rec (hval 5 _ _ rfl rfl)
    obtain ⟨n6, rfl, hn6⟩ := open_num Tryz.underlying50 (hval 6 _ _ rfl rfl)
    have hm6 : -128 ≤ n6 ∧ n6 ≤ 127 := ⟨hn6.1, hn6.2⟩
    obtain ⟨n7, rfl, hn7⟩ := open_num Tryz.underlying50 (hval 7 _ _ rfl rfl)
    have hm7 : -128 ≤ n7 ∧ n7 ≤ 127 := ⟨hn7.1, hn7.2⟩
    exact cellOrder_walk cellC cawake_any xs0 _ n1 ⟨d2, p2, q2, r2, s2⟩ ⟨d3, p3, q3, r3, s3⟩ x4 x5 n6 n7 W hX0 hC0 hm6 hm7

set_option maxRecDepth 100000 in
theorem lifted (os : Os) (started : os.Started) (H : Type) (enc : TypeId × Value → H) :
    ReturnsInHanded {} Tryz.checked os 5 .any (Rows.cellOrderSpec.pre6 enc Tryz.prog Tryz.f5 Rows.cellOrderRow.domain false) (Rows.cellOrderSpec.post enc Tryz.prog Tryz.f5 false true false false) := by
  refine returnsInHanded_of_change (C := Tryz.checked) lift_own started (by kernel_rfl) Tryz.func5
    (ChangeSpec.witness6 (enc := enc) (C := Tryz.checked) false ⟨#[], #[.slice none 0 0, .int .i64 0, .agg #[.int .i64 0, .int .i64 0, .int .i64 0, .int .i64 0, .int .i64 0], .agg #[.int .i64 0, .int .i64 0, .int .i64 0, .int .i64 0, .int .i64 0], .agg #[.int .i64 0, .int .i64 0], .agg #[.int .i64 0, .int .i64 0], .int .i8 0, .int .i8 0], []⟩ 8 (by kernel_rfl) (by kernel_rfl) (by kernel_rfl) (by kernel_rfl)) ?_
  intro W base args ds gs before hval hW _ _
  exact contract H enc W base args ds gs before hval hW

theorem proved : Rows.CellOrderSaid :=
  OpenClaim.holds_of_wide 5 Tryz.f5 rfl rfl rfl rfl rfl rfl rfl ⟨rfl, rfl, rfl, rfl, rfl⟩ rfl rfl rfl rfl rfl (by kernel_rfl) Tryz.func5 (by kernel_rfl)
    (of_decide_eq_true (by kernel_rfl)) (by unfold Func.isWrapper; first | (rw [if_pos (by decide +kernel)]; kernel_rfl) | (rw [if_neg (by decide +kernel)]; exact ⟨rfl, rfl⟩))
    (fun os started H enc _ => lifted os started H enc)
#print axioms proved
end Go.Proofs.YthomddbekiknjaaGreat.cellOrder
