import Derived.Test.YtbjecaajeokdoaaBa
import Derived.Shelf.Spec.SlicesGrow
namespace Go.Proofs.Ytbjecaajeokdoaa
open Go.RowKit Go.Shelf
set_option linter.unusedVariables false
set_option linter.unusedSimpArgs false

/- the library's Grow, laid at rows of items -/
def growLI_ren : Go.Shelf.Ren := ⟨fun | 4 => 23 | n => n, fun | 22 => 25 | 25 => 31 | 3 => 3 | 4 => 4 | 9 => 9 | 20 => 20 | 0 => 0 | n => n, fun | n => n⟩
theorem growLI : Go.Proofs.Lays8.n4 Try.prog growLI_ren where
  mixed := by kernel_rfl
  f4 := ⟨ "slices.Grow[[]backwash/api.Item,backwash/api.Item]", by decide, Try.func23.trans (congrArg some (by kernel_rfl))⟩
  t0 := Try.underlying0
  a0 := Try.isAgg0
  z0 := Try.sizeOf0
  v0 := Try.zeroValue0
  t3 := Try.underlying3
  a3 := Try.isAgg3
  z3 := Try.sizeOf3
  v3 := Try.zeroValue3
  t4 := Try.underlying4
  a4 := Try.isAgg4
  z4 := Try.sizeOf4
  v4 := Try.zeroValue4
  t9 := Try.underlying9
  a9 := Try.isAgg9
  z9 := Try.sizeOf9
  v9 := Try.zeroValue9
  t20 := Try.underlying20
  a20 := Try.isAgg20
  z20 := Try.sizeOf20
  v20 := Try.zeroValue20
  t22 := Try.underlying25
  a22 := Try.isAgg25
  z22 := Try.sizeOf25
  v22 := Try.zeroValue25

theorem infoI : (Try.prog.info? 31).map (fun i => (i.zero, i.size, i.bytes)) = some (some (.agg #[.int .i64 0, .int .i64 0, .int .i64 0]), 3, 24) := RI.info
theorem growI_own (n m : Nat) (hn : n + m ≤ 2000000) (W : World) : Calls Try.prog 23 #[.slice none 0 0, .int .i64 ((n : Int) + (m : Int))] W (fun e w' => ∃ v, e = .returned v ∧ RI.Own W.heap.size w' v [] ∧ Below W.heap.size W w') := by
  rw [show ((n : Int) + (m : Int)) = ((n + m : Nat) : Int) by omega]
  by_cases h0 : n + m = 0
  · rw [h0]
    refine (Any8.slices_Grow_room growLI none 0 0 0 W (by decide) (by decide) (by decide) (by decide)).mono ?_
    rintro e w' ⟨rfl, rfl⟩
    exact ⟨_, rfl, RowKind.Own.nil RI _ _, Below.refl _ _⟩
  · obtain ⟨i0, hi, hz0, hz1, hz2⟩ := info_parts infoI
    refine (Any8.slices_Grow_grow growLI i0 (.agg #[.int .i64 0, .int .i64 0, .int .i64 0]) hi hz0 (by omega) none 0 0 (n + m) [] W (Nat.le_refl _) (by omega) (by rw [hz2]; omega) (by omega) (by simp) (fun _ => rfl) (fun a h => by cases h)).mono ?_
    rintro e w' ⟨rfl, rfl⟩
    have hge := grownCap_ge W (0 + (n + m)) 0 31
    have hle := grownCap_le_maxLen W (0 + (n + m)) 0 31 (by unfold maxLen; omega)
    have ht : growLI_ren.t 25 = 31 := rfl
    rw [ht]
    generalize grownCap W (0 + (n + m)) 0 31 = c at hge hle ⊢
    generalize hcs : ([].toArray ++ Builtin.zeroCells (Value.agg #[.int .i64 0, .int .i64 0, .int .i64 0]).cells (0 + (n + m) - 0) ++ Builtin.zeroCells (Value.agg #[.int .i64 0, .int .i64 0, .int .i64 0]).cells (c - (0 + (n + m)))) = cs
    have hsz : cs.size = c * 3 := by
      rw [← hcs]
      simp [size_zeroCells, Value.cells]
      omega
    refine ⟨_, rfl, ⟨rfl, .inr ⟨W.heap.size, c, cs, rfl, Nat.le_refl _, ?_, Nat.zero_le _, hle, hsz, rfl⟩⟩, ?_⟩
    · exact heap_alloc_new W.drew _
    · exact (Below.refl _ W).drew.alloc (Nat.le_refl _) _
end Go.Proofs.Ytbjecaajeokdoaa
