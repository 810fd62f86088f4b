import Derived.Test.YtgmpgemgoplafaaG03
import Derived.Shelf.Spec.SlicesGrow
import Derived.Test.YtgmpgemgoplafaaG33
namespace Go.Proofs.Ytgmpgemgoplafaa
open Go.RowKit Go.Shelf
set_option linter.unusedVariables false
set_option linter.unusedSimpArgs false

/- the library's Grow, laid at rows of items -/
def growLI_ren : Go.Shelf.Ren := ⟨fun | 4 => 52 | n => n, fun | 22 => 28 | 25 => 43 | 3 => 3 | 4 => 4 | 9 => 9 | 20 => 20 | 0 => 0 | n => n, fun | n => n⟩
theorem growLI : Go.Proofs.Lays8.n4 Try.prog growLI_ren where
  mixed := by kernel_rfl
  f4 := ⟨ "slices.Grow[[]backwash/api.Item,backwash/api.Item]", by decide, Try.func52.trans (congrArg some (by kernel_rfl))⟩
  t0 := Try.underlying0
  a0 := Try.isAgg0
  z0 := Try.sizeOf0
  v0 := Try.zeroValue0
  t3 := Try.underlying3
  a3 := Try.isAgg3
  z3 := Try.sizeOf3
  v3 := Try.zeroValue3
  t4 := Try.underlying4
  a4 := Try.isAgg4
  z4 := Try.sizeOf4
  v4 := Try.zeroValue4
  t9 := Try.underlying9
  a9 := Try.isAgg9
  z9 := Try.sizeOf9
  v9 := Try.zeroValue9
  t20 := Try.underlying20
  a20 := Try.isAgg20
  z20 := Try.sizeOf20
  v20 := Try.zeroValue20
  t22 := Try.underlying28
  a22 := Try.isAgg28
  z22 := Try.sizeOf28
  v22 := Try.zeroValue28

theorem infoI : (Try.prog.info? 43).map (fun i => (i.zero, i.size, i.bytes)) = some (some (.agg #[.int .i64 0, .int .i64 0, .int .i64 0]), 3, 24) := RI.info
theorem growI_own (n m : Nat) (hn : n + m ≤ 2000000) (W : World) : Calls Try.prog 52 #[.slice none 0 0, .int .i64 ((n : Int) + (m : Int))] W (fun e w' => ∃ v, e = .returned v ∧ RI.Own W.heap.size w' v [] ∧ Below W.heap.size W w') := by
  rw [show ((n : Int) + (m : Int)) = ((n + m : Nat) : Int) by omega]
  by_cases h0 : n + m = 0
  · rw [h0]
    refine (Any8.slices_Grow_room growLI none 0 0 0 W (by decide) (by decide) (by decide) (by decide)).mono ?_
    rintro e w' ⟨rfl, rfl⟩
    exact ⟨_, rfl, RowKind.Own.nil RI _ _, Below.refl _ _⟩
  · obtain ⟨i0, hi, hz0, hz1, hz2⟩ := info_parts infoI
    refine (Any8.slices_Grow_grow growLI i0 (.agg #[.int .i64 0, .int .i64 0, .int .i64 0]) hi hz0 (by omega) none 0 0 (n + m) [] W (Nat.le_refl _) (by omega) (by rw [hz2]; omega) (by omega) (by simp) (fun _ => rfl) (fun a h => by cases h)).mono ?_
    rintro e w' ⟨rfl, rfl⟩
    have hge := grownCap_ge W (0 + (n + m)) 0 43
    have hle := grownCap_le_maxLen W (0 + (n + m)) 0 43 (by unfold maxLen; omega)
    have ht : growLI_ren.t 25 = 43 := rfl
    rw [ht]
    generalize grownCap W (0 + (n + m)) 0 43 = c at hge hle ⊢
    generalize hcs : ([].toArray ++ Builtin.zeroCells (Value.agg #[.int .i64 0, .int .i64 0, .int .i64 0]).cells (0 + (n + m) - 0) ++ Builtin.zeroCells (Value.agg #[.int .i64 0, .int .i64 0, .int .i64 0]).cells (c - (0 + (n + m)))) = cs
    have hsz : cs.size = c * 3 := by
      rw [← hcs]
      simp [size_zeroCells, Value.cells]
      omega
    refine ⟨_, rfl, ⟨rfl, .inr ⟨W.heap.size, c, cs, rfl, Nat.le_refl _, ?_, Nat.zero_le _, hle, hsz, rfl⟩⟩, ?_⟩
    · exact heap_alloc_new W.drew _
    · exact (Below.refl _ W).drew.alloc (Nat.le_refl _) _
end Go.Proofs.Ytgmpgemgoplafaa
/- the library's Concat of two rows of items -/
namespace Go.Proofs.Ytgmpgemgoplafaa
open Go.RowKit
set_option linter.unusedVariables false
set_option linter.unusedSimpArgs false

set_option maxRecDepth 100000 in
set_option maxHeartbeats 8000000 in
theorem concatI2_any (xs ys : List IV) (va vb : Value) (g : Nat) (w : World) (hlen : xs.length + ys.length ≤ 900000) (ha : RI.Is w va xs) (hb : RI.Is w vb ys)
    (g0 : w.cell? ⟨g, 0, none⟩ = some va) (g1 : w.cell? ⟨g, 1, none⟩ = some vb) (hg : g < w.heap.size) :
    Calls Try.prog 32 #[.slice (some ⟨g, 0, none⟩) 2 2] w (RI.Made (xs ++ ys) w) := by
  obtain ⟨p, c, rfl⟩ := ha.slice
  obtain ⟨q, d, rfl⟩ := hb.slice
  have HG : Hid (∀ W, Calls Try.prog 52 #[.slice none 0 0, .int .i64 ((xs.length : Int) + (ys.length : Int))] W (fun e w' => ∃ v, e = .returned v ∧ RI.Own W.heap.size w' v [] ∧ Below W.heap.size W w')) := fun W => growI_own xs.length ys.length (by omega) W
  have HA := Lib.hid ha; have HB := Lib.hid hb
  clear ha hb
  generalize hn : xs.length = n at *
  generalize hk : ys.length = m at *
  have HL1 : Hid (([] : List IV).length + xs.length ≤ 1000000) := by show _ ≤ _; rw [hn]; simp; omega
  have HL2 : Hid ((([] : List IV) ++ xs).length + ys.length ≤ 1000000) := by show _ ≤ _; rw [List.nil_append, hn, hk]; omega
  have HN := Lib.hid hn; have HK := Lib.hid hk
  clear hn hk
  have hne : ¬ ((n : Int) + (m : Int) < 0) := by omega
  go_enter Try.func32, Try.ntmps32
  go_wp2
  refine wp_loop_rounds 3 ?_
  rw [rounds_succ]
  go_wp2
  rw [rounds_succ]
  go_wp2
  rw [rounds_succ]
  go_wp2_with fail
  refine (HG.out _).mono ?_
  rintro ee w1 ⟨u, rfl, hO, hB⟩
  have h0 : w1.cell? ⟨g, 0, none⟩ = some (.slice p n c) := by rw [hB.cell (p := ⟨g, 0, none⟩) hg]; exact g0
  have h1 : w1.cell? ⟨g, 1, none⟩ = some (.slice q m d) := by rw [hB.cell (p := ⟨g, 1, none⟩) hg]; exact g1
  have HO := Lib.hid hO; have HB1 := Lib.hid hB
  have HZ := Lib.hid hB.size
  clear g0 g1 hO hB
  go_wp2
  refine wp_loop_rounds 3 ?_
  rw [rounds_succ]
  go_wp2_with (at_builtin; refine RowKind.Own.appendAny (R := RI) (ys := xs) HO.out HB1.out HZ.out rfl _ _ rfl rfl rfl (HA.out.below HB1.out) HL1.out ?_; intro v2 w2 hO2 hB2 hz2)
  have k1 : w2.cell? ⟨g, 1, none⟩ = some (.slice q m d) := by rw [hB2.cell (p := ⟨g, 1, none⟩) hg, ← HB1.out.cell (p := ⟨g, 1, none⟩) hg]; exact h1
  have HO2 := Lib.hid hO2; have HB2 := Lib.hid hB2
  have HZ2 := Lib.hid hB2.size
  clear h0 h1 hO2 hB2
  rw [rounds_succ]
  go_wp2_with (at_builtin; refine RowKind.Own.appendAny (R := RI) (ys := ys) HO2.out HB2.out HZ2.out rfl _ _ rfl rfl rfl (HB.out.below HB2.out) HL2.out ?_; intro v3 w3 hO3 hB3 hz3)
  have HO3 := Lib.hid hO3; have HB3 := Lib.hid hB3
  clear hO3 hB3 k1
  rw [rounds_succ]
  go_wp2
  go_returns
  exact ⟨_, rfl, HO3.out, HB3.out⟩
end Go.Proofs.Ytgmpgemgoplafaa
