/- records held against each other: cmp.Compare, cmp.Or, bag.compare, bag.Less -/
import Derived.Test.YtbjecaajeokdoaaBa
import Derived.Deep.RegionHeldLaw
namespace Go.Proofs.Ytbjecaajeokdoaa
open Go.RowKit
set_option linter.unusedVariables false
set_option linter.unusedSimpArgs false

theorem nan_any (a : Int) (w : World) : Calls Try.prog 24 #[.int .i64 a] w (RetW (.bool false) w) := by
  go_enter Try.func24, Try.ntmps24
  go_wp2
  go_returns
  exact ⟨by simp, rfl⟩
theorem compareZ_any (a b : Int) (w : World) : Calls Try.prog 22 #[.int .i64 a, .int .i64 b] w (RetW (.int .i64 (cmpZ a b)) w) := by
  have HA := Lib.hid (fun W => nan_any a W)
  have HB := Lib.hid (fun W => nan_any b W)
  by_cases h1 : a < b
  · have hc : cmpZ a b = -1 := by unfold cmpZ; rw [if_pos h1]
    rw [hc]; clear hc
    go_enter Try.func22, Try.ntmps22
    go_wp2_with fail
    refine (HA.out _).mono ?_
    rintro e w1 ⟨rfl, rfl⟩
    go_wp2_with fail
    refine (HB.out _).mono ?_
    rintro e w1 ⟨rfl, rfl⟩
    go_wp2
    go_returns
    exact ⟨rfl, rfl⟩
  · by_cases h2 : b < a
    · have hc : cmpZ a b = 1 := by unfold cmpZ; rw [if_neg h1, if_pos h2]
      rw [hc]; clear hc
      go_enter Try.func22, Try.ntmps22
      go_wp2_with fail
      refine (HA.out _).mono ?_
      rintro e w1 ⟨rfl, rfl⟩
      go_wp2_with fail
      refine (HB.out _).mono ?_
      rintro e w1 ⟨rfl, rfl⟩
      go_wp2
      go_returns
      exact ⟨rfl, rfl⟩
    · have hc : cmpZ a b = 0 := by unfold cmpZ; rw [if_neg h1, if_neg h2]
      rw [hc]; clear hc
      go_enter Try.func22, Try.ntmps22
      go_wp2_with fail
      refine (HA.out _).mono ?_
      rintro e w1 ⟨rfl, rfl⟩
      go_wp2_with fail
      refine (HB.out _).mono ?_
      rintro e w1 ⟨rfl, rfl⟩
      go_wp2
      go_returns
      exact ⟨rfl, rfl⟩
theorem or_any (a b : Int) (g : Nat) (w : World) (h0 : w.cell? ⟨g, 0, none⟩ = some (.int .i64 a)) (h1 : w.cell? ⟨g, 1, none⟩ = some (.int .i64 b)) :
    Calls Try.prog 21 #[.slice (some ⟨g, 0, none⟩) 2 2] w (RetW (.int .i64 (orZ a b)) w) := by
  by_cases ha : a = 0
  · have hab : (a != 0) = false := by simp [ha]
    rw [show orZ a b = b from if_neg (by simpa using ha)]
    by_cases hb : b = 0
    · have hbb : (b != 0) = false := by simp [hb]
      clear ha
      subst hb
      clear hbb
      go_enter Try.func21, Try.ntmps21
      go_wp2
      refine wp_loop_rounds 3 ?_
      rw [rounds_succ]
      go_wp2
      rw [rounds_succ]
      go_wp2
      rw [rounds_succ]
      go_wp2
      go_returns
      exact ⟨rfl, rfl⟩
    · have hbb : (b != 0) = true := by simp [hb]
      clear ha hb
      go_enter Try.func21, Try.ntmps21
      go_wp2
      refine wp_loop_rounds 3 ?_
      rw [rounds_succ]
      go_wp2
      rw [rounds_succ]
      go_wp2
      go_returns
      exact ⟨rfl, rfl⟩
  · have hab : (a != 0) = true := by simp [ha]
    rw [show orZ a b = a from if_pos (by simpa using ha)]
    clear ha
    go_enter Try.func21, Try.ntmps21
    go_wp2
    refine wp_loop_rounds 3 ?_
    rw [rounds_succ]
    go_wp2
    go_returns
    exact ⟨rfl, rfl⟩
set_option maxHeartbeats 1000000 in
theorem bcompare_any (a b : RV) (w : World) : Calls Try.prog 18 #[a.val, b.val] w (RetD (.int .i64 (cmpR a b)) w) := by
  obtain ⟨k1, v1⟩ := a
  obtain ⟨k2, v2⟩ := b
  show Calls _ _ #[.agg #[.int .i64 k1, .int .i64 v1], .agg #[.int .i64 k2, .int .i64 v2]] _ (RetD (.int .i64 (orZ (cmpZ k1 k2) (cmpZ v1 v2))) w)
  have HC := Lib.hid (fun x y W => compareZ_any x y W)
  have HO := Lib.hid (fun x y (W : World) (t : TypeId) => or_any x y W.heap.size (W.alloc (.cells #[.int .i64 x, .int .i64 y] t)).drew (by show (W.alloc _).cell? _ = _; simp) (by show (W.alloc _).cell? _ = _; simp))
  go_enter Try.func18, Try.ntmps18
  go_wp2_with fail
  refine gen_world (fun W2 => Below w.heap.size w W2 ∧ w.drawn ≤ W2.drawn ∧ w.heap.size + 1 < W2.heap.size ∧ W2.cell? ⟨w.heap.size, 0, none⟩ = some (.int .i64 k1) ∧ W2.cell? ⟨w.heap.size, 1, none⟩ = some (.int .i64 v1) ∧ W2.cell? ⟨w.heap.size + 1, 0, none⟩ = some (.int .i64 k2) ∧ W2.cell? ⟨w.heap.size + 1, 1, none⟩ = some (.int .i64 v2)) ⟨by repeat' (first | (with_reducible first | exact Below.refl _ _ | apply Below.drew | apply Below.alloc) | (simp; done) | (simp; omega)), by simp only [drawn_alloc]; omega, by simp, by go_cell, by go_cell, by go_cell, by go_cell⟩ ?_
  rintro w2 ⟨hB, hD, hz, p0, p1, q0, q1⟩
  have D0 : w.heap.size ≠ w2.heap.size := by omega
  have D1 : w.heap.size + 1 ≠ w2.heap.size := by omega
  have hz0 := hB.size
  have HB := Lib.hid hB
  clear hB
  go_wp2_with fail
  go_region_held_law (fun w' => w'.cell? ⟨w.heap.size, 0, none⟩ = some (.int .i64 k1) ∧ w'.cell? ⟨w.heap.size, 1, none⟩ = some (.int .i64 v1) ∧ w'.cell? ⟨w.heap.size + 1, 0, none⟩ = some (.int .i64 k2) ∧ w'.cell? ⟨w.heap.size + 1, 1, none⟩ = some (.int .i64 v2)) (first | assumption | go_keep) (first
    | (go_at_call 22; refine (HC.out _ _ _).mono ?_; rintro e w' ⟨rfl, rfl⟩)
    | (go_at_call 21; refine (HO.out _ _ _ _).mono ?_; rintro e w' ⟨rfl, rfl⟩))
  all_goals
    try simp only [List.getElem_toArray, List.getElem_cons_succ, List.getElem_cons_zero, Act.put, List.setIfInBounds_toArray, List.set_cons_zero, List.set_cons_succ]
    go_wp2
    go_returns
    exact ⟨rfl, by repeat' (first | (with_reducible first | exact HB.out | exact hz0 | apply Below.drew | apply Below.alloc)), by simp only [drawn_alloc, drawn_drew]; omega⟩
theorem bless_any (a b : RV) (w : World) : Calls Try.prog 14 #[a.val, b.val] w (Ret (.bool (a.lt b)) w) := by
  have H : Hid (∀ W, Calls Try.prog 18 #[.agg #[.int .i64 a.k, .int .i64 a.v], .agg #[.int .i64 b.k, .int .i64 b.v]] W (Ret (.int .i64 (cmpR a b)) W)) := fun W => (bcompare_any a b W).mono fun _ _ h => h.ret
  have hc := (cmpR_lt a b).symm
  generalize cmpR a b = r at *
  generalize a.lt b = q at *
  have HC := Lib.hid hc
  clear hc
  show Calls _ _ #[.agg #[.int .i64 a.k, .int .i64 a.v], .agg #[.int .i64 b.k, .int .i64 b.v]] _ _
  go_enter Try.func14, Try.ntmps14
  go_wp2_with fail
  refine (H.out _).mono ?_
  rintro e w1 ⟨rfl, hb1⟩
  have hB : Below w.heap.size w w1 := bcall (by repeat' first | exact Below.refl _ _ | (apply Below.alloc) | (simp; done)) hb1 (by simp; omega)
  have HB := Lib.hid hB
  clear hb1
  go_wp2
  go_returns
  exact ⟨ret_bool HC.out.symm, HB.out⟩
end Go.Proofs.Ytbjecaajeokdoaa
