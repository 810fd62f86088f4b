import Derived.Test.YtigiinbgnpohmaaEq
import Derived.Deep.RegionHeld3
namespace Go.Proofs.Ytigiinbgnpohmaa
open Go.RowKit
set_option linter.unusedVariables false
set_option linter.unusedSimpArgs false
attribute [local go_sem] eqArr4

set_option maxHeartbeats 4000000 in
theorem awake_any (w : World) : Calls Try.prog 7 #[] w (Ret (.bool true) w) := by
  have Hn : Hid (∀ W, Calls Try.prog 20 #[.agg #[.int .i64 2, .int .i64 1, .int .i64 2, .int .i64 0, .int .i64 0]] W (Ret (.tuple #[.agg #[.int .i64 2, .int .i64 1, .int .i64 3, .int .i64 0, .int .i64 0], .bool true]) W)) := fun W => next_any 2 1 2 0 0 W
  have Hr : Hid (∀ W, Calls Try.prog 11 #[.agg #[.int .i64 2, .int .i64 1, .int .i64 2, .int .i64 0, .int .i64 0]] W (Ret (.bool true) W)) := fun W => right_any 2 1 2 0 0 W
  have Hl : Hid (∀ W, Calls Try.prog 13 #[.agg #[.int .i64 2, .int .i64 1, .int .i64 2, .int .i64 0, .int .i64 0], .agg #[.int .i64 2, .int .i64 1, .int .i64 3, .int .i64 0, .int .i64 0]] W (Ret (.bool true) W)) := fun W => le_any 2 1 2 0 0 2 1 3 0 0 W
  have Hl2 : Hid (∀ W, Calls Try.prog 13 #[.agg #[.int .i64 2, .int .i64 1, .int .i64 3, .int .i64 0, .int .i64 0], .agg #[.int .i64 2, .int .i64 1, .int .i64 2, .int .i64 0, .int .i64 0]] W (Ret (.bool false) W)) := fun W => le_any 2 1 3 0 0 2 1 2 0 0 W
  have Hs : Hid (∀ W, Calls Try.prog 15 #[.agg #[.int .i64 1, .int .i64 1, .int .i64 0, .int .i64 0, .int .i64 0], .agg #[.int .i64 2, .int .i64 1, .int .i64 2, .int .i64 0, .int .i64 0]] W (Ret (.bool true) W)) := fun W => less_any 1 1 0 0 0 2 1 2 0 0 W
  go_enter Try.func7, Try.ntmps7
  go_wp2_with fail
  refine (Hn.out _).mono ?_
  rintro e w1 ⟨rfl, hb1⟩
  have hB1 : Below w.heap.size w w1 := bcall (by repeat' (first | (with_reducible refine below_drewN ?_ _) | go_grown)) hb1 (by first | go_size | (simp; omega))
  have hz1 := hb1.size
  have Na : Own5 w1 w.heap.size (.int .i64 2) (.int .i64 1) (.int .i64 2) (.int .i64 0) (.int .i64 0) := Own5.below (by constructor <;> go_cell) hb1 (by first | go_size | (simp; omega))
  have Nb : Own5 w1 (w.heap.size + 1) (.int .i64 2) (.int .i64 1) (.int .i64 3) (.int .i64 0) (.int .i64 0) := Own5.below (by constructor <;> go_cell) hb1 (by first | go_size | (simp; omega))
  try simp only [World.size_alloc] at hz1
  clear hb1
  obtain ⟨a0, a1, a2, a3, a4, af0, af1, af2, af3, af4⟩ := Na
  obtain ⟨b0, b1, b2, b3, b4, bf0, bf1, bf2, bf3, bf4⟩ := Nb
  have al1 : w.heap.size < w1.heap.size := World.block_lt_of_cell? _ _ a0
  have an1 : w.heap.size ≠ w1.heap.size := Nat.ne_of_lt al1
  have bl1 : (w.heap.size + 1) < w1.heap.size := World.block_lt_of_cell? _ _ b0
  have bn1 : (w.heap.size + 1) ≠ w1.heap.size := Nat.ne_of_lt bl1
  go_wp2_with fail
  refine (Hr.out _).mono ?_
  rintro e w2 ⟨rfl, hb2⟩
  have hB2 : Below w.heap.size w w2 := bcall (by repeat' (first | (with_reducible refine below_drewN ?_ _) | go_grown)) hb2 (by first | go_size | (simp; omega))
  have hz2 := hb2.size
  have Na : Own5 w2 w.heap.size (.int .i64 2) (.int .i64 1) (.int .i64 2) (.int .i64 0) (.int .i64 0) := Own5.below (by constructor <;> go_cell) hb2 (by first | go_size | (simp; omega))
  have Nb : Own5 w2 (w.heap.size + 1) (.int .i64 2) (.int .i64 1) (.int .i64 3) (.int .i64 0) (.int .i64 0) := Own5.below (by constructor <;> go_cell) hb2 (by first | go_size | (simp; omega))
  have Nc : Own5 w2 w1.heap.size (.int .i64 2) (.int .i64 1) (.int .i64 3) (.int .i64 0) (.int .i64 0) := Own5.below (by constructor <;> go_cell) hb2 (by first | go_size | (simp; omega))
  clear a0 a1 a2 a3 a4 af0 af1 af2 af3 af4 b0 b1 b2 b3 b4 bf0 bf1 bf2 bf3 bf4
  clear hB1
  try simp only [World.size_alloc] at hz2
  clear hb2
  obtain ⟨a0, a1, a2, a3, a4, af0, af1, af2, af3, af4⟩ := Na
  obtain ⟨b0, b1, b2, b3, b4, bf0, bf1, bf2, bf3, bf4⟩ := Nb
  obtain ⟨c0, c1, c2, c3, c4, cf0, cf1, cf2, cf3, cf4⟩ := Nc
  have al2 : w.heap.size < w2.heap.size := World.block_lt_of_cell? _ _ a0
  have an2 : w.heap.size ≠ w2.heap.size := Nat.ne_of_lt al2
  have bl2 : (w.heap.size + 1) < w2.heap.size := World.block_lt_of_cell? _ _ b0
  have bn2 : (w.heap.size + 1) ≠ w2.heap.size := Nat.ne_of_lt bl2
  have cl2 : w1.heap.size < w2.heap.size := World.block_lt_of_cell? _ _ c0
  have cn2 : w1.heap.size ≠ w2.heap.size := Nat.ne_of_lt cl2
  go_wp2_with fail
  refine (Hl.out _).mono ?_
  rintro e w3 ⟨rfl, hb3⟩
  have hB3 : Below w.heap.size w w3 := bcall (by repeat' (first | (with_reducible refine below_drewN ?_ _) | go_grown)) hb3 (by first | go_size | (simp; omega))
  have hz3 := hb3.size
  have Na : Own5 w3 w.heap.size (.int .i64 2) (.int .i64 1) (.int .i64 2) (.int .i64 0) (.int .i64 0) := Own5.below (by constructor <;> go_cell) hb3 (by first | go_size | (simp; omega))
  have Nb : Own5 w3 (w.heap.size + 1) (.int .i64 2) (.int .i64 1) (.int .i64 3) (.int .i64 0) (.int .i64 0) := Own5.below (by constructor <;> go_cell) hb3 (by first | go_size | (simp; omega))
  have Nc : Own5 w3 w1.heap.size (.int .i64 2) (.int .i64 1) (.int .i64 3) (.int .i64 0) (.int .i64 0) := Own5.below (by constructor <;> go_cell) hb3 (by first | go_size | (simp; omega))
  clear a0 a1 a2 a3 a4 af0 af1 af2 af3 af4 b0 b1 b2 b3 b4 bf0 bf1 bf2 bf3 bf4 c0 c1 c2 c3 c4 cf0 cf1 cf2 cf3 cf4
  clear hB2
  try simp only [World.size_alloc] at hz3
  clear hb3
  obtain ⟨a0, a1, a2, a3, a4, af0, af1, af2, af3, af4⟩ := Na
  obtain ⟨b0, b1, b2, b3, b4, bf0, bf1, bf2, bf3, bf4⟩ := Nb
  obtain ⟨c0, c1, c2, c3, c4, cf0, cf1, cf2, cf3, cf4⟩ := Nc
  have al3 : w.heap.size < w3.heap.size := World.block_lt_of_cell? _ _ a0
  have an3 : w.heap.size ≠ w3.heap.size := Nat.ne_of_lt al3
  have bl3 : (w.heap.size + 1) < w3.heap.size := World.block_lt_of_cell? _ _ b0
  have bn3 : (w.heap.size + 1) ≠ w3.heap.size := Nat.ne_of_lt bl3
  have cl3 : w1.heap.size < w3.heap.size := World.block_lt_of_cell? _ _ c0
  have cn3 : w1.heap.size ≠ w3.heap.size := Nat.ne_of_lt cl3
  go_wp2_with fail
  refine (Hl2.out _).mono ?_
  rintro e w4 ⟨rfl, hb4⟩
  have hB4 : Below w.heap.size w w4 := bcall (by repeat' (first | (with_reducible refine below_drewN ?_ _) | go_grown)) hb4 (by first | go_size | (simp; omega))
  have hz4 := hb4.size
  have Na : Own5 w4 w.heap.size (.int .i64 2) (.int .i64 1) (.int .i64 2) (.int .i64 0) (.int .i64 0) := Own5.below (by constructor <;> go_cell) hb4 (by first | go_size | (simp; omega))
  have Nb : Own5 w4 (w.heap.size + 1) (.int .i64 2) (.int .i64 1) (.int .i64 3) (.int .i64 0) (.int .i64 0) := Own5.below (by constructor <;> go_cell) hb4 (by first | go_size | (simp; omega))
  have Nc : Own5 w4 w1.heap.size (.int .i64 2) (.int .i64 1) (.int .i64 3) (.int .i64 0) (.int .i64 0) := Own5.below (by constructor <;> go_cell) hb4 (by first | go_size | (simp; omega))
  clear a0 a1 a2 a3 a4 af0 af1 af2 af3 af4 b0 b1 b2 b3 b4 bf0 bf1 bf2 bf3 bf4 c0 c1 c2 c3 c4 cf0 cf1 cf2 cf3 cf4
  clear hB3
  try simp only [World.size_alloc] at hz4
  clear hb4
  obtain ⟨a0, a1, a2, a3, a4, af0, af1, af2, af3, af4⟩ := Na
  obtain ⟨b0, b1, b2, b3, b4, bf0, bf1, bf2, bf3, bf4⟩ := Nb
  obtain ⟨c0, c1, c2, c3, c4, cf0, cf1, cf2, cf3, cf4⟩ := Nc
  have al4 : w.heap.size < w4.heap.size := World.block_lt_of_cell? _ _ a0
  have an4 : w.heap.size ≠ w4.heap.size := Nat.ne_of_lt al4
  have bl4 : (w.heap.size + 1) < w4.heap.size := World.block_lt_of_cell? _ _ b0
  have bn4 : (w.heap.size + 1) ≠ w4.heap.size := Nat.ne_of_lt bl4
  have cl4 : w1.heap.size < w4.heap.size := World.block_lt_of_cell? _ _ c0
  have cn4 : w1.heap.size ≠ w4.heap.size := Nat.ne_of_lt cl4
  go_wp2_with fail
  refine (Hs.out _).mono ?_
  rintro e w5 ⟨rfl, hb5⟩
  have hB5 : Below w.heap.size w w5 := bcall (by repeat' (first | (with_reducible refine below_drewN ?_ _) | go_grown)) hb5 (by first | go_size | (simp; omega))
  have hz5 := hb5.size
  have Na : Own5 w5 w.heap.size (.int .i64 2) (.int .i64 1) (.int .i64 2) (.int .i64 0) (.int .i64 0) := Own5.below (by constructor <;> go_cell) hb5 (by first | go_size | (simp; omega))
  have Nb : Own5 w5 (w.heap.size + 1) (.int .i64 2) (.int .i64 1) (.int .i64 3) (.int .i64 0) (.int .i64 0) := Own5.below (by constructor <;> go_cell) hb5 (by first | go_size | (simp; omega))
  have Nc : Own5 w5 w1.heap.size (.int .i64 2) (.int .i64 1) (.int .i64 3) (.int .i64 0) (.int .i64 0) := Own5.below (by constructor <;> go_cell) hb5 (by first | go_size | (simp; omega))
  clear a0 a1 a2 a3 a4 af0 af1 af2 af3 af4 b0 b1 b2 b3 b4 bf0 bf1 bf2 bf3 bf4 c0 c1 c2 c3 c4 cf0 cf1 cf2 cf3 cf4
  clear hB4
  try simp only [World.size_alloc] at hz5
  clear hb5
  obtain ⟨a0, a1, a2, a3, a4, af0, af1, af2, af3, af4⟩ := Na
  obtain ⟨b0, b1, b2, b3, b4, bf0, bf1, bf2, bf3, bf4⟩ := Nb
  obtain ⟨c0, c1, c2, c3, c4, cf0, cf1, cf2, cf3, cf4⟩ := Nc
  have al5 : w.heap.size < w5.heap.size := World.block_lt_of_cell? _ _ a0
  have an5 : w.heap.size ≠ w5.heap.size := Nat.ne_of_lt al5
  have bl5 : (w.heap.size + 1) < w5.heap.size := World.block_lt_of_cell? _ _ b0
  have bn5 : (w.heap.size + 1) ≠ w5.heap.size := Nat.ne_of_lt bl5
  have cl5 : w1.heap.size < w5.heap.size := World.block_lt_of_cell? _ _ c0
  have cn5 : w1.heap.size ≠ w5.heap.size := Nat.ne_of_lt cl5
  go_wp2
  go_returns
  exact ⟨ret_bool rfl, by repeat' (first | (with_reducible refine below_drewN ?_ _) | go_grown)⟩
end Go.Proofs.Ytigiinbgnpohmaa
