import Derived.Test.YtigiinbgnpohmaaLa
import Derived.Test.YtigiinbgnpohmaaTs5
import Derived.Deep.RegionHeld3
namespace Go.Proofs.Ytigiinbgnpohmaa
open Go.RowKit
set_option linter.unusedVariables false
set_option linter.unusedSimpArgs false
attribute [local go_sem] eqArr4

theorem keepc {W w1 : World} {a : Addr} {v : Value} (hb : Below W.heap.size W w1) (h : W.cell? a = some v) : w1.cell? a = some v := (hb.cell (World.block_lt_of_cell? _ _ h)).trans h
theorem keepb {w W w1 : World} (hb : Below W.heap.size W w1) (h : Below w.heap.size w W) : Below w.heap.size w w1 := bcall h hb h.size
/-- what List tells of a timestamp: is it right? -/
def ListTells (b : Bool) (w : World) (e : Ending) (w' : World) : Prop := ∃ v, e = .returned (.tuple #[v, .bool b]) ∧ Below w.heap.size w w'
theorem list_tells (d c0 c1 c2 c3 : Int) (w : World) : Calls Try.prog 8 #[.agg #[.int .i64 d, .int .i64 c0, .int .i64 c1, .int .i64 c2, .int .i64 c3]] w (ListTells (rightB d c0 c1 c2 c3) w) :=
  (list_any d c0 c1 c2 c3 w).mono fun e w' h => by
    rcases h with ⟨hr, v, he, _, hb⟩ | ⟨hr, he, hb⟩
    · exact ⟨v, by rw [hr]; exact he, hb⟩
    · exact ⟨_, by rw [hr]; exact he, hb⟩

set_option maxHeartbeats 8000000 in
theorem tsRight_calls (d c0 c1 c2 c3 e0 x0 x1 x2 x3 : Int) (w : World) : Calls Try.prog 3 #[.agg #[.int .i64 d, .int .i64 c0, .int .i64 c1, .int .i64 c2, .int .i64 c3], .agg #[.int .i64 e0, .int .i64 x0, .int .i64 x1, .int .i64 x2, .int .i64 x3]] w (Ret (.bool true) w) := by
  go_enter Try.func3, Try.ntmps3
  go_wp2_with fail
  refine (awake_any _).mono ?_
  rintro e w1 ⟨rfl, hb1⟩
  have hB1 : Below w.heap.size w w1 := bcall (by repeat' (first | (with_reducible refine below_drewN ?_ _) | go_grown)) hb1 (by first | go_size | (simp; omega))
  have hz1 := hb1.size
  have Na : Own5 w1 w.heap.size (.int .i64 d) (.int .i64 c0) (.int .i64 c1) (.int .i64 c2) (.int .i64 c3) := Own5.below (by constructor <;> go_cell) hb1 (by first | go_size | (simp; omega))
  have Nb : Own5 w1 (w.heap.size + 1) (.int .i64 e0) (.int .i64 x0) (.int .i64 x1) (.int .i64 x2) (.int .i64 x3) := Own5.below (by constructor <;> go_cell) hb1 (by first | go_size | (simp; omega))
  try simp only [World.size_alloc] at hz1
  clear hb1
  obtain ⟨a0, a1, a2, a3, a4, af0, af1, af2, af3, af4⟩ := Na
  obtain ⟨b0, b1, b2, b3, b4, bf0, bf1, bf2, bf3, bf4⟩ := Nb
  have al1 : w.heap.size < w1.heap.size := World.block_lt_of_cell? _ _ a0
  have an1 : w.heap.size ≠ w1.heap.size := Nat.ne_of_lt al1
  have bl1 : (w.heap.size + 1) < w1.heap.size := World.block_lt_of_cell? _ _ b0
  have bn1 : (w.heap.size + 1) ≠ w1.heap.size := Nat.ne_of_lt bl1
  go_wp2_with fail
  refine (list_tells _ _ _ _ _ _).mono ?_
  rintro e w2 ⟨v, rfl, hb2⟩
  have hB2 : Below w.heap.size w w2 := bcall (by repeat' (first | (with_reducible refine below_drewN ?_ _) | go_grown)) hb2 (by first | go_size | (simp; omega))
  have hz2 := hb2.size
  have Na : Own5 w2 w.heap.size (.int .i64 d) (.int .i64 c0) (.int .i64 c1) (.int .i64 c2) (.int .i64 c3) := Own5.below (by constructor <;> go_cell) hb2 (by first | go_size | (simp; omega))
  have Nb : Own5 w2 (w.heap.size + 1) (.int .i64 e0) (.int .i64 x0) (.int .i64 x1) (.int .i64 x2) (.int .i64 x3) := Own5.below (by constructor <;> go_cell) hb2 (by first | go_size | (simp; omega))
  clear a0 a1 a2 a3 a4 af0 af1 af2 af3 af4 b0 b1 b2 b3 b4 bf0 bf1 bf2 bf3 bf4
  clear hB1
  try simp only [World.size_alloc] at hz2
  clear hb2
  obtain ⟨a0, a1, a2, a3, a4, af0, af1, af2, af3, af4⟩ := Na
  obtain ⟨b0, b1, b2, b3, b4, bf0, bf1, bf2, bf3, bf4⟩ := Nb
  have al2 : w.heap.size < w2.heap.size := World.block_lt_of_cell? _ _ a0
  have an2 : w.heap.size ≠ w2.heap.size := Nat.ne_of_lt al2
  have bl2 : (w.heap.size + 1) < w2.heap.size := World.block_lt_of_cell? _ _ b0
  have bn2 : (w.heap.size + 1) ≠ w2.heap.size := Nat.ne_of_lt bl2
  go_wp2_with fail
  refine (join_any _ _ _ _ _ _ _ _ _ _ _).mono ?_
  rintro e w3 ⟨rfl, hb3⟩
  simp only [bothV]
  have hB3 : Below w.heap.size w w3 := bcall (by repeat' (first | (with_reducible refine below_drewN ?_ _) | go_grown)) hb3 (by first | go_size | (simp; omega))
  have hz3 := hb3.size
  have Na : Own5 w3 w.heap.size (.int .i64 d) (.int .i64 c0) (.int .i64 c1) (.int .i64 c2) (.int .i64 c3) := Own5.below (by constructor <;> go_cell) hb3 (by first | go_size | (simp; omega))
  have Nb : Own5 w3 (w.heap.size + 1) (.int .i64 e0) (.int .i64 x0) (.int .i64 x1) (.int .i64 x2) (.int .i64 x3) := Own5.below (by constructor <;> go_cell) hb3 (by first | go_size | (simp; omega))
  clear a0 a1 a2 a3 a4 af0 af1 af2 af3 af4 b0 b1 b2 b3 b4 bf0 bf1 bf2 bf3 bf4
  clear hB2
  try simp only [World.size_alloc] at hz3
  clear hb3
  obtain ⟨a0, a1, a2, a3, a4, af0, af1, af2, af3, af4⟩ := Na
  obtain ⟨b0, b1, b2, b3, b4, bf0, bf1, bf2, bf3, bf4⟩ := Nb
  have al3 : w.heap.size < w3.heap.size := World.block_lt_of_cell? _ _ a0
  have an3 : w.heap.size ≠ w3.heap.size := Nat.ne_of_lt al3
  have bl3 : (w.heap.size + 1) < w3.heap.size := World.block_lt_of_cell? _ _ b0
  have bn3 : (w.heap.size + 1) ≠ w3.heap.size := Nat.ne_of_lt bl3
  go_wp2_with fail
  refine (both_any _ _ _ _ _ _ _ _ _ _ _ _).mono ?_
  rintro e w4 ⟨rfl, hb4⟩
  simp only [bothV]
  have hB4 : Below w.heap.size w w4 := bcall (by repeat' (first | (with_reducible refine below_drewN ?_ _) | go_grown)) hb4 (by first | go_size | (simp; omega))
  have hz4 := hb4.size
  have Na : Own5 w4 w.heap.size (.int .i64 d) (.int .i64 c0) (.int .i64 c1) (.int .i64 c2) (.int .i64 c3) := Own5.below (by constructor <;> go_cell) hb4 (by first | go_size | (simp; omega))
  have Nb : Own5 w4 (w.heap.size + 1) (.int .i64 e0) (.int .i64 x0) (.int .i64 x1) (.int .i64 x2) (.int .i64 x3) := Own5.below (by constructor <;> go_cell) hb4 (by first | go_size | (simp; omega))
  have Nj : Own5 w4 w3.heap.size (.int .i64 (gate (pairedB d c0 c1 c2 c3 e0 x0 x1 x2 x3) d)) (.int .i64 (bc (pairedB d c0 c1 c2 c3 e0 x0 x1 x2 x3) true c0 x0)) (.int .i64 (bc (pairedB d c0 c1 c2 c3 e0 x0 x1 x2 x3) true c1 x1)) (.int .i64 (bc (pairedB d c0 c1 c2 c3 e0 x0 x1 x2 x3) true c2 x2)) (.int .i64 (bc (pairedB d c0 c1 c2 c3 e0 x0 x1 x2 x3) true c3 x3)) := Own5.below (by constructor <;> go_cell) hb4 (by first | go_size | (simp; omega))
  clear a0 a1 a2 a3 a4 af0 af1 af2 af3 af4 b0 b1 b2 b3 b4 bf0 bf1 bf2 bf3 bf4
  clear hB3
  try simp only [World.size_alloc] at hz4
  clear hb4
  obtain ⟨a0, a1, a2, a3, a4, af0, af1, af2, af3, af4⟩ := Na
  obtain ⟨b0, b1, b2, b3, b4, bf0, bf1, bf2, bf3, bf4⟩ := Nb
  obtain ⟨j0, j1, j2, j3, j4, jf0, jf1, jf2, jf3, jf4⟩ := Nj
  have al4 : w.heap.size < w4.heap.size := World.block_lt_of_cell? _ _ a0
  have an4 : w.heap.size ≠ w4.heap.size := Nat.ne_of_lt al4
  have bl4 : (w.heap.size + 1) < w4.heap.size := World.block_lt_of_cell? _ _ b0
  have bn4 : (w.heap.size + 1) ≠ w4.heap.size := Nat.ne_of_lt bl4
  have jl4 : w3.heap.size < w4.heap.size := World.block_lt_of_cell? _ _ j0
  have jn4 : w3.heap.size ≠ w4.heap.size := Nat.ne_of_lt jl4
  go_wp2_with fail
  refine (right_any _ _ _ _ _ _).mono ?_
  rintro e w5 ⟨rfl, hb5⟩
  have hB5 : Below w.heap.size w w5 := bcall (by repeat' (first | (with_reducible refine below_drewN ?_ _) | go_grown)) hb5 (by first | go_size | (simp; omega))
  have hz5 := hb5.size
  have Na : Own5 w5 w.heap.size (.int .i64 d) (.int .i64 c0) (.int .i64 c1) (.int .i64 c2) (.int .i64 c3) := Own5.below (by constructor <;> go_cell) hb5 (by first | go_size | (simp; omega))
  have Nb : Own5 w5 (w.heap.size + 1) (.int .i64 e0) (.int .i64 x0) (.int .i64 x1) (.int .i64 x2) (.int .i64 x3) := Own5.below (by constructor <;> go_cell) hb5 (by first | go_size | (simp; omega))
  have Nj : Own5 w5 w3.heap.size (.int .i64 (gate (pairedB d c0 c1 c2 c3 e0 x0 x1 x2 x3) d)) (.int .i64 (bc (pairedB d c0 c1 c2 c3 e0 x0 x1 x2 x3) true c0 x0)) (.int .i64 (bc (pairedB d c0 c1 c2 c3 e0 x0 x1 x2 x3) true c1 x1)) (.int .i64 (bc (pairedB d c0 c1 c2 c3 e0 x0 x1 x2 x3) true c2 x2)) (.int .i64 (bc (pairedB d c0 c1 c2 c3 e0 x0 x1 x2 x3) true c3 x3)) := Own5.below (by constructor <;> go_cell) hb5 (by first | go_size | (simp; omega))
  have Nk : Own5 w5 w4.heap.size (.int .i64 (gate (pairedB d c0 c1 c2 c3 e0 x0 x1 x2 x3) d)) (.int .i64 (bc (pairedB d c0 c1 c2 c3 e0 x0 x1 x2 x3) true c0 x0)) (.int .i64 (bc (pairedB d c0 c1 c2 c3 e0 x0 x1 x2 x3) true c1 x1)) (.int .i64 (bc (pairedB d c0 c1 c2 c3 e0 x0 x1 x2 x3) true c2 x2)) (.int .i64 (bc (pairedB d c0 c1 c2 c3 e0 x0 x1 x2 x3) true c3 x3)) := Own5.below (by constructor <;> go_cell) hb5 (by first | go_size | (simp; omega))
  clear a0 a1 a2 a3 a4 af0 af1 af2 af3 af4 b0 b1 b2 b3 b4 bf0 bf1 bf2 bf3 bf4 j0 j1 j2 j3 j4 jf0 jf1 jf2 jf3 jf4
  clear hB4
  try simp only [World.size_alloc] at hz5
  clear hb5
  obtain ⟨a0, a1, a2, a3, a4, af0, af1, af2, af3, af4⟩ := Na
  obtain ⟨b0, b1, b2, b3, b4, bf0, bf1, bf2, bf3, bf4⟩ := Nb
  obtain ⟨j0, j1, j2, j3, j4, jf0, jf1, jf2, jf3, jf4⟩ := Nj
  obtain ⟨k0, k1, k2, k3, k4, kf0, kf1, kf2, kf3, kf4⟩ := Nk
  have al5 : w.heap.size < w5.heap.size := World.block_lt_of_cell? _ _ a0
  have an5 : w.heap.size ≠ w5.heap.size := Nat.ne_of_lt al5
  have bl5 : (w.heap.size + 1) < w5.heap.size := World.block_lt_of_cell? _ _ b0
  have bn5 : (w.heap.size + 1) ≠ w5.heap.size := Nat.ne_of_lt bl5
  have jl5 : w3.heap.size < w5.heap.size := World.block_lt_of_cell? _ _ j0
  have jn5 : w3.heap.size ≠ w5.heap.size := Nat.ne_of_lt jl5
  have kl5 : w4.heap.size < w5.heap.size := World.block_lt_of_cell? _ _ k0
  have kn5 : w4.heap.size ≠ w5.heap.size := Nat.ne_of_lt kl5
  go_wp2_with fail
  refine (meet_any _ _ _ _ _ _ _ _ _ _ _).mono ?_
  rintro e w6 ⟨rfl, hb6⟩
  simp only [bothV]
  have hB6 : Below w.heap.size w w6 := bcall (by repeat' (first | (with_reducible refine below_drewN ?_ _) | go_grown)) hb6 (by first | go_size | (simp; omega))
  have hz6 := hb6.size
  have Na : Own5 w6 w.heap.size (.int .i64 d) (.int .i64 c0) (.int .i64 c1) (.int .i64 c2) (.int .i64 c3) := Own5.below (by constructor <;> go_cell) hb6 (by first | go_size | (simp; omega))
  have Nb : Own5 w6 (w.heap.size + 1) (.int .i64 e0) (.int .i64 x0) (.int .i64 x1) (.int .i64 x2) (.int .i64 x3) := Own5.below (by constructor <;> go_cell) hb6 (by first | go_size | (simp; omega))
  have Nj : Own5 w6 w3.heap.size (.int .i64 (gate (pairedB d c0 c1 c2 c3 e0 x0 x1 x2 x3) d)) (.int .i64 (bc (pairedB d c0 c1 c2 c3 e0 x0 x1 x2 x3) true c0 x0)) (.int .i64 (bc (pairedB d c0 c1 c2 c3 e0 x0 x1 x2 x3) true c1 x1)) (.int .i64 (bc (pairedB d c0 c1 c2 c3 e0 x0 x1 x2 x3) true c2 x2)) (.int .i64 (bc (pairedB d c0 c1 c2 c3 e0 x0 x1 x2 x3) true c3 x3)) := Own5.below (by constructor <;> go_cell) hb6 (by first | go_size | (simp; omega))
  have Nk : Own5 w6 w4.heap.size (.int .i64 (gate (pairedB d c0 c1 c2 c3 e0 x0 x1 x2 x3) d)) (.int .i64 (bc (pairedB d c0 c1 c2 c3 e0 x0 x1 x2 x3) true c0 x0)) (.int .i64 (bc (pairedB d c0 c1 c2 c3 e0 x0 x1 x2 x3) true c1 x1)) (.int .i64 (bc (pairedB d c0 c1 c2 c3 e0 x0 x1 x2 x3) true c2 x2)) (.int .i64 (bc (pairedB d c0 c1 c2 c3 e0 x0 x1 x2 x3) true c3 x3)) := Own5.below (by constructor <;> go_cell) hb6 (by first | go_size | (simp; omega))
  clear a0 a1 a2 a3 a4 af0 af1 af2 af3 af4 b0 b1 b2 b3 b4 bf0 bf1 bf2 bf3 bf4 j0 j1 j2 j3 j4 jf0 jf1 jf2 jf3 jf4 k0 k1 k2 k3 k4 kf0 kf1 kf2 kf3 kf4
  clear hB5
  try simp only [World.size_alloc] at hz6
  clear hb6
  obtain ⟨a0, a1, a2, a3, a4, af0, af1, af2, af3, af4⟩ := Na
  obtain ⟨b0, b1, b2, b3, b4, bf0, bf1, bf2, bf3, bf4⟩ := Nb
  obtain ⟨j0, j1, j2, j3, j4, jf0, jf1, jf2, jf3, jf4⟩ := Nj
  obtain ⟨k0, k1, k2, k3, k4, kf0, kf1, kf2, kf3, kf4⟩ := Nk
  have al6 : w.heap.size < w6.heap.size := World.block_lt_of_cell? _ _ a0
  have an6 : w.heap.size ≠ w6.heap.size := Nat.ne_of_lt al6
  have bl6 : (w.heap.size + 1) < w6.heap.size := World.block_lt_of_cell? _ _ b0
  have bn6 : (w.heap.size + 1) ≠ w6.heap.size := Nat.ne_of_lt bl6
  have jl6 : w3.heap.size < w6.heap.size := World.block_lt_of_cell? _ _ j0
  have jn6 : w3.heap.size ≠ w6.heap.size := Nat.ne_of_lt jl6
  have kl6 : w4.heap.size < w6.heap.size := World.block_lt_of_cell? _ _ k0
  have kn6 : w4.heap.size ≠ w6.heap.size := Nat.ne_of_lt kl6
  go_wp2_with fail
  refine (both_any _ _ _ _ _ _ _ _ _ _ _ _).mono ?_
  rintro e w7 ⟨rfl, hb7⟩
  simp only [bothV]
  have hB7 : Below w.heap.size w w7 := bcall (by repeat' (first | (with_reducible refine below_drewN ?_ _) | go_grown)) hb7 (by first | go_size | (simp; omega))
  have hz7 := hb7.size
  have Na : Own5 w7 w.heap.size (.int .i64 d) (.int .i64 c0) (.int .i64 c1) (.int .i64 c2) (.int .i64 c3) := Own5.below (by constructor <;> go_cell) hb7 (by first | go_size | (simp; omega))
  have Nb : Own5 w7 (w.heap.size + 1) (.int .i64 e0) (.int .i64 x0) (.int .i64 x1) (.int .i64 x2) (.int .i64 x3) := Own5.below (by constructor <;> go_cell) hb7 (by first | go_size | (simp; omega))
  have Nj : Own5 w7 w3.heap.size (.int .i64 (gate (pairedB d c0 c1 c2 c3 e0 x0 x1 x2 x3) d)) (.int .i64 (bc (pairedB d c0 c1 c2 c3 e0 x0 x1 x2 x3) false c0 x0)) (.int .i64 (bc (pairedB d c0 c1 c2 c3 e0 x0 x1 x2 x3) false c1 x1)) (.int .i64 (bc (pairedB d c0 c1 c2 c3 e0 x0 x1 x2 x3) false c2 x2)) (.int .i64 (bc (pairedB d c0 c1 c2 c3 e0 x0 x1 x2 x3) false c3 x3)) := Own5.below (by constructor <;> go_cell) hb7 (by first | go_size | (simp; omega))
  have Nk : Own5 w7 w4.heap.size (.int .i64 (gate (pairedB d c0 c1 c2 c3 e0 x0 x1 x2 x3) d)) (.int .i64 (bc (pairedB d c0 c1 c2 c3 e0 x0 x1 x2 x3) true c0 x0)) (.int .i64 (bc (pairedB d c0 c1 c2 c3 e0 x0 x1 x2 x3) true c1 x1)) (.int .i64 (bc (pairedB d c0 c1 c2 c3 e0 x0 x1 x2 x3) true c2 x2)) (.int .i64 (bc (pairedB d c0 c1 c2 c3 e0 x0 x1 x2 x3) true c3 x3)) := Own5.below (by constructor <;> go_cell) hb7 (by first | go_size | (simp; omega))
  clear a0 a1 a2 a3 a4 af0 af1 af2 af3 af4 b0 b1 b2 b3 b4 bf0 bf1 bf2 bf3 bf4 j0 j1 j2 j3 j4 jf0 jf1 jf2 jf3 jf4 k0 k1 k2 k3 k4 kf0 kf1 kf2 kf3 kf4
  clear hB6
  try simp only [World.size_alloc] at hz7
  clear hb7
  obtain ⟨a0, a1, a2, a3, a4, af0, af1, af2, af3, af4⟩ := Na
  obtain ⟨b0, b1, b2, b3, b4, bf0, bf1, bf2, bf3, bf4⟩ := Nb
  obtain ⟨j0, j1, j2, j3, j4, jf0, jf1, jf2, jf3, jf4⟩ := Nj
  obtain ⟨k0, k1, k2, k3, k4, kf0, kf1, kf2, kf3, kf4⟩ := Nk
  have al7 : w.heap.size < w7.heap.size := World.block_lt_of_cell? _ _ a0
  have an7 : w.heap.size ≠ w7.heap.size := Nat.ne_of_lt al7
  have bl7 : (w.heap.size + 1) < w7.heap.size := World.block_lt_of_cell? _ _ b0
  have bn7 : (w.heap.size + 1) ≠ w7.heap.size := Nat.ne_of_lt bl7
  have jl7 : w3.heap.size < w7.heap.size := World.block_lt_of_cell? _ _ j0
  have jn7 : w3.heap.size ≠ w7.heap.size := Nat.ne_of_lt jl7
  have kl7 : w4.heap.size < w7.heap.size := World.block_lt_of_cell? _ _ k0
  have kn7 : w4.heap.size ≠ w7.heap.size := Nat.ne_of_lt kl7
  go_wp2
  refine gen_world (fun w' => Below w.heap.size w w' ∧ w'.cell? ⟨w.heap.size, 0, none⟩ = some (.int .i64 d) ∧ w'.cell? ⟨w.heap.size, 1, none⟩ = some (.int .i64 c0) ∧ w'.cell? ⟨w.heap.size, 2, none⟩ = some (.int .i64 c1) ∧ w'.cell? ⟨w.heap.size, 3, none⟩ = some (.int .i64 c2) ∧ w'.cell? ⟨w.heap.size, 4, none⟩ = some (.int .i64 c3) ∧ w'.cell? ⟨(w.heap.size + 1), 0, none⟩ = some (.int .i64 e0) ∧ w'.cell? ⟨(w.heap.size + 1), 1, none⟩ = some (.int .i64 x0) ∧ w'.cell? ⟨(w.heap.size + 1), 2, none⟩ = some (.int .i64 x1) ∧ w'.cell? ⟨(w.heap.size + 1), 3, none⟩ = some (.int .i64 x2) ∧ w'.cell? ⟨(w.heap.size + 1), 4, none⟩ = some (.int .i64 x3) ∧ w'.cell? ⟨w3.heap.size, 0, none⟩ = some (.int .i64 (gate (pairedB d c0 c1 c2 c3 e0 x0 x1 x2 x3) d)) ∧ w'.cell? ⟨w3.heap.size, 1, none⟩ = some (.int .i64 (bc (pairedB d c0 c1 c2 c3 e0 x0 x1 x2 x3) false c0 x0)) ∧ w'.cell? ⟨w3.heap.size, 2, none⟩ = some (.int .i64 (bc (pairedB d c0 c1 c2 c3 e0 x0 x1 x2 x3) false c1 x1)) ∧ w'.cell? ⟨w3.heap.size, 3, none⟩ = some (.int .i64 (bc (pairedB d c0 c1 c2 c3 e0 x0 x1 x2 x3) false c2 x2)) ∧ w'.cell? ⟨w3.heap.size, 4, none⟩ = some (.int .i64 (bc (pairedB d c0 c1 c2 c3 e0 x0 x1 x2 x3) false c3 x3)) ∧ w'.cell? ⟨w4.heap.size, 0, none⟩ = some (.int .i64 (gate (pairedB d c0 c1 c2 c3 e0 x0 x1 x2 x3) d)) ∧ w'.cell? ⟨w4.heap.size, 1, none⟩ = some (.int .i64 (bc (pairedB d c0 c1 c2 c3 e0 x0 x1 x2 x3) false c0 x0)) ∧ w'.cell? ⟨w4.heap.size, 2, none⟩ = some (.int .i64 (bc (pairedB d c0 c1 c2 c3 e0 x0 x1 x2 x3) false c1 x1)) ∧ w'.cell? ⟨w4.heap.size, 3, none⟩ = some (.int .i64 (bc (pairedB d c0 c1 c2 c3 e0 x0 x1 x2 x3) false c2 x2)) ∧ w'.cell? ⟨w4.heap.size, 4, none⟩ = some (.int .i64 (bc (pairedB d c0 c1 c2 c3 e0 x0 x1 x2 x3) false c3 x3))) (by repeat' (first | (with_reducible apply And.intro) | go_cell | go_grown)) ?_
  clear a0 a1 a2 a3 a4 af0 af1 af2 af3 af4 b0 b1 b2 b3 b4 bf0 bf1 bf2 bf3 bf4 j0 j1 j2 j3 j4 jf0 jf1 jf2 jf3 jf4 k0 k1 k2 k3 k4 kf0 kf1 kf2 kf3 kf4 hB7
  rintro v ⟨hB, a0, a1, a2, a3, a4, b0, b1, b2, b3, b4, j0, j1, j2, j3, j4, k0, k1, k2, k3, k4⟩
  have ab0 := beh_cell a0
  have ab1 := beh_cell a1
  have ab2 := beh_cell a2
  have ab3 := beh_cell a3
  have ab4 := beh_cell a4
  have bb0 := beh_cell b0
  have bb1 := beh_cell b1
  have bb2 := beh_cell b2
  have bb3 := beh_cell b3
  have bb4 := beh_cell b4
  have jb0 := beh_cell j0
  have jb1 := beh_cell j1
  have jb2 := beh_cell j2
  have jb3 := beh_cell j3
  have jb4 := beh_cell j4
  have kb0 := beh_cell k0
  have kb1 := beh_cell k1
  have kb2 := beh_cell k2
  have kb3 := beh_cell k3
  have kb4 := beh_cell k4
  clear a0 a1 a2 a3 a4 b0 b1 b2 b3 b4 j0 j1 j2 j3 j4 k0 k1 k2 k3 k4
  refine wp_region_beh (by kernel_rfl) (by kernel_rfl) ?_
  repeat (first | go_big_quiet_step ((first | (go_at_call 13; exact Calls.beh (le_any _ _ _ _ _ _ _ _ _ _ _)) | (go_at_call 14; exact Calls.beh (rle_any _ _ _ _ _ _ _ _ _ _ _)) | (go_at_call 15; exact Calls.beh (less_any _ _ _ _ _ _ _ _ _ _ _)) | (go_at_call 16; exact Calls.beh (rless_any _ _ _ _ _ _ _ _ _ _ _)))) | quiet_step ((first | (go_at_call 13; exact Calls.beh (le_any _ _ _ _ _ _ _ _ _ _ _)) | (go_at_call 14; exact Calls.beh (rle_any _ _ _ _ _ _ _ _ _ _ _)) | (go_at_call 15; exact Calls.beh (less_any _ _ _ _ _ _ _ _ _ _ _)) | (go_at_call 16; exact Calls.beh (rless_any _ _ _ _ _ _ _ _ _ _ _)))))
  refine wpQuiet_nil ?_
  intro _ hw'
  obtain ⟨p, hw''⟩ := hw'
  subst hw''
  have hBp := bcall hB p.h hB.size
  go_wp2
  go_returns
  exact ⟨ret_bool rfl, by repeat' (first | (with_reducible refine below_drewN ?_ _) | go_grown)⟩
end Go.Proofs.Ytigiinbgnpohmaa
