import Derived.Test.YtigiinbgnpohmaaLa
import Derived.Test.YtigiinbgnpohmaaTs5
namespace Go.Proofs.Ytigiinbgnpohmaa
open Go.RowKit
set_option linter.unusedVariables false
set_option linter.unusedSimpArgs false
attribute [local go_sem] eqArr4

theorem rEnter_any (d c0 c1 c2 c3 : Int) (w : World) : Calls Try.prog 18 #[.agg #[.int .i64 d, .int .i64 c0, .int .i64 c1, .int .i64 c2, .int .i64 c3], .int .i64 0] w (Ret (stepV (enterB d c0 c1 c2 c3) (d + 1) c0 c1 c2 c3) w) := by
  have h := stepEnter d c0 c1 c2 c3 w
  simpa [stepS] using h
theorem rLeave_any (d c0 c1 c2 c3 : Int) (w : World) : Calls Try.prog 18 #[.agg #[.int .i64 d, .int .i64 c0, .int .i64 c1, .int .i64 c2, .int .i64 c3], .int .i64 1] w (Ret (leftV d c0 c1 c2 c3) w) := by
  have h := stepLeave d c0 c1 c2 c3 w
  simpa [stepS] using h
theorem rNext_any (d c0 c1 c2 c3 : Int) (w : World) : Calls Try.prog 18 #[.agg #[.int .i64 d, .int .i64 c0, .int .i64 c1, .int .i64 c2, .int .i64 c3], .int .i64 2] w (Ret (nextV d c0 c1 c2 c3) w) := by
  have h := stepNext d c0 c1 c2 c3 w
  simpa [stepS] using h

/-- the fields of what a step gives -/
def gates (ok : Bool) (d c0 c1 c2 c3 : Int) : Int × Int × Int × Int × Int := (gate ok d, gate ok c0, gate ok c1, gate ok c2, gate ok c3)

set_option maxHeartbeats 8000000 in
theorem tsSteps_calls (d c0 c1 c2 c3 : Int) (w : World) : Calls Try.prog 4 #[.agg #[.int .i64 d, .int .i64 c0, .int .i64 c1, .int .i64 c2, .int .i64 c3]] w (Ret (.bool true) w) := by
  go_enter Try.func4, Try.ntmps4
  go_wp2_with fail
  refine (awake_any _).mono ?_
  rintro e w1 ⟨rfl, hb1⟩
  have hB1 : Below w.heap.size w w1 := bcall (by repeat' (first | (with_reducible refine below_drewN ?_ _) | go_grown)) hb1 (by first | go_size | (simp; omega))
  have hz1 := hb1.size
  have Na : Own5 w1 w.heap.size (.int .i64 d) (.int .i64 c0) (.int .i64 c1) (.int .i64 c2) (.int .i64 c3) := Own5.below (by constructor <;> go_cell) hb1 (by first | go_size | (simp; omega))
  try simp only [World.size_alloc] at hz1
  clear hb1
  obtain ⟨a0, a1, a2, a3, a4, af0, af1, af2, af3, af4⟩ := Na
  have al1 : w.heap.size < w1.heap.size := World.block_lt_of_cell? _ _ a0
  have an1 : w.heap.size ≠ w1.heap.size := Nat.ne_of_lt al1
  go_wp2_with fail
  refine (enter_any _ _ _ _ _ _).mono ?_
  rintro e w2 ⟨rfl, hb2⟩
  simp only [stepV]
  have hB2 : Below w.heap.size w w2 := bcall (by repeat' (first | (with_reducible refine below_drewN ?_ _) | go_grown)) hb2 (by first | go_size | (simp; omega))
  have hz2 := hb2.size
  have Na : Own5 w2 w.heap.size (.int .i64 d) (.int .i64 c0) (.int .i64 c1) (.int .i64 c2) (.int .i64 c3) := Own5.below (by constructor <;> go_cell) hb2 (by first | go_size | (simp; omega))
  clear a0 a1 a2 a3 a4 af0 af1 af2 af3 af4
  clear hB1
  try simp only [World.size_alloc] at hz2
  clear hb2
  obtain ⟨a0, a1, a2, a3, a4, af0, af1, af2, af3, af4⟩ := Na
  have al2 : w.heap.size < w2.heap.size := World.block_lt_of_cell? _ _ a0
  have an2 : w.heap.size ≠ w2.heap.size := Nat.ne_of_lt al2
  go_wp2_with fail
  refine (rEnter_any _ _ _ _ _ _).mono ?_
  rintro e w3 ⟨rfl, hb3⟩
  simp only [stepV]
  have hB3 : Below w.heap.size w w3 := bcall (by repeat' (first | (with_reducible refine below_drewN ?_ _) | go_grown)) hb3 (by first | go_size | (simp; omega))
  have hz3 := hb3.size
  have Na : Own5 w3 w.heap.size (.int .i64 d) (.int .i64 c0) (.int .i64 c1) (.int .i64 c2) (.int .i64 c3) := Own5.below (by constructor <;> go_cell) hb3 (by first | go_size | (simp; omega))
  have Nj : Own5 w3 w2.heap.size (.int .i64 (gate (enterB d c0 c1 c2 c3) (d + 1))) (.int .i64 (gate (enterB d c0 c1 c2 c3) c0)) (.int .i64 (gate (enterB d c0 c1 c2 c3) c1)) (.int .i64 (gate (enterB d c0 c1 c2 c3) c2)) (.int .i64 (gate (enterB d c0 c1 c2 c3) c3)) := Own5.below (by constructor <;> go_cell) hb3 (by first | go_size | (simp; omega))
  clear a0 a1 a2 a3 a4 af0 af1 af2 af3 af4
  clear hB2
  try simp only [World.size_alloc] at hz3
  clear hb3
  obtain ⟨a0, a1, a2, a3, a4, af0, af1, af2, af3, af4⟩ := Na
  obtain ⟨j0, j1, j2, j3, j4, jf0, jf1, jf2, jf3, jf4⟩ := Nj
  have al3 : w.heap.size < w3.heap.size := World.block_lt_of_cell? _ _ a0
  have an3 : w.heap.size ≠ w3.heap.size := Nat.ne_of_lt al3
  have jl3 : w2.heap.size < w3.heap.size := World.block_lt_of_cell? _ _ j0
  have jn3 : w2.heap.size ≠ w3.heap.size := Nat.ne_of_lt jl3
  have HL : ∃ y0 y1 y2 y3 y4 ok, leftV d c0 c1 c2 c3 = .tuple #[.agg #[.int .i64 y0, .int .i64 y1, .int .i64 y2, .int .i64 y3, .int .i64 y4], .bool ok] := ⟨_, _, _, _, _, _, rfl⟩
  obtain ⟨y0, y1, y2, y3, y4, yo, HL⟩ := HL
  have HLl := fun W => leave_any d c0 c1 c2 c3 W
  have HLr := fun W => rLeave_any d c0 c1 c2 c3 W
  simp only [HL] at HLl HLr
  replace HL := Lib.hid HL
  have HLl := Lib.hid HLl
  have HLr := Lib.hid HLr
  have HN : ∃ z0 z1 z2 z3 z4 ok, nextV d c0 c1 c2 c3 = .tuple #[.agg #[.int .i64 z0, .int .i64 z1, .int .i64 z2, .int .i64 z3, .int .i64 z4], .bool ok] := ⟨_, _, _, _, _, _, rfl⟩
  obtain ⟨z0, z1, z2, z3, z4, zo, HN⟩ := HN
  have HNl := fun W => next_any d c0 c1 c2 c3 W
  have HNr := fun W => rNext_any d c0 c1 c2 c3 W
  simp only [HN] at HNl HNr
  replace HN := Lib.hid HN
  have HNl := Lib.hid HNl
  have HNr := Lib.hid HNr
  go_wp2_with fail
  refine (HLl.out _).mono ?_
  rintro e w4 ⟨rfl, hb4⟩
  have hB4 : Below w.heap.size w w4 := bcall (by repeat' (first | (with_reducible refine below_drewN ?_ _) | go_grown)) hb4 (by first | go_size | (simp; omega))
  have hz4 := hb4.size
  have Na : Own5 w4 w.heap.size (.int .i64 d) (.int .i64 c0) (.int .i64 c1) (.int .i64 c2) (.int .i64 c3) := Own5.below (by constructor <;> go_cell) hb4 (by first | go_size | (simp; omega))
  have Nj : Own5 w4 w2.heap.size (.int .i64 (gate (enterB d c0 c1 c2 c3) (d + 1))) (.int .i64 (gate (enterB d c0 c1 c2 c3) c0)) (.int .i64 (gate (enterB d c0 c1 c2 c3) c1)) (.int .i64 (gate (enterB d c0 c1 c2 c3) c2)) (.int .i64 (gate (enterB d c0 c1 c2 c3) c3)) := Own5.below (by constructor <;> go_cell) hb4 (by first | go_size | (simp; omega))
  have Nk : Own5 w4 w3.heap.size (.int .i64 (gate (enterB d c0 c1 c2 c3) (d + 1))) (.int .i64 (gate (enterB d c0 c1 c2 c3) c0)) (.int .i64 (gate (enterB d c0 c1 c2 c3) c1)) (.int .i64 (gate (enterB d c0 c1 c2 c3) c2)) (.int .i64 (gate (enterB d c0 c1 c2 c3) c3)) := Own5.below (by constructor <;> go_cell) hb4 (by first | go_size | (simp; omega))
  clear a0 a1 a2 a3 a4 af0 af1 af2 af3 af4 j0 j1 j2 j3 j4 jf0 jf1 jf2 jf3 jf4
  clear hB3
  try simp only [World.size_alloc] at hz4
  clear hb4
  obtain ⟨a0, a1, a2, a3, a4, af0, af1, af2, af3, af4⟩ := Na
  obtain ⟨j0, j1, j2, j3, j4, jf0, jf1, jf2, jf3, jf4⟩ := Nj
  obtain ⟨k0, k1, k2, k3, k4, kf0, kf1, kf2, kf3, kf4⟩ := Nk
  have al4 : w.heap.size < w4.heap.size := World.block_lt_of_cell? _ _ a0
  have an4 : w.heap.size ≠ w4.heap.size := Nat.ne_of_lt al4
  have jl4 : w2.heap.size < w4.heap.size := World.block_lt_of_cell? _ _ j0
  have jn4 : w2.heap.size ≠ w4.heap.size := Nat.ne_of_lt jl4
  have kl4 : w3.heap.size < w4.heap.size := World.block_lt_of_cell? _ _ k0
  have kn4 : w3.heap.size ≠ w4.heap.size := Nat.ne_of_lt kl4
  go_wp2_with fail
  refine (HLr.out _).mono ?_
  rintro e w5 ⟨rfl, hb5⟩
  have hB5 : Below w.heap.size w w5 := bcall (by repeat' (first | (with_reducible refine below_drewN ?_ _) | go_grown)) hb5 (by first | go_size | (simp; omega))
  have hz5 := hb5.size
  have Na : Own5 w5 w.heap.size (.int .i64 d) (.int .i64 c0) (.int .i64 c1) (.int .i64 c2) (.int .i64 c3) := Own5.below (by constructor <;> go_cell) hb5 (by first | go_size | (simp; omega))
  have Nj : Own5 w5 w2.heap.size (.int .i64 y0) (.int .i64 y1) (.int .i64 y2) (.int .i64 y3) (.int .i64 y4) := Own5.below (by constructor <;> go_cell) hb5 (by first | go_size | (simp; omega))
  have Nk : Own5 w5 w3.heap.size (.int .i64 (gate (enterB d c0 c1 c2 c3) (d + 1))) (.int .i64 (gate (enterB d c0 c1 c2 c3) c0)) (.int .i64 (gate (enterB d c0 c1 c2 c3) c1)) (.int .i64 (gate (enterB d c0 c1 c2 c3) c2)) (.int .i64 (gate (enterB d c0 c1 c2 c3) c3)) := Own5.below (by constructor <;> go_cell) hb5 (by first | go_size | (simp; omega))
  clear a0 a1 a2 a3 a4 af0 af1 af2 af3 af4 j0 j1 j2 j3 j4 jf0 jf1 jf2 jf3 jf4 k0 k1 k2 k3 k4 kf0 kf1 kf2 kf3 kf4
  clear hB4
  try simp only [World.size_alloc] at hz5
  clear hb5
  obtain ⟨a0, a1, a2, a3, a4, af0, af1, af2, af3, af4⟩ := Na
  obtain ⟨j0, j1, j2, j3, j4, jf0, jf1, jf2, jf3, jf4⟩ := Nj
  obtain ⟨k0, k1, k2, k3, k4, kf0, kf1, kf2, kf3, kf4⟩ := Nk
  have al5 : w.heap.size < w5.heap.size := World.block_lt_of_cell? _ _ a0
  have an5 : w.heap.size ≠ w5.heap.size := Nat.ne_of_lt al5
  have jl5 : w2.heap.size < w5.heap.size := World.block_lt_of_cell? _ _ j0
  have jn5 : w2.heap.size ≠ w5.heap.size := Nat.ne_of_lt jl5
  have kl5 : w3.heap.size < w5.heap.size := World.block_lt_of_cell? _ _ k0
  have kn5 : w3.heap.size ≠ w5.heap.size := Nat.ne_of_lt kl5
  go_wp2_with fail
  refine (HNl.out _).mono ?_
  rintro e w6 ⟨rfl, hb6⟩
  have hB6 : Below w.heap.size w w6 := bcall (by repeat' (first | (with_reducible refine below_drewN ?_ _) | go_grown)) hb6 (by first | go_size | (simp; omega))
  have hz6 := hb6.size
  have Na : Own5 w6 w.heap.size (.int .i64 d) (.int .i64 c0) (.int .i64 c1) (.int .i64 c2) (.int .i64 c3) := Own5.below (by constructor <;> go_cell) hb6 (by first | go_size | (simp; omega))
  have Nj : Own5 w6 w2.heap.size (.int .i64 y0) (.int .i64 y1) (.int .i64 y2) (.int .i64 y3) (.int .i64 y4) := Own5.below (by constructor <;> go_cell) hb6 (by first | go_size | (simp; omega))
  have Nk : Own5 w6 w3.heap.size (.int .i64 y0) (.int .i64 y1) (.int .i64 y2) (.int .i64 y3) (.int .i64 y4) := Own5.below (by constructor <;> go_cell) hb6 (by first | go_size | (simp; omega))
  clear a0 a1 a2 a3 a4 af0 af1 af2 af3 af4 j0 j1 j2 j3 j4 jf0 jf1 jf2 jf3 jf4 k0 k1 k2 k3 k4 kf0 kf1 kf2 kf3 kf4
  clear hB5
  try simp only [World.size_alloc] at hz6
  clear hb6
  obtain ⟨a0, a1, a2, a3, a4, af0, af1, af2, af3, af4⟩ := Na
  obtain ⟨j0, j1, j2, j3, j4, jf0, jf1, jf2, jf3, jf4⟩ := Nj
  obtain ⟨k0, k1, k2, k3, k4, kf0, kf1, kf2, kf3, kf4⟩ := Nk
  have al6 : w.heap.size < w6.heap.size := World.block_lt_of_cell? _ _ a0
  have an6 : w.heap.size ≠ w6.heap.size := Nat.ne_of_lt al6
  have jl6 : w2.heap.size < w6.heap.size := World.block_lt_of_cell? _ _ j0
  have jn6 : w2.heap.size ≠ w6.heap.size := Nat.ne_of_lt jl6
  have kl6 : w3.heap.size < w6.heap.size := World.block_lt_of_cell? _ _ k0
  have kn6 : w3.heap.size ≠ w6.heap.size := Nat.ne_of_lt kl6
  go_wp2_with fail
  refine (HNr.out _).mono ?_
  rintro e w7 ⟨rfl, hb7⟩
  have hB7 : Below w.heap.size w w7 := bcall (by repeat' (first | (with_reducible refine below_drewN ?_ _) | go_grown)) hb7 (by first | go_size | (simp; omega))
  have hz7 := hb7.size
  have Na : Own5 w7 w.heap.size (.int .i64 d) (.int .i64 c0) (.int .i64 c1) (.int .i64 c2) (.int .i64 c3) := Own5.below (by constructor <;> go_cell) hb7 (by first | go_size | (simp; omega))
  have Nj : Own5 w7 w2.heap.size (.int .i64 z0) (.int .i64 z1) (.int .i64 z2) (.int .i64 z3) (.int .i64 z4) := Own5.below (by constructor <;> go_cell) hb7 (by first | go_size | (simp; omega))
  have Nk : Own5 w7 w3.heap.size (.int .i64 y0) (.int .i64 y1) (.int .i64 y2) (.int .i64 y3) (.int .i64 y4) := Own5.below (by constructor <;> go_cell) hb7 (by first | go_size | (simp; omega))
  clear a0 a1 a2 a3 a4 af0 af1 af2 af3 af4 j0 j1 j2 j3 j4 jf0 jf1 jf2 jf3 jf4 k0 k1 k2 k3 k4 kf0 kf1 kf2 kf3 kf4
  clear hB6
  try simp only [World.size_alloc] at hz7
  clear hb7
  obtain ⟨a0, a1, a2, a3, a4, af0, af1, af2, af3, af4⟩ := Na
  obtain ⟨j0, j1, j2, j3, j4, jf0, jf1, jf2, jf3, jf4⟩ := Nj
  obtain ⟨k0, k1, k2, k3, k4, kf0, kf1, kf2, kf3, kf4⟩ := Nk
  have al7 : w.heap.size < w7.heap.size := World.block_lt_of_cell? _ _ a0
  have an7 : w.heap.size ≠ w7.heap.size := Nat.ne_of_lt al7
  have jl7 : w2.heap.size < w7.heap.size := World.block_lt_of_cell? _ _ j0
  have jn7 : w2.heap.size ≠ w7.heap.size := Nat.ne_of_lt jl7
  have kl7 : w3.heap.size < w7.heap.size := World.block_lt_of_cell? _ _ k0
  have kn7 : w3.heap.size ≠ w7.heap.size := Nat.ne_of_lt kl7
  go_wp2
  go_returns
  exact ⟨ret_bool rfl, by repeat' (first | (with_reducible refine below_drewN ?_ _) | go_grown)⟩
end Go.Proofs.Ytigiinbgnpohmaa
