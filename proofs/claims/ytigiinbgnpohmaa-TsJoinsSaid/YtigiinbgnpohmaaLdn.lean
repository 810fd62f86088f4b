import Derived.Test.YtigiinbgnpohmaaLdp
namespace Go.Proofs.Ytigiinbgnpohmaa
open Go.RowKit
set_option linter.unusedVariables false
set_option linter.unusedSimpArgs false
attribute [local go_sem] eqArr4

set_option maxHeartbeats 8000000 in
theorem tsJoins_no (d c0 c1 c2 c3 e0 x0 x1 x2 x3 f y0 y1 y2 y3 : Int) (w : World) (hp : pairedB d c0 c1 c2 c3 e0 x0 x1 x2 x3 = false) : Calls Try.prog 5 #[.agg #[.int .i64 d, .int .i64 c0, .int .i64 c1, .int .i64 c2, .int .i64 c3], .agg #[.int .i64 e0, .int .i64 x0, .int .i64 x1, .int .i64 x2, .int .i64 x3], .agg #[.int .i64 f, .int .i64 y0, .int .i64 y1, .int .i64 y2, .int .i64 y3]] w (Ret (.bool true) w) := by
  have HJ : Hid (∀ W, Calls Try.prog 9 #[.agg #[.int .i64 d, .int .i64 c0, .int .i64 c1, .int .i64 c2, .int .i64 c3], .agg #[.int .i64 e0, .int .i64 x0, .int .i64 x1, .int .i64 x2, .int .i64 x3]] W (Ret (.tuple #[.agg #[.int .i64 0, .int .i64 0, .int .i64 0, .int .i64 0, .int .i64 0], .bool false]) W)) := fun W => by have h := join_any d c0 c1 c2 c3 e0 x0 x1 x2 x3 W; rw [hp] at h; exact h
  have HM : Hid (∀ W, Calls Try.prog 12 #[.agg #[.int .i64 d, .int .i64 c0, .int .i64 c1, .int .i64 c2, .int .i64 c3], .agg #[.int .i64 e0, .int .i64 x0, .int .i64 x1, .int .i64 x2, .int .i64 x3]] W (Ret (.tuple #[.agg #[.int .i64 0, .int .i64 0, .int .i64 0, .int .i64 0, .int .i64 0], .bool false]) W)) := fun W => by have h := meet_any d c0 c1 c2 c3 e0 x0 x1 x2 x3 W; rw [hp] at h; exact h
  clear hp
  go_enter Try.func5, Try.ntmps5
  go_wp2_with fail
  refine (awake_any _).mono ?_
  rintro e w1 ⟨rfl, hb1⟩
  have hB1 : Below w.heap.size w w1 := bcall (by repeat' (first | (with_reducible refine below_drewN ?_ _) | go_grown)) hb1 (by first | go_size | (simp; omega))
  have hz1 := hb1.size
  have Npa : Own5 w1 w.heap.size (.int .i64 d) (.int .i64 c0) (.int .i64 c1) (.int .i64 c2) (.int .i64 c3) := Own5.below (by constructor <;> go_cell) hb1 (by first | go_size | (simp; omega))
  have Npb : Own5 w1 (w.heap.size + 1) (.int .i64 e0) (.int .i64 x0) (.int .i64 x1) (.int .i64 x2) (.int .i64 x3) := Own5.below (by constructor <;> go_cell) hb1 (by first | go_size | (simp; omega))
  have Npc : Own5 w1 (w.heap.size + 1 + 1) (.int .i64 f) (.int .i64 y0) (.int .i64 y1) (.int .i64 y2) (.int .i64 y3) := Own5.below (by constructor <;> go_cell) hb1 (by first | go_size | (simp; omega))
  try simp only [World.size_alloc] at hz1
  clear hb1
  obtain ⟨pa0, pa1, pa2, pa3, pa4, paf0, paf1, paf2, paf3, paf4⟩ := Npa
  obtain ⟨pb0, pb1, pb2, pb3, pb4, pbf0, pbf1, pbf2, pbf3, pbf4⟩ := Npb
  obtain ⟨pc0, pc1, pc2, pc3, pc4, pcf0, pcf1, pcf2, pcf3, pcf4⟩ := Npc
  have pal1 : w.heap.size < w1.heap.size := World.block_lt_of_cell? _ _ pa0
  have pan1 : w.heap.size ≠ w1.heap.size := Nat.ne_of_lt pal1
  have pbl1 : (w.heap.size + 1) < w1.heap.size := World.block_lt_of_cell? _ _ pb0
  have pbn1 : (w.heap.size + 1) ≠ w1.heap.size := Nat.ne_of_lt pbl1
  have pcl1 : (w.heap.size + 1 + 1) < w1.heap.size := World.block_lt_of_cell? _ _ pc0
  have pcn1 : (w.heap.size + 1 + 1) ≠ w1.heap.size := Nat.ne_of_lt pcl1
  go_wp2_with fail
  refine (HJ.out _).mono ?_
  rintro e w2 ⟨rfl, hb2⟩
  have hB2 : Below w.heap.size w w2 := bcall (by repeat' (first | (with_reducible refine below_drewN ?_ _) | go_grown)) hb2 (by first | go_size | (simp; omega))
  have hz2 := hb2.size
  have Npa : Own5 w2 w.heap.size (.int .i64 d) (.int .i64 c0) (.int .i64 c1) (.int .i64 c2) (.int .i64 c3) := Own5.below (by constructor <;> go_cell) hb2 (by first | go_size | (simp; omega))
  have Npb : Own5 w2 (w.heap.size + 1) (.int .i64 e0) (.int .i64 x0) (.int .i64 x1) (.int .i64 x2) (.int .i64 x3) := Own5.below (by constructor <;> go_cell) hb2 (by first | go_size | (simp; omega))
  have Npc : Own5 w2 (w.heap.size + 1 + 1) (.int .i64 f) (.int .i64 y0) (.int .i64 y1) (.int .i64 y2) (.int .i64 y3) := Own5.below (by constructor <;> go_cell) hb2 (by first | go_size | (simp; omega))
  clear pa0 pa1 pa2 pa3 pa4 paf0 paf1 paf2 paf3 paf4 pb0 pb1 pb2 pb3 pb4 pbf0 pbf1 pbf2 pbf3 pbf4 pc0 pc1 pc2 pc3 pc4 pcf0 pcf1 pcf2 pcf3 pcf4
  clear hB1
  try simp only [World.size_alloc] at hz2
  clear hb2
  obtain ⟨pa0, pa1, pa2, pa3, pa4, paf0, paf1, paf2, paf3, paf4⟩ := Npa
  obtain ⟨pb0, pb1, pb2, pb3, pb4, pbf0, pbf1, pbf2, pbf3, pbf4⟩ := Npb
  obtain ⟨pc0, pc1, pc2, pc3, pc4, pcf0, pcf1, pcf2, pcf3, pcf4⟩ := Npc
  have pal2 : w.heap.size < w2.heap.size := World.block_lt_of_cell? _ _ pa0
  have pan2 : w.heap.size ≠ w2.heap.size := Nat.ne_of_lt pal2
  have pbl2 : (w.heap.size + 1) < w2.heap.size := World.block_lt_of_cell? _ _ pb0
  have pbn2 : (w.heap.size + 1) ≠ w2.heap.size := Nat.ne_of_lt pbl2
  have pcl2 : (w.heap.size + 1 + 1) < w2.heap.size := World.block_lt_of_cell? _ _ pc0
  have pcn2 : (w.heap.size + 1 + 1) ≠ w2.heap.size := Nat.ne_of_lt pcl2
  go_wp2_with fail
  refine (HM.out _).mono ?_
  rintro e w3 ⟨rfl, hb3⟩
  have hB3 : Below w.heap.size w w3 := bcall (by repeat' (first | (with_reducible refine below_drewN ?_ _) | go_grown)) hb3 (by first | go_size | (simp; omega))
  have hz3 := hb3.size
  have Npa : Own5 w3 w.heap.size (.int .i64 d) (.int .i64 c0) (.int .i64 c1) (.int .i64 c2) (.int .i64 c3) := Own5.below (by constructor <;> go_cell) hb3 (by first | go_size | (simp; omega))
  have Npb : Own5 w3 (w.heap.size + 1) (.int .i64 e0) (.int .i64 x0) (.int .i64 x1) (.int .i64 x2) (.int .i64 x3) := Own5.below (by constructor <;> go_cell) hb3 (by first | go_size | (simp; omega))
  have Npc : Own5 w3 (w.heap.size + 1 + 1) (.int .i64 f) (.int .i64 y0) (.int .i64 y1) (.int .i64 y2) (.int .i64 y3) := Own5.below (by constructor <;> go_cell) hb3 (by first | go_size | (simp; omega))
  have Npj : Own5 w3 w2.heap.size (.int .i64 0) (.int .i64 0) (.int .i64 0) (.int .i64 0) (.int .i64 0) := Own5.below (by constructor <;> go_cell) hb3 (by first | go_size | (simp; omega))
  clear pa0 pa1 pa2 pa3 pa4 paf0 paf1 paf2 paf3 paf4 pb0 pb1 pb2 pb3 pb4 pbf0 pbf1 pbf2 pbf3 pbf4 pc0 pc1 pc2 pc3 pc4 pcf0 pcf1 pcf2 pcf3 pcf4
  clear hB2
  try simp only [World.size_alloc] at hz3
  clear hb3
  obtain ⟨pa0, pa1, pa2, pa3, pa4, paf0, paf1, paf2, paf3, paf4⟩ := Npa
  obtain ⟨pb0, pb1, pb2, pb3, pb4, pbf0, pbf1, pbf2, pbf3, pbf4⟩ := Npb
  obtain ⟨pc0, pc1, pc2, pc3, pc4, pcf0, pcf1, pcf2, pcf3, pcf4⟩ := Npc
  obtain ⟨pj0, pj1, pj2, pj3, pj4, pjf0, pjf1, pjf2, pjf3, pjf4⟩ := Npj
  have pal3 : w.heap.size < w3.heap.size := World.block_lt_of_cell? _ _ pa0
  have pan3 : w.heap.size ≠ w3.heap.size := Nat.ne_of_lt pal3
  have pbl3 : (w.heap.size + 1) < w3.heap.size := World.block_lt_of_cell? _ _ pb0
  have pbn3 : (w.heap.size + 1) ≠ w3.heap.size := Nat.ne_of_lt pbl3
  have pcl3 : (w.heap.size + 1 + 1) < w3.heap.size := World.block_lt_of_cell? _ _ pc0
  have pcn3 : (w.heap.size + 1 + 1) ≠ w3.heap.size := Nat.ne_of_lt pcl3
  have pjl3 : w2.heap.size < w3.heap.size := World.block_lt_of_cell? _ _ pj0
  have pjn3 : w2.heap.size ≠ w3.heap.size := Nat.ne_of_lt pjl3
  go_wp2
  go_returns
  exact ⟨ret_bool rfl, by repeat' (first | (with_reducible refine below_drewN ?_ _) | go_grown)⟩

end Go.Proofs.Ytigiinbgnpohmaa
