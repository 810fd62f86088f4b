import Derived.Test.YtigiinbgnpohmaaLdn
namespace Go.Proofs.Ytigiinbgnpohmaa
open Go.RowKit
set_option linter.unusedVariables false
set_option linter.unusedSimpArgs false
attribute [local go_sem] eqArr4

set_option maxHeartbeats 8000000 in
theorem tsJoins_yes (d c0 c1 c2 c3 e0 x0 x1 x2 x3 f y0 y1 y2 y3 : Int) (w : World) (hp : pairedB d c0 c1 c2 c3 e0 x0 x1 x2 x3 = true) (p q r t : Bool) (hac : leB d c0 c1 c2 c3 f y0 y1 y2 y3 = p) (hbc : leB e0 x0 x1 x2 x3 f y0 y1 y2 y3 = q) (hca : leB f y0 y1 y2 y3 d c0 c1 c2 c3 = r) (hcb : leB f y0 y1 y2 y3 e0 x0 x1 x2 x3 = t) : Calls Try.prog 5 #[.agg #[.int .i64 d, .int .i64 c0, .int .i64 c1, .int .i64 c2, .int .i64 c3], .agg #[.int .i64 e0, .int .i64 x0, .int .i64 x1, .int .i64 x2, .int .i64 x3], .agg #[.int .i64 f, .int .i64 y0, .int .i64 y1, .int .i64 y2, .int .i64 y3]] w (Ret (.bool true) w) := by
  obtain ⟨he, h1, h2⟩ := paired_of hp
  subst he
  have hF := join_facts h1 h2
  have hL := join_least h1 h2 f y0 y1 y2 y3
  rw [hac, hbc, hca, hcb] at hL
  have Haj := Lib.hid (le_is hF.1)
  have Hbj := Lib.hid (le_is hF.2.1)
  have Hma := Lib.hid (le_is hF.2.2.1)
  have Hmb := Lib.hid (le_is hF.2.2.2)
  have hjc := hL.1
  have hcm := hL.2
  clear hL hF h1 h2
  have Hac := Lib.hid (le_is hac)
  have Hbc := Lib.hid (le_is hbc)
  have Hca := Lib.hid (le_is hca)
  have Hcb := Lib.hid (le_is hcb)
  have Hjc := Lib.hid (le_is hjc)
  have Hcm := Lib.hid (le_is hcm)
  clear hac hbc hca hcb hjc hcm
  have HJ : Hid (∀ W, Calls Try.prog 9 #[.agg #[.int .i64 d, .int .i64 c0, .int .i64 c1, .int .i64 c2, .int .i64 c3], .agg #[.int .i64 d, .int .i64 x0, .int .i64 x1, .int .i64 x2, .int .i64 x3]] W (Ret (.tuple #[.agg #[.int .i64 d, .int .i64 (imax c0 x0), .int .i64 (imax c1 x1), .int .i64 (imax c2 x2), .int .i64 (imax c3 x3)], .bool true]) W)) := fun W => by have h := join_any d c0 c1 c2 c3 d x0 x1 x2 x3 W; rw [hp] at h; exact h
  have HM : Hid (∀ W, Calls Try.prog 12 #[.agg #[.int .i64 d, .int .i64 c0, .int .i64 c1, .int .i64 c2, .int .i64 c3], .agg #[.int .i64 d, .int .i64 x0, .int .i64 x1, .int .i64 x2, .int .i64 x3]] W (Ret (.tuple #[.agg #[.int .i64 d, .int .i64 (imin c0 x0), .int .i64 (imin c1 x1), .int .i64 (imin c2 x2), .int .i64 (imin c3 x3)], .bool true]) W)) := fun W => by have h := meet_any d c0 c1 c2 c3 d x0 x1 x2 x3 W; rw [hp] at h; exact h
  go_enter Try.func5, Try.ntmps5
  go_wp2_with fail
  refine (awake_any _).mono ?_
  rintro e w1 ⟨rfl, hb1⟩
  have hB1 : Below w.heap.size w w1 := bcall (by repeat' (first | (with_reducible refine below_drewN ?_ _) | go_grown)) hb1 (by first | go_size | (simp; omega))
  have hz1 := hb1.size
  have Npa : Own5 w1 w.heap.size (.int .i64 d) (.int .i64 c0) (.int .i64 c1) (.int .i64 c2) (.int .i64 c3) := Own5.below (by constructor <;> go_cell) hb1 (by first | go_size | (simp; omega))
  have Npb : Own5 w1 (w.heap.size + 1) (.int .i64 d) (.int .i64 x0) (.int .i64 x1) (.int .i64 x2) (.int .i64 x3) := Own5.below (by constructor <;> go_cell) hb1 (by first | go_size | (simp; omega))
  have Npc : Own5 w1 (w.heap.size + 1 + 1) (.int .i64 f) (.int .i64 y0) (.int .i64 y1) (.int .i64 y2) (.int .i64 y3) := Own5.below (by constructor <;> go_cell) hb1 (by first | go_size | (simp; omega))
  try simp only [World.size_alloc] at hz1
  clear hb1
  obtain ⟨pa0, pa1, pa2, pa3, pa4, paf0, paf1, paf2, paf3, paf4⟩ := Npa
  obtain ⟨pb0, pb1, pb2, pb3, pb4, pbf0, pbf1, pbf2, pbf3, pbf4⟩ := Npb
  obtain ⟨pc0, pc1, pc2, pc3, pc4, pcf0, pcf1, pcf2, pcf3, pcf4⟩ := Npc
  have pal1 : w.heap.size < w1.heap.size := World.block_lt_of_cell? _ _ pa0
  have pan1 : w.heap.size ≠ w1.heap.size := Nat.ne_of_lt pal1
  have pbl1 : (w.heap.size + 1) < w1.heap.size := World.block_lt_of_cell? _ _ pb0
  have pbn1 : (w.heap.size + 1) ≠ w1.heap.size := Nat.ne_of_lt pbl1
  have pcl1 : (w.heap.size + 1 + 1) < w1.heap.size := World.block_lt_of_cell? _ _ pc0
  have pcn1 : (w.heap.size + 1 + 1) ≠ w1.heap.size := Nat.ne_of_lt pcl1
  go_wp2_with fail
  refine (HJ.out _).mono ?_
  rintro e w2 ⟨rfl, hb2⟩
  have hB2 : Below w.heap.size w w2 := bcall (by repeat' (first | (with_reducible refine below_drewN ?_ _) | go_grown)) hb2 (by first | go_size | (simp; omega))
  have hz2 := hb2.size
  have Npa : Own5 w2 w.heap.size (.int .i64 d) (.int .i64 c0) (.int .i64 c1) (.int .i64 c2) (.int .i64 c3) := Own5.below (by constructor <;> go_cell) hb2 (by first | go_size | (simp; omega))
  have Npb : Own5 w2 (w.heap.size + 1) (.int .i64 d) (.int .i64 x0) (.int .i64 x1) (.int .i64 x2) (.int .i64 x3) := Own5.below (by constructor <;> go_cell) hb2 (by first | go_size | (simp; omega))
  have Npc : Own5 w2 (w.heap.size + 1 + 1) (.int .i64 f) (.int .i64 y0) (.int .i64 y1) (.int .i64 y2) (.int .i64 y3) := Own5.below (by constructor <;> go_cell) hb2 (by first | go_size | (simp; omega))
  clear pa0 pa1 pa2 pa3 pa4 paf0 paf1 paf2 paf3 paf4 pb0 pb1 pb2 pb3 pb4 pbf0 pbf1 pbf2 pbf3 pbf4 pc0 pc1 pc2 pc3 pc4 pcf0 pcf1 pcf2 pcf3 pcf4
  clear hB1
  try simp only [World.size_alloc] at hz2
  clear hb2
  obtain ⟨pa0, pa1, pa2, pa3, pa4, paf0, paf1, paf2, paf3, paf4⟩ := Npa
  obtain ⟨pb0, pb1, pb2, pb3, pb4, pbf0, pbf1, pbf2, pbf3, pbf4⟩ := Npb
  obtain ⟨pc0, pc1, pc2, pc3, pc4, pcf0, pcf1, pcf2, pcf3, pcf4⟩ := Npc
  have pal2 : w.heap.size < w2.heap.size := World.block_lt_of_cell? _ _ pa0
  have pan2 : w.heap.size ≠ w2.heap.size := Nat.ne_of_lt pal2
  have pbl2 : (w.heap.size + 1) < w2.heap.size := World.block_lt_of_cell? _ _ pb0
  have pbn2 : (w.heap.size + 1) ≠ w2.heap.size := Nat.ne_of_lt pbl2
  have pcl2 : (w.heap.size + 1 + 1) < w2.heap.size := World.block_lt_of_cell? _ _ pc0
  have pcn2 : (w.heap.size + 1 + 1) ≠ w2.heap.size := Nat.ne_of_lt pcl2
  go_wp2_with fail
  refine (HM.out _).mono ?_
  rintro e w3 ⟨rfl, hb3⟩
  have hB3 : Below w.heap.size w w3 := bcall (by repeat' (first | (with_reducible refine below_drewN ?_ _) | go_grown)) hb3 (by first | go_size | (simp; omega))
  have hz3 := hb3.size
  have Npa : Own5 w3 w.heap.size (.int .i64 d) (.int .i64 c0) (.int .i64 c1) (.int .i64 c2) (.int .i64 c3) := Own5.below (by constructor <;> go_cell) hb3 (by first | go_size | (simp; omega))
  have Npb : Own5 w3 (w.heap.size + 1) (.int .i64 d) (.int .i64 x0) (.int .i64 x1) (.int .i64 x2) (.int .i64 x3) := Own5.below (by constructor <;> go_cell) hb3 (by first | go_size | (simp; omega))
  have Npc : Own5 w3 (w.heap.size + 1 + 1) (.int .i64 f) (.int .i64 y0) (.int .i64 y1) (.int .i64 y2) (.int .i64 y3) := Own5.below (by constructor <;> go_cell) hb3 (by first | go_size | (simp; omega))
  have Npj : Own5 w3 w2.heap.size (.int .i64 d) (.int .i64 (imax c0 x0)) (.int .i64 (imax c1 x1)) (.int .i64 (imax c2 x2)) (.int .i64 (imax c3 x3)) := Own5.below (by constructor <;> go_cell) hb3 (by first | go_size | (simp; omega))
  clear pa0 pa1 pa2 pa3 pa4 paf0 paf1 paf2 paf3 paf4 pb0 pb1 pb2 pb3 pb4 pbf0 pbf1 pbf2 pbf3 pbf4 pc0 pc1 pc2 pc3 pc4 pcf0 pcf1 pcf2 pcf3 pcf4
  clear hB2
  try simp only [World.size_alloc] at hz3
  clear hb3
  obtain ⟨pa0, pa1, pa2, pa3, pa4, paf0, paf1, paf2, paf3, paf4⟩ := Npa
  obtain ⟨pb0, pb1, pb2, pb3, pb4, pbf0, pbf1, pbf2, pbf3, pbf4⟩ := Npb
  obtain ⟨pc0, pc1, pc2, pc3, pc4, pcf0, pcf1, pcf2, pcf3, pcf4⟩ := Npc
  obtain ⟨pj0, pj1, pj2, pj3, pj4, pjf0, pjf1, pjf2, pjf3, pjf4⟩ := Npj
  have pal3 : w.heap.size < w3.heap.size := World.block_lt_of_cell? _ _ pa0
  have pan3 : w.heap.size ≠ w3.heap.size := Nat.ne_of_lt pal3
  have pbl3 : (w.heap.size + 1) < w3.heap.size := World.block_lt_of_cell? _ _ pb0
  have pbn3 : (w.heap.size + 1) ≠ w3.heap.size := Nat.ne_of_lt pbl3
  have pcl3 : (w.heap.size + 1 + 1) < w3.heap.size := World.block_lt_of_cell? _ _ pc0
  have pcn3 : (w.heap.size + 1 + 1) ≠ w3.heap.size := Nat.ne_of_lt pcl3
  have pjl3 : w2.heap.size < w3.heap.size := World.block_lt_of_cell? _ _ pj0
  have pjn3 : w2.heap.size ≠ w3.heap.size := Nat.ne_of_lt pjl3
  clear HJ HM
  go_wp2_with fail
  refine (Haj.out _).mono ?_
  rintro e w4 ⟨rfl, hb4⟩
  have hB4 : Below w.heap.size w w4 := bcall (by repeat' (first | (with_reducible refine below_drewN ?_ _) | go_grown)) hb4 (by first | go_size | (simp; omega))
  have hz4 := hb4.size
  have Npa : Own5 w4 w.heap.size (.int .i64 d) (.int .i64 c0) (.int .i64 c1) (.int .i64 c2) (.int .i64 c3) := Own5.below (by constructor <;> go_cell) hb4 (by first | go_size | (simp; omega))
  have Npb : Own5 w4 (w.heap.size + 1) (.int .i64 d) (.int .i64 x0) (.int .i64 x1) (.int .i64 x2) (.int .i64 x3) := Own5.below (by constructor <;> go_cell) hb4 (by first | go_size | (simp; omega))
  have Npc : Own5 w4 (w.heap.size + 1 + 1) (.int .i64 f) (.int .i64 y0) (.int .i64 y1) (.int .i64 y2) (.int .i64 y3) := Own5.below (by constructor <;> go_cell) hb4 (by first | go_size | (simp; omega))
  have Npj : Own5 w4 w2.heap.size (.int .i64 d) (.int .i64 (imax c0 x0)) (.int .i64 (imax c1 x1)) (.int .i64 (imax c2 x2)) (.int .i64 (imax c3 x3)) := Own5.below (by constructor <;> go_cell) hb4 (by first | go_size | (simp; omega))
  have Npm : Own5 w4 w3.heap.size (.int .i64 d) (.int .i64 (imin c0 x0)) (.int .i64 (imin c1 x1)) (.int .i64 (imin c2 x2)) (.int .i64 (imin c3 x3)) := Own5.below (by constructor <;> go_cell) hb4 (by first | go_size | (simp; omega))
  clear pa0 pa1 pa2 pa3 pa4 paf0 paf1 paf2 paf3 paf4 pb0 pb1 pb2 pb3 pb4 pbf0 pbf1 pbf2 pbf3 pbf4 pc0 pc1 pc2 pc3 pc4 pcf0 pcf1 pcf2 pcf3 pcf4 pj0 pj1 pj2 pj3 pj4 pjf0 pjf1 pjf2 pjf3 pjf4
  clear hB3
  try simp only [World.size_alloc] at hz4
  clear hb4
  obtain ⟨pa0, pa1, pa2, pa3, pa4, paf0, paf1, paf2, paf3, paf4⟩ := Npa
  obtain ⟨pb0, pb1, pb2, pb3, pb4, pbf0, pbf1, pbf2, pbf3, pbf4⟩ := Npb
  obtain ⟨pc0, pc1, pc2, pc3, pc4, pcf0, pcf1, pcf2, pcf3, pcf4⟩ := Npc
  obtain ⟨pj0, pj1, pj2, pj3, pj4, pjf0, pjf1, pjf2, pjf3, pjf4⟩ := Npj
  obtain ⟨pm0, pm1, pm2, pm3, pm4, pmf0, pmf1, pmf2, pmf3, pmf4⟩ := Npm
  have pal4 : w.heap.size < w4.heap.size := World.block_lt_of_cell? _ _ pa0
  have pan4 : w.heap.size ≠ w4.heap.size := Nat.ne_of_lt pal4
  have pbl4 : (w.heap.size + 1) < w4.heap.size := World.block_lt_of_cell? _ _ pb0
  have pbn4 : (w.heap.size + 1) ≠ w4.heap.size := Nat.ne_of_lt pbl4
  have pcl4 : (w.heap.size + 1 + 1) < w4.heap.size := World.block_lt_of_cell? _ _ pc0
  have pcn4 : (w.heap.size + 1 + 1) ≠ w4.heap.size := Nat.ne_of_lt pcl4
  have pjl4 : w2.heap.size < w4.heap.size := World.block_lt_of_cell? _ _ pj0
  have pjn4 : w2.heap.size ≠ w4.heap.size := Nat.ne_of_lt pjl4
  have pml4 : w3.heap.size < w4.heap.size := World.block_lt_of_cell? _ _ pm0
  have pmn4 : w3.heap.size ≠ w4.heap.size := Nat.ne_of_lt pml4
  go_wp2_with fail
  refine (Hbj.out _).mono ?_
  rintro e w5 ⟨rfl, hb5⟩
  have hB5 : Below w.heap.size w w5 := bcall (by repeat' (first | (with_reducible refine below_drewN ?_ _) | go_grown)) hb5 (by first | go_size | (simp; omega))
  have hz5 := hb5.size
  have Npa : Own5 w5 w.heap.size (.int .i64 d) (.int .i64 c0) (.int .i64 c1) (.int .i64 c2) (.int .i64 c3) := Own5.below (by constructor <;> go_cell) hb5 (by first | go_size | (simp; omega))
  have Npb : Own5 w5 (w.heap.size + 1) (.int .i64 d) (.int .i64 x0) (.int .i64 x1) (.int .i64 x2) (.int .i64 x3) := Own5.below (by constructor <;> go_cell) hb5 (by first | go_size | (simp; omega))
  have Npc : Own5 w5 (w.heap.size + 1 + 1) (.int .i64 f) (.int .i64 y0) (.int .i64 y1) (.int .i64 y2) (.int .i64 y3) := Own5.below (by constructor <;> go_cell) hb5 (by first | go_size | (simp; omega))
  have Npj : Own5 w5 w2.heap.size (.int .i64 d) (.int .i64 (imax c0 x0)) (.int .i64 (imax c1 x1)) (.int .i64 (imax c2 x2)) (.int .i64 (imax c3 x3)) := Own5.below (by constructor <;> go_cell) hb5 (by first | go_size | (simp; omega))
  have Npm : Own5 w5 w3.heap.size (.int .i64 d) (.int .i64 (imin c0 x0)) (.int .i64 (imin c1 x1)) (.int .i64 (imin c2 x2)) (.int .i64 (imin c3 x3)) := Own5.below (by constructor <;> go_cell) hb5 (by first | go_size | (simp; omega))
  clear pa0 pa1 pa2 pa3 pa4 paf0 paf1 paf2 paf3 paf4 pb0 pb1 pb2 pb3 pb4 pbf0 pbf1 pbf2 pbf3 pbf4 pc0 pc1 pc2 pc3 pc4 pcf0 pcf1 pcf2 pcf3 pcf4 pj0 pj1 pj2 pj3 pj4 pjf0 pjf1 pjf2 pjf3 pjf4 pm0 pm1 pm2 pm3 pm4 pmf0 pmf1 pmf2 pmf3 pmf4
  clear hB4
  try simp only [World.size_alloc] at hz5
  clear hb5
  obtain ⟨pa0, pa1, pa2, pa3, pa4, paf0, paf1, paf2, paf3, paf4⟩ := Npa
  obtain ⟨pb0, pb1, pb2, pb3, pb4, pbf0, pbf1, pbf2, pbf3, pbf4⟩ := Npb
  obtain ⟨pc0, pc1, pc2, pc3, pc4, pcf0, pcf1, pcf2, pcf3, pcf4⟩ := Npc
  obtain ⟨pj0, pj1, pj2, pj3, pj4, pjf0, pjf1, pjf2, pjf3, pjf4⟩ := Npj
  obtain ⟨pm0, pm1, pm2, pm3, pm4, pmf0, pmf1, pmf2, pmf3, pmf4⟩ := Npm
  have pal5 : w.heap.size < w5.heap.size := World.block_lt_of_cell? _ _ pa0
  have pan5 : w.heap.size ≠ w5.heap.size := Nat.ne_of_lt pal5
  have pbl5 : (w.heap.size + 1) < w5.heap.size := World.block_lt_of_cell? _ _ pb0
  have pbn5 : (w.heap.size + 1) ≠ w5.heap.size := Nat.ne_of_lt pbl5
  have pcl5 : (w.heap.size + 1 + 1) < w5.heap.size := World.block_lt_of_cell? _ _ pc0
  have pcn5 : (w.heap.size + 1 + 1) ≠ w5.heap.size := Nat.ne_of_lt pcl5
  have pjl5 : w2.heap.size < w5.heap.size := World.block_lt_of_cell? _ _ pj0
  have pjn5 : w2.heap.size ≠ w5.heap.size := Nat.ne_of_lt pjl5
  have pml5 : w3.heap.size < w5.heap.size := World.block_lt_of_cell? _ _ pm0
  have pmn5 : w3.heap.size ≠ w5.heap.size := Nat.ne_of_lt pml5
  go_wp2_with fail
  refine (Hma.out _).mono ?_
  rintro e w6 ⟨rfl, hb6⟩
  have hB6 : Below w.heap.size w w6 := bcall (by repeat' (first | (with_reducible refine below_drewN ?_ _) | go_grown)) hb6 (by first | go_size | (simp; omega))
  have hz6 := hb6.size
  have Npa : Own5 w6 w.heap.size (.int .i64 d) (.int .i64 c0) (.int .i64 c1) (.int .i64 c2) (.int .i64 c3) := Own5.below (by constructor <;> go_cell) hb6 (by first | go_size | (simp; omega))
  have Npb : Own5 w6 (w.heap.size + 1) (.int .i64 d) (.int .i64 x0) (.int .i64 x1) (.int .i64 x2) (.int .i64 x3) := Own5.below (by constructor <;> go_cell) hb6 (by first | go_size | (simp; omega))
  have Npc : Own5 w6 (w.heap.size + 1 + 1) (.int .i64 f) (.int .i64 y0) (.int .i64 y1) (.int .i64 y2) (.int .i64 y3) := Own5.below (by constructor <;> go_cell) hb6 (by first | go_size | (simp; omega))
  have Npj : Own5 w6 w2.heap.size (.int .i64 d) (.int .i64 (imax c0 x0)) (.int .i64 (imax c1 x1)) (.int .i64 (imax c2 x2)) (.int .i64 (imax c3 x3)) := Own5.below (by constructor <;> go_cell) hb6 (by first | go_size | (simp; omega))
  have Npm : Own5 w6 w3.heap.size (.int .i64 d) (.int .i64 (imin c0 x0)) (.int .i64 (imin c1 x1)) (.int .i64 (imin c2 x2)) (.int .i64 (imin c3 x3)) := Own5.below (by constructor <;> go_cell) hb6 (by first | go_size | (simp; omega))
  clear pa0 pa1 pa2 pa3 pa4 paf0 paf1 paf2 paf3 paf4 pb0 pb1 pb2 pb3 pb4 pbf0 pbf1 pbf2 pbf3 pbf4 pc0 pc1 pc2 pc3 pc4 pcf0 pcf1 pcf2 pcf3 pcf4 pj0 pj1 pj2 pj3 pj4 pjf0 pjf1 pjf2 pjf3 pjf4 pm0 pm1 pm2 pm3 pm4 pmf0 pmf1 pmf2 pmf3 pmf4
  clear hB5
  try simp only [World.size_alloc] at hz6
  clear hb6
  obtain ⟨pa0, pa1, pa2, pa3, pa4, paf0, paf1, paf2, paf3, paf4⟩ := Npa
  obtain ⟨pb0, pb1, pb2, pb3, pb4, pbf0, pbf1, pbf2, pbf3, pbf4⟩ := Npb
  obtain ⟨pc0, pc1, pc2, pc3, pc4, pcf0, pcf1, pcf2, pcf3, pcf4⟩ := Npc
  obtain ⟨pj0, pj1, pj2, pj3, pj4, pjf0, pjf1, pjf2, pjf3, pjf4⟩ := Npj
  obtain ⟨pm0, pm1, pm2, pm3, pm4, pmf0, pmf1, pmf2, pmf3, pmf4⟩ := Npm
  have pal6 : w.heap.size < w6.heap.size := World.block_lt_of_cell? _ _ pa0
  have pan6 : w.heap.size ≠ w6.heap.size := Nat.ne_of_lt pal6
  have pbl6 : (w.heap.size + 1) < w6.heap.size := World.block_lt_of_cell? _ _ pb0
  have pbn6 : (w.heap.size + 1) ≠ w6.heap.size := Nat.ne_of_lt pbl6
  have pcl6 : (w.heap.size + 1 + 1) < w6.heap.size := World.block_lt_of_cell? _ _ pc0
  have pcn6 : (w.heap.size + 1 + 1) ≠ w6.heap.size := Nat.ne_of_lt pcl6
  have pjl6 : w2.heap.size < w6.heap.size := World.block_lt_of_cell? _ _ pj0
  have pjn6 : w2.heap.size ≠ w6.heap.size := Nat.ne_of_lt pjl6
  have pml6 : w3.heap.size < w6.heap.size := World.block_lt_of_cell? _ _ pm0
  have pmn6 : w3.heap.size ≠ w6.heap.size := Nat.ne_of_lt pml6
  go_wp2_with fail
  refine (Hmb.out _).mono ?_
  rintro e w7 ⟨rfl, hb7⟩
  have hB7 : Below w.heap.size w w7 := bcall (by repeat' (first | (with_reducible refine below_drewN ?_ _) | go_grown)) hb7 (by first | go_size | (simp; omega))
  have hz7 := hb7.size
  have Npa : Own5 w7 w.heap.size (.int .i64 d) (.int .i64 c0) (.int .i64 c1) (.int .i64 c2) (.int .i64 c3) := Own5.below (by constructor <;> go_cell) hb7 (by first | go_size | (simp; omega))
  have Npb : Own5 w7 (w.heap.size + 1) (.int .i64 d) (.int .i64 x0) (.int .i64 x1) (.int .i64 x2) (.int .i64 x3) := Own5.below (by constructor <;> go_cell) hb7 (by first | go_size | (simp; omega))
  have Npc : Own5 w7 (w.heap.size + 1 + 1) (.int .i64 f) (.int .i64 y0) (.int .i64 y1) (.int .i64 y2) (.int .i64 y3) := Own5.below (by constructor <;> go_cell) hb7 (by first | go_size | (simp; omega))
  have Npj : Own5 w7 w2.heap.size (.int .i64 d) (.int .i64 (imax c0 x0)) (.int .i64 (imax c1 x1)) (.int .i64 (imax c2 x2)) (.int .i64 (imax c3 x3)) := Own5.below (by constructor <;> go_cell) hb7 (by first | go_size | (simp; omega))
  have Npm : Own5 w7 w3.heap.size (.int .i64 d) (.int .i64 (imin c0 x0)) (.int .i64 (imin c1 x1)) (.int .i64 (imin c2 x2)) (.int .i64 (imin c3 x3)) := Own5.below (by constructor <;> go_cell) hb7 (by first | go_size | (simp; omega))
  clear pa0 pa1 pa2 pa3 pa4 paf0 paf1 paf2 paf3 paf4 pb0 pb1 pb2 pb3 pb4 pbf0 pbf1 pbf2 pbf3 pbf4 pc0 pc1 pc2 pc3 pc4 pcf0 pcf1 pcf2 pcf3 pcf4 pj0 pj1 pj2 pj3 pj4 pjf0 pjf1 pjf2 pjf3 pjf4 pm0 pm1 pm2 pm3 pm4 pmf0 pmf1 pmf2 pmf3 pmf4
  clear hB6
  try simp only [World.size_alloc] at hz7
  clear hb7
  obtain ⟨pa0, pa1, pa2, pa3, pa4, paf0, paf1, paf2, paf3, paf4⟩ := Npa
  obtain ⟨pb0, pb1, pb2, pb3, pb4, pbf0, pbf1, pbf2, pbf3, pbf4⟩ := Npb
  obtain ⟨pc0, pc1, pc2, pc3, pc4, pcf0, pcf1, pcf2, pcf3, pcf4⟩ := Npc
  obtain ⟨pj0, pj1, pj2, pj3, pj4, pjf0, pjf1, pjf2, pjf3, pjf4⟩ := Npj
  obtain ⟨pm0, pm1, pm2, pm3, pm4, pmf0, pmf1, pmf2, pmf3, pmf4⟩ := Npm
  have pal7 : w.heap.size < w7.heap.size := World.block_lt_of_cell? _ _ pa0
  have pan7 : w.heap.size ≠ w7.heap.size := Nat.ne_of_lt pal7
  have pbl7 : (w.heap.size + 1) < w7.heap.size := World.block_lt_of_cell? _ _ pb0
  have pbn7 : (w.heap.size + 1) ≠ w7.heap.size := Nat.ne_of_lt pbl7
  have pcl7 : (w.heap.size + 1 + 1) < w7.heap.size := World.block_lt_of_cell? _ _ pc0
  have pcn7 : (w.heap.size + 1 + 1) ≠ w7.heap.size := Nat.ne_of_lt pcl7
  have pjl7 : w2.heap.size < w7.heap.size := World.block_lt_of_cell? _ _ pj0
  have pjn7 : w2.heap.size ≠ w7.heap.size := Nat.ne_of_lt pjl7
  have pml7 : w3.heap.size < w7.heap.size := World.block_lt_of_cell? _ _ pm0
  have pmn7 : w3.heap.size ≠ w7.heap.size := Nat.ne_of_lt pml7
  go_wp2_with fail
  have pab0 := beh_cell pa0
  have pab1 := beh_cell pa1
  have pab2 := beh_cell pa2
  have pab3 := beh_cell pa3
  have pab4 := beh_cell pa4
  have pbb0 := beh_cell pb0
  have pbb1 := beh_cell pb1
  have pbb2 := beh_cell pb2
  have pbb3 := beh_cell pb3
  have pbb4 := beh_cell pb4
  have pcb0 := beh_cell pc0
  have pcb1 := beh_cell pc1
  have pcb2 := beh_cell pc2
  have pcb3 := beh_cell pc3
  have pcb4 := beh_cell pc4
  have pjb0 := beh_cell pj0
  have pjb1 := beh_cell pj1
  have pjb2 := beh_cell pj2
  have pjb3 := beh_cell pj3
  have pjb4 := beh_cell pj4
  have pmb0 := beh_cell pm0
  have pmb1 := beh_cell pm1
  have pmb2 := beh_cell pm2
  have pmb3 := beh_cell pm3
  have pmb4 := beh_cell pm4
  clear pa0 pa1 pa2 pa3 pa4 paf0 paf1 paf2 paf3 paf4 pb0 pb1 pb2 pb3 pb4 pbf0 pbf1 pbf2 pbf3 pbf4 pc0 pc1 pc2 pc3 pc4 pcf0 pcf1 pcf2 pcf3 pcf4 pj0 pj1 pj2 pj3 pj4 pjf0 pjf1 pjf2 pjf3 pjf4 pm0 pm1 pm2 pm3 pm4 pmf0 pmf1 pmf2 pmf3 pmf4
  cases p <;> cases q <;> cases r <;> cases t
  all_goals
    simp only [Bool.and_self, Bool.and_true, Bool.and_false, Bool.true_and, Bool.false_and] at Hjc Hcm
    refine wp_region_beh (by kernel_rfl) (by kernel_rfl) ?_
    repeat (first | go_big_quiet_step ((first | (with_reducible exact Calls.beh (Hac.out _)) | (with_reducible exact Calls.beh (Hbc.out _)) | (with_reducible exact Calls.beh (Hjc.out _)) | (with_reducible exact Calls.beh (Hca.out _)) | (with_reducible exact Calls.beh (Hcb.out _)) | (with_reducible exact Calls.beh (Hcm.out _)))) | quiet_step ((first | (with_reducible exact Calls.beh (Hac.out _)) | (with_reducible exact Calls.beh (Hbc.out _)) | (with_reducible exact Calls.beh (Hjc.out _)) | (with_reducible exact Calls.beh (Hca.out _)) | (with_reducible exact Calls.beh (Hcb.out _)) | (with_reducible exact Calls.beh (Hcm.out _)))))
    refine wpQuiet_nil ?_
    intro _ hw'
    obtain ⟨g, hw''⟩ := hw'
    subst hw''
    have hBg := bcall hB7 g.h hB7.size
    go_wp2
    go_returns
    exact ⟨ret_bool rfl, by repeat' (first | (with_reducible refine below_drewN ?_ _) | go_grown)⟩

theorem tsJoins_calls (d c0 c1 c2 c3 e0 x0 x1 x2 x3 f y0 y1 y2 y3 : Int) (w : World) : Calls Try.prog 5 #[.agg #[.int .i64 d, .int .i64 c0, .int .i64 c1, .int .i64 c2, .int .i64 c3], .agg #[.int .i64 e0, .int .i64 x0, .int .i64 x1, .int .i64 x2, .int .i64 x3], .agg #[.int .i64 f, .int .i64 y0, .int .i64 y1, .int .i64 y2, .int .i64 y3]] w (Ret (.bool true) w) := by
  cases hp : pairedB d c0 c1 c2 c3 e0 x0 x1 x2 x3
  · exact tsJoins_no _ _ _ _ _ _ _ _ _ _ _ _ _ _ _ w hp
  · exact tsJoins_yes _ _ _ _ _ _ _ _ _ _ _ _ _ _ _ w hp _ _ _ _ rfl rfl rfl rfl
end Go.Proofs.Ytigiinbgnpohmaa
