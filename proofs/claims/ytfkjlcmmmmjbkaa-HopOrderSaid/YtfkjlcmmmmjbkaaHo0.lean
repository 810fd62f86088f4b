import Derived.Test.YtfkjlcmmmmjbkaaBeh
import Derived.Test.YtfkjlcmmmmjbkaaH6p
namespace Go.Proofs.Ytfkjlcmmmmjbkaa
open Go.RowKit
set_option linter.unusedVariables false
set_option linter.unusedSimpArgs false
attribute [local go_sem ↓] loadH loadT storeH storeT
attribute [local simp] size_setRow
attribute [local go_sem] HV.row TV.row
attribute [local go_sem] rowAt_head rowOf_alloc_at rowOf_alloc_past rowOf_drew rowOf_drewN rowOf_setRow_same rowOf_setRow_other rowOf_setCell_same rowOf_setCell_other size_setRow setRow_drew setRow_alloc_at setRow_alloc_past one_int one_bool cell_setRow_same cell_setRow_other frozen_setRow_same frozen_setRow_other
attribute [local go_sem] eqArr4

set_option maxHeartbeats 8000000 in
theorem hopOrder_r0 (a : HV) (b : HV) (t : TV)  
    (HAW : ∀ W, Calls Try.prog 11 #[] W (Ret (.bool true) W))
    (H1 : ∀ W, Calls Try.prog 15 #[(HV.val a)] W (Ret (.bool false) W))
    (H2 : ∀ W, Calls Try.prog 18 #[(HV.val a), (HV.val b)] W (Ret (.bool false) W)) (w : World) :
    Calls Try.prog 6 #[(HV.val a), (HV.val b), (TV.val t)] w (Ret (.bool true) w) := by
  replace HAW := Lib.hid HAW
  replace H1 := Lib.hid H1
  replace H2 := Lib.hid H2
  go_enter Try.func6, Try.ntmps6
  go_wp2_with fail
  refine (HAW.out _).mono ?_
  rintro e w1 ⟨rfl, hb1⟩
  have hG : Below w.heap.size w w1 := bstep (by repeat' first | (with_reducible first | assumption | exact Below.refl _ _ | apply blast | apply Below.drew | apply below_setRow | apply Below.alloc | apply Below.setCell) | (first | with_reducible assumption | (simp; done) | (go_light; first | omega | (simp; omega)))) hb1 (by (first | with_reducible assumption | (simp; done) | (go_light; first | omega | (simp; omega))))
  have hz := hG.size
  have N_a : rowOf w1 (w.heap.size) = some (HV.row a) := rowOf_below (by repeat' first | (with_reducible first | assumption | apply row_drew | apply row_drewN | apply row_set_same | apply row_cell_same | apply row_set_other | apply row_cell_other) | (with_reducible exact row_new (by (first | with_reducible assumption | (simp; done) | (go_light; first | omega | (simp; omega))))) | (with_reducible apply row_old) | (first | with_reducible assumption | (simp; done) | (go_light; first | omega | (simp; omega))) | rfl) hb1 (by (first | with_reducible assumption | (simp; done) | (go_light; first | omega | (simp; omega))))
  have N_b : rowOf w1 ((w.heap.size + 1)) = some (HV.row b) := rowOf_below (by repeat' first | (with_reducible first | assumption | apply row_drew | apply row_drewN | apply row_set_same | apply row_cell_same | apply row_set_other | apply row_cell_other) | (with_reducible exact row_new (by (first | with_reducible assumption | (simp; done) | (go_light; first | omega | (simp; omega))))) | (with_reducible apply row_old) | (first | with_reducible assumption | (simp; done) | (go_light; first | omega | (simp; omega))) | rfl) hb1 (by (first | with_reducible assumption | (simp; done) | (go_light; first | omega | (simp; omega))))
  have N_t : rowOf w1 ((w.heap.size + 1 + 1)) = some (TV.row t) := rowOf_below (by repeat' first | (with_reducible first | assumption | apply row_drew | apply row_drewN | apply row_set_same | apply row_cell_same | apply row_set_other | apply row_cell_other) | (with_reducible exact row_new (by (first | with_reducible assumption | (simp; done) | (go_light; first | omega | (simp; omega))))) | (with_reducible apply row_old) | (first | with_reducible assumption | (simp; done) | (go_light; first | omega | (simp; omega))) | rfl) hb1 (by (first | with_reducible assumption | (simp; done) | (go_light; first | omega | (simp; omega))))
  have hB := hG
  have L_a := rowOf_lt N_a
  have D_a := Nat.ne_of_lt L_a
  have L_b := rowOf_lt N_b
  have D_b := Nat.ne_of_lt L_b
  have L_t := rowOf_lt N_t
  have D_t := Nat.ne_of_lt L_t
  clear hb1 hG
  go_wp2_with fail
  refine (H1.out _).mono ?_
  rintro e w2 ⟨rfl, hb2⟩
  have hG : Below w1.heap.size w1 w2 := bstep (by repeat' first | (with_reducible first | assumption | exact Below.refl _ _ | apply blast | apply Below.drew | apply below_setRow | apply Below.alloc | apply Below.setCell) | (first | with_reducible assumption | (simp; done) | (go_light; first | omega | (simp; omega)))) hb2 (by (first | with_reducible assumption | (simp; done) | (go_light; first | omega | (simp; omega))))
  have hz := hG.size
  replace N_a := rowOf_below N_a hG L_a
  replace N_b := rowOf_below N_b hG L_b
  replace N_t := rowOf_below N_t hG L_t
  replace hB := bstep hB hG hB.size
  clear D_a L_a
  have L_a := rowOf_lt N_a
  have D_a := Nat.ne_of_lt L_a
  clear D_b L_b
  have L_b := rowOf_lt N_b
  have D_b := Nat.ne_of_lt L_b
  clear D_t L_t
  have L_t := rowOf_lt N_t
  have D_t := Nat.ne_of_lt L_t
  clear hb2 hG
  go_wp2_with fail
  refine (H2.out _).mono ?_
  rintro e w3 ⟨rfl, hb3⟩
  have hG : Below w2.heap.size w2 w3 := bstep (by repeat' first | (with_reducible first | assumption | exact Below.refl _ _ | apply blast | apply Below.drew | apply below_setRow | apply Below.alloc | apply Below.setCell) | (first | with_reducible assumption | (simp; done) | (go_light; first | omega | (simp; omega)))) hb3 (by (first | with_reducible assumption | (simp; done) | (go_light; first | omega | (simp; omega))))
  have hz := hG.size
  replace N_a := rowOf_below N_a hG L_a
  replace N_b := rowOf_below N_b hG L_b
  replace N_t := rowOf_below N_t hG L_t
  replace hB := bstep hB hG hB.size
  clear D_a L_a
  have L_a := rowOf_lt N_a
  have D_a := Nat.ne_of_lt L_a
  clear D_b L_b
  have L_b := rowOf_lt N_b
  have D_b := Nat.ne_of_lt L_b
  clear D_t L_t
  have L_t := rowOf_lt N_t
  have D_t := Nat.ne_of_lt L_t
  clear hb3 hG
  go_wp2
  go_returns
  exact ⟨ret_bool rfl, by repeat' first | (with_reducible first | assumption | exact Below.refl _ _ | apply blast | apply Below.drew | apply below_setRow | apply Below.alloc | apply Below.setCell) | (first | with_reducible assumption | (simp; done) | (go_light; first | omega | (simp; omega)))⟩

set_option maxHeartbeats 8000000 in
theorem hopOrder_f2 (a : HV) (b : HV) (t : TV) (x : TV) (y : TV) (o1 : Bool) (o2 : Bool) (x0 : TV) (y0 : TV) (q2 : Bool) (hf : (a.f != b.f) = false) (hk : (a.k != b.k) = false)
    (HAW : ∀ W, Calls Try.prog 11 #[] W (Ret (.bool true) W))
    (H1 : ∀ W, Calls Try.prog 15 #[(HV.val a)] W (Ret (.bool true) W))
    (H2 : ∀ W, Calls Try.prog 15 #[(HV.val b)] W (Ret (.bool true) W))
    (H3 : ∀ W, Calls Try.prog 13 #[(HV.val a), (TV.val t)] W (Ret (.tuple #[(TV.val x), .bool o1]) W))
    (H4 : ∀ W, Calls Try.prog 13 #[(HV.val b), (TV.val t)] W (Ret (.tuple #[(TV.val y), .bool o2]) W))
    (H5 : ∀ W, Calls Try.prog 18 #[(HV.val a), (HV.val b)] W (Ret (.bool false) W))
    (H6 : ∀ W, Calls Try.prog 13 #[(HV.val a), .agg #[.int .i64 a.f, .int .i64 0, .int .i64 0, .int .i64 0, .int .i64 0]] W (Ret (.tuple #[(TV.val x0), .bool false]) W))
    (H7 : ∀ W, Calls Try.prog 13 #[(HV.val b), .agg #[.int .i64 a.f, .int .i64 0, .int .i64 0, .int .i64 0, .int .i64 0]] W (Ret (.tuple #[(TV.val y0), .bool q2]) W))
    (H8 : ∀ W, Calls Try.prog 18 #[(HV.val a), (HV.val a)] W (Ret (.bool true) W)) (w : World) :
    Calls Try.prog 6 #[(HV.val a), (HV.val b), (TV.val t)] w (Ret (.bool true) w) := by
  replace HAW := Lib.hid HAW
  replace H1 := Lib.hid H1
  replace H2 := Lib.hid H2
  replace H3 := Lib.hid H3
  replace H4 := Lib.hid H4
  replace H5 := Lib.hid H5
  replace H6 := Lib.hid H6
  replace H7 := Lib.hid H7
  replace H8 := Lib.hid H8
  go_enter Try.func6, Try.ntmps6
  go_wp2_with fail
  refine (HAW.out _).mono ?_
  rintro e w1 ⟨rfl, hb1⟩
  have hG : Below w.heap.size w w1 := bstep (by repeat' first | (with_reducible first | assumption | exact Below.refl _ _ | apply blast | apply Below.drew | apply below_setRow | apply Below.alloc | apply Below.setCell) | (first | with_reducible assumption | (simp; done) | (go_light; first | omega | (simp; omega)))) hb1 (by (first | with_reducible assumption | (simp; done) | (go_light; first | omega | (simp; omega))))
  have hz := hG.size
  have N_a : rowOf w1 (w.heap.size) = some (HV.row a) := rowOf_below (by repeat' first | (with_reducible first | assumption | apply row_drew | apply row_drewN | apply row_set_same | apply row_cell_same | apply row_set_other | apply row_cell_other) | (with_reducible exact row_new (by (first | with_reducible assumption | (simp; done) | (go_light; first | omega | (simp; omega))))) | (with_reducible apply row_old) | (first | with_reducible assumption | (simp; done) | (go_light; first | omega | (simp; omega))) | rfl) hb1 (by (first | with_reducible assumption | (simp; done) | (go_light; first | omega | (simp; omega))))
  have N_b : rowOf w1 ((w.heap.size + 1)) = some (HV.row b) := rowOf_below (by repeat' first | (with_reducible first | assumption | apply row_drew | apply row_drewN | apply row_set_same | apply row_cell_same | apply row_set_other | apply row_cell_other) | (with_reducible exact row_new (by (first | with_reducible assumption | (simp; done) | (go_light; first | omega | (simp; omega))))) | (with_reducible apply row_old) | (first | with_reducible assumption | (simp; done) | (go_light; first | omega | (simp; omega))) | rfl) hb1 (by (first | with_reducible assumption | (simp; done) | (go_light; first | omega | (simp; omega))))
  have N_t : rowOf w1 ((w.heap.size + 1 + 1)) = some (TV.row t) := rowOf_below (by repeat' first | (with_reducible first | assumption | apply row_drew | apply row_drewN | apply row_set_same | apply row_cell_same | apply row_set_other | apply row_cell_other) | (with_reducible exact row_new (by (first | with_reducible assumption | (simp; done) | (go_light; first | omega | (simp; omega))))) | (with_reducible apply row_old) | (first | with_reducible assumption | (simp; done) | (go_light; first | omega | (simp; omega))) | rfl) hb1 (by (first | with_reducible assumption | (simp; done) | (go_light; first | omega | (simp; omega))))
  have hB := hG
  have L_a := rowOf_lt N_a
  have D_a := Nat.ne_of_lt L_a
  have L_b := rowOf_lt N_b
  have D_b := Nat.ne_of_lt L_b
  have L_t := rowOf_lt N_t
  have D_t := Nat.ne_of_lt L_t
  clear hb1 hG
  go_wp2_with fail
  refine (H1.out _).mono ?_
  rintro e w2 ⟨rfl, hb2⟩
  have hG : Below w1.heap.size w1 w2 := bstep (by repeat' first | (with_reducible first | assumption | exact Below.refl _ _ | apply blast | apply Below.drew | apply below_setRow | apply Below.alloc | apply Below.setCell) | (first | with_reducible assumption | (simp; done) | (go_light; first | omega | (simp; omega)))) hb2 (by (first | with_reducible assumption | (simp; done) | (go_light; first | omega | (simp; omega))))
  have hz := hG.size
  replace N_a := rowOf_below N_a hG L_a
  replace N_b := rowOf_below N_b hG L_b
  replace N_t := rowOf_below N_t hG L_t
  replace hB := bstep hB hG hB.size
  clear D_a L_a
  have L_a := rowOf_lt N_a
  have D_a := Nat.ne_of_lt L_a
  clear D_b L_b
  have L_b := rowOf_lt N_b
  have D_b := Nat.ne_of_lt L_b
  clear D_t L_t
  have L_t := rowOf_lt N_t
  have D_t := Nat.ne_of_lt L_t
  clear hb2 hG
  go_wp2_with fail
  refine (H2.out _).mono ?_
  rintro e w3 ⟨rfl, hb3⟩
  have hG : Below w2.heap.size w2 w3 := bstep (by repeat' first | (with_reducible first | assumption | exact Below.refl _ _ | apply blast | apply Below.drew | apply below_setRow | apply Below.alloc | apply Below.setCell) | (first | with_reducible assumption | (simp; done) | (go_light; first | omega | (simp; omega)))) hb3 (by (first | with_reducible assumption | (simp; done) | (go_light; first | omega | (simp; omega))))
  have hz := hG.size
  replace N_a := rowOf_below N_a hG L_a
  replace N_b := rowOf_below N_b hG L_b
  replace N_t := rowOf_below N_t hG L_t
  replace hB := bstep hB hG hB.size
  clear D_a L_a
  have L_a := rowOf_lt N_a
  have D_a := Nat.ne_of_lt L_a
  clear D_b L_b
  have L_b := rowOf_lt N_b
  have D_b := Nat.ne_of_lt L_b
  clear D_t L_t
  have L_t := rowOf_lt N_t
  have D_t := Nat.ne_of_lt L_t
  clear hb3 hG
  go_wp2_with fail
  refine (H3.out _).mono ?_
  rintro e w4 ⟨rfl, hb4⟩
  have hG : Below w3.heap.size w3 w4 := bstep (by repeat' first | (with_reducible first | assumption | exact Below.refl _ _ | apply blast | apply Below.drew | apply below_setRow | apply Below.alloc | apply Below.setCell) | (first | with_reducible assumption | (simp; done) | (go_light; first | omega | (simp; omega)))) hb4 (by (first | with_reducible assumption | (simp; done) | (go_light; first | omega | (simp; omega))))
  have hz := hG.size
  replace N_a := rowOf_below N_a hG L_a
  replace N_b := rowOf_below N_b hG L_b
  replace N_t := rowOf_below N_t hG L_t
  replace hB := bstep hB hG hB.size
  clear D_a L_a
  have L_a := rowOf_lt N_a
  have D_a := Nat.ne_of_lt L_a
  clear D_b L_b
  have L_b := rowOf_lt N_b
  have D_b := Nat.ne_of_lt L_b
  clear D_t L_t
  have L_t := rowOf_lt N_t
  have D_t := Nat.ne_of_lt L_t
  clear hb4 hG
  have E_a_x := D_a
  have F_a_x := Ne.symm D_a
  have E_b_x := D_b
  have F_b_x := Ne.symm D_b
  have E_t_x := D_t
  have F_t_x := Ne.symm D_t
  have Z_x : w.heap.size ≤ w4.heap.size := hB.size
  go_wp2_with fail
  refine (H4.out _).mono ?_
  rintro e w5 ⟨rfl, hb5⟩
  have hG : Below w4.heap.size w4 w5 := bstep (by repeat' first | (with_reducible first | assumption | exact Below.refl _ _ | apply blast | apply Below.drew | apply below_setRow | apply Below.alloc | apply Below.setCell) | (first | with_reducible assumption | (simp; done) | (go_light; first | omega | (simp; omega)))) hb5 (by (first | with_reducible assumption | (simp; done) | (go_light; first | omega | (simp; omega))))
  have hz := hG.size
  have N_x : rowOf w5 (w4.heap.size) = some (TV.row x) := rowOf_below (by repeat' first | (with_reducible first | assumption | apply row_drew | apply row_drewN | apply row_set_same | apply row_cell_same | apply row_set_other | apply row_cell_other) | (with_reducible exact row_new (by (first | with_reducible assumption | (simp; done) | (go_light; first | omega | (simp; omega))))) | (with_reducible apply row_old) | (first | with_reducible assumption | (simp; done) | (go_light; first | omega | (simp; omega))) | rfl) hb5 (by (first | with_reducible assumption | (simp; done) | (go_light; first | omega | (simp; omega))))
  replace N_a := rowOf_below N_a hG L_a
  replace N_b := rowOf_below N_b hG L_b
  replace N_t := rowOf_below N_t hG L_t
  replace hB := bstep hB hG hB.size
  clear D_a L_a
  have L_a := rowOf_lt N_a
  have D_a := Nat.ne_of_lt L_a
  clear D_b L_b
  have L_b := rowOf_lt N_b
  have D_b := Nat.ne_of_lt L_b
  clear D_t L_t
  have L_t := rowOf_lt N_t
  have D_t := Nat.ne_of_lt L_t
  have L_x := rowOf_lt N_x
  have D_x := Nat.ne_of_lt L_x
  clear hb5 hG
  have E_a_y := D_a
  have F_a_y := Ne.symm D_a
  have E_b_y := D_b
  have F_b_y := Ne.symm D_b
  have E_t_y := D_t
  have F_t_y := Ne.symm D_t
  have E_x_y := D_x
  have F_x_y := Ne.symm D_x
  have Z_y : w.heap.size ≤ w5.heap.size := hB.size
  go_wp2_with fail
  refine (H5.out _).mono ?_
  rintro e w6 ⟨rfl, hb6⟩
  have hG : Below w5.heap.size w5 w6 := bstep (by repeat' first | (with_reducible first | assumption | exact Below.refl _ _ | apply blast | apply Below.drew | apply below_setRow | apply Below.alloc | apply Below.setCell) | (first | with_reducible assumption | (simp; done) | (go_light; first | omega | (simp; omega)))) hb6 (by (first | with_reducible assumption | (simp; done) | (go_light; first | omega | (simp; omega))))
  have hz := hG.size
  have N_y : rowOf w6 (w5.heap.size) = some (TV.row y) := rowOf_below (by repeat' first | (with_reducible first | assumption | apply row_drew | apply row_drewN | apply row_set_same | apply row_cell_same | apply row_set_other | apply row_cell_other) | (with_reducible exact row_new (by (first | with_reducible assumption | (simp; done) | (go_light; first | omega | (simp; omega))))) | (with_reducible apply row_old) | (first | with_reducible assumption | (simp; done) | (go_light; first | omega | (simp; omega))) | rfl) hb6 (by (first | with_reducible assumption | (simp; done) | (go_light; first | omega | (simp; omega))))
  replace N_a := rowOf_below N_a hG L_a
  replace N_b := rowOf_below N_b hG L_b
  replace N_t := rowOf_below N_t hG L_t
  replace N_x := rowOf_below N_x hG L_x
  replace hB := bstep hB hG hB.size
  clear D_a L_a
  have L_a := rowOf_lt N_a
  have D_a := Nat.ne_of_lt L_a
  clear D_b L_b
  have L_b := rowOf_lt N_b
  have D_b := Nat.ne_of_lt L_b
  clear D_t L_t
  have L_t := rowOf_lt N_t
  have D_t := Nat.ne_of_lt L_t
  clear D_x L_x
  have L_x := rowOf_lt N_x
  have D_x := Nat.ne_of_lt L_x
  have L_y := rowOf_lt N_y
  have D_y := Nat.ne_of_lt L_y
  clear hb6 hG
  go_wp2_with fail
  refine (H5.out _).mono ?_
  rintro e w7 ⟨rfl, hb7⟩
  have hG : Below w6.heap.size w6 w7 := bstep (by repeat' first | (with_reducible first | assumption | exact Below.refl _ _ | apply blast | apply Below.drew | apply below_setRow | apply Below.alloc | apply Below.setCell) | (first | with_reducible assumption | (simp; done) | (go_light; first | omega | (simp; omega)))) hb7 (by (first | with_reducible assumption | (simp; done) | (go_light; first | omega | (simp; omega))))
  have hz := hG.size
  replace N_a := rowOf_below N_a hG L_a
  replace N_b := rowOf_below N_b hG L_b
  replace N_t := rowOf_below N_t hG L_t
  replace N_x := rowOf_below N_x hG L_x
  replace N_y := rowOf_below N_y hG L_y
  replace hB := bstep hB hG hB.size
  clear D_a L_a
  have L_a := rowOf_lt N_a
  have D_a := Nat.ne_of_lt L_a
  clear D_b L_b
  have L_b := rowOf_lt N_b
  have D_b := Nat.ne_of_lt L_b
  clear D_t L_t
  have L_t := rowOf_lt N_t
  have D_t := Nat.ne_of_lt L_t
  clear D_x L_x
  have L_x := rowOf_lt N_x
  have D_x := Nat.ne_of_lt L_x
  clear D_y L_y
  have L_y := rowOf_lt N_y
  have D_y := Nat.ne_of_lt L_y
  clear hb7 hG
  have a_0 : w7.cell? ⟨w.heap.size, 0, none⟩ = some (.int .i64 a.f) := rowOf_cell N_a 0
  have E_a_z := D_a
  have F_a_z := Ne.symm D_a
  have E_b_z := D_b
  have F_b_z := Ne.symm D_b
  have E_t_z := D_t
  have F_t_z := Ne.symm D_t
  have E_x_z := D_x
  have F_x_z := Ne.symm D_x
  have E_y_z := D_y
  have F_y_z := Ne.symm D_y
  have Z_z : w.heap.size ≤ w7.heap.size := hB.size
  go_wp2_with fail
  refine (H6.out _).mono ?_
  rintro e w8 ⟨rfl, hb8⟩
  have hG : Below w7.heap.size w7 w8 := bstep (by repeat' first | (with_reducible first | assumption | exact Below.refl _ _ | apply blast | apply Below.drew | apply below_setRow | apply Below.alloc | apply Below.setCell) | (first | with_reducible assumption | (simp; done) | (go_light; first | omega | (simp; omega)))) hb8 (by (first | with_reducible assumption | (simp; done) | (go_light; first | omega | (simp; omega))))
  have hz := hG.size
  have N_z : rowOf w8 (w7.heap.size) = some #[.int .i64 a.f, .int .i64 0, .int .i64 0, .int .i64 0, .int .i64 0] := rowOf_below (by repeat' first | (with_reducible first | assumption | apply row_drew | apply row_drewN | apply row_set_same | apply row_cell_same | apply row_set_other | apply row_cell_other) | (with_reducible exact row_new (by (first | with_reducible assumption | (simp; done) | (go_light; first | omega | (simp; omega))))) | (with_reducible apply row_old) | (first | with_reducible assumption | (simp; done) | (go_light; first | omega | (simp; omega))) | rfl) hb8 (by (first | with_reducible assumption | (simp; done) | (go_light; first | omega | (simp; omega))))
  replace N_a := rowOf_below N_a hG L_a
  replace N_b := rowOf_below N_b hG L_b
  replace N_t := rowOf_below N_t hG L_t
  replace N_x := rowOf_below N_x hG L_x
  replace N_y := rowOf_below N_y hG L_y
  clear a_0
  replace hB := bstep hB hG hB.size
  clear D_a L_a
  have L_a := rowOf_lt N_a
  have D_a := Nat.ne_of_lt L_a
  clear D_b L_b
  have L_b := rowOf_lt N_b
  have D_b := Nat.ne_of_lt L_b
  clear D_t L_t
  have L_t := rowOf_lt N_t
  have D_t := Nat.ne_of_lt L_t
  clear D_x L_x
  have L_x := rowOf_lt N_x
  have D_x := Nat.ne_of_lt L_x
  clear D_y L_y
  have L_y := rowOf_lt N_y
  have D_y := Nat.ne_of_lt L_y
  have L_z := rowOf_lt N_z
  have D_z := Nat.ne_of_lt L_z
  clear hb8 hG
  go_wp2_with fail
  refine (H7.out _).mono ?_
  rintro e w9 ⟨rfl, hb9⟩
  have hB2 : Below w.heap.size w w9 := bstep (by repeat' first | (with_reducible first | assumption | exact Below.refl _ _ | apply blast | apply Below.drew | apply below_setRow | apply Below.alloc | apply Below.setCell) | (first | with_reducible assumption | (simp; done) | (go_light; first | omega | (simp; omega)))) hb9 (by (first | with_reducible assumption | (simp; done) | (go_light; first | omega | (simp; omega))))
  have M_a : rowOf w9 (w.heap.size) = some (HV.row a) := rowOf_below (by repeat' first | (with_reducible first | assumption | apply row_drew | apply row_drewN | apply row_set_same | apply row_cell_same | apply row_set_other | apply row_cell_other) | (with_reducible exact row_new (by (first | with_reducible assumption | (simp; done) | (go_light; first | omega | (simp; omega))))) | (with_reducible apply row_old) | (first | with_reducible assumption | (simp; done) | (go_light; first | omega | (simp; omega))) | rfl) hb9 (by (first | with_reducible assumption | (simp; done) | (go_light; first | omega | (simp; omega))))
  have M_b : rowOf w9 ((w.heap.size + 1)) = some (HV.row b) := rowOf_below (by repeat' first | (with_reducible first | assumption | apply row_drew | apply row_drewN | apply row_set_same | apply row_cell_same | apply row_set_other | apply row_cell_other) | (with_reducible exact row_new (by (first | with_reducible assumption | (simp; done) | (go_light; first | omega | (simp; omega))))) | (with_reducible apply row_old) | (first | with_reducible assumption | (simp; done) | (go_light; first | omega | (simp; omega))) | rfl) hb9 (by (first | with_reducible assumption | (simp; done) | (go_light; first | omega | (simp; omega))))
  have M_t : rowOf w9 ((w.heap.size + 1 + 1)) = some (TV.row t) := rowOf_below (by repeat' first | (with_reducible first | assumption | apply row_drew | apply row_drewN | apply row_set_same | apply row_cell_same | apply row_set_other | apply row_cell_other) | (with_reducible exact row_new (by (first | with_reducible assumption | (simp; done) | (go_light; first | omega | (simp; omega))))) | (with_reducible apply row_old) | (first | with_reducible assumption | (simp; done) | (go_light; first | omega | (simp; omega))) | rfl) hb9 (by (first | with_reducible assumption | (simp; done) | (go_light; first | omega | (simp; omega))))
  have M_x : rowOf w9 (w4.heap.size) = some (TV.row x0) := rowOf_below (by repeat' first | (with_reducible first | assumption | apply row_drew | apply row_drewN | apply row_set_same | apply row_cell_same | apply row_set_other | apply row_cell_other) | (with_reducible exact row_new (by (first | with_reducible assumption | (simp; done) | (go_light; first | omega | (simp; omega))))) | (with_reducible apply row_old) | (first | with_reducible assumption | (simp; done) | (go_light; first | omega | (simp; omega))) | rfl) hb9 (by (first | with_reducible assumption | (simp; done) | (go_light; first | omega | (simp; omega))))
  have M_y : rowOf w9 (w5.heap.size) = some (TV.row y) := rowOf_below (by repeat' first | (with_reducible first | assumption | apply row_drew | apply row_drewN | apply row_set_same | apply row_cell_same | apply row_set_other | apply row_cell_other) | (with_reducible exact row_new (by (first | with_reducible assumption | (simp; done) | (go_light; first | omega | (simp; omega))))) | (with_reducible apply row_old) | (first | with_reducible assumption | (simp; done) | (go_light; first | omega | (simp; omega))) | rfl) hb9 (by (first | with_reducible assumption | (simp; done) | (go_light; first | omega | (simp; omega))))
  have M_z : rowOf w9 (w7.heap.size) = some #[.int .i64 a.f, .int .i64 0, .int .i64 0, .int .i64 0, .int .i64 0] := rowOf_below (by repeat' first | (with_reducible first | assumption | apply row_drew | apply row_drewN | apply row_set_same | apply row_cell_same | apply row_set_other | apply row_cell_other) | (with_reducible exact row_new (by (first | with_reducible assumption | (simp; done) | (go_light; first | omega | (simp; omega))))) | (with_reducible apply row_old) | (first | with_reducible assumption | (simp; done) | (go_light; first | omega | (simp; omega))) | rfl) hb9 (by (first | with_reducible assumption | (simp; done) | (go_light; first | omega | (simp; omega))))
  clear hB; have hB := hB2; clear hB2
  clear N_a D_a L_a
  clear N_b D_b L_b
  clear N_t D_t L_t
  clear N_x D_x L_x
  clear N_y D_y L_y
  clear N_z D_z L_z
  have N_a := M_a; clear M_a
  have L_a := rowOf_lt N_a
  have D_a := Nat.ne_of_lt L_a
  have N_b := M_b; clear M_b
  have L_b := rowOf_lt N_b
  have D_b := Nat.ne_of_lt L_b
  have N_t := M_t; clear M_t
  have L_t := rowOf_lt N_t
  have D_t := Nat.ne_of_lt L_t
  have N_x := M_x; clear M_x
  have L_x := rowOf_lt N_x
  have D_x := Nat.ne_of_lt L_x
  have N_y := M_y; clear M_y
  have L_y := rowOf_lt N_y
  have D_y := Nat.ne_of_lt L_y
  have N_z := M_z; clear M_z
  have L_z := rowOf_lt N_z
  have D_z := Nat.ne_of_lt L_z
  clear hb9
  go_wp2_with fail
  refine gen_world (fun W2 => Below w.heap.size w W2 ∧ rowOf W2 (w.heap.size) = some (HV.row a) ∧ rowOf W2 ((w.heap.size + 1)) = some (HV.row b) ∧ rowOf W2 ((w.heap.size + 1 + 1)) = some (TV.row t) ∧ rowOf W2 (w4.heap.size) = some (TV.row x0) ∧ rowOf W2 (w5.heap.size) = some (TV.row y0) ∧ rowOf W2 (w7.heap.size) = some #[.int .i64 a.f, .int .i64 0, .int .i64 0, .int .i64 0, .int .i64 0]) ⟨by repeat' first | (with_reducible first | assumption | exact Below.refl _ _ | apply blast | apply Below.drew | apply below_setRow | apply Below.alloc | apply Below.setCell) | (first | with_reducible assumption | (simp; done) | (go_light; first | omega | (simp; omega))), by repeat' first | (with_reducible first | assumption | apply row_drew | apply row_drewN | apply row_set_same | apply row_cell_same | apply row_set_other | apply row_cell_other) | (with_reducible exact row_new (by (first | with_reducible assumption | (simp; done) | (go_light; first | omega | (simp; omega))))) | (with_reducible apply row_old) | (first | with_reducible assumption | (simp; done) | (go_light; first | omega | (simp; omega))) | rfl, by repeat' first | (with_reducible first | assumption | apply row_drew | apply row_drewN | apply row_set_same | apply row_cell_same | apply row_set_other | apply row_cell_other) | (with_reducible exact row_new (by (first | with_reducible assumption | (simp; done) | (go_light; first | omega | (simp; omega))))) | (with_reducible apply row_old) | (first | with_reducible assumption | (simp; done) | (go_light; first | omega | (simp; omega))) | rfl, by repeat' first | (with_reducible first | assumption | apply row_drew | apply row_drewN | apply row_set_same | apply row_cell_same | apply row_set_other | apply row_cell_other) | (with_reducible exact row_new (by (first | with_reducible assumption | (simp; done) | (go_light; first | omega | (simp; omega))))) | (with_reducible apply row_old) | (first | with_reducible assumption | (simp; done) | (go_light; first | omega | (simp; omega))) | rfl, by repeat' first | (with_reducible first | assumption | apply row_drew | apply row_drewN | apply row_set_same | apply row_cell_same | apply row_set_other | apply row_cell_other) | (with_reducible exact row_new (by (first | with_reducible assumption | (simp; done) | (go_light; first | omega | (simp; omega))))) | (with_reducible apply row_old) | (first | with_reducible assumption | (simp; done) | (go_light; first | omega | (simp; omega))) | rfl, by repeat' first | (with_reducible first | assumption | apply row_drew | apply row_drewN | apply row_set_same | apply row_cell_same | apply row_set_other | apply row_cell_other) | (with_reducible exact row_new (by (first | with_reducible assumption | (simp; done) | (go_light; first | omega | (simp; omega))))) | (with_reducible apply row_old) | (first | with_reducible assumption | (simp; done) | (go_light; first | omega | (simp; omega))) | rfl, by repeat' first | (with_reducible first | assumption | apply row_drew | apply row_drewN | apply row_set_same | apply row_cell_same | apply row_set_other | apply row_cell_other) | (with_reducible exact row_new (by (first | with_reducible assumption | (simp; done) | (go_light; first | omega | (simp; omega))))) | (with_reducible apply row_old) | (first | with_reducible assumption | (simp; done) | (go_light; first | omega | (simp; omega))) | rfl⟩ ?_
  clear hB
  clear N_a L_a D_a
  clear N_b L_b D_b
  clear N_t L_t D_t
  clear N_x L_x D_x
  clear N_y L_y D_y
  clear N_z L_z D_z
  rintro w10 ⟨hB, N_a, N_b, N_t, N_x, N_y, N_z⟩
  have L_a : w.heap.size < w10.heap.size := rowOf_lt N_a
  have D_a : w.heap.size ≠ w10.heap.size := Nat.ne_of_lt L_a
  have L_b : (w.heap.size + 1) < w10.heap.size := rowOf_lt N_b
  have D_b : (w.heap.size + 1) ≠ w10.heap.size := Nat.ne_of_lt L_b
  have L_t : (w.heap.size + 1 + 1) < w10.heap.size := rowOf_lt N_t
  have D_t : (w.heap.size + 1 + 1) ≠ w10.heap.size := Nat.ne_of_lt L_t
  have L_x : w4.heap.size < w10.heap.size := rowOf_lt N_x
  have D_x : w4.heap.size ≠ w10.heap.size := Nat.ne_of_lt L_x
  have L_y : w5.heap.size < w10.heap.size := rowOf_lt N_y
  have D_y : w5.heap.size ≠ w10.heap.size := Nat.ne_of_lt L_y
  have L_z : w7.heap.size < w10.heap.size := rowOf_lt N_z
  have D_z : w7.heap.size ≠ w10.heap.size := Nat.ne_of_lt L_z
  have a_0 : w10.cell? ⟨w.heap.size, 0, none⟩ = some (.int .i64 a.f) := rowOf_cell N_a 0
  have a_1 : w10.cell? ⟨w.heap.size, 1, none⟩ = some (.int .i64 a.k) := rowOf_cell N_a 1
  have a_2 : w10.cell? ⟨w.heap.size, 2, none⟩ = some (.int .i64 a.t) := rowOf_cell N_a 2
  have a_3 : w10.cell? ⟨w.heap.size, 3, none⟩ = some (.int .i64 a.a0) := rowOf_cell N_a 3
  have a_4 : w10.cell? ⟨w.heap.size, 4, none⟩ = some (.int .i64 a.a1) := rowOf_cell N_a 4
  have a_5 : w10.cell? ⟨w.heap.size, 5, none⟩ = some (.int .i64 a.a2) := rowOf_cell N_a 5
  have a_6 : w10.cell? ⟨w.heap.size, 6, none⟩ = some (.int .i64 a.a3) := rowOf_cell N_a 6
  have a_7 : w10.cell? ⟨w.heap.size, 7, none⟩ = some (.int .i64 a.b0) := rowOf_cell N_a 7
  have a_8 : w10.cell? ⟨w.heap.size, 8, none⟩ = some (.int .i64 a.b1) := rowOf_cell N_a 8
  have a_9 : w10.cell? ⟨w.heap.size, 9, none⟩ = some (.int .i64 a.b2) := rowOf_cell N_a 9
  have a_10 : w10.cell? ⟨w.heap.size, 10, none⟩ = some (.int .i64 a.b3) := rowOf_cell N_a 10
  have b_0 : w10.cell? ⟨(w.heap.size + 1), 0, none⟩ = some (.int .i64 b.f) := rowOf_cell N_b 0
  have b_1 : w10.cell? ⟨(w.heap.size + 1), 1, none⟩ = some (.int .i64 b.k) := rowOf_cell N_b 1
  have b_2 : w10.cell? ⟨(w.heap.size + 1), 2, none⟩ = some (.int .i64 b.t) := rowOf_cell N_b 2
  have b_3 : w10.cell? ⟨(w.heap.size + 1), 3, none⟩ = some (.int .i64 b.a0) := rowOf_cell N_b 3
  have b_4 : w10.cell? ⟨(w.heap.size + 1), 4, none⟩ = some (.int .i64 b.a1) := rowOf_cell N_b 4
  have b_5 : w10.cell? ⟨(w.heap.size + 1), 5, none⟩ = some (.int .i64 b.a2) := rowOf_cell N_b 5
  have b_6 : w10.cell? ⟨(w.heap.size + 1), 6, none⟩ = some (.int .i64 b.a3) := rowOf_cell N_b 6
  have b_7 : w10.cell? ⟨(w.heap.size + 1), 7, none⟩ = some (.int .i64 b.b0) := rowOf_cell N_b 7
  have b_8 : w10.cell? ⟨(w.heap.size + 1), 8, none⟩ = some (.int .i64 b.b1) := rowOf_cell N_b 8
  have b_9 : w10.cell? ⟨(w.heap.size + 1), 9, none⟩ = some (.int .i64 b.b2) := rowOf_cell N_b 9
  have b_10 : w10.cell? ⟨(w.heap.size + 1), 10, none⟩ = some (.int .i64 b.b3) := rowOf_cell N_b 10
  refine wp_region_beh (by kernel_rfl) (by kernel_rfl) ?_
  have a_b0 := beh_cell a_0
  have a_b1 := beh_cell a_1
  have a_b2 := beh_cell a_2
  have a_b3 := beh_cell a_3
  have a_b4 := beh_cell a_4
  have a_b5 := beh_cell a_5
  have a_b6 := beh_cell a_6
  have a_b7 := beh_cell a_7
  have a_b8 := beh_cell a_8
  have a_b9 := beh_cell a_9
  have a_b10 := beh_cell a_10
  clear a_0 a_1 a_2 a_3 a_4 a_5 a_6 a_7 a_8 a_9 a_10
  have b_b0 := beh_cell b_0
  have b_b1 := beh_cell b_1
  have b_b2 := beh_cell b_2
  have b_b3 := beh_cell b_3
  have b_b4 := beh_cell b_4
  have b_b5 := beh_cell b_5
  have b_b6 := beh_cell b_6
  have b_b7 := beh_cell b_7
  have b_b8 := beh_cell b_8
  have b_b9 := beh_cell b_9
  have b_b10 := beh_cell b_10
  clear b_0 b_1 b_2 b_3 b_4 b_5 b_6 b_7 b_8 b_9 b_10
  repeat (first | go_big_quiet_step (first | (with_reducible exact Calls.beh (H8.out _))) | quiet_step (first | (with_reducible exact Calls.beh (H8.out _))))
  refine wpQuiet_nil ?_
  intro _ hw'
  obtain ⟨g, hw''⟩ := hw'
  subst hw''
  clear a_b0 a_b1 a_b2 a_b3 a_b4 a_b5 a_b6 a_b7 a_b8 a_b9 a_b10 b_b0 b_b1 b_b2 b_b3 b_b4 b_b5 b_b6 b_b7 b_b8 b_b9 b_b10
  have hb11 := g.h
  generalize g.w = w11 at hb11 ⊢
  clear g
  have hG : Below w10.heap.size w10 w11 := bstep (by repeat' first | (with_reducible first | assumption | exact Below.refl _ _ | apply blast | apply Below.drew | apply below_setRow | apply Below.alloc | apply Below.setCell) | (first | with_reducible assumption | (simp; done) | (go_light; first | omega | (simp; omega)))) hb11 (by (first | with_reducible assumption | (simp; done) | (go_light; first | omega | (simp; omega))))
  have hz := hG.size
  replace N_a := rowOf_below N_a hG L_a
  replace N_b := rowOf_below N_b hG L_b
  replace N_t := rowOf_below N_t hG L_t
  replace N_x := rowOf_below N_x hG L_x
  replace N_y := rowOf_below N_y hG L_y
  replace N_z := rowOf_below N_z hG L_z
  replace hB := bstep hB hG hB.size
  clear D_a L_a
  have L_a := rowOf_lt N_a
  have D_a := Nat.ne_of_lt L_a
  clear D_b L_b
  have L_b := rowOf_lt N_b
  have D_b := Nat.ne_of_lt L_b
  clear D_t L_t
  have L_t := rowOf_lt N_t
  have D_t := Nat.ne_of_lt L_t
  clear D_x L_x
  have L_x := rowOf_lt N_x
  have D_x := Nat.ne_of_lt L_x
  clear D_y L_y
  have L_y := rowOf_lt N_y
  have D_y := Nat.ne_of_lt L_y
  clear D_z L_z
  have L_z := rowOf_lt N_z
  have D_z := Nat.ne_of_lt L_z
  clear hb11 hG
  go_wp2
  go_returns
  exact ⟨ret_bool rfl, by repeat' first | (with_reducible first | assumption | exact Below.refl _ _ | apply blast | apply Below.drew | apply below_setRow | apply Below.alloc | apply Below.setCell) | (first | with_reducible assumption | (simp; done) | (go_light; first | omega | (simp; omega)))⟩

set_option maxHeartbeats 8000000 in
theorem hopOrder_002 (a : HV) (b : HV) (t : TV) (x : TV) (y : TV) (o2 : Bool) (x0 : TV) (y0 : TV) (q2 : Bool) (hf : (a.f != b.f) = false) (hk : (a.k != b.k) = false)
    (HAW : ∀ W, Calls Try.prog 11 #[] W (Ret (.bool true) W))
    (H1 : ∀ W, Calls Try.prog 15 #[(HV.val a)] W (Ret (.bool true) W))
    (H2 : ∀ W, Calls Try.prog 15 #[(HV.val b)] W (Ret (.bool true) W))
    (H3 : ∀ W, Calls Try.prog 13 #[(HV.val a), (TV.val t)] W (Ret (.tuple #[(TV.val x), .bool false]) W))
    (H4 : ∀ W, Calls Try.prog 13 #[(HV.val b), (TV.val t)] W (Ret (.tuple #[(TV.val y), .bool o2]) W))
    (H5 : ∀ W, Calls Try.prog 18 #[(HV.val a), (HV.val b)] W (Ret (.bool true) W))
    (H6 : ∀ W, Calls Try.prog 18 #[(HV.val b), (HV.val a)] W (Ret (.bool false) W))
    (H7 : ∀ W, Calls Try.prog 13 #[(HV.val a), .agg #[.int .i64 a.f, .int .i64 0, .int .i64 0, .int .i64 0, .int .i64 0]] W (Ret (.tuple #[(TV.val x0), .bool false]) W))
    (H8 : ∀ W, Calls Try.prog 13 #[(HV.val b), .agg #[.int .i64 a.f, .int .i64 0, .int .i64 0, .int .i64 0, .int .i64 0]] W (Ret (.tuple #[(TV.val y0), .bool q2]) W))
    (H9 : ∀ W, Calls Try.prog 18 #[(HV.val a), (HV.val a)] W (Ret (.bool true) W)) (w : World) :
    Calls Try.prog 6 #[(HV.val a), (HV.val b), (TV.val t)] w (Ret (.bool true) w) := by
  replace HAW := Lib.hid HAW
  replace H1 := Lib.hid H1
  replace H2 := Lib.hid H2
  replace H3 := Lib.hid H3
  replace H4 := Lib.hid H4
  replace H5 := Lib.hid H5
  replace H6 := Lib.hid H6
  replace H7 := Lib.hid H7
  replace H8 := Lib.hid H8
  replace H9 := Lib.hid H9
  go_enter Try.func6, Try.ntmps6
  go_wp2_with fail
  refine (HAW.out _).mono ?_
  rintro e w1 ⟨rfl, hb1⟩
  have hG : Below w.heap.size w w1 := bstep (by repeat' first | (with_reducible first | assumption | exact Below.refl _ _ | apply blast | apply Below.drew | apply below_setRow | apply Below.alloc | apply Below.setCell) | (first | with_reducible assumption | (simp; done) | (go_light; first | omega | (simp; omega)))) hb1 (by (first | with_reducible assumption | (simp; done) | (go_light; first | omega | (simp; omega))))
  have hz := hG.size
  have N_a : rowOf w1 (w.heap.size) = some (HV.row a) := rowOf_below (by repeat' first | (with_reducible first | assumption | apply row_drew | apply row_drewN | apply row_set_same | apply row_cell_same | apply row_set_other | apply row_cell_other) | (with_reducible exact row_new (by (first | with_reducible assumption | (simp; done) | (go_light; first | omega | (simp; omega))))) | (with_reducible apply row_old) | (first | with_reducible assumption | (simp; done) | (go_light; first | omega | (simp; omega))) | rfl) hb1 (by (first | with_reducible assumption | (simp; done) | (go_light; first | omega | (simp; omega))))
  have N_b : rowOf w1 ((w.heap.size + 1)) = some (HV.row b) := rowOf_below (by repeat' first | (with_reducible first | assumption | apply row_drew | apply row_drewN | apply row_set_same | apply row_cell_same | apply row_set_other | apply row_cell_other) | (with_reducible exact row_new (by (first | with_reducible assumption | (simp; done) | (go_light; first | omega | (simp; omega))))) | (with_reducible apply row_old) | (first | with_reducible assumption | (simp; done) | (go_light; first | omega | (simp; omega))) | rfl) hb1 (by (first | with_reducible assumption | (simp; done) | (go_light; first | omega | (simp; omega))))
  have N_t : rowOf w1 ((w.heap.size + 1 + 1)) = some (TV.row t) := rowOf_below (by repeat' first | (with_reducible first | assumption | apply row_drew | apply row_drewN | apply row_set_same | apply row_cell_same | apply row_set_other | apply row_cell_other) | (with_reducible exact row_new (by (first | with_reducible assumption | (simp; done) | (go_light; first | omega | (simp; omega))))) | (with_reducible apply row_old) | (first | with_reducible assumption | (simp; done) | (go_light; first | omega | (simp; omega))) | rfl) hb1 (by (first | with_reducible assumption | (simp; done) | (go_light; first | omega | (simp; omega))))
  have hB := hG
  have L_a := rowOf_lt N_a
  have D_a := Nat.ne_of_lt L_a
  have L_b := rowOf_lt N_b
  have D_b := Nat.ne_of_lt L_b
  have L_t := rowOf_lt N_t
  have D_t := Nat.ne_of_lt L_t
  clear hb1 hG
  go_wp2_with fail
  refine (H1.out _).mono ?_
  rintro e w2 ⟨rfl, hb2⟩
  have hG : Below w1.heap.size w1 w2 := bstep (by repeat' first | (with_reducible first | assumption | exact Below.refl _ _ | apply blast | apply Below.drew | apply below_setRow | apply Below.alloc | apply Below.setCell) | (first | with_reducible assumption | (simp; done) | (go_light; first | omega | (simp; omega)))) hb2 (by (first | with_reducible assumption | (simp; done) | (go_light; first | omega | (simp; omega))))
  have hz := hG.size
  replace N_a := rowOf_below N_a hG L_a
  replace N_b := rowOf_below N_b hG L_b
  replace N_t := rowOf_below N_t hG L_t
  replace hB := bstep hB hG hB.size
  clear D_a L_a
  have L_a := rowOf_lt N_a
  have D_a := Nat.ne_of_lt L_a
  clear D_b L_b
  have L_b := rowOf_lt N_b
  have D_b := Nat.ne_of_lt L_b
  clear D_t L_t
  have L_t := rowOf_lt N_t
  have D_t := Nat.ne_of_lt L_t
  clear hb2 hG
  go_wp2_with fail
  refine (H2.out _).mono ?_
  rintro e w3 ⟨rfl, hb3⟩
  have hG : Below w2.heap.size w2 w3 := bstep (by repeat' first | (with_reducible first | assumption | exact Below.refl _ _ | apply blast | apply Below.drew | apply below_setRow | apply Below.alloc | apply Below.setCell) | (first | with_reducible assumption | (simp; done) | (go_light; first | omega | (simp; omega)))) hb3 (by (first | with_reducible assumption | (simp; done) | (go_light; first | omega | (simp; omega))))
  have hz := hG.size
  replace N_a := rowOf_below N_a hG L_a
  replace N_b := rowOf_below N_b hG L_b
  replace N_t := rowOf_below N_t hG L_t
  replace hB := bstep hB hG hB.size
  clear D_a L_a
  have L_a := rowOf_lt N_a
  have D_a := Nat.ne_of_lt L_a
  clear D_b L_b
  have L_b := rowOf_lt N_b
  have D_b := Nat.ne_of_lt L_b
  clear D_t L_t
  have L_t := rowOf_lt N_t
  have D_t := Nat.ne_of_lt L_t
  clear hb3 hG
  go_wp2_with fail
  refine (H3.out _).mono ?_
  rintro e w4 ⟨rfl, hb4⟩
  have hG : Below w3.heap.size w3 w4 := bstep (by repeat' first | (with_reducible first | assumption | exact Below.refl _ _ | apply blast | apply Below.drew | apply below_setRow | apply Below.alloc | apply Below.setCell) | (first | with_reducible assumption | (simp; done) | (go_light; first | omega | (simp; omega)))) hb4 (by (first | with_reducible assumption | (simp; done) | (go_light; first | omega | (simp; omega))))
  have hz := hG.size
  replace N_a := rowOf_below N_a hG L_a
  replace N_b := rowOf_below N_b hG L_b
  replace N_t := rowOf_below N_t hG L_t
  replace hB := bstep hB hG hB.size
  clear D_a L_a
  have L_a := rowOf_lt N_a
  have D_a := Nat.ne_of_lt L_a
  clear D_b L_b
  have L_b := rowOf_lt N_b
  have D_b := Nat.ne_of_lt L_b
  clear D_t L_t
  have L_t := rowOf_lt N_t
  have D_t := Nat.ne_of_lt L_t
  clear hb4 hG
  have E_a_x := D_a
  have F_a_x := Ne.symm D_a
  have E_b_x := D_b
  have F_b_x := Ne.symm D_b
  have E_t_x := D_t
  have F_t_x := Ne.symm D_t
  have Z_x : w.heap.size ≤ w4.heap.size := hB.size
  go_wp2_with fail
  refine (H4.out _).mono ?_
  rintro e w5 ⟨rfl, hb5⟩
  have hG : Below w4.heap.size w4 w5 := bstep (by repeat' first | (with_reducible first | assumption | exact Below.refl _ _ | apply blast | apply Below.drew | apply below_setRow | apply Below.alloc | apply Below.setCell) | (first | with_reducible assumption | (simp; done) | (go_light; first | omega | (simp; omega)))) hb5 (by (first | with_reducible assumption | (simp; done) | (go_light; first | omega | (simp; omega))))
  have hz := hG.size
  have N_x : rowOf w5 (w4.heap.size) = some (TV.row x) := rowOf_below (by repeat' first | (with_reducible first | assumption | apply row_drew | apply row_drewN | apply row_set_same | apply row_cell_same | apply row_set_other | apply row_cell_other) | (with_reducible exact row_new (by (first | with_reducible assumption | (simp; done) | (go_light; first | omega | (simp; omega))))) | (with_reducible apply row_old) | (first | with_reducible assumption | (simp; done) | (go_light; first | omega | (simp; omega))) | rfl) hb5 (by (first | with_reducible assumption | (simp; done) | (go_light; first | omega | (simp; omega))))
  replace N_a := rowOf_below N_a hG L_a
  replace N_b := rowOf_below N_b hG L_b
  replace N_t := rowOf_below N_t hG L_t
  replace hB := bstep hB hG hB.size
  clear D_a L_a
  have L_a := rowOf_lt N_a
  have D_a := Nat.ne_of_lt L_a
  clear D_b L_b
  have L_b := rowOf_lt N_b
  have D_b := Nat.ne_of_lt L_b
  clear D_t L_t
  have L_t := rowOf_lt N_t
  have D_t := Nat.ne_of_lt L_t
  have L_x := rowOf_lt N_x
  have D_x := Nat.ne_of_lt L_x
  clear hb5 hG
  have E_a_y := D_a
  have F_a_y := Ne.symm D_a
  have E_b_y := D_b
  have F_b_y := Ne.symm D_b
  have E_t_y := D_t
  have F_t_y := Ne.symm D_t
  have E_x_y := D_x
  have F_x_y := Ne.symm D_x
  have Z_y : w.heap.size ≤ w5.heap.size := hB.size
  go_wp2_with fail
  refine (H5.out _).mono ?_
  rintro e w6 ⟨rfl, hb6⟩
  have hG : Below w5.heap.size w5 w6 := bstep (by repeat' first | (with_reducible first | assumption | exact Below.refl _ _ | apply blast | apply Below.drew | apply below_setRow | apply Below.alloc | apply Below.setCell) | (first | with_reducible assumption | (simp; done) | (go_light; first | omega | (simp; omega)))) hb6 (by (first | with_reducible assumption | (simp; done) | (go_light; first | omega | (simp; omega))))
  have hz := hG.size
  have N_y : rowOf w6 (w5.heap.size) = some (TV.row y) := rowOf_below (by repeat' first | (with_reducible first | assumption | apply row_drew | apply row_drewN | apply row_set_same | apply row_cell_same | apply row_set_other | apply row_cell_other) | (with_reducible exact row_new (by (first | with_reducible assumption | (simp; done) | (go_light; first | omega | (simp; omega))))) | (with_reducible apply row_old) | (first | with_reducible assumption | (simp; done) | (go_light; first | omega | (simp; omega))) | rfl) hb6 (by (first | with_reducible assumption | (simp; done) | (go_light; first | omega | (simp; omega))))
  replace N_a := rowOf_below N_a hG L_a
  replace N_b := rowOf_below N_b hG L_b
  replace N_t := rowOf_below N_t hG L_t
  replace N_x := rowOf_below N_x hG L_x
  replace hB := bstep hB hG hB.size
  clear D_a L_a
  have L_a := rowOf_lt N_a
  have D_a := Nat.ne_of_lt L_a
  clear D_b L_b
  have L_b := rowOf_lt N_b
  have D_b := Nat.ne_of_lt L_b
  clear D_t L_t
  have L_t := rowOf_lt N_t
  have D_t := Nat.ne_of_lt L_t
  clear D_x L_x
  have L_x := rowOf_lt N_x
  have D_x := Nat.ne_of_lt L_x
  have L_y := rowOf_lt N_y
  have D_y := Nat.ne_of_lt L_y
  clear hb6 hG
  go_wp2_with fail
  refine (H5.out _).mono ?_
  rintro e w7 ⟨rfl, hb7⟩
  have hG : Below w6.heap.size w6 w7 := bstep (by repeat' first | (with_reducible first | assumption | exact Below.refl _ _ | apply blast | apply Below.drew | apply below_setRow | apply Below.alloc | apply Below.setCell) | (first | with_reducible assumption | (simp; done) | (go_light; first | omega | (simp; omega)))) hb7 (by (first | with_reducible assumption | (simp; done) | (go_light; first | omega | (simp; omega))))
  have hz := hG.size
  replace N_a := rowOf_below N_a hG L_a
  replace N_b := rowOf_below N_b hG L_b
  replace N_t := rowOf_below N_t hG L_t
  replace N_x := rowOf_below N_x hG L_x
  replace N_y := rowOf_below N_y hG L_y
  replace hB := bstep hB hG hB.size
  clear D_a L_a
  have L_a := rowOf_lt N_a
  have D_a := Nat.ne_of_lt L_a
  clear D_b L_b
  have L_b := rowOf_lt N_b
  have D_b := Nat.ne_of_lt L_b
  clear D_t L_t
  have L_t := rowOf_lt N_t
  have D_t := Nat.ne_of_lt L_t
  clear D_x L_x
  have L_x := rowOf_lt N_x
  have D_x := Nat.ne_of_lt L_x
  clear D_y L_y
  have L_y := rowOf_lt N_y
  have D_y := Nat.ne_of_lt L_y
  clear hb7 hG
  go_wp2_with fail
  refine (H6.out _).mono ?_
  rintro e w8 ⟨rfl, hb8⟩
  have hG : Below w7.heap.size w7 w8 := bstep (by repeat' first | (with_reducible first | assumption | exact Below.refl _ _ | apply blast | apply Below.drew | apply below_setRow | apply Below.alloc | apply Below.setCell) | (first | with_reducible assumption | (simp; done) | (go_light; first | omega | (simp; omega)))) hb8 (by (first | with_reducible assumption | (simp; done) | (go_light; first | omega | (simp; omega))))
  have hz := hG.size
  replace N_a := rowOf_below N_a hG L_a
  replace N_b := rowOf_below N_b hG L_b
  replace N_t := rowOf_below N_t hG L_t
  replace N_x := rowOf_below N_x hG L_x
  replace N_y := rowOf_below N_y hG L_y
  replace hB := bstep hB hG hB.size
  clear D_a L_a
  have L_a := rowOf_lt N_a
  have D_a := Nat.ne_of_lt L_a
  clear D_b L_b
  have L_b := rowOf_lt N_b
  have D_b := Nat.ne_of_lt L_b
  clear D_t L_t
  have L_t := rowOf_lt N_t
  have D_t := Nat.ne_of_lt L_t
  clear D_x L_x
  have L_x := rowOf_lt N_x
  have D_x := Nat.ne_of_lt L_x
  clear D_y L_y
  have L_y := rowOf_lt N_y
  have D_y := Nat.ne_of_lt L_y
  clear hb8 hG
  have a_0 : w8.cell? ⟨w.heap.size, 0, none⟩ = some (.int .i64 a.f) := rowOf_cell N_a 0
  have E_a_z := D_a
  have F_a_z := Ne.symm D_a
  have E_b_z := D_b
  have F_b_z := Ne.symm D_b
  have E_t_z := D_t
  have F_t_z := Ne.symm D_t
  have E_x_z := D_x
  have F_x_z := Ne.symm D_x
  have E_y_z := D_y
  have F_y_z := Ne.symm D_y
  have Z_z : w.heap.size ≤ w8.heap.size := hB.size
  go_wp2_with fail
  refine (H7.out _).mono ?_
  rintro e w9 ⟨rfl, hb9⟩
  have hG : Below w8.heap.size w8 w9 := bstep (by repeat' first | (with_reducible first | assumption | exact Below.refl _ _ | apply blast | apply Below.drew | apply below_setRow | apply Below.alloc | apply Below.setCell) | (first | with_reducible assumption | (simp; done) | (go_light; first | omega | (simp; omega)))) hb9 (by (first | with_reducible assumption | (simp; done) | (go_light; first | omega | (simp; omega))))
  have hz := hG.size
  have N_z : rowOf w9 (w8.heap.size) = some #[.int .i64 a.f, .int .i64 0, .int .i64 0, .int .i64 0, .int .i64 0] := rowOf_below (by repeat' first | (with_reducible first | assumption | apply row_drew | apply row_drewN | apply row_set_same | apply row_cell_same | apply row_set_other | apply row_cell_other) | (with_reducible exact row_new (by (first | with_reducible assumption | (simp; done) | (go_light; first | omega | (simp; omega))))) | (with_reducible apply row_old) | (first | with_reducible assumption | (simp; done) | (go_light; first | omega | (simp; omega))) | rfl) hb9 (by (first | with_reducible assumption | (simp; done) | (go_light; first | omega | (simp; omega))))
  replace N_a := rowOf_below N_a hG L_a
  replace N_b := rowOf_below N_b hG L_b
  replace N_t := rowOf_below N_t hG L_t
  replace N_x := rowOf_below N_x hG L_x
  replace N_y := rowOf_below N_y hG L_y
  clear a_0
  replace hB := bstep hB hG hB.size
  clear D_a L_a
  have L_a := rowOf_lt N_a
  have D_a := Nat.ne_of_lt L_a
  clear D_b L_b
  have L_b := rowOf_lt N_b
  have D_b := Nat.ne_of_lt L_b
  clear D_t L_t
  have L_t := rowOf_lt N_t
  have D_t := Nat.ne_of_lt L_t
  clear D_x L_x
  have L_x := rowOf_lt N_x
  have D_x := Nat.ne_of_lt L_x
  clear D_y L_y
  have L_y := rowOf_lt N_y
  have D_y := Nat.ne_of_lt L_y
  have L_z := rowOf_lt N_z
  have D_z := Nat.ne_of_lt L_z
  clear hb9 hG
  go_wp2_with fail
  refine (H8.out _).mono ?_
  rintro e w10 ⟨rfl, hb10⟩
  have hB2 : Below w.heap.size w w10 := bstep (by repeat' first | (with_reducible first | assumption | exact Below.refl _ _ | apply blast | apply Below.drew | apply below_setRow | apply Below.alloc | apply Below.setCell) | (first | with_reducible assumption | (simp; done) | (go_light; first | omega | (simp; omega)))) hb10 (by (first | with_reducible assumption | (simp; done) | (go_light; first | omega | (simp; omega))))
  have M_a : rowOf w10 (w.heap.size) = some (HV.row a) := rowOf_below (by repeat' first | (with_reducible first | assumption | apply row_drew | apply row_drewN | apply row_set_same | apply row_cell_same | apply row_set_other | apply row_cell_other) | (with_reducible exact row_new (by (first | with_reducible assumption | (simp; done) | (go_light; first | omega | (simp; omega))))) | (with_reducible apply row_old) | (first | with_reducible assumption | (simp; done) | (go_light; first | omega | (simp; omega))) | rfl) hb10 (by (first | with_reducible assumption | (simp; done) | (go_light; first | omega | (simp; omega))))
  have M_b : rowOf w10 ((w.heap.size + 1)) = some (HV.row b) := rowOf_below (by repeat' first | (with_reducible first | assumption | apply row_drew | apply row_drewN | apply row_set_same | apply row_cell_same | apply row_set_other | apply row_cell_other) | (with_reducible exact row_new (by (first | with_reducible assumption | (simp; done) | (go_light; first | omega | (simp; omega))))) | (with_reducible apply row_old) | (first | with_reducible assumption | (simp; done) | (go_light; first | omega | (simp; omega))) | rfl) hb10 (by (first | with_reducible assumption | (simp; done) | (go_light; first | omega | (simp; omega))))
  have M_t : rowOf w10 ((w.heap.size + 1 + 1)) = some (TV.row t) := rowOf_below (by repeat' first | (with_reducible first | assumption | apply row_drew | apply row_drewN | apply row_set_same | apply row_cell_same | apply row_set_other | apply row_cell_other) | (with_reducible exact row_new (by (first | with_reducible assumption | (simp; done) | (go_light; first | omega | (simp; omega))))) | (with_reducible apply row_old) | (first | with_reducible assumption | (simp; done) | (go_light; first | omega | (simp; omega))) | rfl) hb10 (by (first | with_reducible assumption | (simp; done) | (go_light; first | omega | (simp; omega))))
  have M_x : rowOf w10 (w4.heap.size) = some (TV.row x0) := rowOf_below (by repeat' first | (with_reducible first | assumption | apply row_drew | apply row_drewN | apply row_set_same | apply row_cell_same | apply row_set_other | apply row_cell_other) | (with_reducible exact row_new (by (first | with_reducible assumption | (simp; done) | (go_light; first | omega | (simp; omega))))) | (with_reducible apply row_old) | (first | with_reducible assumption | (simp; done) | (go_light; first | omega | (simp; omega))) | rfl) hb10 (by (first | with_reducible assumption | (simp; done) | (go_light; first | omega | (simp; omega))))
  have M_y : rowOf w10 (w5.heap.size) = some (TV.row y) := rowOf_below (by repeat' first | (with_reducible first | assumption | apply row_drew | apply row_drewN | apply row_set_same | apply row_cell_same | apply row_set_other | apply row_cell_other) | (with_reducible exact row_new (by (first | with_reducible assumption | (simp; done) | (go_light; first | omega | (simp; omega))))) | (with_reducible apply row_old) | (first | with_reducible assumption | (simp; done) | (go_light; first | omega | (simp; omega))) | rfl) hb10 (by (first | with_reducible assumption | (simp; done) | (go_light; first | omega | (simp; omega))))
  have M_z : rowOf w10 (w8.heap.size) = some #[.int .i64 a.f, .int .i64 0, .int .i64 0, .int .i64 0, .int .i64 0] := rowOf_below (by repeat' first | (with_reducible first | assumption | apply row_drew | apply row_drewN | apply row_set_same | apply row_cell_same | apply row_set_other | apply row_cell_other) | (with_reducible exact row_new (by (first | with_reducible assumption | (simp; done) | (go_light; first | omega | (simp; omega))))) | (with_reducible apply row_old) | (first | with_reducible assumption | (simp; done) | (go_light; first | omega | (simp; omega))) | rfl) hb10 (by (first | with_reducible assumption | (simp; done) | (go_light; first | omega | (simp; omega))))
  clear hB; have hB := hB2; clear hB2
  clear N_a D_a L_a
  clear N_b D_b L_b
  clear N_t D_t L_t
  clear N_x D_x L_x
  clear N_y D_y L_y
  clear N_z D_z L_z
  have N_a := M_a; clear M_a
  have L_a := rowOf_lt N_a
  have D_a := Nat.ne_of_lt L_a
  have N_b := M_b; clear M_b
  have L_b := rowOf_lt N_b
  have D_b := Nat.ne_of_lt L_b
  have N_t := M_t; clear M_t
  have L_t := rowOf_lt N_t
  have D_t := Nat.ne_of_lt L_t
  have N_x := M_x; clear M_x
  have L_x := rowOf_lt N_x
  have D_x := Nat.ne_of_lt L_x
  have N_y := M_y; clear M_y
  have L_y := rowOf_lt N_y
  have D_y := Nat.ne_of_lt L_y
  have N_z := M_z; clear M_z
  have L_z := rowOf_lt N_z
  have D_z := Nat.ne_of_lt L_z
  clear hb10
  go_wp2_with fail
  refine gen_world (fun W2 => Below w.heap.size w W2 ∧ rowOf W2 (w.heap.size) = some (HV.row a) ∧ rowOf W2 ((w.heap.size + 1)) = some (HV.row b) ∧ rowOf W2 ((w.heap.size + 1 + 1)) = some (TV.row t) ∧ rowOf W2 (w4.heap.size) = some (TV.row x0) ∧ rowOf W2 (w5.heap.size) = some (TV.row y0) ∧ rowOf W2 (w8.heap.size) = some #[.int .i64 a.f, .int .i64 0, .int .i64 0, .int .i64 0, .int .i64 0]) ⟨by repeat' first | (with_reducible first | assumption | exact Below.refl _ _ | apply blast | apply Below.drew | apply below_setRow | apply Below.alloc | apply Below.setCell) | (first | with_reducible assumption | (simp; done) | (go_light; first | omega | (simp; omega))), by repeat' first | (with_reducible first | assumption | apply row_drew | apply row_drewN | apply row_set_same | apply row_cell_same | apply row_set_other | apply row_cell_other) | (with_reducible exact row_new (by (first | with_reducible assumption | (simp; done) | (go_light; first | omega | (simp; omega))))) | (with_reducible apply row_old) | (first | with_reducible assumption | (simp; done) | (go_light; first | omega | (simp; omega))) | rfl, by repeat' first | (with_reducible first | assumption | apply row_drew | apply row_drewN | apply row_set_same | apply row_cell_same | apply row_set_other | apply row_cell_other) | (with_reducible exact row_new (by (first | with_reducible assumption | (simp; done) | (go_light; first | omega | (simp; omega))))) | (with_reducible apply row_old) | (first | with_reducible assumption | (simp; done) | (go_light; first | omega | (simp; omega))) | rfl, by repeat' first | (with_reducible first | assumption | apply row_drew | apply row_drewN | apply row_set_same | apply row_cell_same | apply row_set_other | apply row_cell_other) | (with_reducible exact row_new (by (first | with_reducible assumption | (simp; done) | (go_light; first | omega | (simp; omega))))) | (with_reducible apply row_old) | (first | with_reducible assumption | (simp; done) | (go_light; first | omega | (simp; omega))) | rfl, by repeat' first | (with_reducible first | assumption | apply row_drew | apply row_drewN | apply row_set_same | apply row_cell_same | apply row_set_other | apply row_cell_other) | (with_reducible exact row_new (by (first | with_reducible assumption | (simp; done) | (go_light; first | omega | (simp; omega))))) | (with_reducible apply row_old) | (first | with_reducible assumption | (simp; done) | (go_light; first | omega | (simp; omega))) | rfl, by repeat' first | (with_reducible first | assumption | apply row_drew | apply row_drewN | apply row_set_same | apply row_cell_same | apply row_set_other | apply row_cell_other) | (with_reducible exact row_new (by (first | with_reducible assumption | (simp; done) | (go_light; first | omega | (simp; omega))))) | (with_reducible apply row_old) | (first | with_reducible assumption | (simp; done) | (go_light; first | omega | (simp; omega))) | rfl, by repeat' first | (with_reducible first | assumption | apply row_drew | apply row_drewN | apply row_set_same | apply row_cell_same | apply row_set_other | apply row_cell_other) | (with_reducible exact row_new (by (first | with_reducible assumption | (simp; done) | (go_light; first | omega | (simp; omega))))) | (with_reducible apply row_old) | (first | with_reducible assumption | (simp; done) | (go_light; first | omega | (simp; omega))) | rfl⟩ ?_
  clear hB
  clear N_a L_a D_a
  clear N_b L_b D_b
  clear N_t L_t D_t
  clear N_x L_x D_x
  clear N_y L_y D_y
  clear N_z L_z D_z
  rintro w11 ⟨hB, N_a, N_b, N_t, N_x, N_y, N_z⟩
  have L_a : w.heap.size < w11.heap.size := rowOf_lt N_a
  have D_a : w.heap.size ≠ w11.heap.size := Nat.ne_of_lt L_a
  have L_b : (w.heap.size + 1) < w11.heap.size := rowOf_lt N_b
  have D_b : (w.heap.size + 1) ≠ w11.heap.size := Nat.ne_of_lt L_b
  have L_t : (w.heap.size + 1 + 1) < w11.heap.size := rowOf_lt N_t
  have D_t : (w.heap.size + 1 + 1) ≠ w11.heap.size := Nat.ne_of_lt L_t
  have L_x : w4.heap.size < w11.heap.size := rowOf_lt N_x
  have D_x : w4.heap.size ≠ w11.heap.size := Nat.ne_of_lt L_x
  have L_y : w5.heap.size < w11.heap.size := rowOf_lt N_y
  have D_y : w5.heap.size ≠ w11.heap.size := Nat.ne_of_lt L_y
  have L_z : w8.heap.size < w11.heap.size := rowOf_lt N_z
  have D_z : w8.heap.size ≠ w11.heap.size := Nat.ne_of_lt L_z
  have a_0 : w11.cell? ⟨w.heap.size, 0, none⟩ = some (.int .i64 a.f) := rowOf_cell N_a 0
  have a_1 : w11.cell? ⟨w.heap.size, 1, none⟩ = some (.int .i64 a.k) := rowOf_cell N_a 1
  have a_2 : w11.cell? ⟨w.heap.size, 2, none⟩ = some (.int .i64 a.t) := rowOf_cell N_a 2
  have a_3 : w11.cell? ⟨w.heap.size, 3, none⟩ = some (.int .i64 a.a0) := rowOf_cell N_a 3
  have a_4 : w11.cell? ⟨w.heap.size, 4, none⟩ = some (.int .i64 a.a1) := rowOf_cell N_a 4
  have a_5 : w11.cell? ⟨w.heap.size, 5, none⟩ = some (.int .i64 a.a2) := rowOf_cell N_a 5
  have a_6 : w11.cell? ⟨w.heap.size, 6, none⟩ = some (.int .i64 a.a3) := rowOf_cell N_a 6
  have a_7 : w11.cell? ⟨w.heap.size, 7, none⟩ = some (.int .i64 a.b0) := rowOf_cell N_a 7
  have a_8 : w11.cell? ⟨w.heap.size, 8, none⟩ = some (.int .i64 a.b1) := rowOf_cell N_a 8
  have a_9 : w11.cell? ⟨w.heap.size, 9, none⟩ = some (.int .i64 a.b2) := rowOf_cell N_a 9
  have a_10 : w11.cell? ⟨w.heap.size, 10, none⟩ = some (.int .i64 a.b3) := rowOf_cell N_a 10
  have b_0 : w11.cell? ⟨(w.heap.size + 1), 0, none⟩ = some (.int .i64 b.f) := rowOf_cell N_b 0
  have b_1 : w11.cell? ⟨(w.heap.size + 1), 1, none⟩ = some (.int .i64 b.k) := rowOf_cell N_b 1
  have b_2 : w11.cell? ⟨(w.heap.size + 1), 2, none⟩ = some (.int .i64 b.t) := rowOf_cell N_b 2
  have b_3 : w11.cell? ⟨(w.heap.size + 1), 3, none⟩ = some (.int .i64 b.a0) := rowOf_cell N_b 3
  have b_4 : w11.cell? ⟨(w.heap.size + 1), 4, none⟩ = some (.int .i64 b.a1) := rowOf_cell N_b 4
  have b_5 : w11.cell? ⟨(w.heap.size + 1), 5, none⟩ = some (.int .i64 b.a2) := rowOf_cell N_b 5
  have b_6 : w11.cell? ⟨(w.heap.size + 1), 6, none⟩ = some (.int .i64 b.a3) := rowOf_cell N_b 6
  have b_7 : w11.cell? ⟨(w.heap.size + 1), 7, none⟩ = some (.int .i64 b.b0) := rowOf_cell N_b 7
  have b_8 : w11.cell? ⟨(w.heap.size + 1), 8, none⟩ = some (.int .i64 b.b1) := rowOf_cell N_b 8
  have b_9 : w11.cell? ⟨(w.heap.size + 1), 9, none⟩ = some (.int .i64 b.b2) := rowOf_cell N_b 9
  have b_10 : w11.cell? ⟨(w.heap.size + 1), 10, none⟩ = some (.int .i64 b.b3) := rowOf_cell N_b 10
  refine wp_region_beh (by kernel_rfl) (by kernel_rfl) ?_
  have a_b0 := beh_cell a_0
  have a_b1 := beh_cell a_1
  have a_b2 := beh_cell a_2
  have a_b3 := beh_cell a_3
  have a_b4 := beh_cell a_4
  have a_b5 := beh_cell a_5
  have a_b6 := beh_cell a_6
  have a_b7 := beh_cell a_7
  have a_b8 := beh_cell a_8
  have a_b9 := beh_cell a_9
  have a_b10 := beh_cell a_10
  clear a_0 a_1 a_2 a_3 a_4 a_5 a_6 a_7 a_8 a_9 a_10
  have b_b0 := beh_cell b_0
  have b_b1 := beh_cell b_1
  have b_b2 := beh_cell b_2
  have b_b3 := beh_cell b_3
  have b_b4 := beh_cell b_4
  have b_b5 := beh_cell b_5
  have b_b6 := beh_cell b_6
  have b_b7 := beh_cell b_7
  have b_b8 := beh_cell b_8
  have b_b9 := beh_cell b_9
  have b_b10 := beh_cell b_10
  clear b_0 b_1 b_2 b_3 b_4 b_5 b_6 b_7 b_8 b_9 b_10
  repeat (first | go_big_quiet_step (first | (with_reducible exact Calls.beh (H9.out _))) | quiet_step (first | (with_reducible exact Calls.beh (H9.out _))))
  refine wpQuiet_nil ?_
  intro _ hw'
  obtain ⟨g, hw''⟩ := hw'
  subst hw''
  clear a_b0 a_b1 a_b2 a_b3 a_b4 a_b5 a_b6 a_b7 a_b8 a_b9 a_b10 b_b0 b_b1 b_b2 b_b3 b_b4 b_b5 b_b6 b_b7 b_b8 b_b9 b_b10
  have hb12 := g.h
  generalize g.w = w12 at hb12 ⊢
  clear g
  have hG : Below w11.heap.size w11 w12 := bstep (by repeat' first | (with_reducible first | assumption | exact Below.refl _ _ | apply blast | apply Below.drew | apply below_setRow | apply Below.alloc | apply Below.setCell) | (first | with_reducible assumption | (simp; done) | (go_light; first | omega | (simp; omega)))) hb12 (by (first | with_reducible assumption | (simp; done) | (go_light; first | omega | (simp; omega))))
  have hz := hG.size
  replace N_a := rowOf_below N_a hG L_a
  replace N_b := rowOf_below N_b hG L_b
  replace N_t := rowOf_below N_t hG L_t
  replace N_x := rowOf_below N_x hG L_x
  replace N_y := rowOf_below N_y hG L_y
  replace N_z := rowOf_below N_z hG L_z
  replace hB := bstep hB hG hB.size
  clear D_a L_a
  have L_a := rowOf_lt N_a
  have D_a := Nat.ne_of_lt L_a
  clear D_b L_b
  have L_b := rowOf_lt N_b
  have D_b := Nat.ne_of_lt L_b
  clear D_t L_t
  have L_t := rowOf_lt N_t
  have D_t := Nat.ne_of_lt L_t
  clear D_x L_x
  have L_x := rowOf_lt N_x
  have D_x := Nat.ne_of_lt L_x
  clear D_y L_y
  have L_y := rowOf_lt N_y
  have D_y := Nat.ne_of_lt L_y
  clear D_z L_z
  have L_z := rowOf_lt N_z
  have D_z := Nat.ne_of_lt L_z
  clear hb12 hG
  go_wp2
  go_returns
  exact ⟨ret_bool rfl, by repeat' first | (with_reducible first | assumption | exact Below.refl _ _ | apply blast | apply Below.drew | apply below_setRow | apply Below.alloc | apply Below.setCell) | (first | with_reducible assumption | (simp; done) | (go_light; first | omega | (simp; omega)))⟩

set_option maxHeartbeats 8000000 in
theorem hopOrder_101 (a : HV) (b : HV) (t : TV) (x : TV) (y : TV) (x0 : TV) (y0 : TV) (q1 : Bool) (q2 : Bool) (hf : (a.f != b.f) = false) (hk : (a.k != b.k) = true)
    (HAW : ∀ W, Calls Try.prog 11 #[] W (Ret (.bool true) W))
    (H1 : ∀ W, Calls Try.prog 15 #[(HV.val a)] W (Ret (.bool true) W))
    (H2 : ∀ W, Calls Try.prog 15 #[(HV.val b)] W (Ret (.bool true) W))
    (H3 : ∀ W, Calls Try.prog 13 #[(HV.val a), (TV.val t)] W (Ret (.tuple #[(TV.val x), .bool true]) W))
    (H4 : ∀ W, Calls Try.prog 13 #[(HV.val b), (TV.val t)] W (Ret (.tuple #[(TV.val y), .bool false]) W))
    (H5 : ∀ W, Calls Try.prog 18 #[(HV.val a), (HV.val b)] W (Ret (.bool true) W))
    (H6 : ∀ W, Calls Try.prog 18 #[(HV.val b), (HV.val a)] W (Ret (.bool false) W))
    (H7 : ∀ W, Calls Try.prog 13 #[(HV.val a), .agg #[.int .i64 a.f, .int .i64 0, .int .i64 0, .int .i64 0, .int .i64 0]] W (Ret (.tuple #[(TV.val x0), .bool q1]) W))
    (H8 : ∀ W, Calls Try.prog 13 #[(HV.val b), .agg #[.int .i64 a.f, .int .i64 0, .int .i64 0, .int .i64 0, .int .i64 0]] W (Ret (.tuple #[(TV.val y0), .bool q2]) W))
    (H9 : ∀ W, Calls Try.prog 18 #[(HV.val a), (HV.val a)] W (Ret (.bool true) W)) (w : World) :
    Calls Try.prog 6 #[(HV.val a), (HV.val b), (TV.val t)] w (Ret (.bool true) w) := by
  replace HAW := Lib.hid HAW
  replace H1 := Lib.hid H1
  replace H2 := Lib.hid H2
  replace H3 := Lib.hid H3
  replace H4 := Lib.hid H4
  replace H5 := Lib.hid H5
  replace H6 := Lib.hid H6
  replace H7 := Lib.hid H7
  replace H8 := Lib.hid H8
  replace H9 := Lib.hid H9
  go_enter Try.func6, Try.ntmps6
  go_wp2_with fail
  refine (HAW.out _).mono ?_
  rintro e w1 ⟨rfl, hb1⟩
  have hG : Below w.heap.size w w1 := bstep (by repeat' first | (with_reducible first | assumption | exact Below.refl _ _ | apply blast | apply Below.drew | apply below_setRow | apply Below.alloc | apply Below.setCell) | (first | with_reducible assumption | (simp; done) | (go_light; first | omega | (simp; omega)))) hb1 (by (first | with_reducible assumption | (simp; done) | (go_light; first | omega | (simp; omega))))
  have hz := hG.size
  have N_a : rowOf w1 (w.heap.size) = some (HV.row a) := rowOf_below (by repeat' first | (with_reducible first | assumption | apply row_drew | apply row_drewN | apply row_set_same | apply row_cell_same | apply row_set_other | apply row_cell_other) | (with_reducible exact row_new (by (first | with_reducible assumption | (simp; done) | (go_light; first | omega | (simp; omega))))) | (with_reducible apply row_old) | (first | with_reducible assumption | (simp; done) | (go_light; first | omega | (simp; omega))) | rfl) hb1 (by (first | with_reducible assumption | (simp; done) | (go_light; first | omega | (simp; omega))))
  have N_b : rowOf w1 ((w.heap.size + 1)) = some (HV.row b) := rowOf_below (by repeat' first | (with_reducible first | assumption | apply row_drew | apply row_drewN | apply row_set_same | apply row_cell_same | apply row_set_other | apply row_cell_other) | (with_reducible exact row_new (by (first | with_reducible assumption | (simp; done) | (go_light; first | omega | (simp; omega))))) | (with_reducible apply row_old) | (first | with_reducible assumption | (simp; done) | (go_light; first | omega | (simp; omega))) | rfl) hb1 (by (first | with_reducible assumption | (simp; done) | (go_light; first | omega | (simp; omega))))
  have N_t : rowOf w1 ((w.heap.size + 1 + 1)) = some (TV.row t) := rowOf_below (by repeat' first | (with_reducible first | assumption | apply row_drew | apply row_drewN | apply row_set_same | apply row_cell_same | apply row_set_other | apply row_cell_other) | (with_reducible exact row_new (by (first | with_reducible assumption | (simp; done) | (go_light; first | omega | (simp; omega))))) | (with_reducible apply row_old) | (first | with_reducible assumption | (simp; done) | (go_light; first | omega | (simp; omega))) | rfl) hb1 (by (first | with_reducible assumption | (simp; done) | (go_light; first | omega | (simp; omega))))
  have hB := hG
  have L_a := rowOf_lt N_a
  have D_a := Nat.ne_of_lt L_a
  have L_b := rowOf_lt N_b
  have D_b := Nat.ne_of_lt L_b
  have L_t := rowOf_lt N_t
  have D_t := Nat.ne_of_lt L_t
  clear hb1 hG
  go_wp2_with fail
  refine (H1.out _).mono ?_
  rintro e w2 ⟨rfl, hb2⟩
  have hG : Below w1.heap.size w1 w2 := bstep (by repeat' first | (with_reducible first | assumption | exact Below.refl _ _ | apply blast | apply Below.drew | apply below_setRow | apply Below.alloc | apply Below.setCell) | (first | with_reducible assumption | (simp; done) | (go_light; first | omega | (simp; omega)))) hb2 (by (first | with_reducible assumption | (simp; done) | (go_light; first | omega | (simp; omega))))
  have hz := hG.size
  replace N_a := rowOf_below N_a hG L_a
  replace N_b := rowOf_below N_b hG L_b
  replace N_t := rowOf_below N_t hG L_t
  replace hB := bstep hB hG hB.size
  clear D_a L_a
  have L_a := rowOf_lt N_a
  have D_a := Nat.ne_of_lt L_a
  clear D_b L_b
  have L_b := rowOf_lt N_b
  have D_b := Nat.ne_of_lt L_b
  clear D_t L_t
  have L_t := rowOf_lt N_t
  have D_t := Nat.ne_of_lt L_t
  clear hb2 hG
  go_wp2_with fail
  refine (H2.out _).mono ?_
  rintro e w3 ⟨rfl, hb3⟩
  have hG : Below w2.heap.size w2 w3 := bstep (by repeat' first | (with_reducible first | assumption | exact Below.refl _ _ | apply blast | apply Below.drew | apply below_setRow | apply Below.alloc | apply Below.setCell) | (first | with_reducible assumption | (simp; done) | (go_light; first | omega | (simp; omega)))) hb3 (by (first | with_reducible assumption | (simp; done) | (go_light; first | omega | (simp; omega))))
  have hz := hG.size
  replace N_a := rowOf_below N_a hG L_a
  replace N_b := rowOf_below N_b hG L_b
  replace N_t := rowOf_below N_t hG L_t
  replace hB := bstep hB hG hB.size
  clear D_a L_a
  have L_a := rowOf_lt N_a
  have D_a := Nat.ne_of_lt L_a
  clear D_b L_b
  have L_b := rowOf_lt N_b
  have D_b := Nat.ne_of_lt L_b
  clear D_t L_t
  have L_t := rowOf_lt N_t
  have D_t := Nat.ne_of_lt L_t
  clear hb3 hG
  go_wp2_with fail
  refine (H3.out _).mono ?_
  rintro e w4 ⟨rfl, hb4⟩
  have hG : Below w3.heap.size w3 w4 := bstep (by repeat' first | (with_reducible first | assumption | exact Below.refl _ _ | apply blast | apply Below.drew | apply below_setRow | apply Below.alloc | apply Below.setCell) | (first | with_reducible assumption | (simp; done) | (go_light; first | omega | (simp; omega)))) hb4 (by (first | with_reducible assumption | (simp; done) | (go_light; first | omega | (simp; omega))))
  have hz := hG.size
  replace N_a := rowOf_below N_a hG L_a
  replace N_b := rowOf_below N_b hG L_b
  replace N_t := rowOf_below N_t hG L_t
  replace hB := bstep hB hG hB.size
  clear D_a L_a
  have L_a := rowOf_lt N_a
  have D_a := Nat.ne_of_lt L_a
  clear D_b L_b
  have L_b := rowOf_lt N_b
  have D_b := Nat.ne_of_lt L_b
  clear D_t L_t
  have L_t := rowOf_lt N_t
  have D_t := Nat.ne_of_lt L_t
  clear hb4 hG
  have E_a_x := D_a
  have F_a_x := Ne.symm D_a
  have E_b_x := D_b
  have F_b_x := Ne.symm D_b
  have E_t_x := D_t
  have F_t_x := Ne.symm D_t
  have Z_x : w.heap.size ≤ w4.heap.size := hB.size
  go_wp2_with fail
  refine (H4.out _).mono ?_
  rintro e w5 ⟨rfl, hb5⟩
  have hG : Below w4.heap.size w4 w5 := bstep (by repeat' first | (with_reducible first | assumption | exact Below.refl _ _ | apply blast | apply Below.drew | apply below_setRow | apply Below.alloc | apply Below.setCell) | (first | with_reducible assumption | (simp; done) | (go_light; first | omega | (simp; omega)))) hb5 (by (first | with_reducible assumption | (simp; done) | (go_light; first | omega | (simp; omega))))
  have hz := hG.size
  have N_x : rowOf w5 (w4.heap.size) = some (TV.row x) := rowOf_below (by repeat' first | (with_reducible first | assumption | apply row_drew | apply row_drewN | apply row_set_same | apply row_cell_same | apply row_set_other | apply row_cell_other) | (with_reducible exact row_new (by (first | with_reducible assumption | (simp; done) | (go_light; first | omega | (simp; omega))))) | (with_reducible apply row_old) | (first | with_reducible assumption | (simp; done) | (go_light; first | omega | (simp; omega))) | rfl) hb5 (by (first | with_reducible assumption | (simp; done) | (go_light; first | omega | (simp; omega))))
  replace N_a := rowOf_below N_a hG L_a
  replace N_b := rowOf_below N_b hG L_b
  replace N_t := rowOf_below N_t hG L_t
  replace hB := bstep hB hG hB.size
  clear D_a L_a
  have L_a := rowOf_lt N_a
  have D_a := Nat.ne_of_lt L_a
  clear D_b L_b
  have L_b := rowOf_lt N_b
  have D_b := Nat.ne_of_lt L_b
  clear D_t L_t
  have L_t := rowOf_lt N_t
  have D_t := Nat.ne_of_lt L_t
  have L_x := rowOf_lt N_x
  have D_x := Nat.ne_of_lt L_x
  clear hb5 hG
  have E_a_y := D_a
  have F_a_y := Ne.symm D_a
  have E_b_y := D_b
  have F_b_y := Ne.symm D_b
  have E_t_y := D_t
  have F_t_y := Ne.symm D_t
  have E_x_y := D_x
  have F_x_y := Ne.symm D_x
  have Z_y : w.heap.size ≤ w5.heap.size := hB.size
  go_wp2_with fail
  refine (H5.out _).mono ?_
  rintro e w6 ⟨rfl, hb6⟩
  have hG : Below w5.heap.size w5 w6 := bstep (by repeat' first | (with_reducible first | assumption | exact Below.refl _ _ | apply blast | apply Below.drew | apply below_setRow | apply Below.alloc | apply Below.setCell) | (first | with_reducible assumption | (simp; done) | (go_light; first | omega | (simp; omega)))) hb6 (by (first | with_reducible assumption | (simp; done) | (go_light; first | omega | (simp; omega))))
  have hz := hG.size
  have N_y : rowOf w6 (w5.heap.size) = some (TV.row y) := rowOf_below (by repeat' first | (with_reducible first | assumption | apply row_drew | apply row_drewN | apply row_set_same | apply row_cell_same | apply row_set_other | apply row_cell_other) | (with_reducible exact row_new (by (first | with_reducible assumption | (simp; done) | (go_light; first | omega | (simp; omega))))) | (with_reducible apply row_old) | (first | with_reducible assumption | (simp; done) | (go_light; first | omega | (simp; omega))) | rfl) hb6 (by (first | with_reducible assumption | (simp; done) | (go_light; first | omega | (simp; omega))))
  replace N_a := rowOf_below N_a hG L_a
  replace N_b := rowOf_below N_b hG L_b
  replace N_t := rowOf_below N_t hG L_t
  replace N_x := rowOf_below N_x hG L_x
  replace hB := bstep hB hG hB.size
  clear D_a L_a
  have L_a := rowOf_lt N_a
  have D_a := Nat.ne_of_lt L_a
  clear D_b L_b
  have L_b := rowOf_lt N_b
  have D_b := Nat.ne_of_lt L_b
  clear D_t L_t
  have L_t := rowOf_lt N_t
  have D_t := Nat.ne_of_lt L_t
  clear D_x L_x
  have L_x := rowOf_lt N_x
  have D_x := Nat.ne_of_lt L_x
  have L_y := rowOf_lt N_y
  have D_y := Nat.ne_of_lt L_y
  clear hb6 hG
  go_wp2_with fail
  refine (H5.out _).mono ?_
  rintro e w7 ⟨rfl, hb7⟩
  have hG : Below w6.heap.size w6 w7 := bstep (by repeat' first | (with_reducible first | assumption | exact Below.refl _ _ | apply blast | apply Below.drew | apply below_setRow | apply Below.alloc | apply Below.setCell) | (first | with_reducible assumption | (simp; done) | (go_light; first | omega | (simp; omega)))) hb7 (by (first | with_reducible assumption | (simp; done) | (go_light; first | omega | (simp; omega))))
  have hz := hG.size
  replace N_a := rowOf_below N_a hG L_a
  replace N_b := rowOf_below N_b hG L_b
  replace N_t := rowOf_below N_t hG L_t
  replace N_x := rowOf_below N_x hG L_x
  replace N_y := rowOf_below N_y hG L_y
  replace hB := bstep hB hG hB.size
  clear D_a L_a
  have L_a := rowOf_lt N_a
  have D_a := Nat.ne_of_lt L_a
  clear D_b L_b
  have L_b := rowOf_lt N_b
  have D_b := Nat.ne_of_lt L_b
  clear D_t L_t
  have L_t := rowOf_lt N_t
  have D_t := Nat.ne_of_lt L_t
  clear D_x L_x
  have L_x := rowOf_lt N_x
  have D_x := Nat.ne_of_lt L_x
  clear D_y L_y
  have L_y := rowOf_lt N_y
  have D_y := Nat.ne_of_lt L_y
  clear hb7 hG
  go_wp2_with fail
  refine (H6.out _).mono ?_
  rintro e w8 ⟨rfl, hb8⟩
  have hG : Below w7.heap.size w7 w8 := bstep (by repeat' first | (with_reducible first | assumption | exact Below.refl _ _ | apply blast | apply Below.drew | apply below_setRow | apply Below.alloc | apply Below.setCell) | (first | with_reducible assumption | (simp; done) | (go_light; first | omega | (simp; omega)))) hb8 (by (first | with_reducible assumption | (simp; done) | (go_light; first | omega | (simp; omega))))
  have hz := hG.size
  replace N_a := rowOf_below N_a hG L_a
  replace N_b := rowOf_below N_b hG L_b
  replace N_t := rowOf_below N_t hG L_t
  replace N_x := rowOf_below N_x hG L_x
  replace N_y := rowOf_below N_y hG L_y
  replace hB := bstep hB hG hB.size
  clear D_a L_a
  have L_a := rowOf_lt N_a
  have D_a := Nat.ne_of_lt L_a
  clear D_b L_b
  have L_b := rowOf_lt N_b
  have D_b := Nat.ne_of_lt L_b
  clear D_t L_t
  have L_t := rowOf_lt N_t
  have D_t := Nat.ne_of_lt L_t
  clear D_x L_x
  have L_x := rowOf_lt N_x
  have D_x := Nat.ne_of_lt L_x
  clear D_y L_y
  have L_y := rowOf_lt N_y
  have D_y := Nat.ne_of_lt L_y
  clear hb8 hG
  have a_0 : w8.cell? ⟨w.heap.size, 0, none⟩ = some (.int .i64 a.f) := rowOf_cell N_a 0
  have E_a_z := D_a
  have F_a_z := Ne.symm D_a
  have E_b_z := D_b
  have F_b_z := Ne.symm D_b
  have E_t_z := D_t
  have F_t_z := Ne.symm D_t
  have E_x_z := D_x
  have F_x_z := Ne.symm D_x
  have E_y_z := D_y
  have F_y_z := Ne.symm D_y
  have Z_z : w.heap.size ≤ w8.heap.size := hB.size
  go_wp2_with fail
  refine (H7.out _).mono ?_
  rintro e w9 ⟨rfl, hb9⟩
  have hG : Below w8.heap.size w8 w9 := bstep (by repeat' first | (with_reducible first | assumption | exact Below.refl _ _ | apply blast | apply Below.drew | apply below_setRow | apply Below.alloc | apply Below.setCell) | (first | with_reducible assumption | (simp; done) | (go_light; first | omega | (simp; omega)))) hb9 (by (first | with_reducible assumption | (simp; done) | (go_light; first | omega | (simp; omega))))
  have hz := hG.size
  have N_z : rowOf w9 (w8.heap.size) = some #[.int .i64 a.f, .int .i64 0, .int .i64 0, .int .i64 0, .int .i64 0] := rowOf_below (by repeat' first | (with_reducible first | assumption | apply row_drew | apply row_drewN | apply row_set_same | apply row_cell_same | apply row_set_other | apply row_cell_other) | (with_reducible exact row_new (by (first | with_reducible assumption | (simp; done) | (go_light; first | omega | (simp; omega))))) | (with_reducible apply row_old) | (first | with_reducible assumption | (simp; done) | (go_light; first | omega | (simp; omega))) | rfl) hb9 (by (first | with_reducible assumption | (simp; done) | (go_light; first | omega | (simp; omega))))
  replace N_a := rowOf_below N_a hG L_a
  replace N_b := rowOf_below N_b hG L_b
  replace N_t := rowOf_below N_t hG L_t
  replace N_x := rowOf_below N_x hG L_x
  replace N_y := rowOf_below N_y hG L_y
  clear a_0
  replace hB := bstep hB hG hB.size
  clear D_a L_a
  have L_a := rowOf_lt N_a
  have D_a := Nat.ne_of_lt L_a
  clear D_b L_b
  have L_b := rowOf_lt N_b
  have D_b := Nat.ne_of_lt L_b
  clear D_t L_t
  have L_t := rowOf_lt N_t
  have D_t := Nat.ne_of_lt L_t
  clear D_x L_x
  have L_x := rowOf_lt N_x
  have D_x := Nat.ne_of_lt L_x
  clear D_y L_y
  have L_y := rowOf_lt N_y
  have D_y := Nat.ne_of_lt L_y
  have L_z := rowOf_lt N_z
  have D_z := Nat.ne_of_lt L_z
  clear hb9 hG
  go_wp2_with fail
  refine (H8.out _).mono ?_
  rintro e w10 ⟨rfl, hb10⟩
  have hB2 : Below w.heap.size w w10 := bstep (by repeat' first | (with_reducible first | assumption | exact Below.refl _ _ | apply blast | apply Below.drew | apply below_setRow | apply Below.alloc | apply Below.setCell) | (first | with_reducible assumption | (simp; done) | (go_light; first | omega | (simp; omega)))) hb10 (by (first | with_reducible assumption | (simp; done) | (go_light; first | omega | (simp; omega))))
  have M_a : rowOf w10 (w.heap.size) = some (HV.row a) := rowOf_below (by repeat' first | (with_reducible first | assumption | apply row_drew | apply row_drewN | apply row_set_same | apply row_cell_same | apply row_set_other | apply row_cell_other) | (with_reducible exact row_new (by (first | with_reducible assumption | (simp; done) | (go_light; first | omega | (simp; omega))))) | (with_reducible apply row_old) | (first | with_reducible assumption | (simp; done) | (go_light; first | omega | (simp; omega))) | rfl) hb10 (by (first | with_reducible assumption | (simp; done) | (go_light; first | omega | (simp; omega))))
  have M_b : rowOf w10 ((w.heap.size + 1)) = some (HV.row b) := rowOf_below (by repeat' first | (with_reducible first | assumption | apply row_drew | apply row_drewN | apply row_set_same | apply row_cell_same | apply row_set_other | apply row_cell_other) | (with_reducible exact row_new (by (first | with_reducible assumption | (simp; done) | (go_light; first | omega | (simp; omega))))) | (with_reducible apply row_old) | (first | with_reducible assumption | (simp; done) | (go_light; first | omega | (simp; omega))) | rfl) hb10 (by (first | with_reducible assumption | (simp; done) | (go_light; first | omega | (simp; omega))))
  have M_t : rowOf w10 ((w.heap.size + 1 + 1)) = some (TV.row t) := rowOf_below (by repeat' first | (with_reducible first | assumption | apply row_drew | apply row_drewN | apply row_set_same | apply row_cell_same | apply row_set_other | apply row_cell_other) | (with_reducible exact row_new (by (first | with_reducible assumption | (simp; done) | (go_light; first | omega | (simp; omega))))) | (with_reducible apply row_old) | (first | with_reducible assumption | (simp; done) | (go_light; first | omega | (simp; omega))) | rfl) hb10 (by (first | with_reducible assumption | (simp; done) | (go_light; first | omega | (simp; omega))))
  have M_x : rowOf w10 (w4.heap.size) = some (TV.row x0) := rowOf_below (by repeat' first | (with_reducible first | assumption | apply row_drew | apply row_drewN | apply row_set_same | apply row_cell_same | apply row_set_other | apply row_cell_other) | (with_reducible exact row_new (by (first | with_reducible assumption | (simp; done) | (go_light; first | omega | (simp; omega))))) | (with_reducible apply row_old) | (first | with_reducible assumption | (simp; done) | (go_light; first | omega | (simp; omega))) | rfl) hb10 (by (first | with_reducible assumption | (simp; done) | (go_light; first | omega | (simp; omega))))
  have M_y : rowOf w10 (w5.heap.size) = some (TV.row y) := rowOf_below (by repeat' first | (with_reducible first | assumption | apply row_drew | apply row_drewN | apply row_set_same | apply row_cell_same | apply row_set_other | apply row_cell_other) | (with_reducible exact row_new (by (first | with_reducible assumption | (simp; done) | (go_light; first | omega | (simp; omega))))) | (with_reducible apply row_old) | (first | with_reducible assumption | (simp; done) | (go_light; first | omega | (simp; omega))) | rfl) hb10 (by (first | with_reducible assumption | (simp; done) | (go_light; first | omega | (simp; omega))))
  have M_z : rowOf w10 (w8.heap.size) = some #[.int .i64 a.f, .int .i64 0, .int .i64 0, .int .i64 0, .int .i64 0] := rowOf_below (by repeat' first | (with_reducible first | assumption | apply row_drew | apply row_drewN | apply row_set_same | apply row_cell_same | apply row_set_other | apply row_cell_other) | (with_reducible exact row_new (by (first | with_reducible assumption | (simp; done) | (go_light; first | omega | (simp; omega))))) | (with_reducible apply row_old) | (first | with_reducible assumption | (simp; done) | (go_light; first | omega | (simp; omega))) | rfl) hb10 (by (first | with_reducible assumption | (simp; done) | (go_light; first | omega | (simp; omega))))
  clear hB; have hB := hB2; clear hB2
  clear N_a D_a L_a
  clear N_b D_b L_b
  clear N_t D_t L_t
  clear N_x D_x L_x
  clear N_y D_y L_y
  clear N_z D_z L_z
  have N_a := M_a; clear M_a
  have L_a := rowOf_lt N_a
  have D_a := Nat.ne_of_lt L_a
  have N_b := M_b; clear M_b
  have L_b := rowOf_lt N_b
  have D_b := Nat.ne_of_lt L_b
  have N_t := M_t; clear M_t
  have L_t := rowOf_lt N_t
  have D_t := Nat.ne_of_lt L_t
  have N_x := M_x; clear M_x
  have L_x := rowOf_lt N_x
  have D_x := Nat.ne_of_lt L_x
  have N_y := M_y; clear M_y
  have L_y := rowOf_lt N_y
  have D_y := Nat.ne_of_lt L_y
  have N_z := M_z; clear M_z
  have L_z := rowOf_lt N_z
  have D_z := Nat.ne_of_lt L_z
  clear hb10
  go_wp2_with fail
  refine gen_world (fun W2 => Below w.heap.size w W2 ∧ rowOf W2 (w.heap.size) = some (HV.row a) ∧ rowOf W2 ((w.heap.size + 1)) = some (HV.row b) ∧ rowOf W2 ((w.heap.size + 1 + 1)) = some (TV.row t) ∧ rowOf W2 (w4.heap.size) = some (TV.row x0) ∧ rowOf W2 (w5.heap.size) = some (TV.row y0) ∧ rowOf W2 (w8.heap.size) = some #[.int .i64 a.f, .int .i64 0, .int .i64 0, .int .i64 0, .int .i64 0]) ⟨by repeat' first | (with_reducible first | assumption | exact Below.refl _ _ | apply blast | apply Below.drew | apply below_setRow | apply Below.alloc | apply Below.setCell) | (first | with_reducible assumption | (simp; done) | (go_light; first | omega | (simp; omega))), by repeat' first | (with_reducible first | assumption | apply row_drew | apply row_drewN | apply row_set_same | apply row_cell_same | apply row_set_other | apply row_cell_other) | (with_reducible exact row_new (by (first | with_reducible assumption | (simp; done) | (go_light; first | omega | (simp; omega))))) | (with_reducible apply row_old) | (first | with_reducible assumption | (simp; done) | (go_light; first | omega | (simp; omega))) | rfl, by repeat' first | (with_reducible first | assumption | apply row_drew | apply row_drewN | apply row_set_same | apply row_cell_same | apply row_set_other | apply row_cell_other) | (with_reducible exact row_new (by (first | with_reducible assumption | (simp; done) | (go_light; first | omega | (simp; omega))))) | (with_reducible apply row_old) | (first | with_reducible assumption | (simp; done) | (go_light; first | omega | (simp; omega))) | rfl, by repeat' first | (with_reducible first | assumption | apply row_drew | apply row_drewN | apply row_set_same | apply row_cell_same | apply row_set_other | apply row_cell_other) | (with_reducible exact row_new (by (first | with_reducible assumption | (simp; done) | (go_light; first | omega | (simp; omega))))) | (with_reducible apply row_old) | (first | with_reducible assumption | (simp; done) | (go_light; first | omega | (simp; omega))) | rfl, by repeat' first | (with_reducible first | assumption | apply row_drew | apply row_drewN | apply row_set_same | apply row_cell_same | apply row_set_other | apply row_cell_other) | (with_reducible exact row_new (by (first | with_reducible assumption | (simp; done) | (go_light; first | omega | (simp; omega))))) | (with_reducible apply row_old) | (first | with_reducible assumption | (simp; done) | (go_light; first | omega | (simp; omega))) | rfl, by repeat' first | (with_reducible first | assumption | apply row_drew | apply row_drewN | apply row_set_same | apply row_cell_same | apply row_set_other | apply row_cell_other) | (with_reducible exact row_new (by (first | with_reducible assumption | (simp; done) | (go_light; first | omega | (simp; omega))))) | (with_reducible apply row_old) | (first | with_reducible assumption | (simp; done) | (go_light; first | omega | (simp; omega))) | rfl, by repeat' first | (with_reducible first | assumption | apply row_drew | apply row_drewN | apply row_set_same | apply row_cell_same | apply row_set_other | apply row_cell_other) | (with_reducible exact row_new (by (first | with_reducible assumption | (simp; done) | (go_light; first | omega | (simp; omega))))) | (with_reducible apply row_old) | (first | with_reducible assumption | (simp; done) | (go_light; first | omega | (simp; omega))) | rfl⟩ ?_
  clear hB
  clear N_a L_a D_a
  clear N_b L_b D_b
  clear N_t L_t D_t
  clear N_x L_x D_x
  clear N_y L_y D_y
  clear N_z L_z D_z
  rintro w11 ⟨hB, N_a, N_b, N_t, N_x, N_y, N_z⟩
  have L_a : w.heap.size < w11.heap.size := rowOf_lt N_a
  have D_a : w.heap.size ≠ w11.heap.size := Nat.ne_of_lt L_a
  have L_b : (w.heap.size + 1) < w11.heap.size := rowOf_lt N_b
  have D_b : (w.heap.size + 1) ≠ w11.heap.size := Nat.ne_of_lt L_b
  have L_t : (w.heap.size + 1 + 1) < w11.heap.size := rowOf_lt N_t
  have D_t : (w.heap.size + 1 + 1) ≠ w11.heap.size := Nat.ne_of_lt L_t
  have L_x : w4.heap.size < w11.heap.size := rowOf_lt N_x
  have D_x : w4.heap.size ≠ w11.heap.size := Nat.ne_of_lt L_x
  have L_y : w5.heap.size < w11.heap.size := rowOf_lt N_y
  have D_y : w5.heap.size ≠ w11.heap.size := Nat.ne_of_lt L_y
  have L_z : w8.heap.size < w11.heap.size := rowOf_lt N_z
  have D_z : w8.heap.size ≠ w11.heap.size := Nat.ne_of_lt L_z
  have a_0 : w11.cell? ⟨w.heap.size, 0, none⟩ = some (.int .i64 a.f) := rowOf_cell N_a 0
  have a_1 : w11.cell? ⟨w.heap.size, 1, none⟩ = some (.int .i64 a.k) := rowOf_cell N_a 1
  have a_2 : w11.cell? ⟨w.heap.size, 2, none⟩ = some (.int .i64 a.t) := rowOf_cell N_a 2
  have a_3 : w11.cell? ⟨w.heap.size, 3, none⟩ = some (.int .i64 a.a0) := rowOf_cell N_a 3
  have a_4 : w11.cell? ⟨w.heap.size, 4, none⟩ = some (.int .i64 a.a1) := rowOf_cell N_a 4
  have a_5 : w11.cell? ⟨w.heap.size, 5, none⟩ = some (.int .i64 a.a2) := rowOf_cell N_a 5
  have a_6 : w11.cell? ⟨w.heap.size, 6, none⟩ = some (.int .i64 a.a3) := rowOf_cell N_a 6
  have a_7 : w11.cell? ⟨w.heap.size, 7, none⟩ = some (.int .i64 a.b0) := rowOf_cell N_a 7
  have a_8 : w11.cell? ⟨w.heap.size, 8, none⟩ = some (.int .i64 a.b1) := rowOf_cell N_a 8
  have a_9 : w11.cell? ⟨w.heap.size, 9, none⟩ = some (.int .i64 a.b2) := rowOf_cell N_a 9
  have a_10 : w11.cell? ⟨w.heap.size, 10, none⟩ = some (.int .i64 a.b3) := rowOf_cell N_a 10
  have b_0 : w11.cell? ⟨(w.heap.size + 1), 0, none⟩ = some (.int .i64 b.f) := rowOf_cell N_b 0
  have b_1 : w11.cell? ⟨(w.heap.size + 1), 1, none⟩ = some (.int .i64 b.k) := rowOf_cell N_b 1
  have b_2 : w11.cell? ⟨(w.heap.size + 1), 2, none⟩ = some (.int .i64 b.t) := rowOf_cell N_b 2
  have b_3 : w11.cell? ⟨(w.heap.size + 1), 3, none⟩ = some (.int .i64 b.a0) := rowOf_cell N_b 3
  have b_4 : w11.cell? ⟨(w.heap.size + 1), 4, none⟩ = some (.int .i64 b.a1) := rowOf_cell N_b 4
  have b_5 : w11.cell? ⟨(w.heap.size + 1), 5, none⟩ = some (.int .i64 b.a2) := rowOf_cell N_b 5
  have b_6 : w11.cell? ⟨(w.heap.size + 1), 6, none⟩ = some (.int .i64 b.a3) := rowOf_cell N_b 6
  have b_7 : w11.cell? ⟨(w.heap.size + 1), 7, none⟩ = some (.int .i64 b.b0) := rowOf_cell N_b 7
  have b_8 : w11.cell? ⟨(w.heap.size + 1), 8, none⟩ = some (.int .i64 b.b1) := rowOf_cell N_b 8
  have b_9 : w11.cell? ⟨(w.heap.size + 1), 9, none⟩ = some (.int .i64 b.b2) := rowOf_cell N_b 9
  have b_10 : w11.cell? ⟨(w.heap.size + 1), 10, none⟩ = some (.int .i64 b.b3) := rowOf_cell N_b 10
  refine wp_region_beh (by kernel_rfl) (by kernel_rfl) ?_
  have a_b0 := beh_cell a_0
  have a_b1 := beh_cell a_1
  have a_b2 := beh_cell a_2
  have a_b3 := beh_cell a_3
  have a_b4 := beh_cell a_4
  have a_b5 := beh_cell a_5
  have a_b6 := beh_cell a_6
  have a_b7 := beh_cell a_7
  have a_b8 := beh_cell a_8
  have a_b9 := beh_cell a_9
  have a_b10 := beh_cell a_10
  clear a_0 a_1 a_2 a_3 a_4 a_5 a_6 a_7 a_8 a_9 a_10
  have b_b0 := beh_cell b_0
  have b_b1 := beh_cell b_1
  have b_b2 := beh_cell b_2
  have b_b3 := beh_cell b_3
  have b_b4 := beh_cell b_4
  have b_b5 := beh_cell b_5
  have b_b6 := beh_cell b_6
  have b_b7 := beh_cell b_7
  have b_b8 := beh_cell b_8
  have b_b9 := beh_cell b_9
  have b_b10 := beh_cell b_10
  clear b_0 b_1 b_2 b_3 b_4 b_5 b_6 b_7 b_8 b_9 b_10
  repeat (first | go_big_quiet_step (first | (with_reducible exact Calls.beh (H9.out _))) | quiet_step (first | (with_reducible exact Calls.beh (H9.out _))))
  refine wpQuiet_nil ?_
  intro _ hw'
  obtain ⟨g, hw''⟩ := hw'
  subst hw''
  clear a_b0 a_b1 a_b2 a_b3 a_b4 a_b5 a_b6 a_b7 a_b8 a_b9 a_b10 b_b0 b_b1 b_b2 b_b3 b_b4 b_b5 b_b6 b_b7 b_b8 b_b9 b_b10
  have hb12 := g.h
  generalize g.w = w12 at hb12 ⊢
  clear g
  have hG : Below w11.heap.size w11 w12 := bstep (by repeat' first | (with_reducible first | assumption | exact Below.refl _ _ | apply blast | apply Below.drew | apply below_setRow | apply Below.alloc | apply Below.setCell) | (first | with_reducible assumption | (simp; done) | (go_light; first | omega | (simp; omega)))) hb12 (by (first | with_reducible assumption | (simp; done) | (go_light; first | omega | (simp; omega))))
  have hz := hG.size
  replace N_a := rowOf_below N_a hG L_a
  replace N_b := rowOf_below N_b hG L_b
  replace N_t := rowOf_below N_t hG L_t
  replace N_x := rowOf_below N_x hG L_x
  replace N_y := rowOf_below N_y hG L_y
  replace N_z := rowOf_below N_z hG L_z
  replace hB := bstep hB hG hB.size
  clear D_a L_a
  have L_a := rowOf_lt N_a
  have D_a := Nat.ne_of_lt L_a
  clear D_b L_b
  have L_b := rowOf_lt N_b
  have D_b := Nat.ne_of_lt L_b
  clear D_t L_t
  have L_t := rowOf_lt N_t
  have D_t := Nat.ne_of_lt L_t
  clear D_x L_x
  have L_x := rowOf_lt N_x
  have D_x := Nat.ne_of_lt L_x
  clear D_y L_y
  have L_y := rowOf_lt N_y
  have D_y := Nat.ne_of_lt L_y
  clear D_z L_z
  have L_z := rowOf_lt N_z
  have D_z := Nat.ne_of_lt L_z
  clear hb12 hG
  go_wp2
  go_returns
  exact ⟨ret_bool rfl, by repeat' first | (with_reducible first | assumption | exact Below.refl _ _ | apply blast | apply Below.drew | apply below_setRow | apply Below.alloc | apply Below.setCell) | (first | with_reducible assumption | (simp; done) | (go_light; first | omega | (simp; omega)))⟩

set_option maxHeartbeats 8000000 in
theorem hopOrder_121 (a : HV) (b : HV) (t : TV) (x : TV) (y : TV) (x0 : TV) (y0 : TV) (q1 : Bool) (q2 : Bool) (hfe : (a.f == b.f) = true) (hkk : (a.k == b.k) = false) (hf : (a.f != b.f) = false) (hk : (a.k != b.k) = true)
    (HAW : ∀ W, Calls Try.prog 11 #[] W (Ret (.bool true) W))
    (H1 : ∀ W, Calls Try.prog 15 #[(HV.val a)] W (Ret (.bool true) W))
    (H2 : ∀ W, Calls Try.prog 15 #[(HV.val b)] W (Ret (.bool true) W))
    (H3 : ∀ W, Calls Try.prog 13 #[(HV.val a), (TV.val t)] W (Ret (.tuple #[(TV.val x), .bool true]) W))
    (H4 : ∀ W, Calls Try.prog 13 #[(HV.val b), (TV.val t)] W (Ret (.tuple #[(TV.val y), .bool false]) W))
    (H5 : ∀ W, Calls Try.prog 18 #[(HV.val a), (HV.val b)] W (Ret (.bool true) W))
    (H6 : ∀ W, Calls Try.prog 18 #[(HV.val b), (HV.val a)] W (Ret (.bool true) W))
    (H7 : ∀ W, Calls Try.prog 13 #[(HV.val a), .agg #[.int .i64 a.f, .int .i64 0, .int .i64 0, .int .i64 0, .int .i64 0]] W (Ret (.tuple #[(TV.val x0), .bool q1]) W))
    (H8 : ∀ W, Calls Try.prog 13 #[(HV.val b), .agg #[.int .i64 a.f, .int .i64 0, .int .i64 0, .int .i64 0, .int .i64 0]] W (Ret (.tuple #[(TV.val y0), .bool q2]) W))
    (H9 : ∀ W, Calls Try.prog 18 #[(HV.val a), (HV.val a)] W (Ret (.bool true) W)) (w : World) :
    Calls Try.prog 6 #[(HV.val a), (HV.val b), (TV.val t)] w (Ret (.bool true) w) := by
  replace HAW := Lib.hid HAW
  replace H1 := Lib.hid H1
  replace H2 := Lib.hid H2
  replace H3 := Lib.hid H3
  replace H4 := Lib.hid H4
  replace H5 := Lib.hid H5
  replace H6 := Lib.hid H6
  replace H7 := Lib.hid H7
  replace H8 := Lib.hid H8
  replace H9 := Lib.hid H9
  go_enter Try.func6, Try.ntmps6
  go_wp2_with fail
  refine (HAW.out _).mono ?_
  rintro e w1 ⟨rfl, hb1⟩
  have hG : Below w.heap.size w w1 := bstep (by repeat' first | (with_reducible first | assumption | exact Below.refl _ _ | apply blast | apply Below.drew | apply below_setRow | apply Below.alloc | apply Below.setCell) | (first | with_reducible assumption | (simp; done) | (go_light; first | omega | (simp; omega)))) hb1 (by (first | with_reducible assumption | (simp; done) | (go_light; first | omega | (simp; omega))))
  have hz := hG.size
  have N_a : rowOf w1 (w.heap.size) = some (HV.row a) := rowOf_below (by repeat' first | (with_reducible first | assumption | apply row_drew | apply row_drewN | apply row_set_same | apply row_cell_same | apply row_set_other | apply row_cell_other) | (with_reducible exact row_new (by (first | with_reducible assumption | (simp; done) | (go_light; first | omega | (simp; omega))))) | (with_reducible apply row_old) | (first | with_reducible assumption | (simp; done) | (go_light; first | omega | (simp; omega))) | rfl) hb1 (by (first | with_reducible assumption | (simp; done) | (go_light; first | omega | (simp; omega))))
  have N_b : rowOf w1 ((w.heap.size + 1)) = some (HV.row b) := rowOf_below (by repeat' first | (with_reducible first | assumption | apply row_drew | apply row_drewN | apply row_set_same | apply row_cell_same | apply row_set_other | apply row_cell_other) | (with_reducible exact row_new (by (first | with_reducible assumption | (simp; done) | (go_light; first | omega | (simp; omega))))) | (with_reducible apply row_old) | (first | with_reducible assumption | (simp; done) | (go_light; first | omega | (simp; omega))) | rfl) hb1 (by (first | with_reducible assumption | (simp; done) | (go_light; first | omega | (simp; omega))))
  have N_t : rowOf w1 ((w.heap.size + 1 + 1)) = some (TV.row t) := rowOf_below (by repeat' first | (with_reducible first | assumption | apply row_drew | apply row_drewN | apply row_set_same | apply row_cell_same | apply row_set_other | apply row_cell_other) | (with_reducible exact row_new (by (first | with_reducible assumption | (simp; done) | (go_light; first | omega | (simp; omega))))) | (with_reducible apply row_old) | (first | with_reducible assumption | (simp; done) | (go_light; first | omega | (simp; omega))) | rfl) hb1 (by (first | with_reducible assumption | (simp; done) | (go_light; first | omega | (simp; omega))))
  have hB := hG
  have L_a := rowOf_lt N_a
  have D_a := Nat.ne_of_lt L_a
  have L_b := rowOf_lt N_b
  have D_b := Nat.ne_of_lt L_b
  have L_t := rowOf_lt N_t
  have D_t := Nat.ne_of_lt L_t
  clear hb1 hG
  go_wp2_with fail
  refine (H1.out _).mono ?_
  rintro e w2 ⟨rfl, hb2⟩
  have hG : Below w1.heap.size w1 w2 := bstep (by repeat' first | (with_reducible first | assumption | exact Below.refl _ _ | apply blast | apply Below.drew | apply below_setRow | apply Below.alloc | apply Below.setCell) | (first | with_reducible assumption | (simp; done) | (go_light; first | omega | (simp; omega)))) hb2 (by (first | with_reducible assumption | (simp; done) | (go_light; first | omega | (simp; omega))))
  have hz := hG.size
  replace N_a := rowOf_below N_a hG L_a
  replace N_b := rowOf_below N_b hG L_b
  replace N_t := rowOf_below N_t hG L_t
  replace hB := bstep hB hG hB.size
  clear D_a L_a
  have L_a := rowOf_lt N_a
  have D_a := Nat.ne_of_lt L_a
  clear D_b L_b
  have L_b := rowOf_lt N_b
  have D_b := Nat.ne_of_lt L_b
  clear D_t L_t
  have L_t := rowOf_lt N_t
  have D_t := Nat.ne_of_lt L_t
  clear hb2 hG
  go_wp2_with fail
  refine (H2.out _).mono ?_
  rintro e w3 ⟨rfl, hb3⟩
  have hG : Below w2.heap.size w2 w3 := bstep (by repeat' first | (with_reducible first | assumption | exact Below.refl _ _ | apply blast | apply Below.drew | apply below_setRow | apply Below.alloc | apply Below.setCell) | (first | with_reducible assumption | (simp; done) | (go_light; first | omega | (simp; omega)))) hb3 (by (first | with_reducible assumption | (simp; done) | (go_light; first | omega | (simp; omega))))
  have hz := hG.size
  replace N_a := rowOf_below N_a hG L_a
  replace N_b := rowOf_below N_b hG L_b
  replace N_t := rowOf_below N_t hG L_t
  replace hB := bstep hB hG hB.size
  clear D_a L_a
  have L_a := rowOf_lt N_a
  have D_a := Nat.ne_of_lt L_a
  clear D_b L_b
  have L_b := rowOf_lt N_b
  have D_b := Nat.ne_of_lt L_b
  clear D_t L_t
  have L_t := rowOf_lt N_t
  have D_t := Nat.ne_of_lt L_t
  clear hb3 hG
  go_wp2_with fail
  refine (H3.out _).mono ?_
  rintro e w4 ⟨rfl, hb4⟩
  have hG : Below w3.heap.size w3 w4 := bstep (by repeat' first | (with_reducible first | assumption | exact Below.refl _ _ | apply blast | apply Below.drew | apply below_setRow | apply Below.alloc | apply Below.setCell) | (first | with_reducible assumption | (simp; done) | (go_light; first | omega | (simp; omega)))) hb4 (by (first | with_reducible assumption | (simp; done) | (go_light; first | omega | (simp; omega))))
  have hz := hG.size
  replace N_a := rowOf_below N_a hG L_a
  replace N_b := rowOf_below N_b hG L_b
  replace N_t := rowOf_below N_t hG L_t
  replace hB := bstep hB hG hB.size
  clear D_a L_a
  have L_a := rowOf_lt N_a
  have D_a := Nat.ne_of_lt L_a
  clear D_b L_b
  have L_b := rowOf_lt N_b
  have D_b := Nat.ne_of_lt L_b
  clear D_t L_t
  have L_t := rowOf_lt N_t
  have D_t := Nat.ne_of_lt L_t
  clear hb4 hG
  have E_a_x := D_a
  have F_a_x := Ne.symm D_a
  have E_b_x := D_b
  have F_b_x := Ne.symm D_b
  have E_t_x := D_t
  have F_t_x := Ne.symm D_t
  have Z_x : w.heap.size ≤ w4.heap.size := hB.size
  go_wp2_with fail
  refine (H4.out _).mono ?_
  rintro e w5 ⟨rfl, hb5⟩
  have hG : Below w4.heap.size w4 w5 := bstep (by repeat' first | (with_reducible first | assumption | exact Below.refl _ _ | apply blast | apply Below.drew | apply below_setRow | apply Below.alloc | apply Below.setCell) | (first | with_reducible assumption | (simp; done) | (go_light; first | omega | (simp; omega)))) hb5 (by (first | with_reducible assumption | (simp; done) | (go_light; first | omega | (simp; omega))))
  have hz := hG.size
  have N_x : rowOf w5 (w4.heap.size) = some (TV.row x) := rowOf_below (by repeat' first | (with_reducible first | assumption | apply row_drew | apply row_drewN | apply row_set_same | apply row_cell_same | apply row_set_other | apply row_cell_other) | (with_reducible exact row_new (by (first | with_reducible assumption | (simp; done) | (go_light; first | omega | (simp; omega))))) | (with_reducible apply row_old) | (first | with_reducible assumption | (simp; done) | (go_light; first | omega | (simp; omega))) | rfl) hb5 (by (first | with_reducible assumption | (simp; done) | (go_light; first | omega | (simp; omega))))
  replace N_a := rowOf_below N_a hG L_a
  replace N_b := rowOf_below N_b hG L_b
  replace N_t := rowOf_below N_t hG L_t
  replace hB := bstep hB hG hB.size
  clear D_a L_a
  have L_a := rowOf_lt N_a
  have D_a := Nat.ne_of_lt L_a
  clear D_b L_b
  have L_b := rowOf_lt N_b
  have D_b := Nat.ne_of_lt L_b
  clear D_t L_t
  have L_t := rowOf_lt N_t
  have D_t := Nat.ne_of_lt L_t
  have L_x := rowOf_lt N_x
  have D_x := Nat.ne_of_lt L_x
  clear hb5 hG
  have E_a_y := D_a
  have F_a_y := Ne.symm D_a
  have E_b_y := D_b
  have F_b_y := Ne.symm D_b
  have E_t_y := D_t
  have F_t_y := Ne.symm D_t
  have E_x_y := D_x
  have F_x_y := Ne.symm D_x
  have Z_y : w.heap.size ≤ w5.heap.size := hB.size
  go_wp2_with fail
  refine (H5.out _).mono ?_
  rintro e w6 ⟨rfl, hb6⟩
  have hG : Below w5.heap.size w5 w6 := bstep (by repeat' first | (with_reducible first | assumption | exact Below.refl _ _ | apply blast | apply Below.drew | apply below_setRow | apply Below.alloc | apply Below.setCell) | (first | with_reducible assumption | (simp; done) | (go_light; first | omega | (simp; omega)))) hb6 (by (first | with_reducible assumption | (simp; done) | (go_light; first | omega | (simp; omega))))
  have hz := hG.size
  have N_y : rowOf w6 (w5.heap.size) = some (TV.row y) := rowOf_below (by repeat' first | (with_reducible first | assumption | apply row_drew | apply row_drewN | apply row_set_same | apply row_cell_same | apply row_set_other | apply row_cell_other) | (with_reducible exact row_new (by (first | with_reducible assumption | (simp; done) | (go_light; first | omega | (simp; omega))))) | (with_reducible apply row_old) | (first | with_reducible assumption | (simp; done) | (go_light; first | omega | (simp; omega))) | rfl) hb6 (by (first | with_reducible assumption | (simp; done) | (go_light; first | omega | (simp; omega))))
  replace N_a := rowOf_below N_a hG L_a
  replace N_b := rowOf_below N_b hG L_b
  replace N_t := rowOf_below N_t hG L_t
  replace N_x := rowOf_below N_x hG L_x
  replace hB := bstep hB hG hB.size
  clear D_a L_a
  have L_a := rowOf_lt N_a
  have D_a := Nat.ne_of_lt L_a
  clear D_b L_b
  have L_b := rowOf_lt N_b
  have D_b := Nat.ne_of_lt L_b
  clear D_t L_t
  have L_t := rowOf_lt N_t
  have D_t := Nat.ne_of_lt L_t
  clear D_x L_x
  have L_x := rowOf_lt N_x
  have D_x := Nat.ne_of_lt L_x
  have L_y := rowOf_lt N_y
  have D_y := Nat.ne_of_lt L_y
  clear hb6 hG
  go_wp2_with fail
  refine (H5.out _).mono ?_
  rintro e w7 ⟨rfl, hb7⟩
  have hG : Below w6.heap.size w6 w7 := bstep (by repeat' first | (with_reducible first | assumption | exact Below.refl _ _ | apply blast | apply Below.drew | apply below_setRow | apply Below.alloc | apply Below.setCell) | (first | with_reducible assumption | (simp; done) | (go_light; first | omega | (simp; omega)))) hb7 (by (first | with_reducible assumption | (simp; done) | (go_light; first | omega | (simp; omega))))
  have hz := hG.size
  replace N_a := rowOf_below N_a hG L_a
  replace N_b := rowOf_below N_b hG L_b
  replace N_t := rowOf_below N_t hG L_t
  replace N_x := rowOf_below N_x hG L_x
  replace N_y := rowOf_below N_y hG L_y
  replace hB := bstep hB hG hB.size
  clear D_a L_a
  have L_a := rowOf_lt N_a
  have D_a := Nat.ne_of_lt L_a
  clear D_b L_b
  have L_b := rowOf_lt N_b
  have D_b := Nat.ne_of_lt L_b
  clear D_t L_t
  have L_t := rowOf_lt N_t
  have D_t := Nat.ne_of_lt L_t
  clear D_x L_x
  have L_x := rowOf_lt N_x
  have D_x := Nat.ne_of_lt L_x
  clear D_y L_y
  have L_y := rowOf_lt N_y
  have D_y := Nat.ne_of_lt L_y
  clear hb7 hG
  go_wp2_with fail
  refine (H6.out _).mono ?_
  rintro e w8 ⟨rfl, hb8⟩
  have hG : Below w7.heap.size w7 w8 := bstep (by repeat' first | (with_reducible first | assumption | exact Below.refl _ _ | apply blast | apply Below.drew | apply below_setRow | apply Below.alloc | apply Below.setCell) | (first | with_reducible assumption | (simp; done) | (go_light; first | omega | (simp; omega)))) hb8 (by (first | with_reducible assumption | (simp; done) | (go_light; first | omega | (simp; omega))))
  have hz := hG.size
  replace N_a := rowOf_below N_a hG L_a
  replace N_b := rowOf_below N_b hG L_b
  replace N_t := rowOf_below N_t hG L_t
  replace N_x := rowOf_below N_x hG L_x
  replace N_y := rowOf_below N_y hG L_y
  replace hB := bstep hB hG hB.size
  clear D_a L_a
  have L_a := rowOf_lt N_a
  have D_a := Nat.ne_of_lt L_a
  clear D_b L_b
  have L_b := rowOf_lt N_b
  have D_b := Nat.ne_of_lt L_b
  clear D_t L_t
  have L_t := rowOf_lt N_t
  have D_t := Nat.ne_of_lt L_t
  clear D_x L_x
  have L_x := rowOf_lt N_x
  have D_x := Nat.ne_of_lt L_x
  clear D_y L_y
  have L_y := rowOf_lt N_y
  have D_y := Nat.ne_of_lt L_y
  clear hb8 hG
  have a_0 : w8.cell? ⟨w.heap.size, 0, none⟩ = some (.int .i64 a.f) := rowOf_cell N_a 0
  have a_1 : w8.cell? ⟨w.heap.size, 1, none⟩ = some (.int .i64 a.k) := rowOf_cell N_a 1
  have b_1 : w8.cell? ⟨(w.heap.size + 1), 1, none⟩ = some (.int .i64 b.k) := rowOf_cell N_b 1
  have E_a_z := D_a
  have F_a_z := Ne.symm D_a
  have E_b_z := D_b
  have F_b_z := Ne.symm D_b
  have E_t_z := D_t
  have F_t_z := Ne.symm D_t
  have E_x_z := D_x
  have F_x_z := Ne.symm D_x
  have E_y_z := D_y
  have F_y_z := Ne.symm D_y
  have Z_z : w.heap.size ≤ w8.heap.size := hB.size
  go_wp2_with fail
  refine (H7.out _).mono ?_
  rintro e w9 ⟨rfl, hb9⟩
  have hG : Below w8.heap.size w8 w9 := bstep (by repeat' first | (with_reducible first | assumption | exact Below.refl _ _ | apply blast | apply Below.drew | apply below_setRow | apply Below.alloc | apply Below.setCell) | (first | with_reducible assumption | (simp; done) | (go_light; first | omega | (simp; omega)))) hb9 (by (first | with_reducible assumption | (simp; done) | (go_light; first | omega | (simp; omega))))
  have hz := hG.size
  have N_z : rowOf w9 (w8.heap.size) = some #[.int .i64 a.f, .int .i64 0, .int .i64 0, .int .i64 0, .int .i64 0] := rowOf_below (by repeat' first | (with_reducible first | assumption | apply row_drew | apply row_drewN | apply row_set_same | apply row_cell_same | apply row_set_other | apply row_cell_other) | (with_reducible exact row_new (by (first | with_reducible assumption | (simp; done) | (go_light; first | omega | (simp; omega))))) | (with_reducible apply row_old) | (first | with_reducible assumption | (simp; done) | (go_light; first | omega | (simp; omega))) | rfl) hb9 (by (first | with_reducible assumption | (simp; done) | (go_light; first | omega | (simp; omega))))
  replace N_a := rowOf_below N_a hG L_a
  replace N_b := rowOf_below N_b hG L_b
  replace N_t := rowOf_below N_t hG L_t
  replace N_x := rowOf_below N_x hG L_x
  replace N_y := rowOf_below N_y hG L_y
  clear a_0 a_1
  clear b_1
  replace hB := bstep hB hG hB.size
  clear D_a L_a
  have L_a := rowOf_lt N_a
  have D_a := Nat.ne_of_lt L_a
  clear D_b L_b
  have L_b := rowOf_lt N_b
  have D_b := Nat.ne_of_lt L_b
  clear D_t L_t
  have L_t := rowOf_lt N_t
  have D_t := Nat.ne_of_lt L_t
  clear D_x L_x
  have L_x := rowOf_lt N_x
  have D_x := Nat.ne_of_lt L_x
  clear D_y L_y
  have L_y := rowOf_lt N_y
  have D_y := Nat.ne_of_lt L_y
  have L_z := rowOf_lt N_z
  have D_z := Nat.ne_of_lt L_z
  clear hb9 hG
  go_wp2_with fail
  refine (H8.out _).mono ?_
  rintro e w10 ⟨rfl, hb10⟩
  have hB2 : Below w.heap.size w w10 := bstep (by repeat' first | (with_reducible first | assumption | exact Below.refl _ _ | apply blast | apply Below.drew | apply below_setRow | apply Below.alloc | apply Below.setCell) | (first | with_reducible assumption | (simp; done) | (go_light; first | omega | (simp; omega)))) hb10 (by (first | with_reducible assumption | (simp; done) | (go_light; first | omega | (simp; omega))))
  have M_a : rowOf w10 (w.heap.size) = some (HV.row a) := rowOf_below (by repeat' first | (with_reducible first | assumption | apply row_drew | apply row_drewN | apply row_set_same | apply row_cell_same | apply row_set_other | apply row_cell_other) | (with_reducible exact row_new (by (first | with_reducible assumption | (simp; done) | (go_light; first | omega | (simp; omega))))) | (with_reducible apply row_old) | (first | with_reducible assumption | (simp; done) | (go_light; first | omega | (simp; omega))) | rfl) hb10 (by (first | with_reducible assumption | (simp; done) | (go_light; first | omega | (simp; omega))))
  have M_b : rowOf w10 ((w.heap.size + 1)) = some (HV.row b) := rowOf_below (by repeat' first | (with_reducible first | assumption | apply row_drew | apply row_drewN | apply row_set_same | apply row_cell_same | apply row_set_other | apply row_cell_other) | (with_reducible exact row_new (by (first | with_reducible assumption | (simp; done) | (go_light; first | omega | (simp; omega))))) | (with_reducible apply row_old) | (first | with_reducible assumption | (simp; done) | (go_light; first | omega | (simp; omega))) | rfl) hb10 (by (first | with_reducible assumption | (simp; done) | (go_light; first | omega | (simp; omega))))
  have M_t : rowOf w10 ((w.heap.size + 1 + 1)) = some (TV.row t) := rowOf_below (by repeat' first | (with_reducible first | assumption | apply row_drew | apply row_drewN | apply row_set_same | apply row_cell_same | apply row_set_other | apply row_cell_other) | (with_reducible exact row_new (by (first | with_reducible assumption | (simp; done) | (go_light; first | omega | (simp; omega))))) | (with_reducible apply row_old) | (first | with_reducible assumption | (simp; done) | (go_light; first | omega | (simp; omega))) | rfl) hb10 (by (first | with_reducible assumption | (simp; done) | (go_light; first | omega | (simp; omega))))
  have M_x : rowOf w10 (w4.heap.size) = some (TV.row x0) := rowOf_below (by repeat' first | (with_reducible first | assumption | apply row_drew | apply row_drewN | apply row_set_same | apply row_cell_same | apply row_set_other | apply row_cell_other) | (with_reducible exact row_new (by (first | with_reducible assumption | (simp; done) | (go_light; first | omega | (simp; omega))))) | (with_reducible apply row_old) | (first | with_reducible assumption | (simp; done) | (go_light; first | omega | (simp; omega))) | rfl) hb10 (by (first | with_reducible assumption | (simp; done) | (go_light; first | omega | (simp; omega))))
  have M_y : rowOf w10 (w5.heap.size) = some (TV.row y) := rowOf_below (by repeat' first | (with_reducible first | assumption | apply row_drew | apply row_drewN | apply row_set_same | apply row_cell_same | apply row_set_other | apply row_cell_other) | (with_reducible exact row_new (by (first | with_reducible assumption | (simp; done) | (go_light; first | omega | (simp; omega))))) | (with_reducible apply row_old) | (first | with_reducible assumption | (simp; done) | (go_light; first | omega | (simp; omega))) | rfl) hb10 (by (first | with_reducible assumption | (simp; done) | (go_light; first | omega | (simp; omega))))
  have M_z : rowOf w10 (w8.heap.size) = some #[.int .i64 a.f, .int .i64 0, .int .i64 0, .int .i64 0, .int .i64 0] := rowOf_below (by repeat' first | (with_reducible first | assumption | apply row_drew | apply row_drewN | apply row_set_same | apply row_cell_same | apply row_set_other | apply row_cell_other) | (with_reducible exact row_new (by (first | with_reducible assumption | (simp; done) | (go_light; first | omega | (simp; omega))))) | (with_reducible apply row_old) | (first | with_reducible assumption | (simp; done) | (go_light; first | omega | (simp; omega))) | rfl) hb10 (by (first | with_reducible assumption | (simp; done) | (go_light; first | omega | (simp; omega))))
  clear hB; have hB := hB2; clear hB2
  clear N_a D_a L_a
  clear N_b D_b L_b
  clear N_t D_t L_t
  clear N_x D_x L_x
  clear N_y D_y L_y
  clear N_z D_z L_z
  have N_a := M_a; clear M_a
  have L_a := rowOf_lt N_a
  have D_a := Nat.ne_of_lt L_a
  have N_b := M_b; clear M_b
  have L_b := rowOf_lt N_b
  have D_b := Nat.ne_of_lt L_b
  have N_t := M_t; clear M_t
  have L_t := rowOf_lt N_t
  have D_t := Nat.ne_of_lt L_t
  have N_x := M_x; clear M_x
  have L_x := rowOf_lt N_x
  have D_x := Nat.ne_of_lt L_x
  have N_y := M_y; clear M_y
  have L_y := rowOf_lt N_y
  have D_y := Nat.ne_of_lt L_y
  have N_z := M_z; clear M_z
  have L_z := rowOf_lt N_z
  have D_z := Nat.ne_of_lt L_z
  clear hb10
  go_wp2_with fail
  refine gen_world (fun W2 => Below w.heap.size w W2 ∧ rowOf W2 (w.heap.size) = some (HV.row a) ∧ rowOf W2 ((w.heap.size + 1)) = some (HV.row b) ∧ rowOf W2 ((w.heap.size + 1 + 1)) = some (TV.row t) ∧ rowOf W2 (w4.heap.size) = some (TV.row x0) ∧ rowOf W2 (w5.heap.size) = some (TV.row y0) ∧ rowOf W2 (w8.heap.size) = some #[.int .i64 a.f, .int .i64 0, .int .i64 0, .int .i64 0, .int .i64 0]) ⟨by repeat' first | (with_reducible first | assumption | exact Below.refl _ _ | apply blast | apply Below.drew | apply below_setRow | apply Below.alloc | apply Below.setCell) | (first | with_reducible assumption | (simp; done) | (go_light; first | omega | (simp; omega))), by repeat' first | (with_reducible first | assumption | apply row_drew | apply row_drewN | apply row_set_same | apply row_cell_same | apply row_set_other | apply row_cell_other) | (with_reducible exact row_new (by (first | with_reducible assumption | (simp; done) | (go_light; first | omega | (simp; omega))))) | (with_reducible apply row_old) | (first | with_reducible assumption | (simp; done) | (go_light; first | omega | (simp; omega))) | rfl, by repeat' first | (with_reducible first | assumption | apply row_drew | apply row_drewN | apply row_set_same | apply row_cell_same | apply row_set_other | apply row_cell_other) | (with_reducible exact row_new (by (first | with_reducible assumption | (simp; done) | (go_light; first | omega | (simp; omega))))) | (with_reducible apply row_old) | (first | with_reducible assumption | (simp; done) | (go_light; first | omega | (simp; omega))) | rfl, by repeat' first | (with_reducible first | assumption | apply row_drew | apply row_drewN | apply row_set_same | apply row_cell_same | apply row_set_other | apply row_cell_other) | (with_reducible exact row_new (by (first | with_reducible assumption | (simp; done) | (go_light; first | omega | (simp; omega))))) | (with_reducible apply row_old) | (first | with_reducible assumption | (simp; done) | (go_light; first | omega | (simp; omega))) | rfl, by repeat' first | (with_reducible first | assumption | apply row_drew | apply row_drewN | apply row_set_same | apply row_cell_same | apply row_set_other | apply row_cell_other) | (with_reducible exact row_new (by (first | with_reducible assumption | (simp; done) | (go_light; first | omega | (simp; omega))))) | (with_reducible apply row_old) | (first | with_reducible assumption | (simp; done) | (go_light; first | omega | (simp; omega))) | rfl, by repeat' first | (with_reducible first | assumption | apply row_drew | apply row_drewN | apply row_set_same | apply row_cell_same | apply row_set_other | apply row_cell_other) | (with_reducible exact row_new (by (first | with_reducible assumption | (simp; done) | (go_light; first | omega | (simp; omega))))) | (with_reducible apply row_old) | (first | with_reducible assumption | (simp; done) | (go_light; first | omega | (simp; omega))) | rfl, by repeat' first | (with_reducible first | assumption | apply row_drew | apply row_drewN | apply row_set_same | apply row_cell_same | apply row_set_other | apply row_cell_other) | (with_reducible exact row_new (by (first | with_reducible assumption | (simp; done) | (go_light; first | omega | (simp; omega))))) | (with_reducible apply row_old) | (first | with_reducible assumption | (simp; done) | (go_light; first | omega | (simp; omega))) | rfl⟩ ?_
  clear hB
  clear N_a L_a D_a
  clear N_b L_b D_b
  clear N_t L_t D_t
  clear N_x L_x D_x
  clear N_y L_y D_y
  clear N_z L_z D_z
  rintro w11 ⟨hB, N_a, N_b, N_t, N_x, N_y, N_z⟩
  have L_a : w.heap.size < w11.heap.size := rowOf_lt N_a
  have D_a : w.heap.size ≠ w11.heap.size := Nat.ne_of_lt L_a
  have L_b : (w.heap.size + 1) < w11.heap.size := rowOf_lt N_b
  have D_b : (w.heap.size + 1) ≠ w11.heap.size := Nat.ne_of_lt L_b
  have L_t : (w.heap.size + 1 + 1) < w11.heap.size := rowOf_lt N_t
  have D_t : (w.heap.size + 1 + 1) ≠ w11.heap.size := Nat.ne_of_lt L_t
  have L_x : w4.heap.size < w11.heap.size := rowOf_lt N_x
  have D_x : w4.heap.size ≠ w11.heap.size := Nat.ne_of_lt L_x
  have L_y : w5.heap.size < w11.heap.size := rowOf_lt N_y
  have D_y : w5.heap.size ≠ w11.heap.size := Nat.ne_of_lt L_y
  have L_z : w8.heap.size < w11.heap.size := rowOf_lt N_z
  have D_z : w8.heap.size ≠ w11.heap.size := Nat.ne_of_lt L_z
  have a_0 : w11.cell? ⟨w.heap.size, 0, none⟩ = some (.int .i64 a.f) := rowOf_cell N_a 0
  have a_1 : w11.cell? ⟨w.heap.size, 1, none⟩ = some (.int .i64 a.k) := rowOf_cell N_a 1
  have a_2 : w11.cell? ⟨w.heap.size, 2, none⟩ = some (.int .i64 a.t) := rowOf_cell N_a 2
  have a_3 : w11.cell? ⟨w.heap.size, 3, none⟩ = some (.int .i64 a.a0) := rowOf_cell N_a 3
  have a_4 : w11.cell? ⟨w.heap.size, 4, none⟩ = some (.int .i64 a.a1) := rowOf_cell N_a 4
  have a_5 : w11.cell? ⟨w.heap.size, 5, none⟩ = some (.int .i64 a.a2) := rowOf_cell N_a 5
  have a_6 : w11.cell? ⟨w.heap.size, 6, none⟩ = some (.int .i64 a.a3) := rowOf_cell N_a 6
  have a_7 : w11.cell? ⟨w.heap.size, 7, none⟩ = some (.int .i64 a.b0) := rowOf_cell N_a 7
  have a_8 : w11.cell? ⟨w.heap.size, 8, none⟩ = some (.int .i64 a.b1) := rowOf_cell N_a 8
  have a_9 : w11.cell? ⟨w.heap.size, 9, none⟩ = some (.int .i64 a.b2) := rowOf_cell N_a 9
  have a_10 : w11.cell? ⟨w.heap.size, 10, none⟩ = some (.int .i64 a.b3) := rowOf_cell N_a 10
  have b_0 : w11.cell? ⟨(w.heap.size + 1), 0, none⟩ = some (.int .i64 b.f) := rowOf_cell N_b 0
  have b_1 : w11.cell? ⟨(w.heap.size + 1), 1, none⟩ = some (.int .i64 b.k) := rowOf_cell N_b 1
  have b_2 : w11.cell? ⟨(w.heap.size + 1), 2, none⟩ = some (.int .i64 b.t) := rowOf_cell N_b 2
  have b_3 : w11.cell? ⟨(w.heap.size + 1), 3, none⟩ = some (.int .i64 b.a0) := rowOf_cell N_b 3
  have b_4 : w11.cell? ⟨(w.heap.size + 1), 4, none⟩ = some (.int .i64 b.a1) := rowOf_cell N_b 4
  have b_5 : w11.cell? ⟨(w.heap.size + 1), 5, none⟩ = some (.int .i64 b.a2) := rowOf_cell N_b 5
  have b_6 : w11.cell? ⟨(w.heap.size + 1), 6, none⟩ = some (.int .i64 b.a3) := rowOf_cell N_b 6
  have b_7 : w11.cell? ⟨(w.heap.size + 1), 7, none⟩ = some (.int .i64 b.b0) := rowOf_cell N_b 7
  have b_8 : w11.cell? ⟨(w.heap.size + 1), 8, none⟩ = some (.int .i64 b.b1) := rowOf_cell N_b 8
  have b_9 : w11.cell? ⟨(w.heap.size + 1), 9, none⟩ = some (.int .i64 b.b2) := rowOf_cell N_b 9
  have b_10 : w11.cell? ⟨(w.heap.size + 1), 10, none⟩ = some (.int .i64 b.b3) := rowOf_cell N_b 10
  refine wp_region_beh (by kernel_rfl) (by kernel_rfl) ?_
  have a_b0 := beh_cell a_0
  have a_b1 := beh_cell a_1
  have a_b2 := beh_cell a_2
  have a_b3 := beh_cell a_3
  have a_b4 := beh_cell a_4
  have a_b5 := beh_cell a_5
  have a_b6 := beh_cell a_6
  have a_b7 := beh_cell a_7
  have a_b8 := beh_cell a_8
  have a_b9 := beh_cell a_9
  have a_b10 := beh_cell a_10
  clear a_0 a_1 a_2 a_3 a_4 a_5 a_6 a_7 a_8 a_9 a_10
  have b_b0 := beh_cell b_0
  have b_b1 := beh_cell b_1
  have b_b2 := beh_cell b_2
  have b_b3 := beh_cell b_3
  have b_b4 := beh_cell b_4
  have b_b5 := beh_cell b_5
  have b_b6 := beh_cell b_6
  have b_b7 := beh_cell b_7
  have b_b8 := beh_cell b_8
  have b_b9 := beh_cell b_9
  have b_b10 := beh_cell b_10
  clear b_0 b_1 b_2 b_3 b_4 b_5 b_6 b_7 b_8 b_9 b_10
  repeat (first | go_big_quiet_step (first | (with_reducible exact Calls.beh (H9.out _))) | quiet_step (first | (with_reducible exact Calls.beh (H9.out _))))
  refine wpQuiet_nil ?_
  intro _ hw'
  obtain ⟨g, hw''⟩ := hw'
  subst hw''
  clear a_b0 a_b1 a_b2 a_b3 a_b4 a_b5 a_b6 a_b7 a_b8 a_b9 a_b10 b_b0 b_b1 b_b2 b_b3 b_b4 b_b5 b_b6 b_b7 b_b8 b_b9 b_b10
  have hb12 := g.h
  generalize g.w = w12 at hb12 ⊢
  clear g
  have hG : Below w11.heap.size w11 w12 := bstep (by repeat' first | (with_reducible first | assumption | exact Below.refl _ _ | apply blast | apply Below.drew | apply below_setRow | apply Below.alloc | apply Below.setCell) | (first | with_reducible assumption | (simp; done) | (go_light; first | omega | (simp; omega)))) hb12 (by (first | with_reducible assumption | (simp; done) | (go_light; first | omega | (simp; omega))))
  have hz := hG.size
  replace N_a := rowOf_below N_a hG L_a
  replace N_b := rowOf_below N_b hG L_b
  replace N_t := rowOf_below N_t hG L_t
  replace N_x := rowOf_below N_x hG L_x
  replace N_y := rowOf_below N_y hG L_y
  replace N_z := rowOf_below N_z hG L_z
  replace hB := bstep hB hG hB.size
  clear D_a L_a
  have L_a := rowOf_lt N_a
  have D_a := Nat.ne_of_lt L_a
  clear D_b L_b
  have L_b := rowOf_lt N_b
  have D_b := Nat.ne_of_lt L_b
  clear D_t L_t
  have L_t := rowOf_lt N_t
  have D_t := Nat.ne_of_lt L_t
  clear D_x L_x
  have L_x := rowOf_lt N_x
  have D_x := Nat.ne_of_lt L_x
  clear D_y L_y
  have L_y := rowOf_lt N_y
  have D_y := Nat.ne_of_lt L_y
  clear D_z L_z
  have L_z := rowOf_lt N_z
  have D_z := Nat.ne_of_lt L_z
  clear hb12 hG
  go_wp2
  go_returns
  exact ⟨ret_bool rfl, by repeat' first | (with_reducible first | assumption | exact Below.refl _ _ | apply blast | apply Below.drew | apply below_setRow | apply Below.alloc | apply Below.setCell) | (first | with_reducible assumption | (simp; done) | (go_light; first | omega | (simp; omega)))⟩

set_option maxHeartbeats 8000000 in
theorem hopOrder_204 (a : HV) (b : HV) (t : TV) (x : TV) (y : TV) (x0 : TV) (y0 : TV) (hf : (a.f != b.f) = false) (hk : (a.k != b.k) = false)
    (HAW : ∀ W, Calls Try.prog 11 #[] W (Ret (.bool true) W))
    (H1 : ∀ W, Calls Try.prog 15 #[(HV.val a)] W (Ret (.bool true) W))
    (H2 : ∀ W, Calls Try.prog 15 #[(HV.val b)] W (Ret (.bool true) W))
    (H3 : ∀ W, Calls Try.prog 13 #[(HV.val a), (TV.val t)] W (Ret (.tuple #[(TV.val x), .bool true]) W))
    (H4 : ∀ W, Calls Try.prog 13 #[(HV.val b), (TV.val t)] W (Ret (.tuple #[(TV.val y), .bool true]) W))
    (H5 : ∀ W, Calls Try.prog 18 #[(HV.val a), (HV.val b)] W (Ret (.bool true) W))
    (H6 : ∀ W, Calls Try.prog 28 #[(TV.val x), (TV.val y)] W (Ret (.bool true) W))
    (H7 : ∀ W, Calls Try.prog 18 #[(HV.val b), (HV.val a)] W (Ret (.bool false) W))
    (H8 : ∀ W, Calls Try.prog 13 #[(HV.val a), .agg #[.int .i64 a.f, .int .i64 0, .int .i64 0, .int .i64 0, .int .i64 0]] W (Ret (.tuple #[(TV.val x0), .bool true]) W))
    (H9 : ∀ W, Calls Try.prog 13 #[(HV.val b), .agg #[.int .i64 a.f, .int .i64 0, .int .i64 0, .int .i64 0, .int .i64 0]] W (Ret (.tuple #[(TV.val y0), .bool true]) W))
    (H10 : ∀ W, Calls Try.prog 18 #[(HV.val a), (HV.val a)] W (Ret (.bool true) W))
    (H11 : ∀ W, Calls Try.prog 28 #[(TV.val x0), (TV.val y0)] W (Ret (.bool true) W)) (w : World) :
    Calls Try.prog 6 #[(HV.val a), (HV.val b), (TV.val t)] w (Ret (.bool true) w) := by
  replace HAW := Lib.hid HAW
  replace H1 := Lib.hid H1
  replace H2 := Lib.hid H2
  replace H3 := Lib.hid H3
  replace H4 := Lib.hid H4
  replace H5 := Lib.hid H5
  replace H6 := Lib.hid H6
  replace H7 := Lib.hid H7
  replace H8 := Lib.hid H8
  replace H9 := Lib.hid H9
  replace H10 := Lib.hid H10
  replace H11 := Lib.hid H11
  go_enter Try.func6, Try.ntmps6
  go_wp2_with fail
  refine (HAW.out _).mono ?_
  rintro e w1 ⟨rfl, hb1⟩
  have hG : Below w.heap.size w w1 := bstep (by repeat' first | (with_reducible first | assumption | exact Below.refl _ _ | apply blast | apply Below.drew | apply below_setRow | apply Below.alloc | apply Below.setCell) | (first | with_reducible assumption | (simp; done) | (go_light; first | omega | (simp; omega)))) hb1 (by (first | with_reducible assumption | (simp; done) | (go_light; first | omega | (simp; omega))))
  have hz := hG.size
  have N_a : rowOf w1 (w.heap.size) = some (HV.row a) := rowOf_below (by repeat' first | (with_reducible first | assumption | apply row_drew | apply row_drewN | apply row_set_same | apply row_cell_same | apply row_set_other | apply row_cell_other) | (with_reducible exact row_new (by (first | with_reducible assumption | (simp; done) | (go_light; first | omega | (simp; omega))))) | (with_reducible apply row_old) | (first | with_reducible assumption | (simp; done) | (go_light; first | omega | (simp; omega))) | rfl) hb1 (by (first | with_reducible assumption | (simp; done) | (go_light; first | omega | (simp; omega))))
  have N_b : rowOf w1 ((w.heap.size + 1)) = some (HV.row b) := rowOf_below (by repeat' first | (with_reducible first | assumption | apply row_drew | apply row_drewN | apply row_set_same | apply row_cell_same | apply row_set_other | apply row_cell_other) | (with_reducible exact row_new (by (first | with_reducible assumption | (simp; done) | (go_light; first | omega | (simp; omega))))) | (with_reducible apply row_old) | (first | with_reducible assumption | (simp; done) | (go_light; first | omega | (simp; omega))) | rfl) hb1 (by (first | with_reducible assumption | (simp; done) | (go_light; first | omega | (simp; omega))))
  have N_t : rowOf w1 ((w.heap.size + 1 + 1)) = some (TV.row t) := rowOf_below (by repeat' first | (with_reducible first | assumption | apply row_drew | apply row_drewN | apply row_set_same | apply row_cell_same | apply row_set_other | apply row_cell_other) | (with_reducible exact row_new (by (first | with_reducible assumption | (simp; done) | (go_light; first | omega | (simp; omega))))) | (with_reducible apply row_old) | (first | with_reducible assumption | (simp; done) | (go_light; first | omega | (simp; omega))) | rfl) hb1 (by (first | with_reducible assumption | (simp; done) | (go_light; first | omega | (simp; omega))))
  have hB := hG
  have L_a := rowOf_lt N_a
  have D_a := Nat.ne_of_lt L_a
  have L_b := rowOf_lt N_b
  have D_b := Nat.ne_of_lt L_b
  have L_t := rowOf_lt N_t
  have D_t := Nat.ne_of_lt L_t
  clear hb1 hG
  go_wp2_with fail
  refine (H1.out _).mono ?_
  rintro e w2 ⟨rfl, hb2⟩
  have hG : Below w1.heap.size w1 w2 := bstep (by repeat' first | (with_reducible first | assumption | exact Below.refl _ _ | apply blast | apply Below.drew | apply below_setRow | apply Below.alloc | apply Below.setCell) | (first | with_reducible assumption | (simp; done) | (go_light; first | omega | (simp; omega)))) hb2 (by (first | with_reducible assumption | (simp; done) | (go_light; first | omega | (simp; omega))))
  have hz := hG.size
  replace N_a := rowOf_below N_a hG L_a
  replace N_b := rowOf_below N_b hG L_b
  replace N_t := rowOf_below N_t hG L_t
  replace hB := bstep hB hG hB.size
  clear D_a L_a
  have L_a := rowOf_lt N_a
  have D_a := Nat.ne_of_lt L_a
  clear D_b L_b
  have L_b := rowOf_lt N_b
  have D_b := Nat.ne_of_lt L_b
  clear D_t L_t
  have L_t := rowOf_lt N_t
  have D_t := Nat.ne_of_lt L_t
  clear hb2 hG
  go_wp2_with fail
  refine (H2.out _).mono ?_
  rintro e w3 ⟨rfl, hb3⟩
  have hG : Below w2.heap.size w2 w3 := bstep (by repeat' first | (with_reducible first | assumption | exact Below.refl _ _ | apply blast | apply Below.drew | apply below_setRow | apply Below.alloc | apply Below.setCell) | (first | with_reducible assumption | (simp; done) | (go_light; first | omega | (simp; omega)))) hb3 (by (first | with_reducible assumption | (simp; done) | (go_light; first | omega | (simp; omega))))
  have hz := hG.size
  replace N_a := rowOf_below N_a hG L_a
  replace N_b := rowOf_below N_b hG L_b
  replace N_t := rowOf_below N_t hG L_t
  replace hB := bstep hB hG hB.size
  clear D_a L_a
  have L_a := rowOf_lt N_a
  have D_a := Nat.ne_of_lt L_a
  clear D_b L_b
  have L_b := rowOf_lt N_b
  have D_b := Nat.ne_of_lt L_b
  clear D_t L_t
  have L_t := rowOf_lt N_t
  have D_t := Nat.ne_of_lt L_t
  clear hb3 hG
  go_wp2_with fail
  refine (H3.out _).mono ?_
  rintro e w4 ⟨rfl, hb4⟩
  have hG : Below w3.heap.size w3 w4 := bstep (by repeat' first | (with_reducible first | assumption | exact Below.refl _ _ | apply blast | apply Below.drew | apply below_setRow | apply Below.alloc | apply Below.setCell) | (first | with_reducible assumption | (simp; done) | (go_light; first | omega | (simp; omega)))) hb4 (by (first | with_reducible assumption | (simp; done) | (go_light; first | omega | (simp; omega))))
  have hz := hG.size
  replace N_a := rowOf_below N_a hG L_a
  replace N_b := rowOf_below N_b hG L_b
  replace N_t := rowOf_below N_t hG L_t
  replace hB := bstep hB hG hB.size
  clear D_a L_a
  have L_a := rowOf_lt N_a
  have D_a := Nat.ne_of_lt L_a
  clear D_b L_b
  have L_b := rowOf_lt N_b
  have D_b := Nat.ne_of_lt L_b
  clear D_t L_t
  have L_t := rowOf_lt N_t
  have D_t := Nat.ne_of_lt L_t
  clear hb4 hG
  have E_a_x := D_a
  have F_a_x := Ne.symm D_a
  have E_b_x := D_b
  have F_b_x := Ne.symm D_b
  have E_t_x := D_t
  have F_t_x := Ne.symm D_t
  have Z_x : w.heap.size ≤ w4.heap.size := hB.size
  go_wp2_with fail
  refine (H4.out _).mono ?_
  rintro e w5 ⟨rfl, hb5⟩
  have hG : Below w4.heap.size w4 w5 := bstep (by repeat' first | (with_reducible first | assumption | exact Below.refl _ _ | apply blast | apply Below.drew | apply below_setRow | apply Below.alloc | apply Below.setCell) | (first | with_reducible assumption | (simp; done) | (go_light; first | omega | (simp; omega)))) hb5 (by (first | with_reducible assumption | (simp; done) | (go_light; first | omega | (simp; omega))))
  have hz := hG.size
  have N_x : rowOf w5 (w4.heap.size) = some (TV.row x) := rowOf_below (by repeat' first | (with_reducible first | assumption | apply row_drew | apply row_drewN | apply row_set_same | apply row_cell_same | apply row_set_other | apply row_cell_other) | (with_reducible exact row_new (by (first | with_reducible assumption | (simp; done) | (go_light; first | omega | (simp; omega))))) | (with_reducible apply row_old) | (first | with_reducible assumption | (simp; done) | (go_light; first | omega | (simp; omega))) | rfl) hb5 (by (first | with_reducible assumption | (simp; done) | (go_light; first | omega | (simp; omega))))
  replace N_a := rowOf_below N_a hG L_a
  replace N_b := rowOf_below N_b hG L_b
  replace N_t := rowOf_below N_t hG L_t
  replace hB := bstep hB hG hB.size
  clear D_a L_a
  have L_a := rowOf_lt N_a
  have D_a := Nat.ne_of_lt L_a
  clear D_b L_b
  have L_b := rowOf_lt N_b
  have D_b := Nat.ne_of_lt L_b
  clear D_t L_t
  have L_t := rowOf_lt N_t
  have D_t := Nat.ne_of_lt L_t
  have L_x := rowOf_lt N_x
  have D_x := Nat.ne_of_lt L_x
  clear hb5 hG
  have E_a_y := D_a
  have F_a_y := Ne.symm D_a
  have E_b_y := D_b
  have F_b_y := Ne.symm D_b
  have E_t_y := D_t
  have F_t_y := Ne.symm D_t
  have E_x_y := D_x
  have F_x_y := Ne.symm D_x
  have Z_y : w.heap.size ≤ w5.heap.size := hB.size
  go_wp2_with fail
  refine (H5.out _).mono ?_
  rintro e w6 ⟨rfl, hb6⟩
  have hG : Below w5.heap.size w5 w6 := bstep (by repeat' first | (with_reducible first | assumption | exact Below.refl _ _ | apply blast | apply Below.drew | apply below_setRow | apply Below.alloc | apply Below.setCell) | (first | with_reducible assumption | (simp; done) | (go_light; first | omega | (simp; omega)))) hb6 (by (first | with_reducible assumption | (simp; done) | (go_light; first | omega | (simp; omega))))
  have hz := hG.size
  have N_y : rowOf w6 (w5.heap.size) = some (TV.row y) := rowOf_below (by repeat' first | (with_reducible first | assumption | apply row_drew | apply row_drewN | apply row_set_same | apply row_cell_same | apply row_set_other | apply row_cell_other) | (with_reducible exact row_new (by (first | with_reducible assumption | (simp; done) | (go_light; first | omega | (simp; omega))))) | (with_reducible apply row_old) | (first | with_reducible assumption | (simp; done) | (go_light; first | omega | (simp; omega))) | rfl) hb6 (by (first | with_reducible assumption | (simp; done) | (go_light; first | omega | (simp; omega))))
  replace N_a := rowOf_below N_a hG L_a
  replace N_b := rowOf_below N_b hG L_b
  replace N_t := rowOf_below N_t hG L_t
  replace N_x := rowOf_below N_x hG L_x
  replace hB := bstep hB hG hB.size
  clear D_a L_a
  have L_a := rowOf_lt N_a
  have D_a := Nat.ne_of_lt L_a
  clear D_b L_b
  have L_b := rowOf_lt N_b
  have D_b := Nat.ne_of_lt L_b
  clear D_t L_t
  have L_t := rowOf_lt N_t
  have D_t := Nat.ne_of_lt L_t
  clear D_x L_x
  have L_x := rowOf_lt N_x
  have D_x := Nat.ne_of_lt L_x
  have L_y := rowOf_lt N_y
  have D_y := Nat.ne_of_lt L_y
  clear hb6 hG
  go_wp2_with fail
  refine (H6.out _).mono ?_
  rintro e w7 ⟨rfl, hb7⟩
  have hG : Below w6.heap.size w6 w7 := bstep (by repeat' first | (with_reducible first | assumption | exact Below.refl _ _ | apply blast | apply Below.drew | apply below_setRow | apply Below.alloc | apply Below.setCell) | (first | with_reducible assumption | (simp; done) | (go_light; first | omega | (simp; omega)))) hb7 (by (first | with_reducible assumption | (simp; done) | (go_light; first | omega | (simp; omega))))
  have hz := hG.size
  replace N_a := rowOf_below N_a hG L_a
  replace N_b := rowOf_below N_b hG L_b
  replace N_t := rowOf_below N_t hG L_t
  replace N_x := rowOf_below N_x hG L_x
  replace N_y := rowOf_below N_y hG L_y
  replace hB := bstep hB hG hB.size
  clear D_a L_a
  have L_a := rowOf_lt N_a
  have D_a := Nat.ne_of_lt L_a
  clear D_b L_b
  have L_b := rowOf_lt N_b
  have D_b := Nat.ne_of_lt L_b
  clear D_t L_t
  have L_t := rowOf_lt N_t
  have D_t := Nat.ne_of_lt L_t
  clear D_x L_x
  have L_x := rowOf_lt N_x
  have D_x := Nat.ne_of_lt L_x
  clear D_y L_y
  have L_y := rowOf_lt N_y
  have D_y := Nat.ne_of_lt L_y
  clear hb7 hG
  go_wp2_with fail
  refine (H5.out _).mono ?_
  rintro e w8 ⟨rfl, hb8⟩
  have hG : Below w7.heap.size w7 w8 := bstep (by repeat' first | (with_reducible first | assumption | exact Below.refl _ _ | apply blast | apply Below.drew | apply below_setRow | apply Below.alloc | apply Below.setCell) | (first | with_reducible assumption | (simp; done) | (go_light; first | omega | (simp; omega)))) hb8 (by (first | with_reducible assumption | (simp; done) | (go_light; first | omega | (simp; omega))))
  have hz := hG.size
  replace N_a := rowOf_below N_a hG L_a
  replace N_b := rowOf_below N_b hG L_b
  replace N_t := rowOf_below N_t hG L_t
  replace N_x := rowOf_below N_x hG L_x
  replace N_y := rowOf_below N_y hG L_y
  replace hB := bstep hB hG hB.size
  clear D_a L_a
  have L_a := rowOf_lt N_a
  have D_a := Nat.ne_of_lt L_a
  clear D_b L_b
  have L_b := rowOf_lt N_b
  have D_b := Nat.ne_of_lt L_b
  clear D_t L_t
  have L_t := rowOf_lt N_t
  have D_t := Nat.ne_of_lt L_t
  clear D_x L_x
  have L_x := rowOf_lt N_x
  have D_x := Nat.ne_of_lt L_x
  clear D_y L_y
  have L_y := rowOf_lt N_y
  have D_y := Nat.ne_of_lt L_y
  clear hb8 hG
  go_wp2_with fail
  refine (H7.out _).mono ?_
  rintro e w9 ⟨rfl, hb9⟩
  have hG : Below w8.heap.size w8 w9 := bstep (by repeat' first | (with_reducible first | assumption | exact Below.refl _ _ | apply blast | apply Below.drew | apply below_setRow | apply Below.alloc | apply Below.setCell) | (first | with_reducible assumption | (simp; done) | (go_light; first | omega | (simp; omega)))) hb9 (by (first | with_reducible assumption | (simp; done) | (go_light; first | omega | (simp; omega))))
  have hz := hG.size
  replace N_a := rowOf_below N_a hG L_a
  replace N_b := rowOf_below N_b hG L_b
  replace N_t := rowOf_below N_t hG L_t
  replace N_x := rowOf_below N_x hG L_x
  replace N_y := rowOf_below N_y hG L_y
  replace hB := bstep hB hG hB.size
  clear D_a L_a
  have L_a := rowOf_lt N_a
  have D_a := Nat.ne_of_lt L_a
  clear D_b L_b
  have L_b := rowOf_lt N_b
  have D_b := Nat.ne_of_lt L_b
  clear D_t L_t
  have L_t := rowOf_lt N_t
  have D_t := Nat.ne_of_lt L_t
  clear D_x L_x
  have L_x := rowOf_lt N_x
  have D_x := Nat.ne_of_lt L_x
  clear D_y L_y
  have L_y := rowOf_lt N_y
  have D_y := Nat.ne_of_lt L_y
  clear hb9 hG
  have a_0 : w9.cell? ⟨w.heap.size, 0, none⟩ = some (.int .i64 a.f) := rowOf_cell N_a 0
  have E_a_z := D_a
  have F_a_z := Ne.symm D_a
  have E_b_z := D_b
  have F_b_z := Ne.symm D_b
  have E_t_z := D_t
  have F_t_z := Ne.symm D_t
  have E_x_z := D_x
  have F_x_z := Ne.symm D_x
  have E_y_z := D_y
  have F_y_z := Ne.symm D_y
  have Z_z : w.heap.size ≤ w9.heap.size := hB.size
  go_wp2_with fail
  refine (H8.out _).mono ?_
  rintro e w10 ⟨rfl, hb10⟩
  have hG : Below w9.heap.size w9 w10 := bstep (by repeat' first | (with_reducible first | assumption | exact Below.refl _ _ | apply blast | apply Below.drew | apply below_setRow | apply Below.alloc | apply Below.setCell) | (first | with_reducible assumption | (simp; done) | (go_light; first | omega | (simp; omega)))) hb10 (by (first | with_reducible assumption | (simp; done) | (go_light; first | omega | (simp; omega))))
  have hz := hG.size
  have N_z : rowOf w10 (w9.heap.size) = some #[.int .i64 a.f, .int .i64 0, .int .i64 0, .int .i64 0, .int .i64 0] := rowOf_below (by repeat' first | (with_reducible first | assumption | apply row_drew | apply row_drewN | apply row_set_same | apply row_cell_same | apply row_set_other | apply row_cell_other) | (with_reducible exact row_new (by (first | with_reducible assumption | (simp; done) | (go_light; first | omega | (simp; omega))))) | (with_reducible apply row_old) | (first | with_reducible assumption | (simp; done) | (go_light; first | omega | (simp; omega))) | rfl) hb10 (by (first | with_reducible assumption | (simp; done) | (go_light; first | omega | (simp; omega))))
  replace N_a := rowOf_below N_a hG L_a
  replace N_b := rowOf_below N_b hG L_b
  replace N_t := rowOf_below N_t hG L_t
  replace N_x := rowOf_below N_x hG L_x
  replace N_y := rowOf_below N_y hG L_y
  clear a_0
  replace hB := bstep hB hG hB.size
  clear D_a L_a
  have L_a := rowOf_lt N_a
  have D_a := Nat.ne_of_lt L_a
  clear D_b L_b
  have L_b := rowOf_lt N_b
  have D_b := Nat.ne_of_lt L_b
  clear D_t L_t
  have L_t := rowOf_lt N_t
  have D_t := Nat.ne_of_lt L_t
  clear D_x L_x
  have L_x := rowOf_lt N_x
  have D_x := Nat.ne_of_lt L_x
  clear D_y L_y
  have L_y := rowOf_lt N_y
  have D_y := Nat.ne_of_lt L_y
  have L_z := rowOf_lt N_z
  have D_z := Nat.ne_of_lt L_z
  clear hb10 hG
  go_wp2_with fail
  refine (H9.out _).mono ?_
  rintro e w11 ⟨rfl, hb11⟩
  have hB2 : Below w.heap.size w w11 := bstep (by repeat' first | (with_reducible first | assumption | exact Below.refl _ _ | apply blast | apply Below.drew | apply below_setRow | apply Below.alloc | apply Below.setCell) | (first | with_reducible assumption | (simp; done) | (go_light; first | omega | (simp; omega)))) hb11 (by (first | with_reducible assumption | (simp; done) | (go_light; first | omega | (simp; omega))))
  have M_a : rowOf w11 (w.heap.size) = some (HV.row a) := rowOf_below (by repeat' first | (with_reducible first | assumption | apply row_drew | apply row_drewN | apply row_set_same | apply row_cell_same | apply row_set_other | apply row_cell_other) | (with_reducible exact row_new (by (first | with_reducible assumption | (simp; done) | (go_light; first | omega | (simp; omega))))) | (with_reducible apply row_old) | (first | with_reducible assumption | (simp; done) | (go_light; first | omega | (simp; omega))) | rfl) hb11 (by (first | with_reducible assumption | (simp; done) | (go_light; first | omega | (simp; omega))))
  have M_b : rowOf w11 ((w.heap.size + 1)) = some (HV.row b) := rowOf_below (by repeat' first | (with_reducible first | assumption | apply row_drew | apply row_drewN | apply row_set_same | apply row_cell_same | apply row_set_other | apply row_cell_other) | (with_reducible exact row_new (by (first | with_reducible assumption | (simp; done) | (go_light; first | omega | (simp; omega))))) | (with_reducible apply row_old) | (first | with_reducible assumption | (simp; done) | (go_light; first | omega | (simp; omega))) | rfl) hb11 (by (first | with_reducible assumption | (simp; done) | (go_light; first | omega | (simp; omega))))
  have M_t : rowOf w11 ((w.heap.size + 1 + 1)) = some (TV.row t) := rowOf_below (by repeat' first | (with_reducible first | assumption | apply row_drew | apply row_drewN | apply row_set_same | apply row_cell_same | apply row_set_other | apply row_cell_other) | (with_reducible exact row_new (by (first | with_reducible assumption | (simp; done) | (go_light; first | omega | (simp; omega))))) | (with_reducible apply row_old) | (first | with_reducible assumption | (simp; done) | (go_light; first | omega | (simp; omega))) | rfl) hb11 (by (first | with_reducible assumption | (simp; done) | (go_light; first | omega | (simp; omega))))
  have M_x : rowOf w11 (w4.heap.size) = some (TV.row x0) := rowOf_below (by repeat' first | (with_reducible first | assumption | apply row_drew | apply row_drewN | apply row_set_same | apply row_cell_same | apply row_set_other | apply row_cell_other) | (with_reducible exact row_new (by (first | with_reducible assumption | (simp; done) | (go_light; first | omega | (simp; omega))))) | (with_reducible apply row_old) | (first | with_reducible assumption | (simp; done) | (go_light; first | omega | (simp; omega))) | rfl) hb11 (by (first | with_reducible assumption | (simp; done) | (go_light; first | omega | (simp; omega))))
  have M_y : rowOf w11 (w5.heap.size) = some (TV.row y) := rowOf_below (by repeat' first | (with_reducible first | assumption | apply row_drew | apply row_drewN | apply row_set_same | apply row_cell_same | apply row_set_other | apply row_cell_other) | (with_reducible exact row_new (by (first | with_reducible assumption | (simp; done) | (go_light; first | omega | (simp; omega))))) | (with_reducible apply row_old) | (first | with_reducible assumption | (simp; done) | (go_light; first | omega | (simp; omega))) | rfl) hb11 (by (first | with_reducible assumption | (simp; done) | (go_light; first | omega | (simp; omega))))
  have M_z : rowOf w11 (w9.heap.size) = some #[.int .i64 a.f, .int .i64 0, .int .i64 0, .int .i64 0, .int .i64 0] := rowOf_below (by repeat' first | (with_reducible first | assumption | apply row_drew | apply row_drewN | apply row_set_same | apply row_cell_same | apply row_set_other | apply row_cell_other) | (with_reducible exact row_new (by (first | with_reducible assumption | (simp; done) | (go_light; first | omega | (simp; omega))))) | (with_reducible apply row_old) | (first | with_reducible assumption | (simp; done) | (go_light; first | omega | (simp; omega))) | rfl) hb11 (by (first | with_reducible assumption | (simp; done) | (go_light; first | omega | (simp; omega))))
  clear hB; have hB := hB2; clear hB2
  clear N_a D_a L_a
  clear N_b D_b L_b
  clear N_t D_t L_t
  clear N_x D_x L_x
  clear N_y D_y L_y
  clear N_z D_z L_z
  have N_a := M_a; clear M_a
  have L_a := rowOf_lt N_a
  have D_a := Nat.ne_of_lt L_a
  have N_b := M_b; clear M_b
  have L_b := rowOf_lt N_b
  have D_b := Nat.ne_of_lt L_b
  have N_t := M_t; clear M_t
  have L_t := rowOf_lt N_t
  have D_t := Nat.ne_of_lt L_t
  have N_x := M_x; clear M_x
  have L_x := rowOf_lt N_x
  have D_x := Nat.ne_of_lt L_x
  have N_y := M_y; clear M_y
  have L_y := rowOf_lt N_y
  have D_y := Nat.ne_of_lt L_y
  have N_z := M_z; clear M_z
  have L_z := rowOf_lt N_z
  have D_z := Nat.ne_of_lt L_z
  clear hb11
  go_wp2_with fail
  refine gen_world (fun W2 => Below w.heap.size w W2 ∧ rowOf W2 (w.heap.size) = some (HV.row a) ∧ rowOf W2 ((w.heap.size + 1)) = some (HV.row b) ∧ rowOf W2 ((w.heap.size + 1 + 1)) = some (TV.row t) ∧ rowOf W2 (w4.heap.size) = some (TV.row x0) ∧ rowOf W2 (w5.heap.size) = some (TV.row y0) ∧ rowOf W2 (w9.heap.size) = some #[.int .i64 a.f, .int .i64 0, .int .i64 0, .int .i64 0, .int .i64 0]) ⟨by repeat' first | (with_reducible first | assumption | exact Below.refl _ _ | apply blast | apply Below.drew | apply below_setRow | apply Below.alloc | apply Below.setCell) | (first | with_reducible assumption | (simp; done) | (go_light; first | omega | (simp; omega))), by repeat' first | (with_reducible first | assumption | apply row_drew | apply row_drewN | apply row_set_same | apply row_cell_same | apply row_set_other | apply row_cell_other) | (with_reducible exact row_new (by (first | with_reducible assumption | (simp; done) | (go_light; first | omega | (simp; omega))))) | (with_reducible apply row_old) | (first | with_reducible assumption | (simp; done) | (go_light; first | omega | (simp; omega))) | rfl, by repeat' first | (with_reducible first | assumption | apply row_drew | apply row_drewN | apply row_set_same | apply row_cell_same | apply row_set_other | apply row_cell_other) | (with_reducible exact row_new (by (first | with_reducible assumption | (simp; done) | (go_light; first | omega | (simp; omega))))) | (with_reducible apply row_old) | (first | with_reducible assumption | (simp; done) | (go_light; first | omega | (simp; omega))) | rfl, by repeat' first | (with_reducible first | assumption | apply row_drew | apply row_drewN | apply row_set_same | apply row_cell_same | apply row_set_other | apply row_cell_other) | (with_reducible exact row_new (by (first | with_reducible assumption | (simp; done) | (go_light; first | omega | (simp; omega))))) | (with_reducible apply row_old) | (first | with_reducible assumption | (simp; done) | (go_light; first | omega | (simp; omega))) | rfl, by repeat' first | (with_reducible first | assumption | apply row_drew | apply row_drewN | apply row_set_same | apply row_cell_same | apply row_set_other | apply row_cell_other) | (with_reducible exact row_new (by (first | with_reducible assumption | (simp; done) | (go_light; first | omega | (simp; omega))))) | (with_reducible apply row_old) | (first | with_reducible assumption | (simp; done) | (go_light; first | omega | (simp; omega))) | rfl, by repeat' first | (with_reducible first | assumption | apply row_drew | apply row_drewN | apply row_set_same | apply row_cell_same | apply row_set_other | apply row_cell_other) | (with_reducible exact row_new (by (first | with_reducible assumption | (simp; done) | (go_light; first | omega | (simp; omega))))) | (with_reducible apply row_old) | (first | with_reducible assumption | (simp; done) | (go_light; first | omega | (simp; omega))) | rfl, by repeat' first | (with_reducible first | assumption | apply row_drew | apply row_drewN | apply row_set_same | apply row_cell_same | apply row_set_other | apply row_cell_other) | (with_reducible exact row_new (by (first | with_reducible assumption | (simp; done) | (go_light; first | omega | (simp; omega))))) | (with_reducible apply row_old) | (first | with_reducible assumption | (simp; done) | (go_light; first | omega | (simp; omega))) | rfl⟩ ?_
  clear hB
  clear N_a L_a D_a
  clear N_b L_b D_b
  clear N_t L_t D_t
  clear N_x L_x D_x
  clear N_y L_y D_y
  clear N_z L_z D_z
  rintro w12 ⟨hB, N_a, N_b, N_t, N_x, N_y, N_z⟩
  have L_a : w.heap.size < w12.heap.size := rowOf_lt N_a
  have D_a : w.heap.size ≠ w12.heap.size := Nat.ne_of_lt L_a
  have L_b : (w.heap.size + 1) < w12.heap.size := rowOf_lt N_b
  have D_b : (w.heap.size + 1) ≠ w12.heap.size := Nat.ne_of_lt L_b
  have L_t : (w.heap.size + 1 + 1) < w12.heap.size := rowOf_lt N_t
  have D_t : (w.heap.size + 1 + 1) ≠ w12.heap.size := Nat.ne_of_lt L_t
  have L_x : w4.heap.size < w12.heap.size := rowOf_lt N_x
  have D_x : w4.heap.size ≠ w12.heap.size := Nat.ne_of_lt L_x
  have L_y : w5.heap.size < w12.heap.size := rowOf_lt N_y
  have D_y : w5.heap.size ≠ w12.heap.size := Nat.ne_of_lt L_y
  have L_z : w9.heap.size < w12.heap.size := rowOf_lt N_z
  have D_z : w9.heap.size ≠ w12.heap.size := Nat.ne_of_lt L_z
  have a_0 : w12.cell? ⟨w.heap.size, 0, none⟩ = some (.int .i64 a.f) := rowOf_cell N_a 0
  have a_1 : w12.cell? ⟨w.heap.size, 1, none⟩ = some (.int .i64 a.k) := rowOf_cell N_a 1
  have a_2 : w12.cell? ⟨w.heap.size, 2, none⟩ = some (.int .i64 a.t) := rowOf_cell N_a 2
  have a_3 : w12.cell? ⟨w.heap.size, 3, none⟩ = some (.int .i64 a.a0) := rowOf_cell N_a 3
  have a_4 : w12.cell? ⟨w.heap.size, 4, none⟩ = some (.int .i64 a.a1) := rowOf_cell N_a 4
  have a_5 : w12.cell? ⟨w.heap.size, 5, none⟩ = some (.int .i64 a.a2) := rowOf_cell N_a 5
  have a_6 : w12.cell? ⟨w.heap.size, 6, none⟩ = some (.int .i64 a.a3) := rowOf_cell N_a 6
  have a_7 : w12.cell? ⟨w.heap.size, 7, none⟩ = some (.int .i64 a.b0) := rowOf_cell N_a 7
  have a_8 : w12.cell? ⟨w.heap.size, 8, none⟩ = some (.int .i64 a.b1) := rowOf_cell N_a 8
  have a_9 : w12.cell? ⟨w.heap.size, 9, none⟩ = some (.int .i64 a.b2) := rowOf_cell N_a 9
  have a_10 : w12.cell? ⟨w.heap.size, 10, none⟩ = some (.int .i64 a.b3) := rowOf_cell N_a 10
  have b_0 : w12.cell? ⟨(w.heap.size + 1), 0, none⟩ = some (.int .i64 b.f) := rowOf_cell N_b 0
  have b_1 : w12.cell? ⟨(w.heap.size + 1), 1, none⟩ = some (.int .i64 b.k) := rowOf_cell N_b 1
  have b_2 : w12.cell? ⟨(w.heap.size + 1), 2, none⟩ = some (.int .i64 b.t) := rowOf_cell N_b 2
  have b_3 : w12.cell? ⟨(w.heap.size + 1), 3, none⟩ = some (.int .i64 b.a0) := rowOf_cell N_b 3
  have b_4 : w12.cell? ⟨(w.heap.size + 1), 4, none⟩ = some (.int .i64 b.a1) := rowOf_cell N_b 4
  have b_5 : w12.cell? ⟨(w.heap.size + 1), 5, none⟩ = some (.int .i64 b.a2) := rowOf_cell N_b 5
  have b_6 : w12.cell? ⟨(w.heap.size + 1), 6, none⟩ = some (.int .i64 b.a3) := rowOf_cell N_b 6
  have b_7 : w12.cell? ⟨(w.heap.size + 1), 7, none⟩ = some (.int .i64 b.b0) := rowOf_cell N_b 7
  have b_8 : w12.cell? ⟨(w.heap.size + 1), 8, none⟩ = some (.int .i64 b.b1) := rowOf_cell N_b 8
  have b_9 : w12.cell? ⟨(w.heap.size + 1), 9, none⟩ = some (.int .i64 b.b2) := rowOf_cell N_b 9
  have b_10 : w12.cell? ⟨(w.heap.size + 1), 10, none⟩ = some (.int .i64 b.b3) := rowOf_cell N_b 10
  have x_0 : w12.cell? ⟨w4.heap.size, 0, none⟩ = some (.int .i64 x0.d) := rowOf_cell N_x 0
  have x_1 : w12.cell? ⟨w4.heap.size, 1, none⟩ = some (.int .i64 x0.c0) := rowOf_cell N_x 1
  have x_2 : w12.cell? ⟨w4.heap.size, 2, none⟩ = some (.int .i64 x0.c1) := rowOf_cell N_x 2
  have x_3 : w12.cell? ⟨w4.heap.size, 3, none⟩ = some (.int .i64 x0.c2) := rowOf_cell N_x 3
  have x_4 : w12.cell? ⟨w4.heap.size, 4, none⟩ = some (.int .i64 x0.c3) := rowOf_cell N_x 4
  have y_0 : w12.cell? ⟨w5.heap.size, 0, none⟩ = some (.int .i64 y0.d) := rowOf_cell N_y 0
  have y_1 : w12.cell? ⟨w5.heap.size, 1, none⟩ = some (.int .i64 y0.c0) := rowOf_cell N_y 1
  have y_2 : w12.cell? ⟨w5.heap.size, 2, none⟩ = some (.int .i64 y0.c1) := rowOf_cell N_y 2
  have y_3 : w12.cell? ⟨w5.heap.size, 3, none⟩ = some (.int .i64 y0.c2) := rowOf_cell N_y 3
  have y_4 : w12.cell? ⟨w5.heap.size, 4, none⟩ = some (.int .i64 y0.c3) := rowOf_cell N_y 4
  refine wp_region_beh (by kernel_rfl) (by kernel_rfl) ?_
  have a_b0 := beh_cell a_0
  have a_b1 := beh_cell a_1
  have a_b2 := beh_cell a_2
  have a_b3 := beh_cell a_3
  have a_b4 := beh_cell a_4
  have a_b5 := beh_cell a_5
  have a_b6 := beh_cell a_6
  have a_b7 := beh_cell a_7
  have a_b8 := beh_cell a_8
  have a_b9 := beh_cell a_9
  have a_b10 := beh_cell a_10
  clear a_0 a_1 a_2 a_3 a_4 a_5 a_6 a_7 a_8 a_9 a_10
  have b_b0 := beh_cell b_0
  have b_b1 := beh_cell b_1
  have b_b2 := beh_cell b_2
  have b_b3 := beh_cell b_3
  have b_b4 := beh_cell b_4
  have b_b5 := beh_cell b_5
  have b_b6 := beh_cell b_6
  have b_b7 := beh_cell b_7
  have b_b8 := beh_cell b_8
  have b_b9 := beh_cell b_9
  have b_b10 := beh_cell b_10
  clear b_0 b_1 b_2 b_3 b_4 b_5 b_6 b_7 b_8 b_9 b_10
  have x_b0 := beh_cell x_0
  have x_b1 := beh_cell x_1
  have x_b2 := beh_cell x_2
  have x_b3 := beh_cell x_3
  have x_b4 := beh_cell x_4
  clear x_0 x_1 x_2 x_3 x_4
  have y_b0 := beh_cell y_0
  have y_b1 := beh_cell y_1
  have y_b2 := beh_cell y_2
  have y_b3 := beh_cell y_3
  have y_b4 := beh_cell y_4
  clear y_0 y_1 y_2 y_3 y_4
  repeat (first | go_big_quiet_step (first | (with_reducible exact Calls.beh (H10.out _)) | (with_reducible exact Calls.beh (H5.out _)) | (with_reducible exact Calls.beh (H11.out _))) | quiet_step (first | (with_reducible exact Calls.beh (H10.out _)) | (with_reducible exact Calls.beh (H5.out _)) | (with_reducible exact Calls.beh (H11.out _))))
  refine wpQuiet_nil ?_
  intro _ hw'
  obtain ⟨g, hw''⟩ := hw'
  subst hw''
  clear a_b0 a_b1 a_b2 a_b3 a_b4 a_b5 a_b6 a_b7 a_b8 a_b9 a_b10 b_b0 b_b1 b_b2 b_b3 b_b4 b_b5 b_b6 b_b7 b_b8 b_b9 b_b10 x_b0 x_b1 x_b2 x_b3 x_b4 y_b0 y_b1 y_b2 y_b3 y_b4
  have hb13 := g.h
  generalize g.w = w13 at hb13 ⊢
  clear g
  have hG : Below w12.heap.size w12 w13 := bstep (by repeat' first | (with_reducible first | assumption | exact Below.refl _ _ | apply blast | apply Below.drew | apply below_setRow | apply Below.alloc | apply Below.setCell) | (first | with_reducible assumption | (simp; done) | (go_light; first | omega | (simp; omega)))) hb13 (by (first | with_reducible assumption | (simp; done) | (go_light; first | omega | (simp; omega))))
  have hz := hG.size
  replace N_a := rowOf_below N_a hG L_a
  replace N_b := rowOf_below N_b hG L_b
  replace N_t := rowOf_below N_t hG L_t
  replace N_x := rowOf_below N_x hG L_x
  replace N_y := rowOf_below N_y hG L_y
  replace N_z := rowOf_below N_z hG L_z
  replace hB := bstep hB hG hB.size
  clear D_a L_a
  have L_a := rowOf_lt N_a
  have D_a := Nat.ne_of_lt L_a
  clear D_b L_b
  have L_b := rowOf_lt N_b
  have D_b := Nat.ne_of_lt L_b
  clear D_t L_t
  have L_t := rowOf_lt N_t
  have D_t := Nat.ne_of_lt L_t
  clear D_x L_x
  have L_x := rowOf_lt N_x
  have D_x := Nat.ne_of_lt L_x
  clear D_y L_y
  have L_y := rowOf_lt N_y
  have D_y := Nat.ne_of_lt L_y
  clear D_z L_z
  have L_z := rowOf_lt N_z
  have D_z := Nat.ne_of_lt L_z
  clear hb13 hG
  go_wp2
  go_returns
  exact ⟨ret_bool rfl, by repeat' first | (with_reducible first | assumption | exact Below.refl _ _ | apply blast | apply Below.drew | apply below_setRow | apply Below.alloc | apply Below.setCell) | (first | with_reducible assumption | (simp; done) | (go_light; first | omega | (simp; omega)))⟩

set_option maxHeartbeats 8000000 in
theorem hopOrder_212 (a : HV) (b : HV) (t : TV) (x : TV) (y : TV) (x0 : TV) (y0 : TV) (q2 : Bool) 
    (HAW : ∀ W, Calls Try.prog 11 #[] W (Ret (.bool true) W))
    (H1 : ∀ W, Calls Try.prog 15 #[(HV.val a)] W (Ret (.bool true) W))
    (H2 : ∀ W, Calls Try.prog 13 #[(HV.val a), (TV.val t)] W (Ret (.tuple #[(TV.val x), .bool true]) W))
    (H3 : ∀ W, Calls Try.prog 18 #[(HV.val a), (HV.val a)] W (Ret (.bool true) W))
    (H4 : ∀ W, Calls Try.prog 28 #[(TV.val x), (TV.val x)] W (Ret (.bool true) W))
    (H5 : ∀ W, Calls Try.prog 13 #[(HV.val a), .agg #[.int .i64 a.f, .int .i64 0, .int .i64 0, .int .i64 0, .int .i64 0]] W (Ret (.tuple #[(TV.val x0), .bool false]) W)) (w : World) :
    Calls Try.prog 6 #[(HV.val a), (HV.val a), (TV.val t)] w (Ret (.bool true) w) := by
  replace HAW := Lib.hid HAW
  replace H1 := Lib.hid H1
  replace H2 := Lib.hid H2
  replace H3 := Lib.hid H3
  replace H4 := Lib.hid H4
  replace H5 := Lib.hid H5
  go_enter Try.func6, Try.ntmps6
  go_wp2_with fail
  refine (HAW.out _).mono ?_
  rintro e w1 ⟨rfl, hb1⟩
  have hG : Below w.heap.size w w1 := bstep (by repeat' first | (with_reducible first | assumption | exact Below.refl _ _ | apply blast | apply Below.drew | apply below_setRow | apply Below.alloc | apply Below.setCell) | (first | with_reducible assumption | (simp; done) | (go_light; first | omega | (simp; omega)))) hb1 (by (first | with_reducible assumption | (simp; done) | (go_light; first | omega | (simp; omega))))
  have hz := hG.size
  have N_a : rowOf w1 (w.heap.size) = some (HV.row a) := rowOf_below (by repeat' first | (with_reducible first | assumption | apply row_drew | apply row_drewN | apply row_set_same | apply row_cell_same | apply row_set_other | apply row_cell_other) | (with_reducible exact row_new (by (first | with_reducible assumption | (simp; done) | (go_light; first | omega | (simp; omega))))) | (with_reducible apply row_old) | (first | with_reducible assumption | (simp; done) | (go_light; first | omega | (simp; omega))) | rfl) hb1 (by (first | with_reducible assumption | (simp; done) | (go_light; first | omega | (simp; omega))))
  have N_b : rowOf w1 ((w.heap.size + 1)) = some (HV.row a) := rowOf_below (by repeat' first | (with_reducible first | assumption | apply row_drew | apply row_drewN | apply row_set_same | apply row_cell_same | apply row_set_other | apply row_cell_other) | (with_reducible exact row_new (by (first | with_reducible assumption | (simp; done) | (go_light; first | omega | (simp; omega))))) | (with_reducible apply row_old) | (first | with_reducible assumption | (simp; done) | (go_light; first | omega | (simp; omega))) | rfl) hb1 (by (first | with_reducible assumption | (simp; done) | (go_light; first | omega | (simp; omega))))
  have N_t : rowOf w1 ((w.heap.size + 1 + 1)) = some (TV.row t) := rowOf_below (by repeat' first | (with_reducible first | assumption | apply row_drew | apply row_drewN | apply row_set_same | apply row_cell_same | apply row_set_other | apply row_cell_other) | (with_reducible exact row_new (by (first | with_reducible assumption | (simp; done) | (go_light; first | omega | (simp; omega))))) | (with_reducible apply row_old) | (first | with_reducible assumption | (simp; done) | (go_light; first | omega | (simp; omega))) | rfl) hb1 (by (first | with_reducible assumption | (simp; done) | (go_light; first | omega | (simp; omega))))
  have hB := hG
  have L_a := rowOf_lt N_a
  have D_a := Nat.ne_of_lt L_a
  have L_b := rowOf_lt N_b
  have D_b := Nat.ne_of_lt L_b
  have L_t := rowOf_lt N_t
  have D_t := Nat.ne_of_lt L_t
  clear hb1 hG
  go_wp2_with fail
  refine (H1.out _).mono ?_
  rintro e w2 ⟨rfl, hb2⟩
  have hG : Below w1.heap.size w1 w2 := bstep (by repeat' first | (with_reducible first | assumption | exact Below.refl _ _ | apply blast | apply Below.drew | apply below_setRow | apply Below.alloc | apply Below.setCell) | (first | with_reducible assumption | (simp; done) | (go_light; first | omega | (simp; omega)))) hb2 (by (first | with_reducible assumption | (simp; done) | (go_light; first | omega | (simp; omega))))
  have hz := hG.size
  replace N_a := rowOf_below N_a hG L_a
  replace N_b := rowOf_below N_b hG L_b
  replace N_t := rowOf_below N_t hG L_t
  replace hB := bstep hB hG hB.size
  clear D_a L_a
  have L_a := rowOf_lt N_a
  have D_a := Nat.ne_of_lt L_a
  clear D_b L_b
  have L_b := rowOf_lt N_b
  have D_b := Nat.ne_of_lt L_b
  clear D_t L_t
  have L_t := rowOf_lt N_t
  have D_t := Nat.ne_of_lt L_t
  clear hb2 hG
  go_wp2_with fail
  refine (H1.out _).mono ?_
  rintro e w3 ⟨rfl, hb3⟩
  have hG : Below w2.heap.size w2 w3 := bstep (by repeat' first | (with_reducible first | assumption | exact Below.refl _ _ | apply blast | apply Below.drew | apply below_setRow | apply Below.alloc | apply Below.setCell) | (first | with_reducible assumption | (simp; done) | (go_light; first | omega | (simp; omega)))) hb3 (by (first | with_reducible assumption | (simp; done) | (go_light; first | omega | (simp; omega))))
  have hz := hG.size
  replace N_a := rowOf_below N_a hG L_a
  replace N_b := rowOf_below N_b hG L_b
  replace N_t := rowOf_below N_t hG L_t
  replace hB := bstep hB hG hB.size
  clear D_a L_a
  have L_a := rowOf_lt N_a
  have D_a := Nat.ne_of_lt L_a
  clear D_b L_b
  have L_b := rowOf_lt N_b
  have D_b := Nat.ne_of_lt L_b
  clear D_t L_t
  have L_t := rowOf_lt N_t
  have D_t := Nat.ne_of_lt L_t
  clear hb3 hG
  go_wp2_with fail
  refine (H2.out _).mono ?_
  rintro e w4 ⟨rfl, hb4⟩
  have hG : Below w3.heap.size w3 w4 := bstep (by repeat' first | (with_reducible first | assumption | exact Below.refl _ _ | apply blast | apply Below.drew | apply below_setRow | apply Below.alloc | apply Below.setCell) | (first | with_reducible assumption | (simp; done) | (go_light; first | omega | (simp; omega)))) hb4 (by (first | with_reducible assumption | (simp; done) | (go_light; first | omega | (simp; omega))))
  have hz := hG.size
  replace N_a := rowOf_below N_a hG L_a
  replace N_b := rowOf_below N_b hG L_b
  replace N_t := rowOf_below N_t hG L_t
  replace hB := bstep hB hG hB.size
  clear D_a L_a
  have L_a := rowOf_lt N_a
  have D_a := Nat.ne_of_lt L_a
  clear D_b L_b
  have L_b := rowOf_lt N_b
  have D_b := Nat.ne_of_lt L_b
  clear D_t L_t
  have L_t := rowOf_lt N_t
  have D_t := Nat.ne_of_lt L_t
  clear hb4 hG
  have E_a_x := D_a
  have F_a_x := Ne.symm D_a
  have E_b_x := D_b
  have F_b_x := Ne.symm D_b
  have E_t_x := D_t
  have F_t_x := Ne.symm D_t
  have Z_x : w.heap.size ≤ w4.heap.size := hB.size
  go_wp2_with fail
  refine (H2.out _).mono ?_
  rintro e w5 ⟨rfl, hb5⟩
  have hG : Below w4.heap.size w4 w5 := bstep (by repeat' first | (with_reducible first | assumption | exact Below.refl _ _ | apply blast | apply Below.drew | apply below_setRow | apply Below.alloc | apply Below.setCell) | (first | with_reducible assumption | (simp; done) | (go_light; first | omega | (simp; omega)))) hb5 (by (first | with_reducible assumption | (simp; done) | (go_light; first | omega | (simp; omega))))
  have hz := hG.size
  have N_x : rowOf w5 (w4.heap.size) = some (TV.row x) := rowOf_below (by repeat' first | (with_reducible first | assumption | apply row_drew | apply row_drewN | apply row_set_same | apply row_cell_same | apply row_set_other | apply row_cell_other) | (with_reducible exact row_new (by (first | with_reducible assumption | (simp; done) | (go_light; first | omega | (simp; omega))))) | (with_reducible apply row_old) | (first | with_reducible assumption | (simp; done) | (go_light; first | omega | (simp; omega))) | rfl) hb5 (by (first | with_reducible assumption | (simp; done) | (go_light; first | omega | (simp; omega))))
  replace N_a := rowOf_below N_a hG L_a
  replace N_b := rowOf_below N_b hG L_b
  replace N_t := rowOf_below N_t hG L_t
  replace hB := bstep hB hG hB.size
  clear D_a L_a
  have L_a := rowOf_lt N_a
  have D_a := Nat.ne_of_lt L_a
  clear D_b L_b
  have L_b := rowOf_lt N_b
  have D_b := Nat.ne_of_lt L_b
  clear D_t L_t
  have L_t := rowOf_lt N_t
  have D_t := Nat.ne_of_lt L_t
  have L_x := rowOf_lt N_x
  have D_x := Nat.ne_of_lt L_x
  clear hb5 hG
  have E_a_y := D_a
  have F_a_y := Ne.symm D_a
  have E_b_y := D_b
  have F_b_y := Ne.symm D_b
  have E_t_y := D_t
  have F_t_y := Ne.symm D_t
  have E_x_y := D_x
  have F_x_y := Ne.symm D_x
  have Z_y : w.heap.size ≤ w5.heap.size := hB.size
  go_wp2_with fail
  refine (H3.out _).mono ?_
  rintro e w6 ⟨rfl, hb6⟩
  have hG : Below w5.heap.size w5 w6 := bstep (by repeat' first | (with_reducible first | assumption | exact Below.refl _ _ | apply blast | apply Below.drew | apply below_setRow | apply Below.alloc | apply Below.setCell) | (first | with_reducible assumption | (simp; done) | (go_light; first | omega | (simp; omega)))) hb6 (by (first | with_reducible assumption | (simp; done) | (go_light; first | omega | (simp; omega))))
  have hz := hG.size
  have N_y : rowOf w6 (w5.heap.size) = some (TV.row x) := rowOf_below (by repeat' first | (with_reducible first | assumption | apply row_drew | apply row_drewN | apply row_set_same | apply row_cell_same | apply row_set_other | apply row_cell_other) | (with_reducible exact row_new (by (first | with_reducible assumption | (simp; done) | (go_light; first | omega | (simp; omega))))) | (with_reducible apply row_old) | (first | with_reducible assumption | (simp; done) | (go_light; first | omega | (simp; omega))) | rfl) hb6 (by (first | with_reducible assumption | (simp; done) | (go_light; first | omega | (simp; omega))))
  replace N_a := rowOf_below N_a hG L_a
  replace N_b := rowOf_below N_b hG L_b
  replace N_t := rowOf_below N_t hG L_t
  replace N_x := rowOf_below N_x hG L_x
  replace hB := bstep hB hG hB.size
  clear D_a L_a
  have L_a := rowOf_lt N_a
  have D_a := Nat.ne_of_lt L_a
  clear D_b L_b
  have L_b := rowOf_lt N_b
  have D_b := Nat.ne_of_lt L_b
  clear D_t L_t
  have L_t := rowOf_lt N_t
  have D_t := Nat.ne_of_lt L_t
  clear D_x L_x
  have L_x := rowOf_lt N_x
  have D_x := Nat.ne_of_lt L_x
  have L_y := rowOf_lt N_y
  have D_y := Nat.ne_of_lt L_y
  clear hb6 hG
  go_wp2_with fail
  refine (H4.out _).mono ?_
  rintro e w7 ⟨rfl, hb7⟩
  have hG : Below w6.heap.size w6 w7 := bstep (by repeat' first | (with_reducible first | assumption | exact Below.refl _ _ | apply blast | apply Below.drew | apply below_setRow | apply Below.alloc | apply Below.setCell) | (first | with_reducible assumption | (simp; done) | (go_light; first | omega | (simp; omega)))) hb7 (by (first | with_reducible assumption | (simp; done) | (go_light; first | omega | (simp; omega))))
  have hz := hG.size
  replace N_a := rowOf_below N_a hG L_a
  replace N_b := rowOf_below N_b hG L_b
  replace N_t := rowOf_below N_t hG L_t
  replace N_x := rowOf_below N_x hG L_x
  replace N_y := rowOf_below N_y hG L_y
  replace hB := bstep hB hG hB.size
  clear D_a L_a
  have L_a := rowOf_lt N_a
  have D_a := Nat.ne_of_lt L_a
  clear D_b L_b
  have L_b := rowOf_lt N_b
  have D_b := Nat.ne_of_lt L_b
  clear D_t L_t
  have L_t := rowOf_lt N_t
  have D_t := Nat.ne_of_lt L_t
  clear D_x L_x
  have L_x := rowOf_lt N_x
  have D_x := Nat.ne_of_lt L_x
  clear D_y L_y
  have L_y := rowOf_lt N_y
  have D_y := Nat.ne_of_lt L_y
  clear hb7 hG
  go_wp2_with fail
  refine (H3.out _).mono ?_
  rintro e w8 ⟨rfl, hb8⟩
  have hG : Below w7.heap.size w7 w8 := bstep (by repeat' first | (with_reducible first | assumption | exact Below.refl _ _ | apply blast | apply Below.drew | apply below_setRow | apply Below.alloc | apply Below.setCell) | (first | with_reducible assumption | (simp; done) | (go_light; first | omega | (simp; omega)))) hb8 (by (first | with_reducible assumption | (simp; done) | (go_light; first | omega | (simp; omega))))
  have hz := hG.size
  replace N_a := rowOf_below N_a hG L_a
  replace N_b := rowOf_below N_b hG L_b
  replace N_t := rowOf_below N_t hG L_t
  replace N_x := rowOf_below N_x hG L_x
  replace N_y := rowOf_below N_y hG L_y
  replace hB := bstep hB hG hB.size
  clear D_a L_a
  have L_a := rowOf_lt N_a
  have D_a := Nat.ne_of_lt L_a
  clear D_b L_b
  have L_b := rowOf_lt N_b
  have D_b := Nat.ne_of_lt L_b
  clear D_t L_t
  have L_t := rowOf_lt N_t
  have D_t := Nat.ne_of_lt L_t
  clear D_x L_x
  have L_x := rowOf_lt N_x
  have D_x := Nat.ne_of_lt L_x
  clear D_y L_y
  have L_y := rowOf_lt N_y
  have D_y := Nat.ne_of_lt L_y
  clear hb8 hG
  go_wp2_with fail
  refine (H3.out _).mono ?_
  rintro e w9 ⟨rfl, hb9⟩
  have hG : Below w8.heap.size w8 w9 := bstep (by repeat' first | (with_reducible first | assumption | exact Below.refl _ _ | apply blast | apply Below.drew | apply below_setRow | apply Below.alloc | apply Below.setCell) | (first | with_reducible assumption | (simp; done) | (go_light; first | omega | (simp; omega)))) hb9 (by (first | with_reducible assumption | (simp; done) | (go_light; first | omega | (simp; omega))))
  have hz := hG.size
  replace N_a := rowOf_below N_a hG L_a
  replace N_b := rowOf_below N_b hG L_b
  replace N_t := rowOf_below N_t hG L_t
  replace N_x := rowOf_below N_x hG L_x
  replace N_y := rowOf_below N_y hG L_y
  replace hB := bstep hB hG hB.size
  clear D_a L_a
  have L_a := rowOf_lt N_a
  have D_a := Nat.ne_of_lt L_a
  clear D_b L_b
  have L_b := rowOf_lt N_b
  have D_b := Nat.ne_of_lt L_b
  clear D_t L_t
  have L_t := rowOf_lt N_t
  have D_t := Nat.ne_of_lt L_t
  clear D_x L_x
  have L_x := rowOf_lt N_x
  have D_x := Nat.ne_of_lt L_x
  clear D_y L_y
  have L_y := rowOf_lt N_y
  have D_y := Nat.ne_of_lt L_y
  clear hb9 hG
  have a_0 : w9.cell? ⟨w.heap.size, 0, none⟩ = some (.int .i64 a.f) := rowOf_cell N_a 0
  have E_a_z := D_a
  have F_a_z := Ne.symm D_a
  have E_b_z := D_b
  have F_b_z := Ne.symm D_b
  have E_t_z := D_t
  have F_t_z := Ne.symm D_t
  have E_x_z := D_x
  have F_x_z := Ne.symm D_x
  have E_y_z := D_y
  have F_y_z := Ne.symm D_y
  have Z_z : w.heap.size ≤ w9.heap.size := hB.size
  go_wp2_with fail
  refine (H5.out _).mono ?_
  rintro e w10 ⟨rfl, hb10⟩
  have hG : Below w9.heap.size w9 w10 := bstep (by repeat' first | (with_reducible first | assumption | exact Below.refl _ _ | apply blast | apply Below.drew | apply below_setRow | apply Below.alloc | apply Below.setCell) | (first | with_reducible assumption | (simp; done) | (go_light; first | omega | (simp; omega)))) hb10 (by (first | with_reducible assumption | (simp; done) | (go_light; first | omega | (simp; omega))))
  have hz := hG.size
  have N_z : rowOf w10 (w9.heap.size) = some #[.int .i64 a.f, .int .i64 0, .int .i64 0, .int .i64 0, .int .i64 0] := rowOf_below (by repeat' first | (with_reducible first | assumption | apply row_drew | apply row_drewN | apply row_set_same | apply row_cell_same | apply row_set_other | apply row_cell_other) | (with_reducible exact row_new (by (first | with_reducible assumption | (simp; done) | (go_light; first | omega | (simp; omega))))) | (with_reducible apply row_old) | (first | with_reducible assumption | (simp; done) | (go_light; first | omega | (simp; omega))) | rfl) hb10 (by (first | with_reducible assumption | (simp; done) | (go_light; first | omega | (simp; omega))))
  replace N_a := rowOf_below N_a hG L_a
  replace N_b := rowOf_below N_b hG L_b
  replace N_t := rowOf_below N_t hG L_t
  replace N_x := rowOf_below N_x hG L_x
  replace N_y := rowOf_below N_y hG L_y
  clear a_0
  replace hB := bstep hB hG hB.size
  clear D_a L_a
  have L_a := rowOf_lt N_a
  have D_a := Nat.ne_of_lt L_a
  clear D_b L_b
  have L_b := rowOf_lt N_b
  have D_b := Nat.ne_of_lt L_b
  clear D_t L_t
  have L_t := rowOf_lt N_t
  have D_t := Nat.ne_of_lt L_t
  clear D_x L_x
  have L_x := rowOf_lt N_x
  have D_x := Nat.ne_of_lt L_x
  clear D_y L_y
  have L_y := rowOf_lt N_y
  have D_y := Nat.ne_of_lt L_y
  have L_z := rowOf_lt N_z
  have D_z := Nat.ne_of_lt L_z
  clear hb10 hG
  go_wp2_with fail
  refine (H5.out _).mono ?_
  rintro e w11 ⟨rfl, hb11⟩
  have hB2 : Below w.heap.size w w11 := bstep (by repeat' first | (with_reducible first | assumption | exact Below.refl _ _ | apply blast | apply Below.drew | apply below_setRow | apply Below.alloc | apply Below.setCell) | (first | with_reducible assumption | (simp; done) | (go_light; first | omega | (simp; omega)))) hb11 (by (first | with_reducible assumption | (simp; done) | (go_light; first | omega | (simp; omega))))
  have M_a : rowOf w11 (w.heap.size) = some (HV.row a) := rowOf_below (by repeat' first | (with_reducible first | assumption | apply row_drew | apply row_drewN | apply row_set_same | apply row_cell_same | apply row_set_other | apply row_cell_other) | (with_reducible exact row_new (by (first | with_reducible assumption | (simp; done) | (go_light; first | omega | (simp; omega))))) | (with_reducible apply row_old) | (first | with_reducible assumption | (simp; done) | (go_light; first | omega | (simp; omega))) | rfl) hb11 (by (first | with_reducible assumption | (simp; done) | (go_light; first | omega | (simp; omega))))
  have M_b : rowOf w11 ((w.heap.size + 1)) = some (HV.row a) := rowOf_below (by repeat' first | (with_reducible first | assumption | apply row_drew | apply row_drewN | apply row_set_same | apply row_cell_same | apply row_set_other | apply row_cell_other) | (with_reducible exact row_new (by (first | with_reducible assumption | (simp; done) | (go_light; first | omega | (simp; omega))))) | (with_reducible apply row_old) | (first | with_reducible assumption | (simp; done) | (go_light; first | omega | (simp; omega))) | rfl) hb11 (by (first | with_reducible assumption | (simp; done) | (go_light; first | omega | (simp; omega))))
  have M_t : rowOf w11 ((w.heap.size + 1 + 1)) = some (TV.row t) := rowOf_below (by repeat' first | (with_reducible first | assumption | apply row_drew | apply row_drewN | apply row_set_same | apply row_cell_same | apply row_set_other | apply row_cell_other) | (with_reducible exact row_new (by (first | with_reducible assumption | (simp; done) | (go_light; first | omega | (simp; omega))))) | (with_reducible apply row_old) | (first | with_reducible assumption | (simp; done) | (go_light; first | omega | (simp; omega))) | rfl) hb11 (by (first | with_reducible assumption | (simp; done) | (go_light; first | omega | (simp; omega))))
  have M_x : rowOf w11 (w4.heap.size) = some (TV.row x0) := rowOf_below (by repeat' first | (with_reducible first | assumption | apply row_drew | apply row_drewN | apply row_set_same | apply row_cell_same | apply row_set_other | apply row_cell_other) | (with_reducible exact row_new (by (first | with_reducible assumption | (simp; done) | (go_light; first | omega | (simp; omega))))) | (with_reducible apply row_old) | (first | with_reducible assumption | (simp; done) | (go_light; first | omega | (simp; omega))) | rfl) hb11 (by (first | with_reducible assumption | (simp; done) | (go_light; first | omega | (simp; omega))))
  have M_y : rowOf w11 (w5.heap.size) = some (TV.row x) := rowOf_below (by repeat' first | (with_reducible first | assumption | apply row_drew | apply row_drewN | apply row_set_same | apply row_cell_same | apply row_set_other | apply row_cell_other) | (with_reducible exact row_new (by (first | with_reducible assumption | (simp; done) | (go_light; first | omega | (simp; omega))))) | (with_reducible apply row_old) | (first | with_reducible assumption | (simp; done) | (go_light; first | omega | (simp; omega))) | rfl) hb11 (by (first | with_reducible assumption | (simp; done) | (go_light; first | omega | (simp; omega))))
  have M_z : rowOf w11 (w9.heap.size) = some #[.int .i64 a.f, .int .i64 0, .int .i64 0, .int .i64 0, .int .i64 0] := rowOf_below (by repeat' first | (with_reducible first | assumption | apply row_drew | apply row_drewN | apply row_set_same | apply row_cell_same | apply row_set_other | apply row_cell_other) | (with_reducible exact row_new (by (first | with_reducible assumption | (simp; done) | (go_light; first | omega | (simp; omega))))) | (with_reducible apply row_old) | (first | with_reducible assumption | (simp; done) | (go_light; first | omega | (simp; omega))) | rfl) hb11 (by (first | with_reducible assumption | (simp; done) | (go_light; first | omega | (simp; omega))))
  clear hB; have hB := hB2; clear hB2
  clear N_a D_a L_a
  clear N_b D_b L_b
  clear N_t D_t L_t
  clear N_x D_x L_x
  clear N_y D_y L_y
  clear N_z D_z L_z
  have N_a := M_a; clear M_a
  have L_a := rowOf_lt N_a
  have D_a := Nat.ne_of_lt L_a
  have N_b := M_b; clear M_b
  have L_b := rowOf_lt N_b
  have D_b := Nat.ne_of_lt L_b
  have N_t := M_t; clear M_t
  have L_t := rowOf_lt N_t
  have D_t := Nat.ne_of_lt L_t
  have N_x := M_x; clear M_x
  have L_x := rowOf_lt N_x
  have D_x := Nat.ne_of_lt L_x
  have N_y := M_y; clear M_y
  have L_y := rowOf_lt N_y
  have D_y := Nat.ne_of_lt L_y
  have N_z := M_z; clear M_z
  have L_z := rowOf_lt N_z
  have D_z := Nat.ne_of_lt L_z
  clear hb11
  go_wp2_with fail
  refine gen_world (fun W2 => Below w.heap.size w W2 ∧ rowOf W2 (w.heap.size) = some (HV.row a) ∧ rowOf W2 ((w.heap.size + 1)) = some (HV.row a) ∧ rowOf W2 ((w.heap.size + 1 + 1)) = some (TV.row t) ∧ rowOf W2 (w4.heap.size) = some (TV.row x0) ∧ rowOf W2 (w5.heap.size) = some (TV.row x0) ∧ rowOf W2 (w9.heap.size) = some #[.int .i64 a.f, .int .i64 0, .int .i64 0, .int .i64 0, .int .i64 0]) ⟨by repeat' first | (with_reducible first | assumption | exact Below.refl _ _ | apply blast | apply Below.drew | apply below_setRow | apply Below.alloc | apply Below.setCell) | (first | with_reducible assumption | (simp; done) | (go_light; first | omega | (simp; omega))), by repeat' first | (with_reducible first | assumption | apply row_drew | apply row_drewN | apply row_set_same | apply row_cell_same | apply row_set_other | apply row_cell_other) | (with_reducible exact row_new (by (first | with_reducible assumption | (simp; done) | (go_light; first | omega | (simp; omega))))) | (with_reducible apply row_old) | (first | with_reducible assumption | (simp; done) | (go_light; first | omega | (simp; omega))) | rfl, by repeat' first | (with_reducible first | assumption | apply row_drew | apply row_drewN | apply row_set_same | apply row_cell_same | apply row_set_other | apply row_cell_other) | (with_reducible exact row_new (by (first | with_reducible assumption | (simp; done) | (go_light; first | omega | (simp; omega))))) | (with_reducible apply row_old) | (first | with_reducible assumption | (simp; done) | (go_light; first | omega | (simp; omega))) | rfl, by repeat' first | (with_reducible first | assumption | apply row_drew | apply row_drewN | apply row_set_same | apply row_cell_same | apply row_set_other | apply row_cell_other) | (with_reducible exact row_new (by (first | with_reducible assumption | (simp; done) | (go_light; first | omega | (simp; omega))))) | (with_reducible apply row_old) | (first | with_reducible assumption | (simp; done) | (go_light; first | omega | (simp; omega))) | rfl, by repeat' first | (with_reducible first | assumption | apply row_drew | apply row_drewN | apply row_set_same | apply row_cell_same | apply row_set_other | apply row_cell_other) | (with_reducible exact row_new (by (first | with_reducible assumption | (simp; done) | (go_light; first | omega | (simp; omega))))) | (with_reducible apply row_old) | (first | with_reducible assumption | (simp; done) | (go_light; first | omega | (simp; omega))) | rfl, by repeat' first | (with_reducible first | assumption | apply row_drew | apply row_drewN | apply row_set_same | apply row_cell_same | apply row_set_other | apply row_cell_other) | (with_reducible exact row_new (by (first | with_reducible assumption | (simp; done) | (go_light; first | omega | (simp; omega))))) | (with_reducible apply row_old) | (first | with_reducible assumption | (simp; done) | (go_light; first | omega | (simp; omega))) | rfl, by repeat' first | (with_reducible first | assumption | apply row_drew | apply row_drewN | apply row_set_same | apply row_cell_same | apply row_set_other | apply row_cell_other) | (with_reducible exact row_new (by (first | with_reducible assumption | (simp; done) | (go_light; first | omega | (simp; omega))))) | (with_reducible apply row_old) | (first | with_reducible assumption | (simp; done) | (go_light; first | omega | (simp; omega))) | rfl⟩ ?_
  clear hB
  clear N_a L_a D_a
  clear N_b L_b D_b
  clear N_t L_t D_t
  clear N_x L_x D_x
  clear N_y L_y D_y
  clear N_z L_z D_z
  rintro w12 ⟨hB, N_a, N_b, N_t, N_x, N_y, N_z⟩
  have L_a : w.heap.size < w12.heap.size := rowOf_lt N_a
  have D_a : w.heap.size ≠ w12.heap.size := Nat.ne_of_lt L_a
  have L_b : (w.heap.size + 1) < w12.heap.size := rowOf_lt N_b
  have D_b : (w.heap.size + 1) ≠ w12.heap.size := Nat.ne_of_lt L_b
  have L_t : (w.heap.size + 1 + 1) < w12.heap.size := rowOf_lt N_t
  have D_t : (w.heap.size + 1 + 1) ≠ w12.heap.size := Nat.ne_of_lt L_t
  have L_x : w4.heap.size < w12.heap.size := rowOf_lt N_x
  have D_x : w4.heap.size ≠ w12.heap.size := Nat.ne_of_lt L_x
  have L_y : w5.heap.size < w12.heap.size := rowOf_lt N_y
  have D_y : w5.heap.size ≠ w12.heap.size := Nat.ne_of_lt L_y
  have L_z : w9.heap.size < w12.heap.size := rowOf_lt N_z
  have D_z : w9.heap.size ≠ w12.heap.size := Nat.ne_of_lt L_z
  have a_0 : w12.cell? ⟨w.heap.size, 0, none⟩ = some (.int .i64 a.f) := rowOf_cell N_a 0
  have a_1 : w12.cell? ⟨w.heap.size, 1, none⟩ = some (.int .i64 a.k) := rowOf_cell N_a 1
  have a_2 : w12.cell? ⟨w.heap.size, 2, none⟩ = some (.int .i64 a.t) := rowOf_cell N_a 2
  have a_3 : w12.cell? ⟨w.heap.size, 3, none⟩ = some (.int .i64 a.a0) := rowOf_cell N_a 3
  have a_4 : w12.cell? ⟨w.heap.size, 4, none⟩ = some (.int .i64 a.a1) := rowOf_cell N_a 4
  have a_5 : w12.cell? ⟨w.heap.size, 5, none⟩ = some (.int .i64 a.a2) := rowOf_cell N_a 5
  have a_6 : w12.cell? ⟨w.heap.size, 6, none⟩ = some (.int .i64 a.a3) := rowOf_cell N_a 6
  have a_7 : w12.cell? ⟨w.heap.size, 7, none⟩ = some (.int .i64 a.b0) := rowOf_cell N_a 7
  have a_8 : w12.cell? ⟨w.heap.size, 8, none⟩ = some (.int .i64 a.b1) := rowOf_cell N_a 8
  have a_9 : w12.cell? ⟨w.heap.size, 9, none⟩ = some (.int .i64 a.b2) := rowOf_cell N_a 9
  have a_10 : w12.cell? ⟨w.heap.size, 10, none⟩ = some (.int .i64 a.b3) := rowOf_cell N_a 10
  have b_0 : w12.cell? ⟨(w.heap.size + 1), 0, none⟩ = some (.int .i64 a.f) := rowOf_cell N_b 0
  have b_1 : w12.cell? ⟨(w.heap.size + 1), 1, none⟩ = some (.int .i64 a.k) := rowOf_cell N_b 1
  have b_2 : w12.cell? ⟨(w.heap.size + 1), 2, none⟩ = some (.int .i64 a.t) := rowOf_cell N_b 2
  have b_3 : w12.cell? ⟨(w.heap.size + 1), 3, none⟩ = some (.int .i64 a.a0) := rowOf_cell N_b 3
  have b_4 : w12.cell? ⟨(w.heap.size + 1), 4, none⟩ = some (.int .i64 a.a1) := rowOf_cell N_b 4
  have b_5 : w12.cell? ⟨(w.heap.size + 1), 5, none⟩ = some (.int .i64 a.a2) := rowOf_cell N_b 5
  have b_6 : w12.cell? ⟨(w.heap.size + 1), 6, none⟩ = some (.int .i64 a.a3) := rowOf_cell N_b 6
  have b_7 : w12.cell? ⟨(w.heap.size + 1), 7, none⟩ = some (.int .i64 a.b0) := rowOf_cell N_b 7
  have b_8 : w12.cell? ⟨(w.heap.size + 1), 8, none⟩ = some (.int .i64 a.b1) := rowOf_cell N_b 8
  have b_9 : w12.cell? ⟨(w.heap.size + 1), 9, none⟩ = some (.int .i64 a.b2) := rowOf_cell N_b 9
  have b_10 : w12.cell? ⟨(w.heap.size + 1), 10, none⟩ = some (.int .i64 a.b3) := rowOf_cell N_b 10
  refine wp_region_beh (by kernel_rfl) (by kernel_rfl) ?_
  have a_b0 := beh_cell a_0
  have a_b1 := beh_cell a_1
  have a_b2 := beh_cell a_2
  have a_b3 := beh_cell a_3
  have a_b4 := beh_cell a_4
  have a_b5 := beh_cell a_5
  have a_b6 := beh_cell a_6
  have a_b7 := beh_cell a_7
  have a_b8 := beh_cell a_8
  have a_b9 := beh_cell a_9
  have a_b10 := beh_cell a_10
  clear a_0 a_1 a_2 a_3 a_4 a_5 a_6 a_7 a_8 a_9 a_10
  have b_b0 := beh_cell b_0
  have b_b1 := beh_cell b_1
  have b_b2 := beh_cell b_2
  have b_b3 := beh_cell b_3
  have b_b4 := beh_cell b_4
  have b_b5 := beh_cell b_5
  have b_b6 := beh_cell b_6
  have b_b7 := beh_cell b_7
  have b_b8 := beh_cell b_8
  have b_b9 := beh_cell b_9
  have b_b10 := beh_cell b_10
  clear b_0 b_1 b_2 b_3 b_4 b_5 b_6 b_7 b_8 b_9 b_10
  repeat (first | go_big_quiet_step (first | (with_reducible exact Calls.beh (H3.out _))) | quiet_step (first | (with_reducible exact Calls.beh (H3.out _))))
  refine wpQuiet_nil ?_
  intro _ hw'
  obtain ⟨g, hw''⟩ := hw'
  subst hw''
  clear a_b0 a_b1 a_b2 a_b3 a_b4 a_b5 a_b6 a_b7 a_b8 a_b9 a_b10 b_b0 b_b1 b_b2 b_b3 b_b4 b_b5 b_b6 b_b7 b_b8 b_b9 b_b10
  have hb13 := g.h
  generalize g.w = w13 at hb13 ⊢
  clear g
  have hG : Below w12.heap.size w12 w13 := bstep (by repeat' first | (with_reducible first | assumption | exact Below.refl _ _ | apply blast | apply Below.drew | apply below_setRow | apply Below.alloc | apply Below.setCell) | (first | with_reducible assumption | (simp; done) | (go_light; first | omega | (simp; omega)))) hb13 (by (first | with_reducible assumption | (simp; done) | (go_light; first | omega | (simp; omega))))
  have hz := hG.size
  replace N_a := rowOf_below N_a hG L_a
  replace N_b := rowOf_below N_b hG L_b
  replace N_t := rowOf_below N_t hG L_t
  replace N_x := rowOf_below N_x hG L_x
  replace N_y := rowOf_below N_y hG L_y
  replace N_z := rowOf_below N_z hG L_z
  replace hB := bstep hB hG hB.size
  clear D_a L_a
  have L_a := rowOf_lt N_a
  have D_a := Nat.ne_of_lt L_a
  clear D_b L_b
  have L_b := rowOf_lt N_b
  have D_b := Nat.ne_of_lt L_b
  clear D_t L_t
  have L_t := rowOf_lt N_t
  have D_t := Nat.ne_of_lt L_t
  clear D_x L_x
  have L_x := rowOf_lt N_x
  have D_x := Nat.ne_of_lt L_x
  clear D_y L_y
  have L_y := rowOf_lt N_y
  have D_y := Nat.ne_of_lt L_y
  clear D_z L_z
  have L_z := rowOf_lt N_z
  have D_z := Nat.ne_of_lt L_z
  clear hb13 hG
  go_wp2
  go_returns
  exact ⟨ret_bool rfl, by repeat' first | (with_reducible first | assumption | exact Below.refl _ _ | apply blast | apply Below.drew | apply below_setRow | apply Below.alloc | apply Below.setCell) | (first | with_reducible assumption | (simp; done) | (go_light; first | omega | (simp; omega)))⟩

end Go.Proofs.Ytfkjlcmmmmjbkaa
