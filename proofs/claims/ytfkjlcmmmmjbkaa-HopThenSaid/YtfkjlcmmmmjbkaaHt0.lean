import Derived.Test.YtfkjlcmmmmjbkaaBeh
import Derived.Test.YtfkjlcmmmmjbkaaH6p
namespace Go.Proofs.Ytfkjlcmmmmjbkaa
open Go.RowKit
set_option linter.unusedVariables false
set_option linter.unusedSimpArgs false
attribute [local go_sem ↓] loadH loadT storeH storeT
attribute [local simp] size_setRow
attribute [local go_sem] HV.row TV.row
attribute [local go_sem] rowAt_head rowOf_alloc_at rowOf_alloc_past rowOf_drew rowOf_drewN rowOf_setRow_same rowOf_setRow_other rowOf_setCell_same rowOf_setCell_other size_setRow setRow_drew setRow_alloc_at setRow_alloc_past one_int one_bool cell_setRow_same cell_setRow_other frozen_setRow_same frozen_setRow_other
attribute [local go_sem] eqArr4

set_option maxHeartbeats 8000000 in
theorem hopThen_1 (a : HV) (b : HV) (c : HV) (t : TV) (ab : HV) 
    (HAW : ∀ W, Calls Try.prog 11 #[] W (Ret (.bool true) W))
    (H1 : ∀ W, Calls Try.prog 16 #[(HV.val a), (HV.val b)] W (Ret (.tuple #[(HV.val ab), .bool false]) W)) (w : World) :
    Calls Try.prog 5 #[(HV.val a), (HV.val b), (HV.val c), (TV.val t)] w (Ret (.bool true) w) := by
  replace HAW := Lib.hid HAW
  replace H1 := Lib.hid H1
  go_enter Try.func5, Try.ntmps5
  go_wp2_with fail
  refine (HAW.out _).mono ?_
  rintro e w1 ⟨rfl, hb1⟩
  have hG : Below w.heap.size w w1 := bstep (by repeat' first | (with_reducible first | assumption | exact Below.refl _ _ | apply blast | apply Below.drew | apply below_setRow | apply Below.alloc | apply Below.setCell) | (first | with_reducible assumption | (simp; done) | (go_light; first | omega | (simp; omega)))) hb1 (by (first | with_reducible assumption | (simp; done) | (go_light; first | omega | (simp; omega))))
  have hz := hG.size
  have N_a : rowOf w1 (w.heap.size) = some (HV.row a) := rowOf_below (by repeat' first | (with_reducible first | assumption | apply row_drew | apply row_drewN | apply row_set_same | apply row_cell_same | apply row_set_other | apply row_cell_other) | (with_reducible exact row_new (by (first | with_reducible assumption | (simp; done) | (go_light; first | omega | (simp; omega))))) | (with_reducible apply row_old) | (first | with_reducible assumption | (simp; done) | (go_light; first | omega | (simp; omega))) | rfl) hb1 (by (first | with_reducible assumption | (simp; done) | (go_light; first | omega | (simp; omega))))
  have N_b : rowOf w1 ((w.heap.size + 1)) = some (HV.row b) := rowOf_below (by repeat' first | (with_reducible first | assumption | apply row_drew | apply row_drewN | apply row_set_same | apply row_cell_same | apply row_set_other | apply row_cell_other) | (with_reducible exact row_new (by (first | with_reducible assumption | (simp; done) | (go_light; first | omega | (simp; omega))))) | (with_reducible apply row_old) | (first | with_reducible assumption | (simp; done) | (go_light; first | omega | (simp; omega))) | rfl) hb1 (by (first | with_reducible assumption | (simp; done) | (go_light; first | omega | (simp; omega))))
  have N_c : rowOf w1 ((w.heap.size + 1 + 1)) = some (HV.row c) := rowOf_below (by repeat' first | (with_reducible first | assumption | apply row_drew | apply row_drewN | apply row_set_same | apply row_cell_same | apply row_set_other | apply row_cell_other) | (with_reducible exact row_new (by (first | with_reducible assumption | (simp; done) | (go_light; first | omega | (simp; omega))))) | (with_reducible apply row_old) | (first | with_reducible assumption | (simp; done) | (go_light; first | omega | (simp; omega))) | rfl) hb1 (by (first | with_reducible assumption | (simp; done) | (go_light; first | omega | (simp; omega))))
  have N_t : rowOf w1 ((w.heap.size + 1 + 1 + 1)) = some (TV.row t) := rowOf_below (by repeat' first | (with_reducible first | assumption | apply row_drew | apply row_drewN | apply row_set_same | apply row_cell_same | apply row_set_other | apply row_cell_other) | (with_reducible exact row_new (by (first | with_reducible assumption | (simp; done) | (go_light; first | omega | (simp; omega))))) | (with_reducible apply row_old) | (first | with_reducible assumption | (simp; done) | (go_light; first | omega | (simp; omega))) | rfl) hb1 (by (first | with_reducible assumption | (simp; done) | (go_light; first | omega | (simp; omega))))
  have hB := hG
  have L_a := rowOf_lt N_a
  have D_a := Nat.ne_of_lt L_a
  have L_b := rowOf_lt N_b
  have D_b := Nat.ne_of_lt L_b
  have L_c := rowOf_lt N_c
  have D_c := Nat.ne_of_lt L_c
  have L_t := rowOf_lt N_t
  have D_t := Nat.ne_of_lt L_t
  clear hb1 hG
  go_wp2_with fail
  refine (H1.out _).mono ?_
  rintro e w2 ⟨rfl, hb2⟩
  have hG : Below w1.heap.size w1 w2 := bstep (by repeat' first | (with_reducible first | assumption | exact Below.refl _ _ | apply blast | apply Below.drew | apply below_setRow | apply Below.alloc | apply Below.setCell) | (first | with_reducible assumption | (simp; done) | (go_light; first | omega | (simp; omega)))) hb2 (by (first | with_reducible assumption | (simp; done) | (go_light; first | omega | (simp; omega))))
  have hz := hG.size
  replace N_a := rowOf_below N_a hG L_a
  replace N_b := rowOf_below N_b hG L_b
  replace N_c := rowOf_below N_c hG L_c
  replace N_t := rowOf_below N_t hG L_t
  replace hB := bstep hB hG hB.size
  clear D_a L_a
  have L_a := rowOf_lt N_a
  have D_a := Nat.ne_of_lt L_a
  clear D_b L_b
  have L_b := rowOf_lt N_b
  have D_b := Nat.ne_of_lt L_b
  clear D_c L_c
  have L_c := rowOf_lt N_c
  have D_c := Nat.ne_of_lt L_c
  clear D_t L_t
  have L_t := rowOf_lt N_t
  have D_t := Nat.ne_of_lt L_t
  clear hb2 hG
  have E_a_ab := D_a
  have F_a_ab := Ne.symm D_a
  have E_b_ab := D_b
  have F_b_ab := Ne.symm D_b
  have E_c_ab := D_c
  have F_c_ab := Ne.symm D_c
  have E_t_ab := D_t
  have F_t_ab := Ne.symm D_t
  have Z_ab : w.heap.size ≤ w2.heap.size := hB.size
  go_wp2
  go_returns
  exact ⟨ret_bool rfl, by repeat' first | (with_reducible first | assumption | exact Below.refl _ _ | apply blast | apply Below.drew | apply below_setRow | apply Below.alloc | apply Below.setCell) | (first | with_reducible assumption | (simp; done) | (go_light; first | omega | (simp; omega)))⟩

set_option maxHeartbeats 8000000 in
theorem hopThen_02 (a : HV) (b : HV) (c : HV) (t : TV) (ab : HV) (x : TV) (bc : HV) (l : HV) (r : HV) 
    (HAW : ∀ W, Calls Try.prog 11 #[] W (Ret (.bool true) W))
    (H1 : ∀ W, Calls Try.prog 16 #[(HV.val a), (HV.val b)] W (Ret (.tuple #[(HV.val ab), .bool true]) W))
    (H2 : ∀ W, Calls Try.prog 13 #[(HV.val a), (TV.val t)] W (Ret (.tuple #[(TV.val x), .bool false]) W))
    (H3 : ∀ W, Calls Try.prog 16 #[(HV.val b), (HV.val c)] W (Ret (.tuple #[(HV.val bc), .bool true]) W))
    (H4 : ∀ W, Calls Try.prog 16 #[(HV.val ab), (HV.val c)] W (Ret (.tuple #[(HV.val l), .bool true]) W))
    (H5 : ∀ W, Calls Try.prog 16 #[(HV.val a), (HV.val bc)] W (Ret (.tuple #[(HV.val r), .bool false]) W)) (w : World) :
    Calls Try.prog 5 #[(HV.val a), (HV.val b), (HV.val c), (TV.val t)] w (Ret (.bool true) w) := by
  replace HAW := Lib.hid HAW
  replace H1 := Lib.hid H1
  replace H2 := Lib.hid H2
  replace H3 := Lib.hid H3
  replace H4 := Lib.hid H4
  replace H5 := Lib.hid H5
  go_enter Try.func5, Try.ntmps5
  go_wp2_with fail
  refine (HAW.out _).mono ?_
  rintro e w1 ⟨rfl, hb1⟩
  have hG : Below w.heap.size w w1 := bstep (by repeat' first | (with_reducible first | assumption | exact Below.refl _ _ | apply blast | apply Below.drew | apply below_setRow | apply Below.alloc | apply Below.setCell) | (first | with_reducible assumption | (simp; done) | (go_light; first | omega | (simp; omega)))) hb1 (by (first | with_reducible assumption | (simp; done) | (go_light; first | omega | (simp; omega))))
  have hz := hG.size
  have N_a : rowOf w1 (w.heap.size) = some (HV.row a) := rowOf_below (by repeat' first | (with_reducible first | assumption | apply row_drew | apply row_drewN | apply row_set_same | apply row_cell_same | apply row_set_other | apply row_cell_other) | (with_reducible exact row_new (by (first | with_reducible assumption | (simp; done) | (go_light; first | omega | (simp; omega))))) | (with_reducible apply row_old) | (first | with_reducible assumption | (simp; done) | (go_light; first | omega | (simp; omega))) | rfl) hb1 (by (first | with_reducible assumption | (simp; done) | (go_light; first | omega | (simp; omega))))
  have N_b : rowOf w1 ((w.heap.size + 1)) = some (HV.row b) := rowOf_below (by repeat' first | (with_reducible first | assumption | apply row_drew | apply row_drewN | apply row_set_same | apply row_cell_same | apply row_set_other | apply row_cell_other) | (with_reducible exact row_new (by (first | with_reducible assumption | (simp; done) | (go_light; first | omega | (simp; omega))))) | (with_reducible apply row_old) | (first | with_reducible assumption | (simp; done) | (go_light; first | omega | (simp; omega))) | rfl) hb1 (by (first | with_reducible assumption | (simp; done) | (go_light; first | omega | (simp; omega))))
  have N_c : rowOf w1 ((w.heap.size + 1 + 1)) = some (HV.row c) := rowOf_below (by repeat' first | (with_reducible first | assumption | apply row_drew | apply row_drewN | apply row_set_same | apply row_cell_same | apply row_set_other | apply row_cell_other) | (with_reducible exact row_new (by (first | with_reducible assumption | (simp; done) | (go_light; first | omega | (simp; omega))))) | (with_reducible apply row_old) | (first | with_reducible assumption | (simp; done) | (go_light; first | omega | (simp; omega))) | rfl) hb1 (by (first | with_reducible assumption | (simp; done) | (go_light; first | omega | (simp; omega))))
  have N_t : rowOf w1 ((w.heap.size + 1 + 1 + 1)) = some (TV.row t) := rowOf_below (by repeat' first | (with_reducible first | assumption | apply row_drew | apply row_drewN | apply row_set_same | apply row_cell_same | apply row_set_other | apply row_cell_other) | (with_reducible exact row_new (by (first | with_reducible assumption | (simp; done) | (go_light; first | omega | (simp; omega))))) | (with_reducible apply row_old) | (first | with_reducible assumption | (simp; done) | (go_light; first | omega | (simp; omega))) | rfl) hb1 (by (first | with_reducible assumption | (simp; done) | (go_light; first | omega | (simp; omega))))
  have hB := hG
  have L_a := rowOf_lt N_a
  have D_a := Nat.ne_of_lt L_a
  have L_b := rowOf_lt N_b
  have D_b := Nat.ne_of_lt L_b
  have L_c := rowOf_lt N_c
  have D_c := Nat.ne_of_lt L_c
  have L_t := rowOf_lt N_t
  have D_t := Nat.ne_of_lt L_t
  clear hb1 hG
  go_wp2_with fail
  refine (H1.out _).mono ?_
  rintro e w2 ⟨rfl, hb2⟩
  have hG : Below w1.heap.size w1 w2 := bstep (by repeat' first | (with_reducible first | assumption | exact Below.refl _ _ | apply blast | apply Below.drew | apply below_setRow | apply Below.alloc | apply Below.setCell) | (first | with_reducible assumption | (simp; done) | (go_light; first | omega | (simp; omega)))) hb2 (by (first | with_reducible assumption | (simp; done) | (go_light; first | omega | (simp; omega))))
  have hz := hG.size
  replace N_a := rowOf_below N_a hG L_a
  replace N_b := rowOf_below N_b hG L_b
  replace N_c := rowOf_below N_c hG L_c
  replace N_t := rowOf_below N_t hG L_t
  replace hB := bstep hB hG hB.size
  clear D_a L_a
  have L_a := rowOf_lt N_a
  have D_a := Nat.ne_of_lt L_a
  clear D_b L_b
  have L_b := rowOf_lt N_b
  have D_b := Nat.ne_of_lt L_b
  clear D_c L_c
  have L_c := rowOf_lt N_c
  have D_c := Nat.ne_of_lt L_c
  clear D_t L_t
  have L_t := rowOf_lt N_t
  have D_t := Nat.ne_of_lt L_t
  clear hb2 hG
  have E_a_ab := D_a
  have F_a_ab := Ne.symm D_a
  have E_b_ab := D_b
  have F_b_ab := Ne.symm D_b
  have E_c_ab := D_c
  have F_c_ab := Ne.symm D_c
  have E_t_ab := D_t
  have F_t_ab := Ne.symm D_t
  have Z_ab : w.heap.size ≤ w2.heap.size := hB.size
  go_wp2_with fail
  refine (H2.out _).mono ?_
  rintro e w3 ⟨rfl, hb3⟩
  have hG : Below w2.heap.size w2 w3 := bstep (by repeat' first | (with_reducible first | assumption | exact Below.refl _ _ | apply blast | apply Below.drew | apply below_setRow | apply Below.alloc | apply Below.setCell) | (first | with_reducible assumption | (simp; done) | (go_light; first | omega | (simp; omega)))) hb3 (by (first | with_reducible assumption | (simp; done) | (go_light; first | omega | (simp; omega))))
  have hz := hG.size
  have N_ab : rowOf w3 (w2.heap.size) = some (HV.row ab) := rowOf_below (by repeat' first | (with_reducible first | assumption | apply row_drew | apply row_drewN | apply row_set_same | apply row_cell_same | apply row_set_other | apply row_cell_other) | (with_reducible exact row_new (by (first | with_reducible assumption | (simp; done) | (go_light; first | omega | (simp; omega))))) | (with_reducible apply row_old) | (first | with_reducible assumption | (simp; done) | (go_light; first | omega | (simp; omega))) | rfl) hb3 (by (first | with_reducible assumption | (simp; done) | (go_light; first | omega | (simp; omega))))
  replace N_a := rowOf_below N_a hG L_a
  replace N_b := rowOf_below N_b hG L_b
  replace N_c := rowOf_below N_c hG L_c
  replace N_t := rowOf_below N_t hG L_t
  replace hB := bstep hB hG hB.size
  clear D_a L_a
  have L_a := rowOf_lt N_a
  have D_a := Nat.ne_of_lt L_a
  clear D_b L_b
  have L_b := rowOf_lt N_b
  have D_b := Nat.ne_of_lt L_b
  clear D_c L_c
  have L_c := rowOf_lt N_c
  have D_c := Nat.ne_of_lt L_c
  clear D_t L_t
  have L_t := rowOf_lt N_t
  have D_t := Nat.ne_of_lt L_t
  have L_ab := rowOf_lt N_ab
  have D_ab := Nat.ne_of_lt L_ab
  clear hb3 hG
  have E_a_x := D_a
  have F_a_x := Ne.symm D_a
  have E_b_x := D_b
  have F_b_x := Ne.symm D_b
  have E_c_x := D_c
  have F_c_x := Ne.symm D_c
  have E_t_x := D_t
  have F_t_x := Ne.symm D_t
  have E_ab_x := D_ab
  have F_ab_x := Ne.symm D_ab
  have Z_x : w.heap.size ≤ w3.heap.size := hB.size
  go_wp2_with fail
  refine (H3.out _).mono ?_
  rintro e w4 ⟨rfl, hb4⟩
  have hG : Below w3.heap.size w3 w4 := bstep (by repeat' first | (with_reducible first | assumption | exact Below.refl _ _ | apply blast | apply Below.drew | apply below_setRow | apply Below.alloc | apply Below.setCell) | (first | with_reducible assumption | (simp; done) | (go_light; first | omega | (simp; omega)))) hb4 (by (first | with_reducible assumption | (simp; done) | (go_light; first | omega | (simp; omega))))
  have hz := hG.size
  have N_x : rowOf w4 (w3.heap.size) = some (TV.row x) := rowOf_below (by repeat' first | (with_reducible first | assumption | apply row_drew | apply row_drewN | apply row_set_same | apply row_cell_same | apply row_set_other | apply row_cell_other) | (with_reducible exact row_new (by (first | with_reducible assumption | (simp; done) | (go_light; first | omega | (simp; omega))))) | (with_reducible apply row_old) | (first | with_reducible assumption | (simp; done) | (go_light; first | omega | (simp; omega))) | rfl) hb4 (by (first | with_reducible assumption | (simp; done) | (go_light; first | omega | (simp; omega))))
  replace N_a := rowOf_below N_a hG L_a
  replace N_b := rowOf_below N_b hG L_b
  replace N_c := rowOf_below N_c hG L_c
  replace N_t := rowOf_below N_t hG L_t
  replace N_ab := rowOf_below N_ab hG L_ab
  replace hB := bstep hB hG hB.size
  clear D_a L_a
  have L_a := rowOf_lt N_a
  have D_a := Nat.ne_of_lt L_a
  clear D_b L_b
  have L_b := rowOf_lt N_b
  have D_b := Nat.ne_of_lt L_b
  clear D_c L_c
  have L_c := rowOf_lt N_c
  have D_c := Nat.ne_of_lt L_c
  clear D_t L_t
  have L_t := rowOf_lt N_t
  have D_t := Nat.ne_of_lt L_t
  clear D_ab L_ab
  have L_ab := rowOf_lt N_ab
  have D_ab := Nat.ne_of_lt L_ab
  have L_x := rowOf_lt N_x
  have D_x := Nat.ne_of_lt L_x
  clear hb4 hG
  have E_a_bc := D_a
  have F_a_bc := Ne.symm D_a
  have E_b_bc := D_b
  have F_b_bc := Ne.symm D_b
  have E_c_bc := D_c
  have F_c_bc := Ne.symm D_c
  have E_t_bc := D_t
  have F_t_bc := Ne.symm D_t
  have E_ab_bc := D_ab
  have F_ab_bc := Ne.symm D_ab
  have E_x_bc := D_x
  have F_x_bc := Ne.symm D_x
  have Z_bc : w.heap.size ≤ w4.heap.size := hB.size
  go_wp2_with fail
  refine (H4.out _).mono ?_
  rintro e w5 ⟨rfl, hb5⟩
  have hG : Below w4.heap.size w4 w5 := bstep (by repeat' first | (with_reducible first | assumption | exact Below.refl _ _ | apply blast | apply Below.drew | apply below_setRow | apply Below.alloc | apply Below.setCell) | (first | with_reducible assumption | (simp; done) | (go_light; first | omega | (simp; omega)))) hb5 (by (first | with_reducible assumption | (simp; done) | (go_light; first | omega | (simp; omega))))
  have hz := hG.size
  have N_bc : rowOf w5 (w4.heap.size) = some (HV.row bc) := rowOf_below (by repeat' first | (with_reducible first | assumption | apply row_drew | apply row_drewN | apply row_set_same | apply row_cell_same | apply row_set_other | apply row_cell_other) | (with_reducible exact row_new (by (first | with_reducible assumption | (simp; done) | (go_light; first | omega | (simp; omega))))) | (with_reducible apply row_old) | (first | with_reducible assumption | (simp; done) | (go_light; first | omega | (simp; omega))) | rfl) hb5 (by (first | with_reducible assumption | (simp; done) | (go_light; first | omega | (simp; omega))))
  replace N_a := rowOf_below N_a hG L_a
  replace N_b := rowOf_below N_b hG L_b
  replace N_c := rowOf_below N_c hG L_c
  replace N_t := rowOf_below N_t hG L_t
  replace N_ab := rowOf_below N_ab hG L_ab
  replace N_x := rowOf_below N_x hG L_x
  replace hB := bstep hB hG hB.size
  clear D_a L_a
  have L_a := rowOf_lt N_a
  have D_a := Nat.ne_of_lt L_a
  clear D_b L_b
  have L_b := rowOf_lt N_b
  have D_b := Nat.ne_of_lt L_b
  clear D_c L_c
  have L_c := rowOf_lt N_c
  have D_c := Nat.ne_of_lt L_c
  clear D_t L_t
  have L_t := rowOf_lt N_t
  have D_t := Nat.ne_of_lt L_t
  clear D_ab L_ab
  have L_ab := rowOf_lt N_ab
  have D_ab := Nat.ne_of_lt L_ab
  clear D_x L_x
  have L_x := rowOf_lt N_x
  have D_x := Nat.ne_of_lt L_x
  have L_bc := rowOf_lt N_bc
  have D_bc := Nat.ne_of_lt L_bc
  clear hb5 hG
  have E_a_l := D_a
  have F_a_l := Ne.symm D_a
  have E_b_l := D_b
  have F_b_l := Ne.symm D_b
  have E_c_l := D_c
  have F_c_l := Ne.symm D_c
  have E_t_l := D_t
  have F_t_l := Ne.symm D_t
  have E_ab_l := D_ab
  have F_ab_l := Ne.symm D_ab
  have E_x_l := D_x
  have F_x_l := Ne.symm D_x
  have E_bc_l := D_bc
  have F_bc_l := Ne.symm D_bc
  have Z_l : w.heap.size ≤ w5.heap.size := hB.size
  go_wp2_with fail
  refine (H5.out _).mono ?_
  rintro e w6 ⟨rfl, hb6⟩
  have hG : Below w5.heap.size w5 w6 := bstep (by repeat' first | (with_reducible first | assumption | exact Below.refl _ _ | apply blast | apply Below.drew | apply below_setRow | apply Below.alloc | apply Below.setCell) | (first | with_reducible assumption | (simp; done) | (go_light; first | omega | (simp; omega)))) hb6 (by (first | with_reducible assumption | (simp; done) | (go_light; first | omega | (simp; omega))))
  have hz := hG.size
  have N_l : rowOf w6 (w5.heap.size) = some (HV.row l) := rowOf_below (by repeat' first | (with_reducible first | assumption | apply row_drew | apply row_drewN | apply row_set_same | apply row_cell_same | apply row_set_other | apply row_cell_other) | (with_reducible exact row_new (by (first | with_reducible assumption | (simp; done) | (go_light; first | omega | (simp; omega))))) | (with_reducible apply row_old) | (first | with_reducible assumption | (simp; done) | (go_light; first | omega | (simp; omega))) | rfl) hb6 (by (first | with_reducible assumption | (simp; done) | (go_light; first | omega | (simp; omega))))
  replace N_a := rowOf_below N_a hG L_a
  replace N_b := rowOf_below N_b hG L_b
  replace N_c := rowOf_below N_c hG L_c
  replace N_t := rowOf_below N_t hG L_t
  replace N_ab := rowOf_below N_ab hG L_ab
  replace N_x := rowOf_below N_x hG L_x
  replace N_bc := rowOf_below N_bc hG L_bc
  replace hB := bstep hB hG hB.size
  clear D_a L_a
  have L_a := rowOf_lt N_a
  have D_a := Nat.ne_of_lt L_a
  clear D_b L_b
  have L_b := rowOf_lt N_b
  have D_b := Nat.ne_of_lt L_b
  clear D_c L_c
  have L_c := rowOf_lt N_c
  have D_c := Nat.ne_of_lt L_c
  clear D_t L_t
  have L_t := rowOf_lt N_t
  have D_t := Nat.ne_of_lt L_t
  clear D_ab L_ab
  have L_ab := rowOf_lt N_ab
  have D_ab := Nat.ne_of_lt L_ab
  clear D_x L_x
  have L_x := rowOf_lt N_x
  have D_x := Nat.ne_of_lt L_x
  clear D_bc L_bc
  have L_bc := rowOf_lt N_bc
  have D_bc := Nat.ne_of_lt L_bc
  have L_l := rowOf_lt N_l
  have D_l := Nat.ne_of_lt L_l
  clear hb6 hG
  have E_a_r := D_a
  have F_a_r := Ne.symm D_a
  have E_b_r := D_b
  have F_b_r := Ne.symm D_b
  have E_c_r := D_c
  have F_c_r := Ne.symm D_c
  have E_t_r := D_t
  have F_t_r := Ne.symm D_t
  have E_ab_r := D_ab
  have F_ab_r := Ne.symm D_ab
  have E_x_r := D_x
  have F_x_r := Ne.symm D_x
  have E_bc_r := D_bc
  have F_bc_r := Ne.symm D_bc
  have E_l_r := D_l
  have F_l_r := Ne.symm D_l
  have Z_r : w.heap.size ≤ w6.heap.size := hB.size
  go_wp2
  go_returns
  exact ⟨ret_bool rfl, by repeat' first | (with_reducible first | assumption | exact Below.refl _ _ | apply blast | apply Below.drew | apply below_setRow | apply Below.alloc | apply Below.setCell) | (first | with_reducible assumption | (simp; done) | (go_light; first | omega | (simp; omega)))⟩

set_option maxHeartbeats 8000000 in
theorem hopThen_11 (a : HV) (b : HV) (c : HV) (t : TV) (ab : HV) (x : TV) (z : TV) (s : Bool) (bc : HV) (l : HV) (r : HV) (o : Bool) 
    (HAW : ∀ W, Calls Try.prog 11 #[] W (Ret (.bool true) W))
    (H1 : ∀ W, Calls Try.prog 16 #[(HV.val a), (HV.val b)] W (Ret (.tuple #[(HV.val ab), .bool true]) W))
    (H2 : ∀ W, Calls Try.prog 13 #[(HV.val a), (TV.val t)] W (Ret (.tuple #[(TV.val x), .bool true]) W))
    (H3 : ∀ W, Calls Try.prog 13 #[(HV.val b), (TV.val x)] W (Ret (.tuple #[(TV.val z), .bool s]) W))
    (H4 : ∀ W, Calls Try.prog 13 #[(HV.val ab), (TV.val t)] W (Ret (.tuple #[(TV.val z), .bool s]) W))
    (H5 : ∀ W, Calls Try.prog 16 #[(HV.val b), (HV.val c)] W (Ret (.tuple #[(HV.val bc), .bool true]) W))
    (H6 : ∀ W, Calls Try.prog 16 #[(HV.val ab), (HV.val c)] W (Ret (.tuple #[(HV.val l), .bool false]) W))
    (H7 : ∀ W, Calls Try.prog 16 #[(HV.val a), (HV.val bc)] W (Ret (.tuple #[(HV.val r), .bool o]) W)) (w : World) :
    Calls Try.prog 5 #[(HV.val a), (HV.val b), (HV.val c), (TV.val t)] w (Ret (.bool true) w) := by
  replace HAW := Lib.hid HAW
  replace H1 := Lib.hid H1
  replace H2 := Lib.hid H2
  replace H3 := Lib.hid H3
  replace H4 := Lib.hid H4
  replace H5 := Lib.hid H5
  replace H6 := Lib.hid H6
  replace H7 := Lib.hid H7
  go_enter Try.func5, Try.ntmps5
  go_wp2_with fail
  refine (HAW.out _).mono ?_
  rintro e w1 ⟨rfl, hb1⟩
  have hG : Below w.heap.size w w1 := bstep (by repeat' first | (with_reducible first | assumption | exact Below.refl _ _ | apply blast | apply Below.drew | apply below_setRow | apply Below.alloc | apply Below.setCell) | (first | with_reducible assumption | (simp; done) | (go_light; first | omega | (simp; omega)))) hb1 (by (first | with_reducible assumption | (simp; done) | (go_light; first | omega | (simp; omega))))
  have hz := hG.size
  have N_a : rowOf w1 (w.heap.size) = some (HV.row a) := rowOf_below (by repeat' first | (with_reducible first | assumption | apply row_drew | apply row_drewN | apply row_set_same | apply row_cell_same | apply row_set_other | apply row_cell_other) | (with_reducible exact row_new (by (first | with_reducible assumption | (simp; done) | (go_light; first | omega | (simp; omega))))) | (with_reducible apply row_old) | (first | with_reducible assumption | (simp; done) | (go_light; first | omega | (simp; omega))) | rfl) hb1 (by (first | with_reducible assumption | (simp; done) | (go_light; first | omega | (simp; omega))))
  have N_b : rowOf w1 ((w.heap.size + 1)) = some (HV.row b) := rowOf_below (by repeat' first | (with_reducible first | assumption | apply row_drew | apply row_drewN | apply row_set_same | apply row_cell_same | apply row_set_other | apply row_cell_other) | (with_reducible exact row_new (by (first | with_reducible assumption | (simp; done) | (go_light; first | omega | (simp; omega))))) | (with_reducible apply row_old) | (first | with_reducible assumption | (simp; done) | (go_light; first | omega | (simp; omega))) | rfl) hb1 (by (first | with_reducible assumption | (simp; done) | (go_light; first | omega | (simp; omega))))
  have N_c : rowOf w1 ((w.heap.size + 1 + 1)) = some (HV.row c) := rowOf_below (by repeat' first | (with_reducible first | assumption | apply row_drew | apply row_drewN | apply row_set_same | apply row_cell_same | apply row_set_other | apply row_cell_other) | (with_reducible exact row_new (by (first | with_reducible assumption | (simp; done) | (go_light; first | omega | (simp; omega))))) | (with_reducible apply row_old) | (first | with_reducible assumption | (simp; done) | (go_light; first | omega | (simp; omega))) | rfl) hb1 (by (first | with_reducible assumption | (simp; done) | (go_light; first | omega | (simp; omega))))
  have N_t : rowOf w1 ((w.heap.size + 1 + 1 + 1)) = some (TV.row t) := rowOf_below (by repeat' first | (with_reducible first | assumption | apply row_drew | apply row_drewN | apply row_set_same | apply row_cell_same | apply row_set_other | apply row_cell_other) | (with_reducible exact row_new (by (first | with_reducible assumption | (simp; done) | (go_light; first | omega | (simp; omega))))) | (with_reducible apply row_old) | (first | with_reducible assumption | (simp; done) | (go_light; first | omega | (simp; omega))) | rfl) hb1 (by (first | with_reducible assumption | (simp; done) | (go_light; first | omega | (simp; omega))))
  have hB := hG
  have L_a := rowOf_lt N_a
  have D_a := Nat.ne_of_lt L_a
  have L_b := rowOf_lt N_b
  have D_b := Nat.ne_of_lt L_b
  have L_c := rowOf_lt N_c
  have D_c := Nat.ne_of_lt L_c
  have L_t := rowOf_lt N_t
  have D_t := Nat.ne_of_lt L_t
  clear hb1 hG
  go_wp2_with fail
  refine (H1.out _).mono ?_
  rintro e w2 ⟨rfl, hb2⟩
  have hG : Below w1.heap.size w1 w2 := bstep (by repeat' first | (with_reducible first | assumption | exact Below.refl _ _ | apply blast | apply Below.drew | apply below_setRow | apply Below.alloc | apply Below.setCell) | (first | with_reducible assumption | (simp; done) | (go_light; first | omega | (simp; omega)))) hb2 (by (first | with_reducible assumption | (simp; done) | (go_light; first | omega | (simp; omega))))
  have hz := hG.size
  replace N_a := rowOf_below N_a hG L_a
  replace N_b := rowOf_below N_b hG L_b
  replace N_c := rowOf_below N_c hG L_c
  replace N_t := rowOf_below N_t hG L_t
  replace hB := bstep hB hG hB.size
  clear D_a L_a
  have L_a := rowOf_lt N_a
  have D_a := Nat.ne_of_lt L_a
  clear D_b L_b
  have L_b := rowOf_lt N_b
  have D_b := Nat.ne_of_lt L_b
  clear D_c L_c
  have L_c := rowOf_lt N_c
  have D_c := Nat.ne_of_lt L_c
  clear D_t L_t
  have L_t := rowOf_lt N_t
  have D_t := Nat.ne_of_lt L_t
  clear hb2 hG
  have E_a_ab := D_a
  have F_a_ab := Ne.symm D_a
  have E_b_ab := D_b
  have F_b_ab := Ne.symm D_b
  have E_c_ab := D_c
  have F_c_ab := Ne.symm D_c
  have E_t_ab := D_t
  have F_t_ab := Ne.symm D_t
  have Z_ab : w.heap.size ≤ w2.heap.size := hB.size
  go_wp2_with fail
  refine (H2.out _).mono ?_
  rintro e w3 ⟨rfl, hb3⟩
  have hG : Below w2.heap.size w2 w3 := bstep (by repeat' first | (with_reducible first | assumption | exact Below.refl _ _ | apply blast | apply Below.drew | apply below_setRow | apply Below.alloc | apply Below.setCell) | (first | with_reducible assumption | (simp; done) | (go_light; first | omega | (simp; omega)))) hb3 (by (first | with_reducible assumption | (simp; done) | (go_light; first | omega | (simp; omega))))
  have hz := hG.size
  have N_ab : rowOf w3 (w2.heap.size) = some (HV.row ab) := rowOf_below (by repeat' first | (with_reducible first | assumption | apply row_drew | apply row_drewN | apply row_set_same | apply row_cell_same | apply row_set_other | apply row_cell_other) | (with_reducible exact row_new (by (first | with_reducible assumption | (simp; done) | (go_light; first | omega | (simp; omega))))) | (with_reducible apply row_old) | (first | with_reducible assumption | (simp; done) | (go_light; first | omega | (simp; omega))) | rfl) hb3 (by (first | with_reducible assumption | (simp; done) | (go_light; first | omega | (simp; omega))))
  replace N_a := rowOf_below N_a hG L_a
  replace N_b := rowOf_below N_b hG L_b
  replace N_c := rowOf_below N_c hG L_c
  replace N_t := rowOf_below N_t hG L_t
  replace hB := bstep hB hG hB.size
  clear D_a L_a
  have L_a := rowOf_lt N_a
  have D_a := Nat.ne_of_lt L_a
  clear D_b L_b
  have L_b := rowOf_lt N_b
  have D_b := Nat.ne_of_lt L_b
  clear D_c L_c
  have L_c := rowOf_lt N_c
  have D_c := Nat.ne_of_lt L_c
  clear D_t L_t
  have L_t := rowOf_lt N_t
  have D_t := Nat.ne_of_lt L_t
  have L_ab := rowOf_lt N_ab
  have D_ab := Nat.ne_of_lt L_ab
  clear hb3 hG
  have E_a_x := D_a
  have F_a_x := Ne.symm D_a
  have E_b_x := D_b
  have F_b_x := Ne.symm D_b
  have E_c_x := D_c
  have F_c_x := Ne.symm D_c
  have E_t_x := D_t
  have F_t_x := Ne.symm D_t
  have E_ab_x := D_ab
  have F_ab_x := Ne.symm D_ab
  have Z_x : w.heap.size ≤ w3.heap.size := hB.size
  go_wp2_with fail
  refine (H3.out _).mono ?_
  rintro e w4 ⟨rfl, hb4⟩
  have hG : Below w3.heap.size w3 w4 := bstep (by repeat' first | (with_reducible first | assumption | exact Below.refl _ _ | apply blast | apply Below.drew | apply below_setRow | apply Below.alloc | apply Below.setCell) | (first | with_reducible assumption | (simp; done) | (go_light; first | omega | (simp; omega)))) hb4 (by (first | with_reducible assumption | (simp; done) | (go_light; first | omega | (simp; omega))))
  have hz := hG.size
  have N_x : rowOf w4 (w3.heap.size) = some (TV.row x) := rowOf_below (by repeat' first | (with_reducible first | assumption | apply row_drew | apply row_drewN | apply row_set_same | apply row_cell_same | apply row_set_other | apply row_cell_other) | (with_reducible exact row_new (by (first | with_reducible assumption | (simp; done) | (go_light; first | omega | (simp; omega))))) | (with_reducible apply row_old) | (first | with_reducible assumption | (simp; done) | (go_light; first | omega | (simp; omega))) | rfl) hb4 (by (first | with_reducible assumption | (simp; done) | (go_light; first | omega | (simp; omega))))
  replace N_a := rowOf_below N_a hG L_a
  replace N_b := rowOf_below N_b hG L_b
  replace N_c := rowOf_below N_c hG L_c
  replace N_t := rowOf_below N_t hG L_t
  replace N_ab := rowOf_below N_ab hG L_ab
  replace hB := bstep hB hG hB.size
  clear D_a L_a
  have L_a := rowOf_lt N_a
  have D_a := Nat.ne_of_lt L_a
  clear D_b L_b
  have L_b := rowOf_lt N_b
  have D_b := Nat.ne_of_lt L_b
  clear D_c L_c
  have L_c := rowOf_lt N_c
  have D_c := Nat.ne_of_lt L_c
  clear D_t L_t
  have L_t := rowOf_lt N_t
  have D_t := Nat.ne_of_lt L_t
  clear D_ab L_ab
  have L_ab := rowOf_lt N_ab
  have D_ab := Nat.ne_of_lt L_ab
  have L_x := rowOf_lt N_x
  have D_x := Nat.ne_of_lt L_x
  clear hb4 hG
  have E_a_y := D_a
  have F_a_y := Ne.symm D_a
  have E_b_y := D_b
  have F_b_y := Ne.symm D_b
  have E_c_y := D_c
  have F_c_y := Ne.symm D_c
  have E_t_y := D_t
  have F_t_y := Ne.symm D_t
  have E_ab_y := D_ab
  have F_ab_y := Ne.symm D_ab
  have E_x_y := D_x
  have F_x_y := Ne.symm D_x
  have Z_y : w.heap.size ≤ w4.heap.size := hB.size
  go_wp2_with fail
  refine (H4.out _).mono ?_
  rintro e w5 ⟨rfl, hb5⟩
  have hG : Below w4.heap.size w4 w5 := bstep (by repeat' first | (with_reducible first | assumption | exact Below.refl _ _ | apply blast | apply Below.drew | apply below_setRow | apply Below.alloc | apply Below.setCell) | (first | with_reducible assumption | (simp; done) | (go_light; first | omega | (simp; omega)))) hb5 (by (first | with_reducible assumption | (simp; done) | (go_light; first | omega | (simp; omega))))
  have hz := hG.size
  have N_y : rowOf w5 (w4.heap.size) = some (TV.row z) := rowOf_below (by repeat' first | (with_reducible first | assumption | apply row_drew | apply row_drewN | apply row_set_same | apply row_cell_same | apply row_set_other | apply row_cell_other) | (with_reducible exact row_new (by (first | with_reducible assumption | (simp; done) | (go_light; first | omega | (simp; omega))))) | (with_reducible apply row_old) | (first | with_reducible assumption | (simp; done) | (go_light; first | omega | (simp; omega))) | rfl) hb5 (by (first | with_reducible assumption | (simp; done) | (go_light; first | omega | (simp; omega))))
  replace N_a := rowOf_below N_a hG L_a
  replace N_b := rowOf_below N_b hG L_b
  replace N_c := rowOf_below N_c hG L_c
  replace N_t := rowOf_below N_t hG L_t
  replace N_ab := rowOf_below N_ab hG L_ab
  replace N_x := rowOf_below N_x hG L_x
  replace hB := bstep hB hG hB.size
  clear D_a L_a
  have L_a := rowOf_lt N_a
  have D_a := Nat.ne_of_lt L_a
  clear D_b L_b
  have L_b := rowOf_lt N_b
  have D_b := Nat.ne_of_lt L_b
  clear D_c L_c
  have L_c := rowOf_lt N_c
  have D_c := Nat.ne_of_lt L_c
  clear D_t L_t
  have L_t := rowOf_lt N_t
  have D_t := Nat.ne_of_lt L_t
  clear D_ab L_ab
  have L_ab := rowOf_lt N_ab
  have D_ab := Nat.ne_of_lt L_ab
  clear D_x L_x
  have L_x := rowOf_lt N_x
  have D_x := Nat.ne_of_lt L_x
  have L_y := rowOf_lt N_y
  have D_y := Nat.ne_of_lt L_y
  clear hb5 hG
  have E_a_z := D_a
  have F_a_z := Ne.symm D_a
  have E_b_z := D_b
  have F_b_z := Ne.symm D_b
  have E_c_z := D_c
  have F_c_z := Ne.symm D_c
  have E_t_z := D_t
  have F_t_z := Ne.symm D_t
  have E_ab_z := D_ab
  have F_ab_z := Ne.symm D_ab
  have E_x_z := D_x
  have F_x_z := Ne.symm D_x
  have E_y_z := D_y
  have F_y_z := Ne.symm D_y
  have Z_z : w.heap.size ≤ w5.heap.size := hB.size
  go_wp2_with fail
  refine (H5.out _).mono ?_
  rintro e w6 ⟨rfl, hb6⟩
  have hG : Below w5.heap.size w5 w6 := bstep (by repeat' first | (with_reducible first | assumption | exact Below.refl _ _ | apply blast | apply Below.drew | apply below_setRow | apply Below.alloc | apply Below.setCell) | (first | with_reducible assumption | (simp; done) | (go_light; first | omega | (simp; omega)))) hb6 (by (first | with_reducible assumption | (simp; done) | (go_light; first | omega | (simp; omega))))
  have hz := hG.size
  have N_z : rowOf w6 (w5.heap.size) = some (TV.row z) := rowOf_below (by repeat' first | (with_reducible first | assumption | apply row_drew | apply row_drewN | apply row_set_same | apply row_cell_same | apply row_set_other | apply row_cell_other) | (with_reducible exact row_new (by (first | with_reducible assumption | (simp; done) | (go_light; first | omega | (simp; omega))))) | (with_reducible apply row_old) | (first | with_reducible assumption | (simp; done) | (go_light; first | omega | (simp; omega))) | rfl) hb6 (by (first | with_reducible assumption | (simp; done) | (go_light; first | omega | (simp; omega))))
  replace N_a := rowOf_below N_a hG L_a
  replace N_b := rowOf_below N_b hG L_b
  replace N_c := rowOf_below N_c hG L_c
  replace N_t := rowOf_below N_t hG L_t
  replace N_ab := rowOf_below N_ab hG L_ab
  replace N_x := rowOf_below N_x hG L_x
  replace N_y := rowOf_below N_y hG L_y
  replace hB := bstep hB hG hB.size
  clear D_a L_a
  have L_a := rowOf_lt N_a
  have D_a := Nat.ne_of_lt L_a
  clear D_b L_b
  have L_b := rowOf_lt N_b
  have D_b := Nat.ne_of_lt L_b
  clear D_c L_c
  have L_c := rowOf_lt N_c
  have D_c := Nat.ne_of_lt L_c
  clear D_t L_t
  have L_t := rowOf_lt N_t
  have D_t := Nat.ne_of_lt L_t
  clear D_ab L_ab
  have L_ab := rowOf_lt N_ab
  have D_ab := Nat.ne_of_lt L_ab
  clear D_x L_x
  have L_x := rowOf_lt N_x
  have D_x := Nat.ne_of_lt L_x
  clear D_y L_y
  have L_y := rowOf_lt N_y
  have D_y := Nat.ne_of_lt L_y
  have L_z := rowOf_lt N_z
  have D_z := Nat.ne_of_lt L_z
  clear hb6 hG
  have E_a_bc := D_a
  have F_a_bc := Ne.symm D_a
  have E_b_bc := D_b
  have F_b_bc := Ne.symm D_b
  have E_c_bc := D_c
  have F_c_bc := Ne.symm D_c
  have E_t_bc := D_t
  have F_t_bc := Ne.symm D_t
  have E_ab_bc := D_ab
  have F_ab_bc := Ne.symm D_ab
  have E_x_bc := D_x
  have F_x_bc := Ne.symm D_x
  have E_y_bc := D_y
  have F_y_bc := Ne.symm D_y
  have E_z_bc := D_z
  have F_z_bc := Ne.symm D_z
  have Z_bc : w.heap.size ≤ w6.heap.size := hB.size
  go_wp2_with fail
  refine (H6.out _).mono ?_
  rintro e w7 ⟨rfl, hb7⟩
  have hG : Below w6.heap.size w6 w7 := bstep (by repeat' first | (with_reducible first | assumption | exact Below.refl _ _ | apply blast | apply Below.drew | apply below_setRow | apply Below.alloc | apply Below.setCell) | (first | with_reducible assumption | (simp; done) | (go_light; first | omega | (simp; omega)))) hb7 (by (first | with_reducible assumption | (simp; done) | (go_light; first | omega | (simp; omega))))
  have hz := hG.size
  have N_bc : rowOf w7 (w6.heap.size) = some (HV.row bc) := rowOf_below (by repeat' first | (with_reducible first | assumption | apply row_drew | apply row_drewN | apply row_set_same | apply row_cell_same | apply row_set_other | apply row_cell_other) | (with_reducible exact row_new (by (first | with_reducible assumption | (simp; done) | (go_light; first | omega | (simp; omega))))) | (with_reducible apply row_old) | (first | with_reducible assumption | (simp; done) | (go_light; first | omega | (simp; omega))) | rfl) hb7 (by (first | with_reducible assumption | (simp; done) | (go_light; first | omega | (simp; omega))))
  replace N_a := rowOf_below N_a hG L_a
  replace N_b := rowOf_below N_b hG L_b
  replace N_c := rowOf_below N_c hG L_c
  replace N_t := rowOf_below N_t hG L_t
  replace N_ab := rowOf_below N_ab hG L_ab
  replace N_x := rowOf_below N_x hG L_x
  replace N_y := rowOf_below N_y hG L_y
  replace N_z := rowOf_below N_z hG L_z
  replace hB := bstep hB hG hB.size
  clear D_a L_a
  have L_a := rowOf_lt N_a
  have D_a := Nat.ne_of_lt L_a
  clear D_b L_b
  have L_b := rowOf_lt N_b
  have D_b := Nat.ne_of_lt L_b
  clear D_c L_c
  have L_c := rowOf_lt N_c
  have D_c := Nat.ne_of_lt L_c
  clear D_t L_t
  have L_t := rowOf_lt N_t
  have D_t := Nat.ne_of_lt L_t
  clear D_ab L_ab
  have L_ab := rowOf_lt N_ab
  have D_ab := Nat.ne_of_lt L_ab
  clear D_x L_x
  have L_x := rowOf_lt N_x
  have D_x := Nat.ne_of_lt L_x
  clear D_y L_y
  have L_y := rowOf_lt N_y
  have D_y := Nat.ne_of_lt L_y
  clear D_z L_z
  have L_z := rowOf_lt N_z
  have D_z := Nat.ne_of_lt L_z
  have L_bc := rowOf_lt N_bc
  have D_bc := Nat.ne_of_lt L_bc
  clear hb7 hG
  have E_a_l := D_a
  have F_a_l := Ne.symm D_a
  have E_b_l := D_b
  have F_b_l := Ne.symm D_b
  have E_c_l := D_c
  have F_c_l := Ne.symm D_c
  have E_t_l := D_t
  have F_t_l := Ne.symm D_t
  have E_ab_l := D_ab
  have F_ab_l := Ne.symm D_ab
  have E_x_l := D_x
  have F_x_l := Ne.symm D_x
  have E_y_l := D_y
  have F_y_l := Ne.symm D_y
  have E_z_l := D_z
  have F_z_l := Ne.symm D_z
  have E_bc_l := D_bc
  have F_bc_l := Ne.symm D_bc
  have Z_l : w.heap.size ≤ w7.heap.size := hB.size
  go_wp2_with fail
  refine (H7.out _).mono ?_
  rintro e w8 ⟨rfl, hb8⟩
  have hG : Below w7.heap.size w7 w8 := bstep (by repeat' first | (with_reducible first | assumption | exact Below.refl _ _ | apply blast | apply Below.drew | apply below_setRow | apply Below.alloc | apply Below.setCell) | (first | with_reducible assumption | (simp; done) | (go_light; first | omega | (simp; omega)))) hb8 (by (first | with_reducible assumption | (simp; done) | (go_light; first | omega | (simp; omega))))
  have hz := hG.size
  have N_l : rowOf w8 (w7.heap.size) = some (HV.row l) := rowOf_below (by repeat' first | (with_reducible first | assumption | apply row_drew | apply row_drewN | apply row_set_same | apply row_cell_same | apply row_set_other | apply row_cell_other) | (with_reducible exact row_new (by (first | with_reducible assumption | (simp; done) | (go_light; first | omega | (simp; omega))))) | (with_reducible apply row_old) | (first | with_reducible assumption | (simp; done) | (go_light; first | omega | (simp; omega))) | rfl) hb8 (by (first | with_reducible assumption | (simp; done) | (go_light; first | omega | (simp; omega))))
  replace N_a := rowOf_below N_a hG L_a
  replace N_b := rowOf_below N_b hG L_b
  replace N_c := rowOf_below N_c hG L_c
  replace N_t := rowOf_below N_t hG L_t
  replace N_ab := rowOf_below N_ab hG L_ab
  replace N_x := rowOf_below N_x hG L_x
  replace N_y := rowOf_below N_y hG L_y
  replace N_z := rowOf_below N_z hG L_z
  replace N_bc := rowOf_below N_bc hG L_bc
  replace hB := bstep hB hG hB.size
  clear D_a L_a
  have L_a := rowOf_lt N_a
  have D_a := Nat.ne_of_lt L_a
  clear D_b L_b
  have L_b := rowOf_lt N_b
  have D_b := Nat.ne_of_lt L_b
  clear D_c L_c
  have L_c := rowOf_lt N_c
  have D_c := Nat.ne_of_lt L_c
  clear D_t L_t
  have L_t := rowOf_lt N_t
  have D_t := Nat.ne_of_lt L_t
  clear D_ab L_ab
  have L_ab := rowOf_lt N_ab
  have D_ab := Nat.ne_of_lt L_ab
  clear D_x L_x
  have L_x := rowOf_lt N_x
  have D_x := Nat.ne_of_lt L_x
  clear D_y L_y
  have L_y := rowOf_lt N_y
  have D_y := Nat.ne_of_lt L_y
  clear D_z L_z
  have L_z := rowOf_lt N_z
  have D_z := Nat.ne_of_lt L_z
  clear D_bc L_bc
  have L_bc := rowOf_lt N_bc
  have D_bc := Nat.ne_of_lt L_bc
  have L_l := rowOf_lt N_l
  have D_l := Nat.ne_of_lt L_l
  clear hb8 hG
  have E_a_r := D_a
  have F_a_r := Ne.symm D_a
  have E_b_r := D_b
  have F_b_r := Ne.symm D_b
  have E_c_r := D_c
  have F_c_r := Ne.symm D_c
  have E_t_r := D_t
  have F_t_r := Ne.symm D_t
  have E_ab_r := D_ab
  have F_ab_r := Ne.symm D_ab
  have E_x_r := D_x
  have F_x_r := Ne.symm D_x
  have E_y_r := D_y
  have F_y_r := Ne.symm D_y
  have E_z_r := D_z
  have F_z_r := Ne.symm D_z
  have E_bc_r := D_bc
  have F_bc_r := Ne.symm D_bc
  have E_l_r := D_l
  have F_l_r := Ne.symm D_l
  have Z_r : w.heap.size ≤ w8.heap.size := hB.size
  go_wp2
  go_returns
  exact ⟨ret_bool rfl, by repeat' first | (with_reducible first | assumption | exact Below.refl _ _ | apply blast | apply Below.drew | apply below_setRow | apply Below.alloc | apply Below.setCell) | (first | with_reducible assumption | (simp; done) | (go_light; first | omega | (simp; omega)))⟩

end Go.Proofs.Ytfkjlcmmmmjbkaa
