import Derived.Test.YtfkjlcmmmmjbkaaBeh
import Derived.Test.YtfkjlcmmmmjbkaaH6p
namespace Go.Proofs.Ytfkjlcmmmmjbkaa
open Go.RowKit
set_option linter.unusedVariables false
set_option linter.unusedSimpArgs false
attribute [local go_sem ↓] loadH loadT storeH storeT
attribute [local simp] size_setRow
attribute [local go_sem] HV.row TV.row
attribute [local go_sem] rowAt_head rowOf_alloc_at rowOf_alloc_past rowOf_drew rowOf_drewN rowOf_setRow_same rowOf_setRow_other rowOf_setCell_same rowOf_setCell_other size_setRow setRow_drew setRow_alloc_at setRow_alloc_past one_int one_bool cell_setRow_same cell_setRow_other frozen_setRow_same frozen_setRow_other
attribute [local go_sem] eqArr4

theorem gen_calls_2 {P : Program} {f : FuncId} {args : Array Value} {R : Ending → World → Prop} {W : World} (F : World → Prop) (hF : F W) (h : ∀ W2, F W2 → Calls P f args W2 R) : Calls P f args W R := h W hF
set_option maxHeartbeats 8000000 in
theorem hopKeeps_2 (a : HV) (b : HV) (c : HV) (t : TV) (u : TV) (x : TV) (y : TV) (l : Bool) (x2 : HV) (y2 : HV) (o2 : Bool) (p2 : Bool) (x3 : HV) (y3 : HV) (o3 : Bool) (p3 : Bool) 
    (HAW : ∀ W, Calls Try.prog 11 #[] W (Ret (.bool true) W))
    (H1 : ∀ W, Calls Try.prog 28 #[(TV.val t), (TV.val u)] W (Ret (.bool true) W))
    (H2 : ∀ W, Calls Try.prog 13 #[(HV.val a), (TV.val t)] W (Ret (.tuple #[(TV.val x), .bool true]) W))
    (H3 : ∀ W, Calls Try.prog 13 #[(HV.val a), (TV.val u)] W (Ret (.tuple #[(TV.val y), .bool true]) W))
    (H4 : ∀ W, Calls Try.prog 28 #[(TV.val x), (TV.val y)] W (Ret (.bool true) W))
    (H5 : ∀ W, Calls Try.prog 18 #[(HV.val a), (HV.val b)] W (Ret (.bool l) W))
    (H6 : ∀ W, Calls Try.prog 16 #[(HV.val a), (HV.val c)] W (Ret (.tuple #[(HV.val x2), .bool o2]) W))
    (H7 : ∀ W, Calls Try.prog 16 #[(HV.val b), (HV.val c)] W (Ret (.tuple #[(HV.val y2), .bool p2]) W))
    (H8 : l = true → o2 = true → p2 = true → ∀ W, Calls Try.prog 18 #[(HV.val x2), (HV.val y2)] W (Ret (.bool true) W))
    (H9 : ∀ W, Calls Try.prog 16 #[(HV.val c), (HV.val a)] W (Ret (.tuple #[(HV.val x3), .bool o3]) W))
    (H10 : ∀ W, Calls Try.prog 16 #[(HV.val c), (HV.val b)] W (Ret (.tuple #[(HV.val y3), .bool p3]) W))
    (H11 : l = true → o3 = true → p3 = true → ∀ W, Calls Try.prog 18 #[(HV.val x3), (HV.val y3)] W (Ret (.bool true) W)) (w : World) :
    Calls Try.prog 7 #[(HV.val a), (HV.val b), (HV.val c), (TV.val t), (TV.val u)] w (Ret (.bool true) w) := by
  replace HAW := Lib.hid HAW
  replace H1 := Lib.hid H1
  replace H2 := Lib.hid H2
  replace H3 := Lib.hid H3
  replace H4 := Lib.hid H4
  replace H5 := Lib.hid H5
  replace H6 := Lib.hid H6
  replace H7 := Lib.hid H7
  replace H8 := Lib.hid H8
  replace H9 := Lib.hid H9
  replace H10 := Lib.hid H10
  replace H11 := Lib.hid H11
  go_enter Try.func7, Try.ntmps7
  go_wp2_with fail
  refine (HAW.out _).mono ?_
  rintro e w1 ⟨rfl, hb1⟩
  have hG : Below w.heap.size w w1 := bstep (by repeat' first | (with_reducible first | assumption | exact Below.refl _ _ | apply blast | apply Below.drew | apply below_setRow | apply Below.alloc | apply Below.setCell) | (first | with_reducible assumption | (simp; done) | (go_light; first | omega | (simp; omega)))) hb1 (by (first | with_reducible assumption | (simp; done) | (go_light; first | omega | (simp; omega))))
  have hz := hG.size
  have N_a : rowOf w1 (w.heap.size) = some (HV.row a) := rowOf_below (by repeat' first | (with_reducible first | assumption | apply row_drew | apply row_drewN | apply row_set_same | apply row_cell_same | apply row_set_other | apply row_cell_other) | (with_reducible exact row_new (by (first | with_reducible assumption | (simp; done) | (go_light; first | omega | (simp; omega))))) | (with_reducible apply row_old) | (first | with_reducible assumption | (simp; done) | (go_light; first | omega | (simp; omega))) | rfl) hb1 (by (first | with_reducible assumption | (simp; done) | (go_light; first | omega | (simp; omega))))
  have N_b : rowOf w1 ((w.heap.size + 1)) = some (HV.row b) := rowOf_below (by repeat' first | (with_reducible first | assumption | apply row_drew | apply row_drewN | apply row_set_same | apply row_cell_same | apply row_set_other | apply row_cell_other) | (with_reducible exact row_new (by (first | with_reducible assumption | (simp; done) | (go_light; first | omega | (simp; omega))))) | (with_reducible apply row_old) | (first | with_reducible assumption | (simp; done) | (go_light; first | omega | (simp; omega))) | rfl) hb1 (by (first | with_reducible assumption | (simp; done) | (go_light; first | omega | (simp; omega))))
  have N_c : rowOf w1 ((w.heap.size + 1 + 1)) = some (HV.row c) := rowOf_below (by repeat' first | (with_reducible first | assumption | apply row_drew | apply row_drewN | apply row_set_same | apply row_cell_same | apply row_set_other | apply row_cell_other) | (with_reducible exact row_new (by (first | with_reducible assumption | (simp; done) | (go_light; first | omega | (simp; omega))))) | (with_reducible apply row_old) | (first | with_reducible assumption | (simp; done) | (go_light; first | omega | (simp; omega))) | rfl) hb1 (by (first | with_reducible assumption | (simp; done) | (go_light; first | omega | (simp; omega))))
  have N_t : rowOf w1 ((w.heap.size + 1 + 1 + 1)) = some (TV.row t) := rowOf_below (by repeat' first | (with_reducible first | assumption | apply row_drew | apply row_drewN | apply row_set_same | apply row_cell_same | apply row_set_other | apply row_cell_other) | (with_reducible exact row_new (by (first | with_reducible assumption | (simp; done) | (go_light; first | omega | (simp; omega))))) | (with_reducible apply row_old) | (first | with_reducible assumption | (simp; done) | (go_light; first | omega | (simp; omega))) | rfl) hb1 (by (first | with_reducible assumption | (simp; done) | (go_light; first | omega | (simp; omega))))
  have N_u : rowOf w1 ((w.heap.size + 1 + 1 + 1 + 1)) = some (TV.row u) := rowOf_below (by repeat' first | (with_reducible first | assumption | apply row_drew | apply row_drewN | apply row_set_same | apply row_cell_same | apply row_set_other | apply row_cell_other) | (with_reducible exact row_new (by (first | with_reducible assumption | (simp; done) | (go_light; first | omega | (simp; omega))))) | (with_reducible apply row_old) | (first | with_reducible assumption | (simp; done) | (go_light; first | omega | (simp; omega))) | rfl) hb1 (by (first | with_reducible assumption | (simp; done) | (go_light; first | omega | (simp; omega))))
  have hB := hG
  have L_a := rowOf_lt N_a
  have D_a := Nat.ne_of_lt L_a
  have L_b := rowOf_lt N_b
  have D_b := Nat.ne_of_lt L_b
  have L_c := rowOf_lt N_c
  have D_c := Nat.ne_of_lt L_c
  have L_t := rowOf_lt N_t
  have D_t := Nat.ne_of_lt L_t
  have L_u := rowOf_lt N_u
  have D_u := Nat.ne_of_lt L_u
  clear hb1 hG
  go_wp2_with fail
  refine (H1.out _).mono ?_
  rintro e w2 ⟨rfl, hb2⟩
  have hG : Below w1.heap.size w1 w2 := bstep (by repeat' first | (with_reducible first | assumption | exact Below.refl _ _ | apply blast | apply Below.drew | apply below_setRow | apply Below.alloc | apply Below.setCell) | (first | with_reducible assumption | (simp; done) | (go_light; first | omega | (simp; omega)))) hb2 (by (first | with_reducible assumption | (simp; done) | (go_light; first | omega | (simp; omega))))
  have hz := hG.size
  replace N_a := rowOf_below N_a hG L_a
  replace N_b := rowOf_below N_b hG L_b
  replace N_c := rowOf_below N_c hG L_c
  replace N_t := rowOf_below N_t hG L_t
  replace N_u := rowOf_below N_u hG L_u
  replace hB := bstep hB hG hB.size
  clear D_a L_a
  have L_a := rowOf_lt N_a
  have D_a := Nat.ne_of_lt L_a
  clear D_b L_b
  have L_b := rowOf_lt N_b
  have D_b := Nat.ne_of_lt L_b
  clear D_c L_c
  have L_c := rowOf_lt N_c
  have D_c := Nat.ne_of_lt L_c
  clear D_t L_t
  have L_t := rowOf_lt N_t
  have D_t := Nat.ne_of_lt L_t
  clear D_u L_u
  have L_u := rowOf_lt N_u
  have D_u := Nat.ne_of_lt L_u
  clear hb2 hG
  go_wp2_with fail
  refine (H2.out _).mono ?_
  rintro e w3 ⟨rfl, hb3⟩
  have hG : Below w2.heap.size w2 w3 := bstep (by repeat' first | (with_reducible first | assumption | exact Below.refl _ _ | apply blast | apply Below.drew | apply below_setRow | apply Below.alloc | apply Below.setCell) | (first | with_reducible assumption | (simp; done) | (go_light; first | omega | (simp; omega)))) hb3 (by (first | with_reducible assumption | (simp; done) | (go_light; first | omega | (simp; omega))))
  have hz := hG.size
  replace N_a := rowOf_below N_a hG L_a
  replace N_b := rowOf_below N_b hG L_b
  replace N_c := rowOf_below N_c hG L_c
  replace N_t := rowOf_below N_t hG L_t
  replace N_u := rowOf_below N_u hG L_u
  replace hB := bstep hB hG hB.size
  clear D_a L_a
  have L_a := rowOf_lt N_a
  have D_a := Nat.ne_of_lt L_a
  clear D_b L_b
  have L_b := rowOf_lt N_b
  have D_b := Nat.ne_of_lt L_b
  clear D_c L_c
  have L_c := rowOf_lt N_c
  have D_c := Nat.ne_of_lt L_c
  clear D_t L_t
  have L_t := rowOf_lt N_t
  have D_t := Nat.ne_of_lt L_t
  clear D_u L_u
  have L_u := rowOf_lt N_u
  have D_u := Nat.ne_of_lt L_u
  clear hb3 hG
  have E_a_x := D_a
  have F_a_x := Ne.symm D_a
  have E_b_x := D_b
  have F_b_x := Ne.symm D_b
  have E_c_x := D_c
  have F_c_x := Ne.symm D_c
  have E_t_x := D_t
  have F_t_x := Ne.symm D_t
  have E_u_x := D_u
  have F_u_x := Ne.symm D_u
  have Z_x : w.heap.size ≤ w3.heap.size := hB.size
  go_wp2_with fail
  refine (H3.out _).mono ?_
  rintro e w4 ⟨rfl, hb4⟩
  have hG : Below w3.heap.size w3 w4 := bstep (by repeat' first | (with_reducible first | assumption | exact Below.refl _ _ | apply blast | apply Below.drew | apply below_setRow | apply Below.alloc | apply Below.setCell) | (first | with_reducible assumption | (simp; done) | (go_light; first | omega | (simp; omega)))) hb4 (by (first | with_reducible assumption | (simp; done) | (go_light; first | omega | (simp; omega))))
  have hz := hG.size
  have N_x : rowOf w4 (w3.heap.size) = some (TV.row x) := rowOf_below (by repeat' first | (with_reducible first | assumption | apply row_drew | apply row_drewN | apply row_set_same | apply row_cell_same | apply row_set_other | apply row_cell_other) | (with_reducible exact row_new (by (first | with_reducible assumption | (simp; done) | (go_light; first | omega | (simp; omega))))) | (with_reducible apply row_old) | (first | with_reducible assumption | (simp; done) | (go_light; first | omega | (simp; omega))) | rfl) hb4 (by (first | with_reducible assumption | (simp; done) | (go_light; first | omega | (simp; omega))))
  replace N_a := rowOf_below N_a hG L_a
  replace N_b := rowOf_below N_b hG L_b
  replace N_c := rowOf_below N_c hG L_c
  replace N_t := rowOf_below N_t hG L_t
  replace N_u := rowOf_below N_u hG L_u
  replace hB := bstep hB hG hB.size
  clear D_a L_a
  have L_a := rowOf_lt N_a
  have D_a := Nat.ne_of_lt L_a
  clear D_b L_b
  have L_b := rowOf_lt N_b
  have D_b := Nat.ne_of_lt L_b
  clear D_c L_c
  have L_c := rowOf_lt N_c
  have D_c := Nat.ne_of_lt L_c
  clear D_t L_t
  have L_t := rowOf_lt N_t
  have D_t := Nat.ne_of_lt L_t
  clear D_u L_u
  have L_u := rowOf_lt N_u
  have D_u := Nat.ne_of_lt L_u
  have L_x := rowOf_lt N_x
  have D_x := Nat.ne_of_lt L_x
  clear hb4 hG
  have E_a_y := D_a
  have F_a_y := Ne.symm D_a
  have E_b_y := D_b
  have F_b_y := Ne.symm D_b
  have E_c_y := D_c
  have F_c_y := Ne.symm D_c
  have E_t_y := D_t
  have F_t_y := Ne.symm D_t
  have E_u_y := D_u
  have F_u_y := Ne.symm D_u
  have E_x_y := D_x
  have F_x_y := Ne.symm D_x
  have Z_y : w.heap.size ≤ w4.heap.size := hB.size
  go_wp2_with fail
  refine (H4.out _).mono ?_
  rintro e w5 ⟨rfl, hb5⟩
  have hG : Below w4.heap.size w4 w5 := bstep (by repeat' first | (with_reducible first | assumption | exact Below.refl _ _ | apply blast | apply Below.drew | apply below_setRow | apply Below.alloc | apply Below.setCell) | (first | with_reducible assumption | (simp; done) | (go_light; first | omega | (simp; omega)))) hb5 (by (first | with_reducible assumption | (simp; done) | (go_light; first | omega | (simp; omega))))
  have hz := hG.size
  have N_y : rowOf w5 (w4.heap.size) = some (TV.row y) := rowOf_below (by repeat' first | (with_reducible first | assumption | apply row_drew | apply row_drewN | apply row_set_same | apply row_cell_same | apply row_set_other | apply row_cell_other) | (with_reducible exact row_new (by (first | with_reducible assumption | (simp; done) | (go_light; first | omega | (simp; omega))))) | (with_reducible apply row_old) | (first | with_reducible assumption | (simp; done) | (go_light; first | omega | (simp; omega))) | rfl) hb5 (by (first | with_reducible assumption | (simp; done) | (go_light; first | omega | (simp; omega))))
  replace N_a := rowOf_below N_a hG L_a
  replace N_b := rowOf_below N_b hG L_b
  replace N_c := rowOf_below N_c hG L_c
  replace N_t := rowOf_below N_t hG L_t
  replace N_u := rowOf_below N_u hG L_u
  replace N_x := rowOf_below N_x hG L_x
  replace hB := bstep hB hG hB.size
  clear D_a L_a
  have L_a := rowOf_lt N_a
  have D_a := Nat.ne_of_lt L_a
  clear D_b L_b
  have L_b := rowOf_lt N_b
  have D_b := Nat.ne_of_lt L_b
  clear D_c L_c
  have L_c := rowOf_lt N_c
  have D_c := Nat.ne_of_lt L_c
  clear D_t L_t
  have L_t := rowOf_lt N_t
  have D_t := Nat.ne_of_lt L_t
  clear D_u L_u
  have L_u := rowOf_lt N_u
  have D_u := Nat.ne_of_lt L_u
  clear D_x L_x
  have L_x := rowOf_lt N_x
  have D_x := Nat.ne_of_lt L_x
  have L_y := rowOf_lt N_y
  have D_y := Nat.ne_of_lt L_y
  clear hb5 hG
  go_wp2_with fail
  refine (H5.out _).mono ?_
  rintro e w6 ⟨rfl, hb6⟩
  have hG : Below w5.heap.size w5 w6 := bstep (by repeat' first | (with_reducible first | assumption | exact Below.refl _ _ | apply blast | apply Below.drew | apply below_setRow | apply Below.alloc | apply Below.setCell) | (first | with_reducible assumption | (simp; done) | (go_light; first | omega | (simp; omega)))) hb6 (by (first | with_reducible assumption | (simp; done) | (go_light; first | omega | (simp; omega))))
  have hz := hG.size
  replace N_a := rowOf_below N_a hG L_a
  replace N_b := rowOf_below N_b hG L_b
  replace N_c := rowOf_below N_c hG L_c
  replace N_t := rowOf_below N_t hG L_t
  replace N_u := rowOf_below N_u hG L_u
  replace N_x := rowOf_below N_x hG L_x
  replace N_y := rowOf_below N_y hG L_y
  replace hB := bstep hB hG hB.size
  clear D_a L_a
  have L_a := rowOf_lt N_a
  have D_a := Nat.ne_of_lt L_a
  clear D_b L_b
  have L_b := rowOf_lt N_b
  have D_b := Nat.ne_of_lt L_b
  clear D_c L_c
  have L_c := rowOf_lt N_c
  have D_c := Nat.ne_of_lt L_c
  clear D_t L_t
  have L_t := rowOf_lt N_t
  have D_t := Nat.ne_of_lt L_t
  clear D_u L_u
  have L_u := rowOf_lt N_u
  have D_u := Nat.ne_of_lt L_u
  clear D_x L_x
  have L_x := rowOf_lt N_x
  have D_x := Nat.ne_of_lt L_x
  clear D_y L_y
  have L_y := rowOf_lt N_y
  have D_y := Nat.ne_of_lt L_y
  clear hb6 hG
  clear N_x L_x D_x
  clear N_y L_y D_y
  clear N_t L_t D_t
  clear N_u L_u D_u
  cases l
  · go_wp2
    go_returns
    exact ⟨ret_bool rfl, by repeat' first | (with_reducible first | assumption | exact Below.refl _ _ | apply blast | apply Below.drew | apply below_setRow | apply Below.alloc | apply Below.setCell) | (first | with_reducible assumption | (simp; done) | (go_light; first | omega | (simp; omega)))⟩
  go_wp2_with fail
  refine (H6.out _).mono ?_
  rintro e w7 ⟨rfl, hb7⟩
  have hG : Below w6.heap.size w6 w7 := bstep (by repeat' first | (with_reducible first | assumption | exact Below.refl _ _ | apply blast | apply Below.drew | apply below_setRow | apply Below.alloc | apply Below.setCell) | (first | with_reducible assumption | (simp; done) | (go_light; first | omega | (simp; omega)))) hb7 (by (first | with_reducible assumption | (simp; done) | (go_light; first | omega | (simp; omega))))
  have hz := hG.size
  replace N_a := rowOf_below N_a hG L_a
  replace N_b := rowOf_below N_b hG L_b
  replace N_c := rowOf_below N_c hG L_c
  replace hB := bstep hB hG hB.size
  clear D_a L_a
  have L_a := rowOf_lt N_a
  have D_a := Nat.ne_of_lt L_a
  clear D_b L_b
  have L_b := rowOf_lt N_b
  have D_b := Nat.ne_of_lt L_b
  clear D_c L_c
  have L_c := rowOf_lt N_c
  have D_c := Nat.ne_of_lt L_c
  clear hb7 hG
  have E_a_v1 := D_a
  have F_a_v1 := Ne.symm D_a
  have E_b_v1 := D_b
  have F_b_v1 := Ne.symm D_b
  have E_c_v1 := D_c
  have F_c_v1 := Ne.symm D_c
  have Z_v1 : w.heap.size ≤ w7.heap.size := hB.size
  go_wp2_with fail
  refine (H7.out _).mono ?_
  rintro e w8 ⟨rfl, hb8⟩
  have hG : Below w7.heap.size w7 w8 := bstep (by repeat' first | (with_reducible first | assumption | exact Below.refl _ _ | apply blast | apply Below.drew | apply below_setRow | apply Below.alloc | apply Below.setCell) | (first | with_reducible assumption | (simp; done) | (go_light; first | omega | (simp; omega)))) hb8 (by (first | with_reducible assumption | (simp; done) | (go_light; first | omega | (simp; omega))))
  have hz := hG.size
  have N_v1 : rowOf w8 (w7.heap.size) = some (HV.row x2) := rowOf_below (by repeat' first | (with_reducible first | assumption | apply row_drew | apply row_drewN | apply row_set_same | apply row_cell_same | apply row_set_other | apply row_cell_other) | (with_reducible exact row_new (by (first | with_reducible assumption | (simp; done) | (go_light; first | omega | (simp; omega))))) | (with_reducible apply row_old) | (first | with_reducible assumption | (simp; done) | (go_light; first | omega | (simp; omega))) | rfl) hb8 (by (first | with_reducible assumption | (simp; done) | (go_light; first | omega | (simp; omega))))
  replace N_a := rowOf_below N_a hG L_a
  replace N_b := rowOf_below N_b hG L_b
  replace N_c := rowOf_below N_c hG L_c
  replace hB := bstep hB hG hB.size
  clear D_a L_a
  have L_a := rowOf_lt N_a
  have D_a := Nat.ne_of_lt L_a
  clear D_b L_b
  have L_b := rowOf_lt N_b
  have D_b := Nat.ne_of_lt L_b
  clear D_c L_c
  have L_c := rowOf_lt N_c
  have D_c := Nat.ne_of_lt L_c
  have L_v1 := rowOf_lt N_v1
  have D_v1 := Nat.ne_of_lt L_v1
  clear hb8 hG
  have E_a_v2 := D_a
  have F_a_v2 := Ne.symm D_a
  have E_b_v2 := D_b
  have F_b_v2 := Ne.symm D_b
  have E_c_v2 := D_c
  have F_c_v2 := Ne.symm D_c
  have E_v1_v2 := D_v1
  have F_v1_v2 := Ne.symm D_v1
  have Z_v2 : w.heap.size ≤ w8.heap.size := hB.size
  have HX2 := Lib.hid (fun p q => H8.out (by trivial) p q)
  clear H8
  cases o2 <;> cases p2
  rotate_left 3
  have X := Lib.hid (HX2.out (by trivial) (by trivial))
  clear HX2
  go_wp2_with fail
  refine (X.out _).mono ?_
  rintro e w9 ⟨rfl, hb9⟩
  have hG : Below w8.heap.size w8 w9 := bstep (by repeat' first | (with_reducible first | assumption | exact Below.refl _ _ | apply blast | apply Below.drew | apply below_setRow | apply Below.alloc | apply Below.setCell) | (first | with_reducible assumption | (simp; done) | (go_light; first | omega | (simp; omega)))) hb9 (by (first | with_reducible assumption | (simp; done) | (go_light; first | omega | (simp; omega))))
  have hz := hG.size
  have N_v2 : rowOf w9 (w8.heap.size) = some (HV.row y2) := rowOf_below (by repeat' first | (with_reducible first | assumption | apply row_drew | apply row_drewN | apply row_set_same | apply row_cell_same | apply row_set_other | apply row_cell_other) | (with_reducible exact row_new (by (first | with_reducible assumption | (simp; done) | (go_light; first | omega | (simp; omega))))) | (with_reducible apply row_old) | (first | with_reducible assumption | (simp; done) | (go_light; first | omega | (simp; omega))) | rfl) hb9 (by (first | with_reducible assumption | (simp; done) | (go_light; first | omega | (simp; omega))))
  replace N_a := rowOf_below N_a hG L_a
  replace N_b := rowOf_below N_b hG L_b
  replace N_c := rowOf_below N_c hG L_c
  replace N_v1 := rowOf_below N_v1 hG L_v1
  replace hB := bstep hB hG hB.size
  clear D_a L_a
  have L_a := rowOf_lt N_a
  have D_a := Nat.ne_of_lt L_a
  clear D_b L_b
  have L_b := rowOf_lt N_b
  have D_b := Nat.ne_of_lt L_b
  clear D_c L_c
  have L_c := rowOf_lt N_c
  have D_c := Nat.ne_of_lt L_c
  clear D_v1 L_v1
  have L_v1 := rowOf_lt N_v1
  have D_v1 := Nat.ne_of_lt L_v1
  have L_v2 := rowOf_lt N_v2
  have D_v2 := Nat.ne_of_lt L_v2
  clear hb9 hG
  clear X
  go_wp2_with fail
  rotate_left
  go_wp2_with fail
  rotate_left
  go_wp2_with fail
  rotate_left
  go_wp2_with fail
  all_goals
    try clear HX2
    refine gen_calls_2 (fun W2 => Below w.heap.size w W2 ∧ rowOf W2 (w.heap.size) = some (HV.row a) ∧ rowOf W2 ((w.heap.size + 1)) = some (HV.row b) ∧ rowOf W2 ((w.heap.size + 1 + 1)) = some (HV.row c) ∧ rowOf W2 (w7.heap.size) = some (HV.row x2) ∧ rowOf W2 (w8.heap.size) = some (HV.row y2)) ⟨by repeat' first | (with_reducible first | assumption | exact Below.refl _ _ | apply blast | apply Below.drew | apply below_setRow | apply Below.alloc | apply Below.setCell) | (first | with_reducible assumption | (simp; done) | (go_light; first | omega | (simp; omega))), by repeat' first | (with_reducible first | assumption | apply row_drew | apply row_drewN | apply row_set_same | apply row_cell_same | apply row_set_other | apply row_cell_other) | (with_reducible exact row_new (by (first | with_reducible assumption | (simp; done) | (go_light; first | omega | (simp; omega))))) | (with_reducible apply row_old) | (first | with_reducible assumption | (simp; done) | (go_light; first | omega | (simp; omega))) | rfl, by repeat' first | (with_reducible first | assumption | apply row_drew | apply row_drewN | apply row_set_same | apply row_cell_same | apply row_set_other | apply row_cell_other) | (with_reducible exact row_new (by (first | with_reducible assumption | (simp; done) | (go_light; first | omega | (simp; omega))))) | (with_reducible apply row_old) | (first | with_reducible assumption | (simp; done) | (go_light; first | omega | (simp; omega))) | rfl, by repeat' first | (with_reducible first | assumption | apply row_drew | apply row_drewN | apply row_set_same | apply row_cell_same | apply row_set_other | apply row_cell_other) | (with_reducible exact row_new (by (first | with_reducible assumption | (simp; done) | (go_light; first | omega | (simp; omega))))) | (with_reducible apply row_old) | (first | with_reducible assumption | (simp; done) | (go_light; first | omega | (simp; omega))) | rfl, by repeat' first | (with_reducible first | assumption | apply row_drew | apply row_drewN | apply row_set_same | apply row_cell_same | apply row_set_other | apply row_cell_other) | (with_reducible exact row_new (by (first | with_reducible assumption | (simp; done) | (go_light; first | omega | (simp; omega))))) | (with_reducible apply row_old) | (first | with_reducible assumption | (simp; done) | (go_light; first | omega | (simp; omega))) | rfl, by repeat' first | (with_reducible first | assumption | apply row_drew | apply row_drewN | apply row_set_same | apply row_cell_same | apply row_set_other | apply row_cell_other) | (with_reducible exact row_new (by (first | with_reducible assumption | (simp; done) | (go_light; first | omega | (simp; omega))))) | (with_reducible apply row_old) | (first | with_reducible assumption | (simp; done) | (go_light; first | omega | (simp; omega))) | rfl⟩ ?_
    clear hB
    clear N_a L_a D_a
    clear N_b L_b D_b
    clear N_c L_c D_c
    clear N_v1 L_v1 D_v1
    try clear N_v2 L_v2 D_v2
    rintro w10 ⟨hB, N_a, N_b, N_c, N_v1, N_v2⟩
    have L_a := rowOf_lt N_a
    have D_a := Nat.ne_of_lt L_a
    have L_b := rowOf_lt N_b
    have D_b := Nat.ne_of_lt L_b
    have L_c := rowOf_lt N_c
    have D_c := Nat.ne_of_lt L_c
    have L_v1 := rowOf_lt N_v1
    have D_v1 := Nat.ne_of_lt L_v1
    have L_v2 := rowOf_lt N_v2
    have D_v2 := Nat.ne_of_lt L_v2
    go_wp2_with fail
    refine (H9.out _).mono ?_
    rintro e w11 ⟨rfl, hb11⟩
    have hG : Below w10.heap.size w10 w11 := bstep (by repeat' first | (with_reducible first | assumption | exact Below.refl _ _ | apply blast | apply Below.drew | apply below_setRow | apply Below.alloc | apply Below.setCell) | (first | with_reducible assumption | (simp; done) | (go_light; first | omega | (simp; omega)))) hb11 (by (first | with_reducible assumption | (simp; done) | (go_light; first | omega | (simp; omega))))
    have hz := hG.size
    replace N_a := rowOf_below N_a hG L_a
    replace N_b := rowOf_below N_b hG L_b
    replace N_c := rowOf_below N_c hG L_c
    replace N_v1 := rowOf_below N_v1 hG L_v1
    replace N_v2 := rowOf_below N_v2 hG L_v2
    replace hB := bstep hB hG hB.size
    clear D_a L_a
    have L_a := rowOf_lt N_a
    have D_a := Nat.ne_of_lt L_a
    clear D_b L_b
    have L_b := rowOf_lt N_b
    have D_b := Nat.ne_of_lt L_b
    clear D_c L_c
    have L_c := rowOf_lt N_c
    have D_c := Nat.ne_of_lt L_c
    clear D_v1 L_v1
    have L_v1 := rowOf_lt N_v1
    have D_v1 := Nat.ne_of_lt L_v1
    clear D_v2 L_v2
    have L_v2 := rowOf_lt N_v2
    have D_v2 := Nat.ne_of_lt L_v2
    clear hb11 hG
    go_wp2_with fail
    refine (H10.out _).mono ?_
    rintro e w12 ⟨rfl, hb12⟩
    have hB2 : Below w.heap.size w w12 := bstep (by repeat' first | (with_reducible first | assumption | exact Below.refl _ _ | apply blast | apply Below.drew | apply below_setRow | apply Below.alloc | apply Below.setCell) | (first | with_reducible assumption | (simp; done) | (go_light; first | omega | (simp; omega)))) hb12 (by (first | with_reducible assumption | (simp; done) | (go_light; first | omega | (simp; omega))))
    have M_a : rowOf w12 (w.heap.size) = some (HV.row a) := rowOf_below (by repeat' first | (with_reducible first | assumption | apply row_drew | apply row_drewN | apply row_set_same | apply row_cell_same | apply row_set_other | apply row_cell_other) | (with_reducible exact row_new (by (first | with_reducible assumption | (simp; done) | (go_light; first | omega | (simp; omega))))) | (with_reducible apply row_old) | (first | with_reducible assumption | (simp; done) | (go_light; first | omega | (simp; omega))) | rfl) hb12 (by (first | with_reducible assumption | (simp; done) | (go_light; first | omega | (simp; omega))))
    have M_b : rowOf w12 ((w.heap.size + 1)) = some (HV.row b) := rowOf_below (by repeat' first | (with_reducible first | assumption | apply row_drew | apply row_drewN | apply row_set_same | apply row_cell_same | apply row_set_other | apply row_cell_other) | (with_reducible exact row_new (by (first | with_reducible assumption | (simp; done) | (go_light; first | omega | (simp; omega))))) | (with_reducible apply row_old) | (first | with_reducible assumption | (simp; done) | (go_light; first | omega | (simp; omega))) | rfl) hb12 (by (first | with_reducible assumption | (simp; done) | (go_light; first | omega | (simp; omega))))
    have M_c : rowOf w12 ((w.heap.size + 1 + 1)) = some (HV.row c) := rowOf_below (by repeat' first | (with_reducible first | assumption | apply row_drew | apply row_drewN | apply row_set_same | apply row_cell_same | apply row_set_other | apply row_cell_other) | (with_reducible exact row_new (by (first | with_reducible assumption | (simp; done) | (go_light; first | omega | (simp; omega))))) | (with_reducible apply row_old) | (first | with_reducible assumption | (simp; done) | (go_light; first | omega | (simp; omega))) | rfl) hb12 (by (first | with_reducible assumption | (simp; done) | (go_light; first | omega | (simp; omega))))
    have M_v1 : rowOf w12 (w7.heap.size) = some (HV.row x3) := rowOf_below (by repeat' first | (with_reducible first | assumption | apply row_drew | apply row_drewN | apply row_set_same | apply row_cell_same | apply row_set_other | apply row_cell_other) | (with_reducible exact row_new (by (first | with_reducible assumption | (simp; done) | (go_light; first | omega | (simp; omega))))) | (with_reducible apply row_old) | (first | with_reducible assumption | (simp; done) | (go_light; first | omega | (simp; omega))) | rfl) hb12 (by (first | with_reducible assumption | (simp; done) | (go_light; first | omega | (simp; omega))))
    have M_v2 : rowOf w12 (w8.heap.size) = some (HV.row y2) := rowOf_below (by repeat' first | (with_reducible first | assumption | apply row_drew | apply row_drewN | apply row_set_same | apply row_cell_same | apply row_set_other | apply row_cell_other) | (with_reducible exact row_new (by (first | with_reducible assumption | (simp; done) | (go_light; first | omega | (simp; omega))))) | (with_reducible apply row_old) | (first | with_reducible assumption | (simp; done) | (go_light; first | omega | (simp; omega))) | rfl) hb12 (by (first | with_reducible assumption | (simp; done) | (go_light; first | omega | (simp; omega))))
    clear hB; have hB := hB2; clear hB2
    clear N_a D_a L_a
    clear N_b D_b L_b
    clear N_c D_c L_c
    clear N_v1 D_v1 L_v1
    clear N_v2 D_v2 L_v2
    have N_a := M_a; clear M_a
    have L_a := rowOf_lt N_a
    have D_a := Nat.ne_of_lt L_a
    have N_b := M_b; clear M_b
    have L_b := rowOf_lt N_b
    have D_b := Nat.ne_of_lt L_b
    have N_c := M_c; clear M_c
    have L_c := rowOf_lt N_c
    have D_c := Nat.ne_of_lt L_c
    have N_v1 := M_v1; clear M_v1
    have L_v1 := rowOf_lt N_v1
    have D_v1 := Nat.ne_of_lt L_v1
    have N_v2 := M_v2; clear M_v2
    have L_v2 := rowOf_lt N_v2
    have D_v2 := Nat.ne_of_lt L_v2
    clear hb12
    have HX3 := Lib.hid (fun p q => H11.out (by trivial) p q)
    clear H11
    cases o3 <;> cases p3
    rotate_left 3
    · have X := Lib.hid (HX3.out (by trivial) (by trivial))
      clear HX3
      go_wp2_with fail
      refine (X.out _).mono ?_
      rintro e w13 ⟨rfl, hb13⟩
      have hB2 : Below w.heap.size w w13 := bstep (by repeat' first | (with_reducible first | assumption | exact Below.refl _ _ | apply blast | apply Below.drew | apply below_setRow | apply Below.alloc | apply Below.setCell) | (first | with_reducible assumption | (simp; done) | (go_light; first | omega | (simp; omega)))) hb13 (by (first | with_reducible assumption | (simp; done) | (go_light; first | omega | (simp; omega))))
      have M_a : rowOf w13 (w.heap.size) = some (HV.row a) := rowOf_below (by repeat' first | (with_reducible first | assumption | apply row_drew | apply row_drewN | apply row_set_same | apply row_cell_same | apply row_set_other | apply row_cell_other) | (with_reducible exact row_new (by (first | with_reducible assumption | (simp; done) | (go_light; first | omega | (simp; omega))))) | (with_reducible apply row_old) | (first | with_reducible assumption | (simp; done) | (go_light; first | omega | (simp; omega))) | rfl) hb13 (by (first | with_reducible assumption | (simp; done) | (go_light; first | omega | (simp; omega))))
      have M_b : rowOf w13 ((w.heap.size + 1)) = some (HV.row b) := rowOf_below (by repeat' first | (with_reducible first | assumption | apply row_drew | apply row_drewN | apply row_set_same | apply row_cell_same | apply row_set_other | apply row_cell_other) | (with_reducible exact row_new (by (first | with_reducible assumption | (simp; done) | (go_light; first | omega | (simp; omega))))) | (with_reducible apply row_old) | (first | with_reducible assumption | (simp; done) | (go_light; first | omega | (simp; omega))) | rfl) hb13 (by (first | with_reducible assumption | (simp; done) | (go_light; first | omega | (simp; omega))))
      have M_c : rowOf w13 ((w.heap.size + 1 + 1)) = some (HV.row c) := rowOf_below (by repeat' first | (with_reducible first | assumption | apply row_drew | apply row_drewN | apply row_set_same | apply row_cell_same | apply row_set_other | apply row_cell_other) | (with_reducible exact row_new (by (first | with_reducible assumption | (simp; done) | (go_light; first | omega | (simp; omega))))) | (with_reducible apply row_old) | (first | with_reducible assumption | (simp; done) | (go_light; first | omega | (simp; omega))) | rfl) hb13 (by (first | with_reducible assumption | (simp; done) | (go_light; first | omega | (simp; omega))))
      have M_v1 : rowOf w13 (w7.heap.size) = some (HV.row x3) := rowOf_below (by repeat' first | (with_reducible first | assumption | apply row_drew | apply row_drewN | apply row_set_same | apply row_cell_same | apply row_set_other | apply row_cell_other) | (with_reducible exact row_new (by (first | with_reducible assumption | (simp; done) | (go_light; first | omega | (simp; omega))))) | (with_reducible apply row_old) | (first | with_reducible assumption | (simp; done) | (go_light; first | omega | (simp; omega))) | rfl) hb13 (by (first | with_reducible assumption | (simp; done) | (go_light; first | omega | (simp; omega))))
      have M_v2 : rowOf w13 (w8.heap.size) = some (HV.row y3) := rowOf_below (by repeat' first | (with_reducible first | assumption | apply row_drew | apply row_drewN | apply row_set_same | apply row_cell_same | apply row_set_other | apply row_cell_other) | (with_reducible exact row_new (by (first | with_reducible assumption | (simp; done) | (go_light; first | omega | (simp; omega))))) | (with_reducible apply row_old) | (first | with_reducible assumption | (simp; done) | (go_light; first | omega | (simp; omega))) | rfl) hb13 (by (first | with_reducible assumption | (simp; done) | (go_light; first | omega | (simp; omega))))
      clear hB; have hB := hB2; clear hB2
      clear N_a D_a L_a
      clear N_b D_b L_b
      clear N_c D_c L_c
      clear N_v1 D_v1 L_v1
      clear N_v2 D_v2 L_v2
      have N_a := M_a; clear M_a
      have L_a := rowOf_lt N_a
      have D_a := Nat.ne_of_lt L_a
      have N_b := M_b; clear M_b
      have L_b := rowOf_lt N_b
      have D_b := Nat.ne_of_lt L_b
      have N_c := M_c; clear M_c
      have L_c := rowOf_lt N_c
      have D_c := Nat.ne_of_lt L_c
      have N_v1 := M_v1; clear M_v1
      have L_v1 := rowOf_lt N_v1
      have D_v1 := Nat.ne_of_lt L_v1
      have N_v2 := M_v2; clear M_v2
      have L_v2 := rowOf_lt N_v2
      have D_v2 := Nat.ne_of_lt L_v2
      clear hb13
      clear X
      go_wp2
      go_returns
      exact ⟨ret_bool rfl, by repeat' first | (with_reducible first | assumption | exact Below.refl _ _ | apply blast | apply Below.drew | apply below_setRow | apply Below.alloc | apply Below.setCell) | (first | with_reducible assumption | (simp; done) | (go_light; first | omega | (simp; omega)))⟩
    all_goals
      go_wp2
      go_returns
      exact ⟨ret_bool rfl, by repeat' first | (with_reducible first | assumption | exact Below.refl _ _ | apply blast | apply Below.drew | apply below_setRow | apply Below.alloc | apply Below.setCell) | (first | with_reducible assumption | (simp; done) | (go_light; first | omega | (simp; omega)))⟩

end Go.Proofs.Ytfkjlcmmmmjbkaa
