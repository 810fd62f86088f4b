import Derived.Test.YtfkjlcmmmmjbkaaBeh
import Derived.Test.YtfkjlcmmmmjbkaaH6q
import Derived.Test.YtfkjlcmmmmjbkaaRx
namespace Go.Proofs.Ytfkjlcmmmmjbkaa
open Go.RowKit
set_option linter.unusedVariables false
set_option linter.unusedSimpArgs false
attribute [local go_sem ↓] loadH loadT storeH storeT
attribute [local simp] size_setRow
attribute [local go_sem] HV.row TV.row
attribute [local go_sem] rowAt_head rowOf_alloc_at rowOf_alloc_past rowOf_drew rowOf_drewN rowOf_setRow_same rowOf_setRow_other rowOf_setCell_same rowOf_setCell_other size_setRow setRow_drew setRow_alloc_at setRow_alloc_past one_int one_bool cell_setRow_same cell_setRow_other frozen_setRow_same frozen_setRow_other
attribute [local go_sem] eqArr4

set_option maxHeartbeats 16000000 in
theorem hopSteps_lo_off (d : Int) (t : TV) (r : Bool) (x0 : TV) (n0 : Bool) (v1 : TV) (i1 : Bool) (x1 : TV) (n1 : Bool) (v2 : TV) (i2 : Bool) (x2 : TV) (n2 : Bool) (v3 : TV) (i3 : Bool) (x3 : TV) (n3 : Bool) (hd : d < 1)
    (HAW : ∀ W, Calls Try.prog 11 #[] W (Ret (.bool true) W))
    (A0 : ∀ W, Calls Try.prog 20 #[.int .i64 d] W (Ret (.tuple #[.agg #[.int .i64 0, .int .i64 0, .int .i64 0, .int .i64 0, .int .i64 0, .int .i64 0, .int .i64 0, .int .i64 0, .int .i64 0, .int .i64 0, .int .i64 0], .bool false]) W))
    (R0 : ∀ W, Calls Try.prog 21 #[(TV.val t)] W (fun e w' => e = .returned (.bool r) ∧ w' = W.alloc (.cells (TV.row t) 26)))
    (C0 : ∀ W, Calls Try.prog 13 #[.agg #[.int .i64 0, .int .i64 0, .int .i64 0, .int .i64 0, .int .i64 0, .int .i64 0, .int .i64 0, .int .i64 0, .int .i64 0, .int .i64 0, .int .i64 0], (TV.val t)] W (Ret (.tuple #[(TV.val x0), .bool n0]) W))
    (A1 : ∀ W, Calls Try.prog 22 #[.int .i64 d] W (Ret (.tuple #[.agg #[.int .i64 0, .int .i64 0, .int .i64 0, .int .i64 0, .int .i64 0, .int .i64 0, .int .i64 0, .int .i64 0, .int .i64 0, .int .i64 0, .int .i64 0], .bool false]) W))
    (B1 : ∀ W, Calls Try.prog 23 #[(TV.val t)] W (Ret (.tuple #[(TV.val v1), .bool i1]) W))
    (C1 : ∀ W, Calls Try.prog 13 #[.agg #[.int .i64 0, .int .i64 0, .int .i64 0, .int .i64 0, .int .i64 0, .int .i64 0, .int .i64 0, .int .i64 0, .int .i64 0, .int .i64 0, .int .i64 0], (TV.val t)] W (Ret (.tuple #[(TV.val x1), .bool n1]) W))
    (A2 : ∀ W, Calls Try.prog 24 #[.int .i64 d] W (Ret (.tuple #[.agg #[.int .i64 0, .int .i64 0, .int .i64 0, .int .i64 0, .int .i64 0, .int .i64 0, .int .i64 0, .int .i64 0, .int .i64 0, .int .i64 0, .int .i64 0], .bool false]) W))
    (B2 : ∀ W, Calls Try.prog 25 #[(TV.val t)] W (Ret (.tuple #[(TV.val v2), .bool i2]) W))
    (C2 : ∀ W, Calls Try.prog 13 #[.agg #[.int .i64 0, .int .i64 0, .int .i64 0, .int .i64 0, .int .i64 0, .int .i64 0, .int .i64 0, .int .i64 0, .int .i64 0, .int .i64 0, .int .i64 0], (TV.val t)] W (Ret (.tuple #[(TV.val x2), .bool n2]) W))
    (A3 : ∀ W, Calls Try.prog 26 #[.int .i64 d] W (Ret (.tuple #[.agg #[.int .i64 0, .int .i64 0, .int .i64 0, .int .i64 0, .int .i64 0, .int .i64 0, .int .i64 0, .int .i64 0, .int .i64 0, .int .i64 0, .int .i64 0], .bool false]) W))
    (B3 : ∀ W, Calls Try.prog 27 #[(TV.val t)] W (Ret (.tuple #[(TV.val v3), .bool i3]) W))
    (C3 : ∀ W, Calls Try.prog 13 #[.agg #[.int .i64 0, .int .i64 0, .int .i64 0, .int .i64 0, .int .i64 0, .int .i64 0, .int .i64 0, .int .i64 0, .int .i64 0, .int .i64 0, .int .i64 0], (TV.val t)] W (Ret (.tuple #[(TV.val x3), .bool n3]) W)) (w : World) :
    Calls Try.prog 4 #[.int .i64 d, (TV.val t)] w (Ret (.bool true) w) := by
  replace HAW := Lib.hid HAW
  replace A0 := Lib.hid A0
  replace R0 := Lib.hid R0
  replace C0 := Lib.hid C0
  replace A1 := Lib.hid A1
  replace B1 := Lib.hid B1
  replace C1 := Lib.hid C1
  replace A2 := Lib.hid A2
  replace B2 := Lib.hid B2
  replace C2 := Lib.hid C2
  replace A3 := Lib.hid A3
  replace B3 := Lib.hid B3
  replace C3 := Lib.hid C3
  go_enter Try.func4, Try.ntmps4
  go_wp2_with fail
  refine (HAW.out _).mono ?_
  rintro e w1 ⟨rfl, hb1⟩
  have hG : Below w.heap.size w w1 := bstep (by repeat' first | (with_reducible first | assumption | exact Below.refl _ _ | apply blast | apply Below.drew | apply below_setRow | apply Below.alloc | apply Below.setCell) | (first | with_reducible assumption | (simp; done) | (go_light; first | omega | (simp; omega)))) hb1 (by (first | with_reducible assumption | (simp; done) | (go_light; first | omega | (simp; omega))))
  have hz := hG.size
  have N_t : rowOf w1 (w.heap.size) = some (TV.row t) := rowOf_below (by repeat' first | (with_reducible first | assumption | apply row_drew | apply row_drewN | apply row_set_same | apply row_cell_same | apply row_set_other | apply row_cell_other) | (with_reducible exact row_new (by (first | with_reducible assumption | (simp; done) | (go_light; first | omega | (simp; omega))))) | (with_reducible apply row_old) | (first | with_reducible assumption | (simp; done) | (go_light; first | omega | (simp; omega))) | rfl) hb1 (by (first | with_reducible assumption | (simp; done) | (go_light; first | omega | (simp; omega))))
  have hB := hG
  have L_t := rowOf_lt N_t
  have D_t := Nat.ne_of_lt L_t
  clear hb1 hG
  go_wp2_with fail
  refine wp_loop_rounds 5 ?_
  rw [rounds_succ]
  have Eh0 : w.heap.size ≠ w1.heap.size := by omega
  have Ev0 : w.heap.size ≠ (w1.heap.size + 1) := by omega
  have Zh0 : w.heap.size ≤ w1.heap.size := by omega
  have Zv0 : w.heap.size ≤ (w1.heap.size + 1) := by omega
  have Fh0 := Ne.symm Eh0
  have Fv0 := Ne.symm Ev0
  have G0 : w1.heap.size ≠ (w1.heap.size + 1) := by omega
  have J0 := Ne.symm G0
  go_wp2_with fail
  refine (A0.out _).mono ?_
  rintro e w2 ⟨rfl, hb2⟩
  have hG : Below w1.heap.size w1 w2 := bstep (by repeat' first | (with_reducible first | assumption | exact Below.refl _ _ | apply blast | apply Below.drew | apply below_setRow | apply Below.alloc | apply Below.setCell) | (first | with_reducible assumption | (simp; done) | (go_light; first | omega | (simp; omega)))) hb2 (by (first | with_reducible assumption | (simp; done) | (go_light; first | omega | (simp; omega))))
  have hz := hG.size
  have N_h : rowOf w2 (w1.heap.size) = some #[.int .i64 0, .int .i64 0, .int .i64 0, .int .i64 0, .int .i64 0, .int .i64 0, .int .i64 0, .int .i64 0, .int .i64 0, .int .i64 0, .int .i64 0] := rowOf_below (by repeat' first | (with_reducible first | assumption | apply row_drew | apply row_drewN | apply row_set_same | apply row_cell_same | apply row_set_other | apply row_cell_other) | (with_reducible exact row_new (by (first | with_reducible assumption | (simp; done) | (go_light; first | omega | (simp; omega))))) | (with_reducible apply row_old) | (first | with_reducible assumption | (simp; done) | (go_light; first | omega | (simp; omega))) | rfl) hb2 (by (first | with_reducible assumption | (simp; done) | (go_light; first | omega | (simp; omega))))
  have N_v : rowOf w2 ((w1.heap.size + 1)) = some #[.int .i64 0, .int .i64 0, .int .i64 0, .int .i64 0, .int .i64 0] := rowOf_below (by repeat' first | (with_reducible first | assumption | apply row_drew | apply row_drewN | apply row_set_same | apply row_cell_same | apply row_set_other | apply row_cell_other) | (with_reducible exact row_new (by (first | with_reducible assumption | (simp; done) | (go_light; first | omega | (simp; omega))))) | (with_reducible apply row_old) | (first | with_reducible assumption | (simp; done) | (go_light; first | omega | (simp; omega))) | rfl) hb2 (by (first | with_reducible assumption | (simp; done) | (go_light; first | omega | (simp; omega))))
  replace N_t := rowOf_below N_t hG L_t
  replace hB := bstep hB hG hB.size
  clear D_t L_t
  have L_t := rowOf_lt N_t
  have D_t := Nat.ne_of_lt L_t
  have L_h := rowOf_lt N_h
  have D_h := Nat.ne_of_lt L_h
  have L_v := rowOf_lt N_v
  have D_v := Nat.ne_of_lt L_v
  clear hb2 hG
  go_wp2_with fail
  refine gen_world (fun W2 => Below w.heap.size w W2 ∧ rowOf W2 (w.heap.size) = some (TV.row t) ∧ rowOf W2 (w1.heap.size) = some #[.int .i64 0, .int .i64 0, .int .i64 0, .int .i64 0, .int .i64 0, .int .i64 0, .int .i64 0, .int .i64 0, .int .i64 0, .int .i64 0, .int .i64 0] ∧ rowOf W2 ((w1.heap.size + 1)) = some #[.int .i64 0, .int .i64 0, .int .i64 0, .int .i64 0, .int .i64 0]) ⟨by repeat' first | (with_reducible first | assumption | exact Below.refl _ _ | apply blast | apply Below.drew | apply below_setRow | apply Below.alloc | apply Below.setCell) | (first | with_reducible assumption | (simp; done) | (go_light; first | omega | (simp; omega))), by repeat' first | (with_reducible first | assumption | apply row_drew | apply row_drewN | apply row_set_same | apply row_cell_same | apply row_set_other | apply row_cell_other) | (with_reducible exact row_new (by (first | with_reducible assumption | (simp; done) | (go_light; first | omega | (simp; omega))))) | (with_reducible apply row_old) | (first | with_reducible assumption | (simp; done) | (go_light; first | omega | (simp; omega))) | rfl, by repeat' first | (with_reducible first | assumption | apply row_drew | apply row_drewN | apply row_set_same | apply row_cell_same | apply row_set_other | apply row_cell_other) | (with_reducible exact row_new (by (first | with_reducible assumption | (simp; done) | (go_light; first | omega | (simp; omega))))) | (with_reducible apply row_old) | (first | with_reducible assumption | (simp; done) | (go_light; first | omega | (simp; omega))) | rfl, by repeat' first | (with_reducible first | assumption | apply row_drew | apply row_drewN | apply row_set_same | apply row_cell_same | apply row_set_other | apply row_cell_other) | (with_reducible exact row_new (by (first | with_reducible assumption | (simp; done) | (go_light; first | omega | (simp; omega))))) | (with_reducible apply row_old) | (first | with_reducible assumption | (simp; done) | (go_light; first | omega | (simp; omega))) | rfl⟩ ?_
  clear hB
  clear N_t L_t D_t
  clear N_h L_h D_h
  clear N_v L_v D_v
  rintro w3 ⟨hB, N_t, N_h, N_v⟩
  have L_t : w.heap.size < w3.heap.size := rowOf_lt N_t
  have D_t : w.heap.size ≠ w3.heap.size := Nat.ne_of_lt L_t
  have L_h : w1.heap.size < w3.heap.size := rowOf_lt N_h
  have D_h : w1.heap.size ≠ w3.heap.size := Nat.ne_of_lt L_h
  have L_v : (w1.heap.size + 1) < w3.heap.size := rowOf_lt N_v
  have D_v : (w1.heap.size + 1) ≠ w3.heap.size := Nat.ne_of_lt L_v
  have t_0 : w3.cell? ⟨w.heap.size, 0, none⟩ = some (.int .i64 t.d) := rowOf_cell N_t 0
  have t_1 : w3.cell? ⟨w.heap.size, 1, none⟩ = some (.int .i64 t.c0) := rowOf_cell N_t 1
  have t_2 : w3.cell? ⟨w.heap.size, 2, none⟩ = some (.int .i64 t.c1) := rowOf_cell N_t 2
  have t_3 : w3.cell? ⟨w.heap.size, 3, none⟩ = some (.int .i64 t.c2) := rowOf_cell N_t 3
  have t_4 : w3.cell? ⟨w.heap.size, 4, none⟩ = some (.int .i64 t.c3) := rowOf_cell N_t 4
  have v_0 : w3.cell? ⟨(w1.heap.size + 1), 0, none⟩ = some (.int .i64 0) := rowOf_cell N_v 0
  have v_f0 := rowOf_frozen N_v 0
  have v_1 : w3.cell? ⟨(w1.heap.size + 1), 1, none⟩ = some (.int .i64 0) := rowOf_cell N_v 1
  have v_f1 := rowOf_frozen N_v 1
  have v_2 : w3.cell? ⟨(w1.heap.size + 1), 2, none⟩ = some (.int .i64 0) := rowOf_cell N_v 2
  have v_f2 := rowOf_frozen N_v 2
  have v_3 : w3.cell? ⟨(w1.heap.size + 1), 3, none⟩ = some (.int .i64 0) := rowOf_cell N_v 3
  have v_f3 := rowOf_frozen N_v 3
  have v_4 : w3.cell? ⟨(w1.heap.size + 1), 4, none⟩ = some (.int .i64 0) := rowOf_cell N_v 4
  have v_f4 := rowOf_frozen N_v 4
  refine cut_at (fun a => ((((a.put (some 37) ((TV.val t))).put (some 38) ((TV.val t))).put (some 39) (.bool r)).put (some 9) (.bool r))) (fun W2 => Below w.heap.size w W2 ∧ rowOf W2 (w.heap.size) = some (TV.row t) ∧ rowOf W2 (w1.heap.size) = some #[.int .i64 0, .int .i64 0, .int .i64 0, .int .i64 0, .int .i64 0, .int .i64 0, .int .i64 0, .int .i64 0, .int .i64 0, .int .i64 0, .int .i64 0] ∧ rowOf W2 ((w1.heap.size + 1)) = some (TV.row t)) ?_ ?_
  · go_region_with (go_at_call 21; refine (R0.out _).mono ?_; rintro e w' ⟨rfl, rfl⟩)
    all_goals exact ⟨rfl, by repeat' first | (with_reducible first | assumption | exact Below.refl _ _ | apply blast | apply Below.drew | apply below_setRow | apply Below.alloc | apply Below.setCell) | (first | with_reducible assumption | (simp; done) | (go_light; first | omega | (simp; omega))), by repeat' first | (with_reducible first | assumption | apply row_drew | apply row_drewN | apply row_set_same | apply row_cell_same | apply row_set_other | apply row_cell_other) | (with_reducible exact row_new (by (first | with_reducible assumption | (simp; done) | (go_light; first | omega | (simp; omega))))) | (with_reducible apply row_old) | (first | with_reducible assumption | (simp; done) | (go_light; first | omega | (simp; omega))) | rfl, by repeat' first | (with_reducible first | assumption | apply row_drew | apply row_drewN | apply row_set_same | apply row_cell_same | apply row_set_other | apply row_cell_other) | (with_reducible exact row_new (by (first | with_reducible assumption | (simp; done) | (go_light; first | omega | (simp; omega))))) | (with_reducible apply row_old) | (first | with_reducible assumption | (simp; done) | (go_light; first | omega | (simp; omega))) | rfl, by repeat' first | (with_reducible first | assumption | apply row_drew | apply row_drewN | apply row_set_same | apply row_cell_same | apply row_set_other | apply row_cell_other) | (with_reducible exact row_new (by (first | with_reducible assumption | (simp; done) | (go_light; first | omega | (simp; omega))))) | (with_reducible apply row_old) | (first | with_reducible assumption | (simp; done) | (go_light; first | omega | (simp; omega))) | rfl⟩
  clear t_0 t_1 t_2 t_3 t_4
  clear v_0 v_f0 v_1 v_f1 v_2 v_f2 v_3 v_f3 v_4 v_f4
  clear hB
  clear N_t L_t D_t
  clear N_h L_h D_h
  clear N_v L_v D_v
  rintro w4 ⟨hB, N_t, N_h, N_v⟩
  have L_t : w.heap.size < w4.heap.size := rowOf_lt N_t
  have D_t : w.heap.size ≠ w4.heap.size := Nat.ne_of_lt L_t
  have L_h : w1.heap.size < w4.heap.size := rowOf_lt N_h
  have D_h : w1.heap.size ≠ w4.heap.size := Nat.ne_of_lt L_h
  have L_v : (w1.heap.size + 1) < w4.heap.size := rowOf_lt N_v
  have D_v : (w1.heap.size + 1) ≠ w4.heap.size := Nat.ne_of_lt L_v
  go_simp
  go_wp2_with fail
  refine (C0.out _).mono ?_
  rintro e w5 ⟨rfl, hb5⟩
  have hG : Below w4.heap.size w4 w5 := bstep (by repeat' first | (with_reducible first | assumption | exact Below.refl _ _ | apply blast | apply Below.drew | apply below_setRow | apply Below.alloc | apply Below.setCell) | (first | with_reducible assumption | (simp; done) | (go_light; first | omega | (simp; omega)))) hb5 (by (first | with_reducible assumption | (simp; done) | (go_light; first | omega | (simp; omega))))
  have hz := hG.size
  replace N_t := rowOf_below N_t hG L_t
  replace N_h := rowOf_below N_h hG L_h
  replace N_v := rowOf_below N_v hG L_v
  replace hB := bstep hB hG hB.size
  clear D_t L_t
  have L_t := rowOf_lt N_t
  have D_t := Nat.ne_of_lt L_t
  clear D_h L_h
  have L_h := rowOf_lt N_h
  have D_h := Nat.ne_of_lt L_h
  clear D_v L_v
  have L_v := rowOf_lt N_v
  have D_v := Nat.ne_of_lt L_v
  clear hb5 hG
  have t_0 : w5.cell? ⟨w.heap.size, 0, none⟩ = some (.int .i64 t.d) := rowOf_cell N_t 0
  go_wp2_with fail
  rw [rounds_succ]
  clear t_0
  clear N_h L_h D_h
  clear N_v L_v D_v
  have Eh1 : w.heap.size ≠ (w5.heap.size + 1) := by omega
  have Ev1 : w.heap.size ≠ (w5.heap.size + 1 + 1) := by omega
  have Zh1 : w.heap.size ≤ (w5.heap.size + 1) := by omega
  have Zv1 : w.heap.size ≤ (w5.heap.size + 1 + 1) := by omega
  have Fh1 := Ne.symm Eh1
  have Fv1 := Ne.symm Ev1
  have G1 : (w5.heap.size + 1) ≠ (w5.heap.size + 1 + 1) := by omega
  have J1 := Ne.symm G1
  go_wp2_with fail
  refine (A1.out _).mono ?_
  rintro e w6 ⟨rfl, hb6⟩
  have hG : Below w5.heap.size w5 w6 := bstep (by repeat' first | (with_reducible first | assumption | exact Below.refl _ _ | apply blast | apply Below.drew | apply below_setRow | apply Below.alloc | apply Below.setCell) | (first | with_reducible assumption | (simp; done) | (go_light; first | omega | (simp; omega)))) hb6 (by (first | with_reducible assumption | (simp; done) | (go_light; first | omega | (simp; omega))))
  have hz := hG.size
  have N_h : rowOf w6 ((w5.heap.size + 1)) = some #[.int .i64 0, .int .i64 0, .int .i64 0, .int .i64 0, .int .i64 0, .int .i64 0, .int .i64 0, .int .i64 0, .int .i64 0, .int .i64 0, .int .i64 0] := rowOf_below (by repeat' first | (with_reducible first | assumption | apply row_drew | apply row_drewN | apply row_set_same | apply row_cell_same | apply row_set_other | apply row_cell_other) | (with_reducible exact row_new (by (first | with_reducible assumption | (simp; done) | (go_light; first | omega | (simp; omega))))) | (with_reducible apply row_old) | (first | with_reducible assumption | (simp; done) | (go_light; first | omega | (simp; omega))) | rfl) hb6 (by (first | with_reducible assumption | (simp; done) | (go_light; first | omega | (simp; omega))))
  have N_v : rowOf w6 ((w5.heap.size + 1 + 1)) = some #[.int .i64 0, .int .i64 0, .int .i64 0, .int .i64 0, .int .i64 0] := rowOf_below (by repeat' first | (with_reducible first | assumption | apply row_drew | apply row_drewN | apply row_set_same | apply row_cell_same | apply row_set_other | apply row_cell_other) | (with_reducible exact row_new (by (first | with_reducible assumption | (simp; done) | (go_light; first | omega | (simp; omega))))) | (with_reducible apply row_old) | (first | with_reducible assumption | (simp; done) | (go_light; first | omega | (simp; omega))) | rfl) hb6 (by (first | with_reducible assumption | (simp; done) | (go_light; first | omega | (simp; omega))))
  replace N_t := rowOf_below N_t hG L_t
  replace hB := bstep hB hG hB.size
  clear D_t L_t
  have L_t := rowOf_lt N_t
  have D_t := Nat.ne_of_lt L_t
  have L_h := rowOf_lt N_h
  have D_h := Nat.ne_of_lt L_h
  have L_v := rowOf_lt N_v
  have D_v := Nat.ne_of_lt L_v
  clear hb6 hG
  go_wp2_with fail
  refine (B1.out _).mono ?_
  rintro e w7 ⟨rfl, hb7⟩
  have hB2 : Below w.heap.size w w7 := bstep (by repeat' first | (with_reducible first | assumption | exact Below.refl _ _ | apply blast | apply Below.drew | apply below_setRow | apply Below.alloc | apply Below.setCell) | (first | with_reducible assumption | (simp; done) | (go_light; first | omega | (simp; omega)))) hb7 (by (first | with_reducible assumption | (simp; done) | (go_light; first | omega | (simp; omega))))
  have M_t : rowOf w7 (w.heap.size) = some (TV.row t) := rowOf_below (by repeat' first | (with_reducible first | assumption | apply row_drew | apply row_drewN | apply row_set_same | apply row_cell_same | apply row_set_other | apply row_cell_other) | (with_reducible exact row_new (by (first | with_reducible assumption | (simp; done) | (go_light; first | omega | (simp; omega))))) | (with_reducible apply row_old) | (first | with_reducible assumption | (simp; done) | (go_light; first | omega | (simp; omega))) | rfl) hb7 (by (first | with_reducible assumption | (simp; done) | (go_light; first | omega | (simp; omega))))
  have M_h : rowOf w7 ((w5.heap.size + 1)) = some #[.int .i64 0, .int .i64 0, .int .i64 0, .int .i64 0, .int .i64 0, .int .i64 0, .int .i64 0, .int .i64 0, .int .i64 0, .int .i64 0, .int .i64 0] := rowOf_below (by repeat' first | (with_reducible first | assumption | apply row_drew | apply row_drewN | apply row_set_same | apply row_cell_same | apply row_set_other | apply row_cell_other) | (with_reducible exact row_new (by (first | with_reducible assumption | (simp; done) | (go_light; first | omega | (simp; omega))))) | (with_reducible apply row_old) | (first | with_reducible assumption | (simp; done) | (go_light; first | omega | (simp; omega))) | rfl) hb7 (by (first | with_reducible assumption | (simp; done) | (go_light; first | omega | (simp; omega))))
  have M_v : rowOf w7 ((w5.heap.size + 1 + 1)) = some #[.int .i64 0, .int .i64 0, .int .i64 0, .int .i64 0, .int .i64 0] := rowOf_below (by repeat' first | (with_reducible first | assumption | apply row_drew | apply row_drewN | apply row_set_same | apply row_cell_same | apply row_set_other | apply row_cell_other) | (with_reducible exact row_new (by (first | with_reducible assumption | (simp; done) | (go_light; first | omega | (simp; omega))))) | (with_reducible apply row_old) | (first | with_reducible assumption | (simp; done) | (go_light; first | omega | (simp; omega))) | rfl) hb7 (by (first | with_reducible assumption | (simp; done) | (go_light; first | omega | (simp; omega))))
  clear hB; have hB := hB2; clear hB2
  clear N_t D_t L_t
  clear N_h D_h L_h
  clear N_v D_v L_v
  have N_t := M_t; clear M_t
  have L_t := rowOf_lt N_t
  have D_t := Nat.ne_of_lt L_t
  have N_h := M_h; clear M_h
  have L_h := rowOf_lt N_h
  have D_h := Nat.ne_of_lt L_h
  have N_v := M_v; clear M_v
  have L_v := rowOf_lt N_v
  have D_v := Nat.ne_of_lt L_v
  clear hb7
  go_wp2_with fail
  refine (C1.out _).mono ?_
  rintro e w8 ⟨rfl, hb8⟩
  have hB2 : Below w.heap.size w w8 := bstep (by repeat' first | (with_reducible first | assumption | exact Below.refl _ _ | apply blast | apply Below.drew | apply below_setRow | apply Below.alloc | apply Below.setCell) | (first | with_reducible assumption | (simp; done) | (go_light; first | omega | (simp; omega)))) hb8 (by (first | with_reducible assumption | (simp; done) | (go_light; first | omega | (simp; omega))))
  have M_t : rowOf w8 (w.heap.size) = some (TV.row t) := rowOf_below (by repeat' first | (with_reducible first | assumption | apply row_drew | apply row_drewN | apply row_set_same | apply row_cell_same | apply row_set_other | apply row_cell_other) | (with_reducible exact row_new (by (first | with_reducible assumption | (simp; done) | (go_light; first | omega | (simp; omega))))) | (with_reducible apply row_old) | (first | with_reducible assumption | (simp; done) | (go_light; first | omega | (simp; omega))) | rfl) hb8 (by (first | with_reducible assumption | (simp; done) | (go_light; first | omega | (simp; omega))))
  have M_h : rowOf w8 ((w5.heap.size + 1)) = some #[.int .i64 0, .int .i64 0, .int .i64 0, .int .i64 0, .int .i64 0, .int .i64 0, .int .i64 0, .int .i64 0, .int .i64 0, .int .i64 0, .int .i64 0] := rowOf_below (by repeat' first | (with_reducible first | assumption | apply row_drew | apply row_drewN | apply row_set_same | apply row_cell_same | apply row_set_other | apply row_cell_other) | (with_reducible exact row_new (by (first | with_reducible assumption | (simp; done) | (go_light; first | omega | (simp; omega))))) | (with_reducible apply row_old) | (first | with_reducible assumption | (simp; done) | (go_light; first | omega | (simp; omega))) | rfl) hb8 (by (first | with_reducible assumption | (simp; done) | (go_light; first | omega | (simp; omega))))
  have M_v : rowOf w8 ((w5.heap.size + 1 + 1)) = some (TV.row v1) := rowOf_below (by repeat' first | (with_reducible first | assumption | apply row_drew | apply row_drewN | apply row_set_same | apply row_cell_same | apply row_set_other | apply row_cell_other) | (with_reducible exact row_new (by (first | with_reducible assumption | (simp; done) | (go_light; first | omega | (simp; omega))))) | (with_reducible apply row_old) | (first | with_reducible assumption | (simp; done) | (go_light; first | omega | (simp; omega))) | rfl) hb8 (by (first | with_reducible assumption | (simp; done) | (go_light; first | omega | (simp; omega))))
  clear hB; have hB := hB2; clear hB2
  clear N_t D_t L_t
  clear N_h D_h L_h
  clear N_v D_v L_v
  have N_t := M_t; clear M_t
  have L_t := rowOf_lt N_t
  have D_t := Nat.ne_of_lt L_t
  have N_h := M_h; clear M_h
  have L_h := rowOf_lt N_h
  have D_h := Nat.ne_of_lt L_h
  have N_v := M_v; clear M_v
  have L_v := rowOf_lt N_v
  have D_v := Nat.ne_of_lt L_v
  clear hb8
  have t_0 : w8.cell? ⟨w.heap.size, 0, none⟩ = some (.int .i64 t.d) := rowOf_cell N_t 0
  go_wp2_with fail
  rw [rounds_succ]
  clear t_0
  clear N_h L_h D_h
  clear N_v L_v D_v
  have Eh2 : w.heap.size ≠ (w8.heap.size + 1) := by omega
  have Ev2 : w.heap.size ≠ (w8.heap.size + 1 + 1) := by omega
  have Zh2 : w.heap.size ≤ (w8.heap.size + 1) := by omega
  have Zv2 : w.heap.size ≤ (w8.heap.size + 1 + 1) := by omega
  have Fh2 := Ne.symm Eh2
  have Fv2 := Ne.symm Ev2
  have G2 : (w8.heap.size + 1) ≠ (w8.heap.size + 1 + 1) := by omega
  have J2 := Ne.symm G2
  go_wp2_with fail
  refine (A2.out _).mono ?_
  rintro e w9 ⟨rfl, hb9⟩
  have hG : Below w8.heap.size w8 w9 := bstep (by repeat' first | (with_reducible first | assumption | exact Below.refl _ _ | apply blast | apply Below.drew | apply below_setRow | apply Below.alloc | apply Below.setCell) | (first | with_reducible assumption | (simp; done) | (go_light; first | omega | (simp; omega)))) hb9 (by (first | with_reducible assumption | (simp; done) | (go_light; first | omega | (simp; omega))))
  have hz := hG.size
  have N_h : rowOf w9 ((w8.heap.size + 1)) = some #[.int .i64 0, .int .i64 0, .int .i64 0, .int .i64 0, .int .i64 0, .int .i64 0, .int .i64 0, .int .i64 0, .int .i64 0, .int .i64 0, .int .i64 0] := rowOf_below (by repeat' first | (with_reducible first | assumption | apply row_drew | apply row_drewN | apply row_set_same | apply row_cell_same | apply row_set_other | apply row_cell_other) | (with_reducible exact row_new (by (first | with_reducible assumption | (simp; done) | (go_light; first | omega | (simp; omega))))) | (with_reducible apply row_old) | (first | with_reducible assumption | (simp; done) | (go_light; first | omega | (simp; omega))) | rfl) hb9 (by (first | with_reducible assumption | (simp; done) | (go_light; first | omega | (simp; omega))))
  have N_v : rowOf w9 ((w8.heap.size + 1 + 1)) = some #[.int .i64 0, .int .i64 0, .int .i64 0, .int .i64 0, .int .i64 0] := rowOf_below (by repeat' first | (with_reducible first | assumption | apply row_drew | apply row_drewN | apply row_set_same | apply row_cell_same | apply row_set_other | apply row_cell_other) | (with_reducible exact row_new (by (first | with_reducible assumption | (simp; done) | (go_light; first | omega | (simp; omega))))) | (with_reducible apply row_old) | (first | with_reducible assumption | (simp; done) | (go_light; first | omega | (simp; omega))) | rfl) hb9 (by (first | with_reducible assumption | (simp; done) | (go_light; first | omega | (simp; omega))))
  replace N_t := rowOf_below N_t hG L_t
  replace hB := bstep hB hG hB.size
  clear D_t L_t
  have L_t := rowOf_lt N_t
  have D_t := Nat.ne_of_lt L_t
  have L_h := rowOf_lt N_h
  have D_h := Nat.ne_of_lt L_h
  have L_v := rowOf_lt N_v
  have D_v := Nat.ne_of_lt L_v
  clear hb9 hG
  go_wp2_with fail
  refine (B2.out _).mono ?_
  rintro e w10 ⟨rfl, hb10⟩
  have hB2 : Below w.heap.size w w10 := bstep (by repeat' first | (with_reducible first | assumption | exact Below.refl _ _ | apply blast | apply Below.drew | apply below_setRow | apply Below.alloc | apply Below.setCell) | (first | with_reducible assumption | (simp; done) | (go_light; first | omega | (simp; omega)))) hb10 (by (first | with_reducible assumption | (simp; done) | (go_light; first | omega | (simp; omega))))
  have M_t : rowOf w10 (w.heap.size) = some (TV.row t) := rowOf_below (by repeat' first | (with_reducible first | assumption | apply row_drew | apply row_drewN | apply row_set_same | apply row_cell_same | apply row_set_other | apply row_cell_other) | (with_reducible exact row_new (by (first | with_reducible assumption | (simp; done) | (go_light; first | omega | (simp; omega))))) | (with_reducible apply row_old) | (first | with_reducible assumption | (simp; done) | (go_light; first | omega | (simp; omega))) | rfl) hb10 (by (first | with_reducible assumption | (simp; done) | (go_light; first | omega | (simp; omega))))
  have M_h : rowOf w10 ((w8.heap.size + 1)) = some #[.int .i64 0, .int .i64 0, .int .i64 0, .int .i64 0, .int .i64 0, .int .i64 0, .int .i64 0, .int .i64 0, .int .i64 0, .int .i64 0, .int .i64 0] := rowOf_below (by repeat' first | (with_reducible first | assumption | apply row_drew | apply row_drewN | apply row_set_same | apply row_cell_same | apply row_set_other | apply row_cell_other) | (with_reducible exact row_new (by (first | with_reducible assumption | (simp; done) | (go_light; first | omega | (simp; omega))))) | (with_reducible apply row_old) | (first | with_reducible assumption | (simp; done) | (go_light; first | omega | (simp; omega))) | rfl) hb10 (by (first | with_reducible assumption | (simp; done) | (go_light; first | omega | (simp; omega))))
  have M_v : rowOf w10 ((w8.heap.size + 1 + 1)) = some #[.int .i64 0, .int .i64 0, .int .i64 0, .int .i64 0, .int .i64 0] := rowOf_below (by repeat' first | (with_reducible first | assumption | apply row_drew | apply row_drewN | apply row_set_same | apply row_cell_same | apply row_set_other | apply row_cell_other) | (with_reducible exact row_new (by (first | with_reducible assumption | (simp; done) | (go_light; first | omega | (simp; omega))))) | (with_reducible apply row_old) | (first | with_reducible assumption | (simp; done) | (go_light; first | omega | (simp; omega))) | rfl) hb10 (by (first | with_reducible assumption | (simp; done) | (go_light; first | omega | (simp; omega))))
  clear hB; have hB := hB2; clear hB2
  clear N_t D_t L_t
  clear N_h D_h L_h
  clear N_v D_v L_v
  have N_t := M_t; clear M_t
  have L_t := rowOf_lt N_t
  have D_t := Nat.ne_of_lt L_t
  have N_h := M_h; clear M_h
  have L_h := rowOf_lt N_h
  have D_h := Nat.ne_of_lt L_h
  have N_v := M_v; clear M_v
  have L_v := rowOf_lt N_v
  have D_v := Nat.ne_of_lt L_v
  clear hb10
  go_wp2_with fail
  refine (C2.out _).mono ?_
  rintro e w11 ⟨rfl, hb11⟩
  have hB2 : Below w.heap.size w w11 := bstep (by repeat' first | (with_reducible first | assumption | exact Below.refl _ _ | apply blast | apply Below.drew | apply below_setRow | apply Below.alloc | apply Below.setCell) | (first | with_reducible assumption | (simp; done) | (go_light; first | omega | (simp; omega)))) hb11 (by (first | with_reducible assumption | (simp; done) | (go_light; first | omega | (simp; omega))))
  have M_t : rowOf w11 (w.heap.size) = some (TV.row t) := rowOf_below (by repeat' first | (with_reducible first | assumption | apply row_drew | apply row_drewN | apply row_set_same | apply row_cell_same | apply row_set_other | apply row_cell_other) | (with_reducible exact row_new (by (first | with_reducible assumption | (simp; done) | (go_light; first | omega | (simp; omega))))) | (with_reducible apply row_old) | (first | with_reducible assumption | (simp; done) | (go_light; first | omega | (simp; omega))) | rfl) hb11 (by (first | with_reducible assumption | (simp; done) | (go_light; first | omega | (simp; omega))))
  have M_h : rowOf w11 ((w8.heap.size + 1)) = some #[.int .i64 0, .int .i64 0, .int .i64 0, .int .i64 0, .int .i64 0, .int .i64 0, .int .i64 0, .int .i64 0, .int .i64 0, .int .i64 0, .int .i64 0] := rowOf_below (by repeat' first | (with_reducible first | assumption | apply row_drew | apply row_drewN | apply row_set_same | apply row_cell_same | apply row_set_other | apply row_cell_other) | (with_reducible exact row_new (by (first | with_reducible assumption | (simp; done) | (go_light; first | omega | (simp; omega))))) | (with_reducible apply row_old) | (first | with_reducible assumption | (simp; done) | (go_light; first | omega | (simp; omega))) | rfl) hb11 (by (first | with_reducible assumption | (simp; done) | (go_light; first | omega | (simp; omega))))
  have M_v : rowOf w11 ((w8.heap.size + 1 + 1)) = some (TV.row v2) := rowOf_below (by repeat' first | (with_reducible first | assumption | apply row_drew | apply row_drewN | apply row_set_same | apply row_cell_same | apply row_set_other | apply row_cell_other) | (with_reducible exact row_new (by (first | with_reducible assumption | (simp; done) | (go_light; first | omega | (simp; omega))))) | (with_reducible apply row_old) | (first | with_reducible assumption | (simp; done) | (go_light; first | omega | (simp; omega))) | rfl) hb11 (by (first | with_reducible assumption | (simp; done) | (go_light; first | omega | (simp; omega))))
  clear hB; have hB := hB2; clear hB2
  clear N_t D_t L_t
  clear N_h D_h L_h
  clear N_v D_v L_v
  have N_t := M_t; clear M_t
  have L_t := rowOf_lt N_t
  have D_t := Nat.ne_of_lt L_t
  have N_h := M_h; clear M_h
  have L_h := rowOf_lt N_h
  have D_h := Nat.ne_of_lt L_h
  have N_v := M_v; clear M_v
  have L_v := rowOf_lt N_v
  have D_v := Nat.ne_of_lt L_v
  clear hb11
  have t_0 : w11.cell? ⟨w.heap.size, 0, none⟩ = some (.int .i64 t.d) := rowOf_cell N_t 0
  go_wp2_with fail
  rw [rounds_succ]
  clear t_0
  clear N_h L_h D_h
  clear N_v L_v D_v
  have Eh3 : w.heap.size ≠ (w11.heap.size + 1) := by omega
  have Ev3 : w.heap.size ≠ (w11.heap.size + 1 + 1) := by omega
  have Zh3 : w.heap.size ≤ (w11.heap.size + 1) := by omega
  have Zv3 : w.heap.size ≤ (w11.heap.size + 1 + 1) := by omega
  have Fh3 := Ne.symm Eh3
  have Fv3 := Ne.symm Ev3
  have G3 : (w11.heap.size + 1) ≠ (w11.heap.size + 1 + 1) := by omega
  have J3 := Ne.symm G3
  go_wp2_with fail
  refine (A3.out _).mono ?_
  rintro e w12 ⟨rfl, hb12⟩
  have hG : Below w11.heap.size w11 w12 := bstep (by repeat' first | (with_reducible first | assumption | exact Below.refl _ _ | apply blast | apply Below.drew | apply below_setRow | apply Below.alloc | apply Below.setCell) | (first | with_reducible assumption | (simp; done) | (go_light; first | omega | (simp; omega)))) hb12 (by (first | with_reducible assumption | (simp; done) | (go_light; first | omega | (simp; omega))))
  have hz := hG.size
  have N_h : rowOf w12 ((w11.heap.size + 1)) = some #[.int .i64 0, .int .i64 0, .int .i64 0, .int .i64 0, .int .i64 0, .int .i64 0, .int .i64 0, .int .i64 0, .int .i64 0, .int .i64 0, .int .i64 0] := rowOf_below (by repeat' first | (with_reducible first | assumption | apply row_drew | apply row_drewN | apply row_set_same | apply row_cell_same | apply row_set_other | apply row_cell_other) | (with_reducible exact row_new (by (first | with_reducible assumption | (simp; done) | (go_light; first | omega | (simp; omega))))) | (with_reducible apply row_old) | (first | with_reducible assumption | (simp; done) | (go_light; first | omega | (simp; omega))) | rfl) hb12 (by (first | with_reducible assumption | (simp; done) | (go_light; first | omega | (simp; omega))))
  have N_v : rowOf w12 ((w11.heap.size + 1 + 1)) = some #[.int .i64 0, .int .i64 0, .int .i64 0, .int .i64 0, .int .i64 0] := rowOf_below (by repeat' first | (with_reducible first | assumption | apply row_drew | apply row_drewN | apply row_set_same | apply row_cell_same | apply row_set_other | apply row_cell_other) | (with_reducible exact row_new (by (first | with_reducible assumption | (simp; done) | (go_light; first | omega | (simp; omega))))) | (with_reducible apply row_old) | (first | with_reducible assumption | (simp; done) | (go_light; first | omega | (simp; omega))) | rfl) hb12 (by (first | with_reducible assumption | (simp; done) | (go_light; first | omega | (simp; omega))))
  replace N_t := rowOf_below N_t hG L_t
  replace hB := bstep hB hG hB.size
  clear D_t L_t
  have L_t := rowOf_lt N_t
  have D_t := Nat.ne_of_lt L_t
  have L_h := rowOf_lt N_h
  have D_h := Nat.ne_of_lt L_h
  have L_v := rowOf_lt N_v
  have D_v := Nat.ne_of_lt L_v
  clear hb12 hG
  go_wp2_with fail
  refine (B3.out _).mono ?_
  rintro e w13 ⟨rfl, hb13⟩
  have hB2 : Below w.heap.size w w13 := bstep (by repeat' first | (with_reducible first | assumption | exact Below.refl _ _ | apply blast | apply Below.drew | apply below_setRow | apply Below.alloc | apply Below.setCell) | (first | with_reducible assumption | (simp; done) | (go_light; first | omega | (simp; omega)))) hb13 (by (first | with_reducible assumption | (simp; done) | (go_light; first | omega | (simp; omega))))
  have M_t : rowOf w13 (w.heap.size) = some (TV.row t) := rowOf_below (by repeat' first | (with_reducible first | assumption | apply row_drew | apply row_drewN | apply row_set_same | apply row_cell_same | apply row_set_other | apply row_cell_other) | (with_reducible exact row_new (by (first | with_reducible assumption | (simp; done) | (go_light; first | omega | (simp; omega))))) | (with_reducible apply row_old) | (first | with_reducible assumption | (simp; done) | (go_light; first | omega | (simp; omega))) | rfl) hb13 (by (first | with_reducible assumption | (simp; done) | (go_light; first | omega | (simp; omega))))
  have M_h : rowOf w13 ((w11.heap.size + 1)) = some #[.int .i64 0, .int .i64 0, .int .i64 0, .int .i64 0, .int .i64 0, .int .i64 0, .int .i64 0, .int .i64 0, .int .i64 0, .int .i64 0, .int .i64 0] := rowOf_below (by repeat' first | (with_reducible first | assumption | apply row_drew | apply row_drewN | apply row_set_same | apply row_cell_same | apply row_set_other | apply row_cell_other) | (with_reducible exact row_new (by (first | with_reducible assumption | (simp; done) | (go_light; first | omega | (simp; omega))))) | (with_reducible apply row_old) | (first | with_reducible assumption | (simp; done) | (go_light; first | omega | (simp; omega))) | rfl) hb13 (by (first | with_reducible assumption | (simp; done) | (go_light; first | omega | (simp; omega))))
  have M_v : rowOf w13 ((w11.heap.size + 1 + 1)) = some #[.int .i64 0, .int .i64 0, .int .i64 0, .int .i64 0, .int .i64 0] := rowOf_below (by repeat' first | (with_reducible first | assumption | apply row_drew | apply row_drewN | apply row_set_same | apply row_cell_same | apply row_set_other | apply row_cell_other) | (with_reducible exact row_new (by (first | with_reducible assumption | (simp; done) | (go_light; first | omega | (simp; omega))))) | (with_reducible apply row_old) | (first | with_reducible assumption | (simp; done) | (go_light; first | omega | (simp; omega))) | rfl) hb13 (by (first | with_reducible assumption | (simp; done) | (go_light; first | omega | (simp; omega))))
  clear hB; have hB := hB2; clear hB2
  clear N_t D_t L_t
  clear N_h D_h L_h
  clear N_v D_v L_v
  have N_t := M_t; clear M_t
  have L_t := rowOf_lt N_t
  have D_t := Nat.ne_of_lt L_t
  have N_h := M_h; clear M_h
  have L_h := rowOf_lt N_h
  have D_h := Nat.ne_of_lt L_h
  have N_v := M_v; clear M_v
  have L_v := rowOf_lt N_v
  have D_v := Nat.ne_of_lt L_v
  clear hb13
  go_wp2_with fail
  refine (C3.out _).mono ?_
  rintro e w14 ⟨rfl, hb14⟩
  have hB2 : Below w.heap.size w w14 := bstep (by repeat' first | (with_reducible first | assumption | exact Below.refl _ _ | apply blast | apply Below.drew | apply below_setRow | apply Below.alloc | apply Below.setCell) | (first | with_reducible assumption | (simp; done) | (go_light; first | omega | (simp; omega)))) hb14 (by (first | with_reducible assumption | (simp; done) | (go_light; first | omega | (simp; omega))))
  have M_t : rowOf w14 (w.heap.size) = some (TV.row t) := rowOf_below (by repeat' first | (with_reducible first | assumption | apply row_drew | apply row_drewN | apply row_set_same | apply row_cell_same | apply row_set_other | apply row_cell_other) | (with_reducible exact row_new (by (first | with_reducible assumption | (simp; done) | (go_light; first | omega | (simp; omega))))) | (with_reducible apply row_old) | (first | with_reducible assumption | (simp; done) | (go_light; first | omega | (simp; omega))) | rfl) hb14 (by (first | with_reducible assumption | (simp; done) | (go_light; first | omega | (simp; omega))))
  have M_h : rowOf w14 ((w11.heap.size + 1)) = some #[.int .i64 0, .int .i64 0, .int .i64 0, .int .i64 0, .int .i64 0, .int .i64 0, .int .i64 0, .int .i64 0, .int .i64 0, .int .i64 0, .int .i64 0] := rowOf_below (by repeat' first | (with_reducible first | assumption | apply row_drew | apply row_drewN | apply row_set_same | apply row_cell_same | apply row_set_other | apply row_cell_other) | (with_reducible exact row_new (by (first | with_reducible assumption | (simp; done) | (go_light; first | omega | (simp; omega))))) | (with_reducible apply row_old) | (first | with_reducible assumption | (simp; done) | (go_light; first | omega | (simp; omega))) | rfl) hb14 (by (first | with_reducible assumption | (simp; done) | (go_light; first | omega | (simp; omega))))
  have M_v : rowOf w14 ((w11.heap.size + 1 + 1)) = some (TV.row v3) := rowOf_below (by repeat' first | (with_reducible first | assumption | apply row_drew | apply row_drewN | apply row_set_same | apply row_cell_same | apply row_set_other | apply row_cell_other) | (with_reducible exact row_new (by (first | with_reducible assumption | (simp; done) | (go_light; first | omega | (simp; omega))))) | (with_reducible apply row_old) | (first | with_reducible assumption | (simp; done) | (go_light; first | omega | (simp; omega))) | rfl) hb14 (by (first | with_reducible assumption | (simp; done) | (go_light; first | omega | (simp; omega))))
  clear hB; have hB := hB2; clear hB2
  clear N_t D_t L_t
  clear N_h D_h L_h
  clear N_v D_v L_v
  have N_t := M_t; clear M_t
  have L_t := rowOf_lt N_t
  have D_t := Nat.ne_of_lt L_t
  have N_h := M_h; clear M_h
  have L_h := rowOf_lt N_h
  have D_h := Nat.ne_of_lt L_h
  have N_v := M_v; clear M_v
  have L_v := rowOf_lt N_v
  have D_v := Nat.ne_of_lt L_v
  clear hb14
  have t_0 : w14.cell? ⟨w.heap.size, 0, none⟩ = some (.int .i64 t.d) := rowOf_cell N_t 0
  go_wp2_with fail
  rw [rounds_succ]
  clear t_0
  clear N_h L_h D_h
  go_wp2
  go_returns
  exact ⟨ret_bool rfl, by repeat' first | (with_reducible first | assumption | exact Below.refl _ _ | apply blast | apply Below.drew | apply below_setRow | apply Below.alloc | apply Below.setCell) | (first | with_reducible assumption | (simp; done) | (go_light; first | omega | (simp; omega)))⟩

set_option maxHeartbeats 16000000 in
theorem hopSteps_4_off (t : TV) (h0 : HV) (r : Bool) (x0 : TV) (n0 : Bool) (v1 : TV) (i1 : Bool) (x1 : TV) (n1 : Bool) (h2 : HV) (v2 : TV) (i2 : Bool) (x2 : TV) (n2 : Bool) (h3 : HV) (v3 : TV) (i3 : Bool) (x3 : TV) (n3 : Bool) (ht : (t.d == 4) = false)
    (HAW : ∀ W, Calls Try.prog 11 #[] W (Ret (.bool true) W))
    (A0 : ∀ W, Calls Try.prog 20 #[.int .i64 4] W (Ret (.tuple #[(HV.val h0), .bool true]) W))
    (R0 : ∀ W, Calls Try.prog 21 #[(TV.val t)] W (fun e w' => e = .returned (.bool r) ∧ w' = W.alloc (.cells (TV.row t) 26)))
    (C0 : ∀ W, Calls Try.prog 13 #[(HV.val h0), (TV.val t)] W (Ret (.tuple #[(TV.val x0), .bool n0]) W))
    (A1 : ∀ W, Calls Try.prog 22 #[.int .i64 4] W (Ret (.tuple #[.agg #[.int .i64 0, .int .i64 0, .int .i64 0, .int .i64 0, .int .i64 0, .int .i64 0, .int .i64 0, .int .i64 0, .int .i64 0, .int .i64 0, .int .i64 0], .bool false]) W))
    (B1 : ∀ W, Calls Try.prog 23 #[(TV.val t)] W (Ret (.tuple #[(TV.val v1), .bool i1]) W))
    (C1 : ∀ W, Calls Try.prog 13 #[.agg #[.int .i64 0, .int .i64 0, .int .i64 0, .int .i64 0, .int .i64 0, .int .i64 0, .int .i64 0, .int .i64 0, .int .i64 0, .int .i64 0, .int .i64 0], (TV.val t)] W (Ret (.tuple #[(TV.val x1), .bool n1]) W))
    (A2 : ∀ W, Calls Try.prog 24 #[.int .i64 4] W (Ret (.tuple #[(HV.val h2), .bool true]) W))
    (B2 : ∀ W, Calls Try.prog 25 #[(TV.val t)] W (Ret (.tuple #[(TV.val v2), .bool i2]) W))
    (C2 : ∀ W, Calls Try.prog 13 #[(HV.val h2), (TV.val t)] W (Ret (.tuple #[(TV.val x2), .bool n2]) W))
    (A3 : ∀ W, Calls Try.prog 26 #[.int .i64 4] W (Ret (.tuple #[(HV.val h3), .bool true]) W))
    (B3 : ∀ W, Calls Try.prog 27 #[(TV.val t)] W (Ret (.tuple #[(TV.val v3), .bool i3]) W))
    (C3 : ∀ W, Calls Try.prog 13 #[(HV.val h3), (TV.val t)] W (Ret (.tuple #[(TV.val x3), .bool n3]) W)) (w : World) :
    Calls Try.prog 4 #[.int .i64 4, (TV.val t)] w (Ret (.bool true) w) := by
  replace HAW := Lib.hid HAW
  replace A0 := Lib.hid A0
  replace R0 := Lib.hid R0
  replace C0 := Lib.hid C0
  replace A1 := Lib.hid A1
  replace B1 := Lib.hid B1
  replace C1 := Lib.hid C1
  replace A2 := Lib.hid A2
  replace B2 := Lib.hid B2
  replace C2 := Lib.hid C2
  replace A3 := Lib.hid A3
  replace B3 := Lib.hid B3
  replace C3 := Lib.hid C3
  go_enter Try.func4, Try.ntmps4
  go_wp2_with fail
  refine (HAW.out _).mono ?_
  rintro e w1 ⟨rfl, hb1⟩
  have hG : Below w.heap.size w w1 := bstep (by repeat' first | (with_reducible first | assumption | exact Below.refl _ _ | apply blast | apply Below.drew | apply below_setRow | apply Below.alloc | apply Below.setCell) | (first | with_reducible assumption | (simp; done) | (go_light; first | omega | (simp; omega)))) hb1 (by (first | with_reducible assumption | (simp; done) | (go_light; first | omega | (simp; omega))))
  have hz := hG.size
  have N_t : rowOf w1 (w.heap.size) = some (TV.row t) := rowOf_below (by repeat' first | (with_reducible first | assumption | apply row_drew | apply row_drewN | apply row_set_same | apply row_cell_same | apply row_set_other | apply row_cell_other) | (with_reducible exact row_new (by (first | with_reducible assumption | (simp; done) | (go_light; first | omega | (simp; omega))))) | (with_reducible apply row_old) | (first | with_reducible assumption | (simp; done) | (go_light; first | omega | (simp; omega))) | rfl) hb1 (by (first | with_reducible assumption | (simp; done) | (go_light; first | omega | (simp; omega))))
  have hB := hG
  have L_t := rowOf_lt N_t
  have D_t := Nat.ne_of_lt L_t
  clear hb1 hG
  go_wp2_with fail
  refine wp_loop_rounds 5 ?_
  rw [rounds_succ]
  have Eh0 : w.heap.size ≠ w1.heap.size := by omega
  have Ev0 : w.heap.size ≠ (w1.heap.size + 1) := by omega
  have Zh0 : w.heap.size ≤ w1.heap.size := by omega
  have Zv0 : w.heap.size ≤ (w1.heap.size + 1) := by omega
  have Fh0 := Ne.symm Eh0
  have Fv0 := Ne.symm Ev0
  have G0 : w1.heap.size ≠ (w1.heap.size + 1) := by omega
  have J0 := Ne.symm G0
  go_wp2_with fail
  refine (A0.out _).mono ?_
  rintro e w2 ⟨rfl, hb2⟩
  have hG : Below w1.heap.size w1 w2 := bstep (by repeat' first | (with_reducible first | assumption | exact Below.refl _ _ | apply blast | apply Below.drew | apply below_setRow | apply Below.alloc | apply Below.setCell) | (first | with_reducible assumption | (simp; done) | (go_light; first | omega | (simp; omega)))) hb2 (by (first | with_reducible assumption | (simp; done) | (go_light; first | omega | (simp; omega))))
  have hz := hG.size
  have N_h : rowOf w2 (w1.heap.size) = some #[.int .i64 0, .int .i64 0, .int .i64 0, .int .i64 0, .int .i64 0, .int .i64 0, .int .i64 0, .int .i64 0, .int .i64 0, .int .i64 0, .int .i64 0] := rowOf_below (by repeat' first | (with_reducible first | assumption | apply row_drew | apply row_drewN | apply row_set_same | apply row_cell_same | apply row_set_other | apply row_cell_other) | (with_reducible exact row_new (by (first | with_reducible assumption | (simp; done) | (go_light; first | omega | (simp; omega))))) | (with_reducible apply row_old) | (first | with_reducible assumption | (simp; done) | (go_light; first | omega | (simp; omega))) | rfl) hb2 (by (first | with_reducible assumption | (simp; done) | (go_light; first | omega | (simp; omega))))
  have N_v : rowOf w2 ((w1.heap.size + 1)) = some #[.int .i64 0, .int .i64 0, .int .i64 0, .int .i64 0, .int .i64 0] := rowOf_below (by repeat' first | (with_reducible first | assumption | apply row_drew | apply row_drewN | apply row_set_same | apply row_cell_same | apply row_set_other | apply row_cell_other) | (with_reducible exact row_new (by (first | with_reducible assumption | (simp; done) | (go_light; first | omega | (simp; omega))))) | (with_reducible apply row_old) | (first | with_reducible assumption | (simp; done) | (go_light; first | omega | (simp; omega))) | rfl) hb2 (by (first | with_reducible assumption | (simp; done) | (go_light; first | omega | (simp; omega))))
  replace N_t := rowOf_below N_t hG L_t
  replace hB := bstep hB hG hB.size
  clear D_t L_t
  have L_t := rowOf_lt N_t
  have D_t := Nat.ne_of_lt L_t
  have L_h := rowOf_lt N_h
  have D_h := Nat.ne_of_lt L_h
  have L_v := rowOf_lt N_v
  have D_v := Nat.ne_of_lt L_v
  clear hb2 hG
  go_wp2_with fail
  refine gen_world (fun W2 => Below w.heap.size w W2 ∧ rowOf W2 (w.heap.size) = some (TV.row t) ∧ rowOf W2 (w1.heap.size) = some (HV.row h0) ∧ rowOf W2 ((w1.heap.size + 1)) = some #[.int .i64 0, .int .i64 0, .int .i64 0, .int .i64 0, .int .i64 0]) ⟨by repeat' first | (with_reducible first | assumption | exact Below.refl _ _ | apply blast | apply Below.drew | apply below_setRow | apply Below.alloc | apply Below.setCell) | (first | with_reducible assumption | (simp; done) | (go_light; first | omega | (simp; omega))), by repeat' first | (with_reducible first | assumption | apply row_drew | apply row_drewN | apply row_set_same | apply row_cell_same | apply row_set_other | apply row_cell_other) | (with_reducible exact row_new (by (first | with_reducible assumption | (simp; done) | (go_light; first | omega | (simp; omega))))) | (with_reducible apply row_old) | (first | with_reducible assumption | (simp; done) | (go_light; first | omega | (simp; omega))) | rfl, by repeat' first | (with_reducible first | assumption | apply row_drew | apply row_drewN | apply row_set_same | apply row_cell_same | apply row_set_other | apply row_cell_other) | (with_reducible exact row_new (by (first | with_reducible assumption | (simp; done) | (go_light; first | omega | (simp; omega))))) | (with_reducible apply row_old) | (first | with_reducible assumption | (simp; done) | (go_light; first | omega | (simp; omega))) | rfl, by repeat' first | (with_reducible first | assumption | apply row_drew | apply row_drewN | apply row_set_same | apply row_cell_same | apply row_set_other | apply row_cell_other) | (with_reducible exact row_new (by (first | with_reducible assumption | (simp; done) | (go_light; first | omega | (simp; omega))))) | (with_reducible apply row_old) | (first | with_reducible assumption | (simp; done) | (go_light; first | omega | (simp; omega))) | rfl⟩ ?_
  clear hB
  clear N_t L_t D_t
  clear N_h L_h D_h
  clear N_v L_v D_v
  rintro w3 ⟨hB, N_t, N_h, N_v⟩
  have L_t : w.heap.size < w3.heap.size := rowOf_lt N_t
  have D_t : w.heap.size ≠ w3.heap.size := Nat.ne_of_lt L_t
  have L_h : w1.heap.size < w3.heap.size := rowOf_lt N_h
  have D_h : w1.heap.size ≠ w3.heap.size := Nat.ne_of_lt L_h
  have L_v : (w1.heap.size + 1) < w3.heap.size := rowOf_lt N_v
  have D_v : (w1.heap.size + 1) ≠ w3.heap.size := Nat.ne_of_lt L_v
  have t_0 : w3.cell? ⟨w.heap.size, 0, none⟩ = some (.int .i64 t.d) := rowOf_cell N_t 0
  have t_1 : w3.cell? ⟨w.heap.size, 1, none⟩ = some (.int .i64 t.c0) := rowOf_cell N_t 1
  have t_2 : w3.cell? ⟨w.heap.size, 2, none⟩ = some (.int .i64 t.c1) := rowOf_cell N_t 2
  have t_3 : w3.cell? ⟨w.heap.size, 3, none⟩ = some (.int .i64 t.c2) := rowOf_cell N_t 3
  have t_4 : w3.cell? ⟨w.heap.size, 4, none⟩ = some (.int .i64 t.c3) := rowOf_cell N_t 4
  have v_0 : w3.cell? ⟨(w1.heap.size + 1), 0, none⟩ = some (.int .i64 0) := rowOf_cell N_v 0
  have v_f0 := rowOf_frozen N_v 0
  have v_1 : w3.cell? ⟨(w1.heap.size + 1), 1, none⟩ = some (.int .i64 0) := rowOf_cell N_v 1
  have v_f1 := rowOf_frozen N_v 1
  have v_2 : w3.cell? ⟨(w1.heap.size + 1), 2, none⟩ = some (.int .i64 0) := rowOf_cell N_v 2
  have v_f2 := rowOf_frozen N_v 2
  have v_3 : w3.cell? ⟨(w1.heap.size + 1), 3, none⟩ = some (.int .i64 0) := rowOf_cell N_v 3
  have v_f3 := rowOf_frozen N_v 3
  have v_4 : w3.cell? ⟨(w1.heap.size + 1), 4, none⟩ = some (.int .i64 0) := rowOf_cell N_v 4
  have v_f4 := rowOf_frozen N_v 4
  refine cut_at (fun a => ((((a.put (some 37) ((TV.val t))).put (some 38) ((TV.val t))).put (some 39) (.bool r)).put (some 9) (.bool r))) (fun W2 => Below w.heap.size w W2 ∧ rowOf W2 (w.heap.size) = some (TV.row t) ∧ rowOf W2 (w1.heap.size) = some (HV.row h0) ∧ rowOf W2 ((w1.heap.size + 1)) = some (TV.row t)) ?_ ?_
  · go_region_with (go_at_call 21; refine (R0.out _).mono ?_; rintro e w' ⟨rfl, rfl⟩)
    all_goals exact ⟨rfl, by repeat' first | (with_reducible first | assumption | exact Below.refl _ _ | apply blast | apply Below.drew | apply below_setRow | apply Below.alloc | apply Below.setCell) | (first | with_reducible assumption | (simp; done) | (go_light; first | omega | (simp; omega))), by repeat' first | (with_reducible first | assumption | apply row_drew | apply row_drewN | apply row_set_same | apply row_cell_same | apply row_set_other | apply row_cell_other) | (with_reducible exact row_new (by (first | with_reducible assumption | (simp; done) | (go_light; first | omega | (simp; omega))))) | (with_reducible apply row_old) | (first | with_reducible assumption | (simp; done) | (go_light; first | omega | (simp; omega))) | rfl, by repeat' first | (with_reducible first | assumption | apply row_drew | apply row_drewN | apply row_set_same | apply row_cell_same | apply row_set_other | apply row_cell_other) | (with_reducible exact row_new (by (first | with_reducible assumption | (simp; done) | (go_light; first | omega | (simp; omega))))) | (with_reducible apply row_old) | (first | with_reducible assumption | (simp; done) | (go_light; first | omega | (simp; omega))) | rfl, by repeat' first | (with_reducible first | assumption | apply row_drew | apply row_drewN | apply row_set_same | apply row_cell_same | apply row_set_other | apply row_cell_other) | (with_reducible exact row_new (by (first | with_reducible assumption | (simp; done) | (go_light; first | omega | (simp; omega))))) | (with_reducible apply row_old) | (first | with_reducible assumption | (simp; done) | (go_light; first | omega | (simp; omega))) | rfl⟩
  clear t_0 t_1 t_2 t_3 t_4
  clear v_0 v_f0 v_1 v_f1 v_2 v_f2 v_3 v_f3 v_4 v_f4
  clear hB
  clear N_t L_t D_t
  clear N_h L_h D_h
  clear N_v L_v D_v
  rintro w4 ⟨hB, N_t, N_h, N_v⟩
  have L_t : w.heap.size < w4.heap.size := rowOf_lt N_t
  have D_t : w.heap.size ≠ w4.heap.size := Nat.ne_of_lt L_t
  have L_h : w1.heap.size < w4.heap.size := rowOf_lt N_h
  have D_h : w1.heap.size ≠ w4.heap.size := Nat.ne_of_lt L_h
  have L_v : (w1.heap.size + 1) < w4.heap.size := rowOf_lt N_v
  have D_v : (w1.heap.size + 1) ≠ w4.heap.size := Nat.ne_of_lt L_v
  go_simp
  go_wp2_with fail
  refine (C0.out _).mono ?_
  rintro e w5 ⟨rfl, hb5⟩
  have hG : Below w4.heap.size w4 w5 := bstep (by repeat' first | (with_reducible first | assumption | exact Below.refl _ _ | apply blast | apply Below.drew | apply below_setRow | apply Below.alloc | apply Below.setCell) | (first | with_reducible assumption | (simp; done) | (go_light; first | omega | (simp; omega)))) hb5 (by (first | with_reducible assumption | (simp; done) | (go_light; first | omega | (simp; omega))))
  have hz := hG.size
  replace N_t := rowOf_below N_t hG L_t
  replace N_h := rowOf_below N_h hG L_h
  replace N_v := rowOf_below N_v hG L_v
  replace hB := bstep hB hG hB.size
  clear D_t L_t
  have L_t := rowOf_lt N_t
  have D_t := Nat.ne_of_lt L_t
  clear D_h L_h
  have L_h := rowOf_lt N_h
  have D_h := Nat.ne_of_lt L_h
  clear D_v L_v
  have L_v := rowOf_lt N_v
  have D_v := Nat.ne_of_lt L_v
  clear hb5 hG
  have t_0 : w5.cell? ⟨w.heap.size, 0, none⟩ = some (.int .i64 t.d) := rowOf_cell N_t 0
  go_wp2_with fail
  rw [rounds_succ]
  clear t_0
  clear N_h L_h D_h
  clear N_v L_v D_v
  have Eh1 : w.heap.size ≠ (w5.heap.size + 1) := by omega
  have Ev1 : w.heap.size ≠ (w5.heap.size + 1 + 1) := by omega
  have Zh1 : w.heap.size ≤ (w5.heap.size + 1) := by omega
  have Zv1 : w.heap.size ≤ (w5.heap.size + 1 + 1) := by omega
  have Fh1 := Ne.symm Eh1
  have Fv1 := Ne.symm Ev1
  have G1 : (w5.heap.size + 1) ≠ (w5.heap.size + 1 + 1) := by omega
  have J1 := Ne.symm G1
  go_wp2_with fail
  refine (A1.out _).mono ?_
  rintro e w6 ⟨rfl, hb6⟩
  have hG : Below w5.heap.size w5 w6 := bstep (by repeat' first | (with_reducible first | assumption | exact Below.refl _ _ | apply blast | apply Below.drew | apply below_setRow | apply Below.alloc | apply Below.setCell) | (first | with_reducible assumption | (simp; done) | (go_light; first | omega | (simp; omega)))) hb6 (by (first | with_reducible assumption | (simp; done) | (go_light; first | omega | (simp; omega))))
  have hz := hG.size
  have N_h : rowOf w6 ((w5.heap.size + 1)) = some #[.int .i64 0, .int .i64 0, .int .i64 0, .int .i64 0, .int .i64 0, .int .i64 0, .int .i64 0, .int .i64 0, .int .i64 0, .int .i64 0, .int .i64 0] := rowOf_below (by repeat' first | (with_reducible first | assumption | apply row_drew | apply row_drewN | apply row_set_same | apply row_cell_same | apply row_set_other | apply row_cell_other) | (with_reducible exact row_new (by (first | with_reducible assumption | (simp; done) | (go_light; first | omega | (simp; omega))))) | (with_reducible apply row_old) | (first | with_reducible assumption | (simp; done) | (go_light; first | omega | (simp; omega))) | rfl) hb6 (by (first | with_reducible assumption | (simp; done) | (go_light; first | omega | (simp; omega))))
  have N_v : rowOf w6 ((w5.heap.size + 1 + 1)) = some #[.int .i64 0, .int .i64 0, .int .i64 0, .int .i64 0, .int .i64 0] := rowOf_below (by repeat' first | (with_reducible first | assumption | apply row_drew | apply row_drewN | apply row_set_same | apply row_cell_same | apply row_set_other | apply row_cell_other) | (with_reducible exact row_new (by (first | with_reducible assumption | (simp; done) | (go_light; first | omega | (simp; omega))))) | (with_reducible apply row_old) | (first | with_reducible assumption | (simp; done) | (go_light; first | omega | (simp; omega))) | rfl) hb6 (by (first | with_reducible assumption | (simp; done) | (go_light; first | omega | (simp; omega))))
  replace N_t := rowOf_below N_t hG L_t
  replace hB := bstep hB hG hB.size
  clear D_t L_t
  have L_t := rowOf_lt N_t
  have D_t := Nat.ne_of_lt L_t
  have L_h := rowOf_lt N_h
  have D_h := Nat.ne_of_lt L_h
  have L_v := rowOf_lt N_v
  have D_v := Nat.ne_of_lt L_v
  clear hb6 hG
  go_wp2_with fail
  refine (B1.out _).mono ?_
  rintro e w7 ⟨rfl, hb7⟩
  have hB2 : Below w.heap.size w w7 := bstep (by repeat' first | (with_reducible first | assumption | exact Below.refl _ _ | apply blast | apply Below.drew | apply below_setRow | apply Below.alloc | apply Below.setCell) | (first | with_reducible assumption | (simp; done) | (go_light; first | omega | (simp; omega)))) hb7 (by (first | with_reducible assumption | (simp; done) | (go_light; first | omega | (simp; omega))))
  have M_t : rowOf w7 (w.heap.size) = some (TV.row t) := rowOf_below (by repeat' first | (with_reducible first | assumption | apply row_drew | apply row_drewN | apply row_set_same | apply row_cell_same | apply row_set_other | apply row_cell_other) | (with_reducible exact row_new (by (first | with_reducible assumption | (simp; done) | (go_light; first | omega | (simp; omega))))) | (with_reducible apply row_old) | (first | with_reducible assumption | (simp; done) | (go_light; first | omega | (simp; omega))) | rfl) hb7 (by (first | with_reducible assumption | (simp; done) | (go_light; first | omega | (simp; omega))))
  have M_h : rowOf w7 ((w5.heap.size + 1)) = some #[.int .i64 0, .int .i64 0, .int .i64 0, .int .i64 0, .int .i64 0, .int .i64 0, .int .i64 0, .int .i64 0, .int .i64 0, .int .i64 0, .int .i64 0] := rowOf_below (by repeat' first | (with_reducible first | assumption | apply row_drew | apply row_drewN | apply row_set_same | apply row_cell_same | apply row_set_other | apply row_cell_other) | (with_reducible exact row_new (by (first | with_reducible assumption | (simp; done) | (go_light; first | omega | (simp; omega))))) | (with_reducible apply row_old) | (first | with_reducible assumption | (simp; done) | (go_light; first | omega | (simp; omega))) | rfl) hb7 (by (first | with_reducible assumption | (simp; done) | (go_light; first | omega | (simp; omega))))
  have M_v : rowOf w7 ((w5.heap.size + 1 + 1)) = some #[.int .i64 0, .int .i64 0, .int .i64 0, .int .i64 0, .int .i64 0] := rowOf_below (by repeat' first | (with_reducible first | assumption | apply row_drew | apply row_drewN | apply row_set_same | apply row_cell_same | apply row_set_other | apply row_cell_other) | (with_reducible exact row_new (by (first | with_reducible assumption | (simp; done) | (go_light; first | omega | (simp; omega))))) | (with_reducible apply row_old) | (first | with_reducible assumption | (simp; done) | (go_light; first | omega | (simp; omega))) | rfl) hb7 (by (first | with_reducible assumption | (simp; done) | (go_light; first | omega | (simp; omega))))
  clear hB; have hB := hB2; clear hB2
  clear N_t D_t L_t
  clear N_h D_h L_h
  clear N_v D_v L_v
  have N_t := M_t; clear M_t
  have L_t := rowOf_lt N_t
  have D_t := Nat.ne_of_lt L_t
  have N_h := M_h; clear M_h
  have L_h := rowOf_lt N_h
  have D_h := Nat.ne_of_lt L_h
  have N_v := M_v; clear M_v
  have L_v := rowOf_lt N_v
  have D_v := Nat.ne_of_lt L_v
  clear hb7
  go_wp2_with fail
  refine (C1.out _).mono ?_
  rintro e w8 ⟨rfl, hb8⟩
  have hB2 : Below w.heap.size w w8 := bstep (by repeat' first | (with_reducible first | assumption | exact Below.refl _ _ | apply blast | apply Below.drew | apply below_setRow | apply Below.alloc | apply Below.setCell) | (first | with_reducible assumption | (simp; done) | (go_light; first | omega | (simp; omega)))) hb8 (by (first | with_reducible assumption | (simp; done) | (go_light; first | omega | (simp; omega))))
  have M_t : rowOf w8 (w.heap.size) = some (TV.row t) := rowOf_below (by repeat' first | (with_reducible first | assumption | apply row_drew | apply row_drewN | apply row_set_same | apply row_cell_same | apply row_set_other | apply row_cell_other) | (with_reducible exact row_new (by (first | with_reducible assumption | (simp; done) | (go_light; first | omega | (simp; omega))))) | (with_reducible apply row_old) | (first | with_reducible assumption | (simp; done) | (go_light; first | omega | (simp; omega))) | rfl) hb8 (by (first | with_reducible assumption | (simp; done) | (go_light; first | omega | (simp; omega))))
  have M_h : rowOf w8 ((w5.heap.size + 1)) = some #[.int .i64 0, .int .i64 0, .int .i64 0, .int .i64 0, .int .i64 0, .int .i64 0, .int .i64 0, .int .i64 0, .int .i64 0, .int .i64 0, .int .i64 0] := rowOf_below (by repeat' first | (with_reducible first | assumption | apply row_drew | apply row_drewN | apply row_set_same | apply row_cell_same | apply row_set_other | apply row_cell_other) | (with_reducible exact row_new (by (first | with_reducible assumption | (simp; done) | (go_light; first | omega | (simp; omega))))) | (with_reducible apply row_old) | (first | with_reducible assumption | (simp; done) | (go_light; first | omega | (simp; omega))) | rfl) hb8 (by (first | with_reducible assumption | (simp; done) | (go_light; first | omega | (simp; omega))))
  have M_v : rowOf w8 ((w5.heap.size + 1 + 1)) = some (TV.row v1) := rowOf_below (by repeat' first | (with_reducible first | assumption | apply row_drew | apply row_drewN | apply row_set_same | apply row_cell_same | apply row_set_other | apply row_cell_other) | (with_reducible exact row_new (by (first | with_reducible assumption | (simp; done) | (go_light; first | omega | (simp; omega))))) | (with_reducible apply row_old) | (first | with_reducible assumption | (simp; done) | (go_light; first | omega | (simp; omega))) | rfl) hb8 (by (first | with_reducible assumption | (simp; done) | (go_light; first | omega | (simp; omega))))
  clear hB; have hB := hB2; clear hB2
  clear N_t D_t L_t
  clear N_h D_h L_h
  clear N_v D_v L_v
  have N_t := M_t; clear M_t
  have L_t := rowOf_lt N_t
  have D_t := Nat.ne_of_lt L_t
  have N_h := M_h; clear M_h
  have L_h := rowOf_lt N_h
  have D_h := Nat.ne_of_lt L_h
  have N_v := M_v; clear M_v
  have L_v := rowOf_lt N_v
  have D_v := Nat.ne_of_lt L_v
  clear hb8
  have t_0 : w8.cell? ⟨w.heap.size, 0, none⟩ = some (.int .i64 t.d) := rowOf_cell N_t 0
  go_wp2_with fail
  rw [rounds_succ]
  clear t_0
  clear N_h L_h D_h
  clear N_v L_v D_v
  have Eh2 : w.heap.size ≠ (w8.heap.size + 1) := by omega
  have Ev2 : w.heap.size ≠ (w8.heap.size + 1 + 1) := by omega
  have Zh2 : w.heap.size ≤ (w8.heap.size + 1) := by omega
  have Zv2 : w.heap.size ≤ (w8.heap.size + 1 + 1) := by omega
  have Fh2 := Ne.symm Eh2
  have Fv2 := Ne.symm Ev2
  have G2 : (w8.heap.size + 1) ≠ (w8.heap.size + 1 + 1) := by omega
  have J2 := Ne.symm G2
  go_wp2_with fail
  refine (A2.out _).mono ?_
  rintro e w9 ⟨rfl, hb9⟩
  have hG : Below w8.heap.size w8 w9 := bstep (by repeat' first | (with_reducible first | assumption | exact Below.refl _ _ | apply blast | apply Below.drew | apply below_setRow | apply Below.alloc | apply Below.setCell) | (first | with_reducible assumption | (simp; done) | (go_light; first | omega | (simp; omega)))) hb9 (by (first | with_reducible assumption | (simp; done) | (go_light; first | omega | (simp; omega))))
  have hz := hG.size
  have N_h : rowOf w9 ((w8.heap.size + 1)) = some #[.int .i64 0, .int .i64 0, .int .i64 0, .int .i64 0, .int .i64 0, .int .i64 0, .int .i64 0, .int .i64 0, .int .i64 0, .int .i64 0, .int .i64 0] := rowOf_below (by repeat' first | (with_reducible first | assumption | apply row_drew | apply row_drewN | apply row_set_same | apply row_cell_same | apply row_set_other | apply row_cell_other) | (with_reducible exact row_new (by (first | with_reducible assumption | (simp; done) | (go_light; first | omega | (simp; omega))))) | (with_reducible apply row_old) | (first | with_reducible assumption | (simp; done) | (go_light; first | omega | (simp; omega))) | rfl) hb9 (by (first | with_reducible assumption | (simp; done) | (go_light; first | omega | (simp; omega))))
  have N_v : rowOf w9 ((w8.heap.size + 1 + 1)) = some #[.int .i64 0, .int .i64 0, .int .i64 0, .int .i64 0, .int .i64 0] := rowOf_below (by repeat' first | (with_reducible first | assumption | apply row_drew | apply row_drewN | apply row_set_same | apply row_cell_same | apply row_set_other | apply row_cell_other) | (with_reducible exact row_new (by (first | with_reducible assumption | (simp; done) | (go_light; first | omega | (simp; omega))))) | (with_reducible apply row_old) | (first | with_reducible assumption | (simp; done) | (go_light; first | omega | (simp; omega))) | rfl) hb9 (by (first | with_reducible assumption | (simp; done) | (go_light; first | omega | (simp; omega))))
  replace N_t := rowOf_below N_t hG L_t
  replace hB := bstep hB hG hB.size
  clear D_t L_t
  have L_t := rowOf_lt N_t
  have D_t := Nat.ne_of_lt L_t
  have L_h := rowOf_lt N_h
  have D_h := Nat.ne_of_lt L_h
  have L_v := rowOf_lt N_v
  have D_v := Nat.ne_of_lt L_v
  clear hb9 hG
  go_wp2_with fail
  refine (B2.out _).mono ?_
  rintro e w10 ⟨rfl, hb10⟩
  have hB2 : Below w.heap.size w w10 := bstep (by repeat' first | (with_reducible first | assumption | exact Below.refl _ _ | apply blast | apply Below.drew | apply below_setRow | apply Below.alloc | apply Below.setCell) | (first | with_reducible assumption | (simp; done) | (go_light; first | omega | (simp; omega)))) hb10 (by (first | with_reducible assumption | (simp; done) | (go_light; first | omega | (simp; omega))))
  have M_t : rowOf w10 (w.heap.size) = some (TV.row t) := rowOf_below (by repeat' first | (with_reducible first | assumption | apply row_drew | apply row_drewN | apply row_set_same | apply row_cell_same | apply row_set_other | apply row_cell_other) | (with_reducible exact row_new (by (first | with_reducible assumption | (simp; done) | (go_light; first | omega | (simp; omega))))) | (with_reducible apply row_old) | (first | with_reducible assumption | (simp; done) | (go_light; first | omega | (simp; omega))) | rfl) hb10 (by (first | with_reducible assumption | (simp; done) | (go_light; first | omega | (simp; omega))))
  have M_h : rowOf w10 ((w8.heap.size + 1)) = some (HV.row h2) := rowOf_below (by repeat' first | (with_reducible first | assumption | apply row_drew | apply row_drewN | apply row_set_same | apply row_cell_same | apply row_set_other | apply row_cell_other) | (with_reducible exact row_new (by (first | with_reducible assumption | (simp; done) | (go_light; first | omega | (simp; omega))))) | (with_reducible apply row_old) | (first | with_reducible assumption | (simp; done) | (go_light; first | omega | (simp; omega))) | rfl) hb10 (by (first | with_reducible assumption | (simp; done) | (go_light; first | omega | (simp; omega))))
  have M_v : rowOf w10 ((w8.heap.size + 1 + 1)) = some #[.int .i64 0, .int .i64 0, .int .i64 0, .int .i64 0, .int .i64 0] := rowOf_below (by repeat' first | (with_reducible first | assumption | apply row_drew | apply row_drewN | apply row_set_same | apply row_cell_same | apply row_set_other | apply row_cell_other) | (with_reducible exact row_new (by (first | with_reducible assumption | (simp; done) | (go_light; first | omega | (simp; omega))))) | (with_reducible apply row_old) | (first | with_reducible assumption | (simp; done) | (go_light; first | omega | (simp; omega))) | rfl) hb10 (by (first | with_reducible assumption | (simp; done) | (go_light; first | omega | (simp; omega))))
  clear hB; have hB := hB2; clear hB2
  clear N_t D_t L_t
  clear N_h D_h L_h
  clear N_v D_v L_v
  have N_t := M_t; clear M_t
  have L_t := rowOf_lt N_t
  have D_t := Nat.ne_of_lt L_t
  have N_h := M_h; clear M_h
  have L_h := rowOf_lt N_h
  have D_h := Nat.ne_of_lt L_h
  have N_v := M_v; clear M_v
  have L_v := rowOf_lt N_v
  have D_v := Nat.ne_of_lt L_v
  clear hb10
  go_wp2_with fail
  refine (C2.out _).mono ?_
  rintro e w11 ⟨rfl, hb11⟩
  have hB2 : Below w.heap.size w w11 := bstep (by repeat' first | (with_reducible first | assumption | exact Below.refl _ _ | apply blast | apply Below.drew | apply below_setRow | apply Below.alloc | apply Below.setCell) | (first | with_reducible assumption | (simp; done) | (go_light; first | omega | (simp; omega)))) hb11 (by (first | with_reducible assumption | (simp; done) | (go_light; first | omega | (simp; omega))))
  have M_t : rowOf w11 (w.heap.size) = some (TV.row t) := rowOf_below (by repeat' first | (with_reducible first | assumption | apply row_drew | apply row_drewN | apply row_set_same | apply row_cell_same | apply row_set_other | apply row_cell_other) | (with_reducible exact row_new (by (first | with_reducible assumption | (simp; done) | (go_light; first | omega | (simp; omega))))) | (with_reducible apply row_old) | (first | with_reducible assumption | (simp; done) | (go_light; first | omega | (simp; omega))) | rfl) hb11 (by (first | with_reducible assumption | (simp; done) | (go_light; first | omega | (simp; omega))))
  have M_h : rowOf w11 ((w8.heap.size + 1)) = some (HV.row h2) := rowOf_below (by repeat' first | (with_reducible first | assumption | apply row_drew | apply row_drewN | apply row_set_same | apply row_cell_same | apply row_set_other | apply row_cell_other) | (with_reducible exact row_new (by (first | with_reducible assumption | (simp; done) | (go_light; first | omega | (simp; omega))))) | (with_reducible apply row_old) | (first | with_reducible assumption | (simp; done) | (go_light; first | omega | (simp; omega))) | rfl) hb11 (by (first | with_reducible assumption | (simp; done) | (go_light; first | omega | (simp; omega))))
  have M_v : rowOf w11 ((w8.heap.size + 1 + 1)) = some (TV.row v2) := rowOf_below (by repeat' first | (with_reducible first | assumption | apply row_drew | apply row_drewN | apply row_set_same | apply row_cell_same | apply row_set_other | apply row_cell_other) | (with_reducible exact row_new (by (first | with_reducible assumption | (simp; done) | (go_light; first | omega | (simp; omega))))) | (with_reducible apply row_old) | (first | with_reducible assumption | (simp; done) | (go_light; first | omega | (simp; omega))) | rfl) hb11 (by (first | with_reducible assumption | (simp; done) | (go_light; first | omega | (simp; omega))))
  clear hB; have hB := hB2; clear hB2
  clear N_t D_t L_t
  clear N_h D_h L_h
  clear N_v D_v L_v
  have N_t := M_t; clear M_t
  have L_t := rowOf_lt N_t
  have D_t := Nat.ne_of_lt L_t
  have N_h := M_h; clear M_h
  have L_h := rowOf_lt N_h
  have D_h := Nat.ne_of_lt L_h
  have N_v := M_v; clear M_v
  have L_v := rowOf_lt N_v
  have D_v := Nat.ne_of_lt L_v
  clear hb11
  have t_0 : w11.cell? ⟨w.heap.size, 0, none⟩ = some (.int .i64 t.d) := rowOf_cell N_t 0
  go_wp2_with fail
  rw [rounds_succ]
  clear t_0
  clear N_h L_h D_h
  clear N_v L_v D_v
  have Eh3 : w.heap.size ≠ (w11.heap.size + 1) := by omega
  have Ev3 : w.heap.size ≠ (w11.heap.size + 1 + 1) := by omega
  have Zh3 : w.heap.size ≤ (w11.heap.size + 1) := by omega
  have Zv3 : w.heap.size ≤ (w11.heap.size + 1 + 1) := by omega
  have Fh3 := Ne.symm Eh3
  have Fv3 := Ne.symm Ev3
  have G3 : (w11.heap.size + 1) ≠ (w11.heap.size + 1 + 1) := by omega
  have J3 := Ne.symm G3
  go_wp2_with fail
  refine (A3.out _).mono ?_
  rintro e w12 ⟨rfl, hb12⟩
  have hG : Below w11.heap.size w11 w12 := bstep (by repeat' first | (with_reducible first | assumption | exact Below.refl _ _ | apply blast | apply Below.drew | apply below_setRow | apply Below.alloc | apply Below.setCell) | (first | with_reducible assumption | (simp; done) | (go_light; first | omega | (simp; omega)))) hb12 (by (first | with_reducible assumption | (simp; done) | (go_light; first | omega | (simp; omega))))
  have hz := hG.size
  have N_h : rowOf w12 ((w11.heap.size + 1)) = some #[.int .i64 0, .int .i64 0, .int .i64 0, .int .i64 0, .int .i64 0, .int .i64 0, .int .i64 0, .int .i64 0, .int .i64 0, .int .i64 0, .int .i64 0] := rowOf_below (by repeat' first | (with_reducible first | assumption | apply row_drew | apply row_drewN | apply row_set_same | apply row_cell_same | apply row_set_other | apply row_cell_other) | (with_reducible exact row_new (by (first | with_reducible assumption | (simp; done) | (go_light; first | omega | (simp; omega))))) | (with_reducible apply row_old) | (first | with_reducible assumption | (simp; done) | (go_light; first | omega | (simp; omega))) | rfl) hb12 (by (first | with_reducible assumption | (simp; done) | (go_light; first | omega | (simp; omega))))
  have N_v : rowOf w12 ((w11.heap.size + 1 + 1)) = some #[.int .i64 0, .int .i64 0, .int .i64 0, .int .i64 0, .int .i64 0] := rowOf_below (by repeat' first | (with_reducible first | assumption | apply row_drew | apply row_drewN | apply row_set_same | apply row_cell_same | apply row_set_other | apply row_cell_other) | (with_reducible exact row_new (by (first | with_reducible assumption | (simp; done) | (go_light; first | omega | (simp; omega))))) | (with_reducible apply row_old) | (first | with_reducible assumption | (simp; done) | (go_light; first | omega | (simp; omega))) | rfl) hb12 (by (first | with_reducible assumption | (simp; done) | (go_light; first | omega | (simp; omega))))
  replace N_t := rowOf_below N_t hG L_t
  replace hB := bstep hB hG hB.size
  clear D_t L_t
  have L_t := rowOf_lt N_t
  have D_t := Nat.ne_of_lt L_t
  have L_h := rowOf_lt N_h
  have D_h := Nat.ne_of_lt L_h
  have L_v := rowOf_lt N_v
  have D_v := Nat.ne_of_lt L_v
  clear hb12 hG
  go_wp2_with fail
  refine (B3.out _).mono ?_
  rintro e w13 ⟨rfl, hb13⟩
  have hB2 : Below w.heap.size w w13 := bstep (by repeat' first | (with_reducible first | assumption | exact Below.refl _ _ | apply blast | apply Below.drew | apply below_setRow | apply Below.alloc | apply Below.setCell) | (first | with_reducible assumption | (simp; done) | (go_light; first | omega | (simp; omega)))) hb13 (by (first | with_reducible assumption | (simp; done) | (go_light; first | omega | (simp; omega))))
  have M_t : rowOf w13 (w.heap.size) = some (TV.row t) := rowOf_below (by repeat' first | (with_reducible first | assumption | apply row_drew | apply row_drewN | apply row_set_same | apply row_cell_same | apply row_set_other | apply row_cell_other) | (with_reducible exact row_new (by (first | with_reducible assumption | (simp; done) | (go_light; first | omega | (simp; omega))))) | (with_reducible apply row_old) | (first | with_reducible assumption | (simp; done) | (go_light; first | omega | (simp; omega))) | rfl) hb13 (by (first | with_reducible assumption | (simp; done) | (go_light; first | omega | (simp; omega))))
  have M_h : rowOf w13 ((w11.heap.size + 1)) = some (HV.row h3) := rowOf_below (by repeat' first | (with_reducible first | assumption | apply row_drew | apply row_drewN | apply row_set_same | apply row_cell_same | apply row_set_other | apply row_cell_other) | (with_reducible exact row_new (by (first | with_reducible assumption | (simp; done) | (go_light; first | omega | (simp; omega))))) | (with_reducible apply row_old) | (first | with_reducible assumption | (simp; done) | (go_light; first | omega | (simp; omega))) | rfl) hb13 (by (first | with_reducible assumption | (simp; done) | (go_light; first | omega | (simp; omega))))
  have M_v : rowOf w13 ((w11.heap.size + 1 + 1)) = some #[.int .i64 0, .int .i64 0, .int .i64 0, .int .i64 0, .int .i64 0] := rowOf_below (by repeat' first | (with_reducible first | assumption | apply row_drew | apply row_drewN | apply row_set_same | apply row_cell_same | apply row_set_other | apply row_cell_other) | (with_reducible exact row_new (by (first | with_reducible assumption | (simp; done) | (go_light; first | omega | (simp; omega))))) | (with_reducible apply row_old) | (first | with_reducible assumption | (simp; done) | (go_light; first | omega | (simp; omega))) | rfl) hb13 (by (first | with_reducible assumption | (simp; done) | (go_light; first | omega | (simp; omega))))
  clear hB; have hB := hB2; clear hB2
  clear N_t D_t L_t
  clear N_h D_h L_h
  clear N_v D_v L_v
  have N_t := M_t; clear M_t
  have L_t := rowOf_lt N_t
  have D_t := Nat.ne_of_lt L_t
  have N_h := M_h; clear M_h
  have L_h := rowOf_lt N_h
  have D_h := Nat.ne_of_lt L_h
  have N_v := M_v; clear M_v
  have L_v := rowOf_lt N_v
  have D_v := Nat.ne_of_lt L_v
  clear hb13
  go_wp2_with fail
  refine (C3.out _).mono ?_
  rintro e w14 ⟨rfl, hb14⟩
  have hB2 : Below w.heap.size w w14 := bstep (by repeat' first | (with_reducible first | assumption | exact Below.refl _ _ | apply blast | apply Below.drew | apply below_setRow | apply Below.alloc | apply Below.setCell) | (first | with_reducible assumption | (simp; done) | (go_light; first | omega | (simp; omega)))) hb14 (by (first | with_reducible assumption | (simp; done) | (go_light; first | omega | (simp; omega))))
  have M_t : rowOf w14 (w.heap.size) = some (TV.row t) := rowOf_below (by repeat' first | (with_reducible first | assumption | apply row_drew | apply row_drewN | apply row_set_same | apply row_cell_same | apply row_set_other | apply row_cell_other) | (with_reducible exact row_new (by (first | with_reducible assumption | (simp; done) | (go_light; first | omega | (simp; omega))))) | (with_reducible apply row_old) | (first | with_reducible assumption | (simp; done) | (go_light; first | omega | (simp; omega))) | rfl) hb14 (by (first | with_reducible assumption | (simp; done) | (go_light; first | omega | (simp; omega))))
  have M_h : rowOf w14 ((w11.heap.size + 1)) = some (HV.row h3) := rowOf_below (by repeat' first | (with_reducible first | assumption | apply row_drew | apply row_drewN | apply row_set_same | apply row_cell_same | apply row_set_other | apply row_cell_other) | (with_reducible exact row_new (by (first | with_reducible assumption | (simp; done) | (go_light; first | omega | (simp; omega))))) | (with_reducible apply row_old) | (first | with_reducible assumption | (simp; done) | (go_light; first | omega | (simp; omega))) | rfl) hb14 (by (first | with_reducible assumption | (simp; done) | (go_light; first | omega | (simp; omega))))
  have M_v : rowOf w14 ((w11.heap.size + 1 + 1)) = some (TV.row v3) := rowOf_below (by repeat' first | (with_reducible first | assumption | apply row_drew | apply row_drewN | apply row_set_same | apply row_cell_same | apply row_set_other | apply row_cell_other) | (with_reducible exact row_new (by (first | with_reducible assumption | (simp; done) | (go_light; first | omega | (simp; omega))))) | (with_reducible apply row_old) | (first | with_reducible assumption | (simp; done) | (go_light; first | omega | (simp; omega))) | rfl) hb14 (by (first | with_reducible assumption | (simp; done) | (go_light; first | omega | (simp; omega))))
  clear hB; have hB := hB2; clear hB2
  clear N_t D_t L_t
  clear N_h D_h L_h
  clear N_v D_v L_v
  have N_t := M_t; clear M_t
  have L_t := rowOf_lt N_t
  have D_t := Nat.ne_of_lt L_t
  have N_h := M_h; clear M_h
  have L_h := rowOf_lt N_h
  have D_h := Nat.ne_of_lt L_h
  have N_v := M_v; clear M_v
  have L_v := rowOf_lt N_v
  have D_v := Nat.ne_of_lt L_v
  clear hb14
  have t_0 : w14.cell? ⟨w.heap.size, 0, none⟩ = some (.int .i64 t.d) := rowOf_cell N_t 0
  go_wp2_with fail
  rw [rounds_succ]
  clear t_0
  clear N_h L_h D_h
  go_wp2
  go_returns
  exact ⟨ret_bool rfl, by repeat' first | (with_reducible first | assumption | exact Below.refl _ _ | apply blast | apply Below.drew | apply below_setRow | apply Below.alloc | apply Below.setCell) | (first | with_reducible assumption | (simp; done) | (go_light; first | omega | (simp; omega)))⟩

set_option maxHeartbeats 16000000 in
theorem hopSteps_m_no (d : Int) (c0 c1 c2 c3 : Int) (h0 : HV) (x0 : TV) (h1 : HV) (v1 : TV) (x1 : TV) (h2 : HV) (v2 : TV) (x2 : TV) (h3 : HV) (v3 : TV) (x3 : TV) (hd2 : 2 ≤ d) (hd3 : d ≤ 3)
    (HAW : ∀ W, Calls Try.prog 11 #[] W (Ret (.bool true) W))
    (A0 : ∀ W, Calls Try.prog 20 #[.int .i64 d] W (Ret (.tuple #[(HV.val h0), .bool true]) W))
    (R0 : ∀ W, Calls Try.prog 21 #[.agg #[.int .i64 d, .int .i64 c0, .int .i64 c1, .int .i64 c2, .int .i64 c3]] W (fun e w' => e = .returned (.bool false) ∧ w' = W.alloc (.cells #[.int .i64 d, .int .i64 c0, .int .i64 c1, .int .i64 c2, .int .i64 c3] 26)))
    (C0 : ∀ W, Calls Try.prog 13 #[(HV.val h0), .agg #[.int .i64 d, .int .i64 c0, .int .i64 c1, .int .i64 c2, .int .i64 c3]] W (Ret (.tuple #[(TV.val x0), .bool false]) W))
    (A1 : ∀ W, Calls Try.prog 22 #[.int .i64 d] W (Ret (.tuple #[(HV.val h1), .bool true]) W))
    (B1 : ∀ W, Calls Try.prog 23 #[.agg #[.int .i64 d, .int .i64 c0, .int .i64 c1, .int .i64 c2, .int .i64 c3]] W (Ret (.tuple #[(TV.val v1), .bool false]) W))
    (C1 : ∀ W, Calls Try.prog 13 #[(HV.val h1), .agg #[.int .i64 d, .int .i64 c0, .int .i64 c1, .int .i64 c2, .int .i64 c3]] W (Ret (.tuple #[(TV.val x1), .bool false]) W))
    (A2 : ∀ W, Calls Try.prog 24 #[.int .i64 d] W (Ret (.tuple #[(HV.val h2), .bool true]) W))
    (B2 : ∀ W, Calls Try.prog 25 #[.agg #[.int .i64 d, .int .i64 c0, .int .i64 c1, .int .i64 c2, .int .i64 c3]] W (Ret (.tuple #[(TV.val v2), .bool false]) W))
    (C2 : ∀ W, Calls Try.prog 13 #[(HV.val h2), .agg #[.int .i64 d, .int .i64 c0, .int .i64 c1, .int .i64 c2, .int .i64 c3]] W (Ret (.tuple #[(TV.val x2), .bool false]) W))
    (A3 : ∀ W, Calls Try.prog 26 #[.int .i64 d] W (Ret (.tuple #[(HV.val h3), .bool true]) W))
    (B3 : ∀ W, Calls Try.prog 27 #[.agg #[.int .i64 d, .int .i64 c0, .int .i64 c1, .int .i64 c2, .int .i64 c3]] W (Ret (.tuple #[(TV.val v3), .bool false]) W))
    (C3 : ∀ W, Calls Try.prog 13 #[(HV.val h3), .agg #[.int .i64 d, .int .i64 c0, .int .i64 c1, .int .i64 c2, .int .i64 c3]] W (Ret (.tuple #[(TV.val x3), .bool false]) W)) (w : World) :
    Calls Try.prog 4 #[.int .i64 d, .agg #[.int .i64 d, .int .i64 c0, .int .i64 c1, .int .i64 c2, .int .i64 c3]] w (Ret (.bool true) w) := by
  replace HAW := Lib.hid HAW
  replace A0 := Lib.hid A0
  replace R0 := Lib.hid R0
  replace C0 := Lib.hid C0
  replace A1 := Lib.hid A1
  replace B1 := Lib.hid B1
  replace C1 := Lib.hid C1
  replace A2 := Lib.hid A2
  replace B2 := Lib.hid B2
  replace C2 := Lib.hid C2
  replace A3 := Lib.hid A3
  replace B3 := Lib.hid B3
  replace C3 := Lib.hid C3
  go_enter Try.func4, Try.ntmps4
  go_wp2_with fail
  refine (HAW.out _).mono ?_
  rintro e w1 ⟨rfl, hb1⟩
  have hG : Below w.heap.size w w1 := bstep (by repeat' first | (with_reducible first | assumption | exact Below.refl _ _ | apply blast | apply Below.drew | apply below_setRow | apply Below.alloc | apply Below.setCell) | (first | with_reducible assumption | (simp; done) | (go_light; first | omega | (simp; omega)))) hb1 (by (first | with_reducible assumption | (simp; done) | (go_light; first | omega | (simp; omega))))
  have hz := hG.size
  have N_t : rowOf w1 (w.heap.size) = some #[.int .i64 d, .int .i64 c0, .int .i64 c1, .int .i64 c2, .int .i64 c3] := rowOf_below (by repeat' first | (with_reducible first | assumption | apply row_drew | apply row_drewN | apply row_set_same | apply row_cell_same | apply row_set_other | apply row_cell_other) | (with_reducible exact row_new (by (first | with_reducible assumption | (simp; done) | (go_light; first | omega | (simp; omega))))) | (with_reducible apply row_old) | (first | with_reducible assumption | (simp; done) | (go_light; first | omega | (simp; omega))) | rfl) hb1 (by (first | with_reducible assumption | (simp; done) | (go_light; first | omega | (simp; omega))))
  have hB := hG
  have L_t := rowOf_lt N_t
  have D_t := Nat.ne_of_lt L_t
  clear hb1 hG
  go_wp2_with fail
  refine wp_loop_rounds 5 ?_
  rw [rounds_succ]
  have Eh0 : w.heap.size ≠ w1.heap.size := by omega
  have Ev0 : w.heap.size ≠ (w1.heap.size + 1) := by omega
  have Zh0 : w.heap.size ≤ w1.heap.size := by omega
  have Zv0 : w.heap.size ≤ (w1.heap.size + 1) := by omega
  have Fh0 := Ne.symm Eh0
  have Fv0 := Ne.symm Ev0
  have G0 : w1.heap.size ≠ (w1.heap.size + 1) := by omega
  have J0 := Ne.symm G0
  go_wp2_with fail
  refine (A0.out _).mono ?_
  rintro e w2 ⟨rfl, hb2⟩
  have hG : Below w1.heap.size w1 w2 := bstep (by repeat' first | (with_reducible first | assumption | exact Below.refl _ _ | apply blast | apply Below.drew | apply below_setRow | apply Below.alloc | apply Below.setCell) | (first | with_reducible assumption | (simp; done) | (go_light; first | omega | (simp; omega)))) hb2 (by (first | with_reducible assumption | (simp; done) | (go_light; first | omega | (simp; omega))))
  have hz := hG.size
  have N_h : rowOf w2 (w1.heap.size) = some #[.int .i64 0, .int .i64 0, .int .i64 0, .int .i64 0, .int .i64 0, .int .i64 0, .int .i64 0, .int .i64 0, .int .i64 0, .int .i64 0, .int .i64 0] := rowOf_below (by repeat' first | (with_reducible first | assumption | apply row_drew | apply row_drewN | apply row_set_same | apply row_cell_same | apply row_set_other | apply row_cell_other) | (with_reducible exact row_new (by (first | with_reducible assumption | (simp; done) | (go_light; first | omega | (simp; omega))))) | (with_reducible apply row_old) | (first | with_reducible assumption | (simp; done) | (go_light; first | omega | (simp; omega))) | rfl) hb2 (by (first | with_reducible assumption | (simp; done) | (go_light; first | omega | (simp; omega))))
  have N_v : rowOf w2 ((w1.heap.size + 1)) = some #[.int .i64 0, .int .i64 0, .int .i64 0, .int .i64 0, .int .i64 0] := rowOf_below (by repeat' first | (with_reducible first | assumption | apply row_drew | apply row_drewN | apply row_set_same | apply row_cell_same | apply row_set_other | apply row_cell_other) | (with_reducible exact row_new (by (first | with_reducible assumption | (simp; done) | (go_light; first | omega | (simp; omega))))) | (with_reducible apply row_old) | (first | with_reducible assumption | (simp; done) | (go_light; first | omega | (simp; omega))) | rfl) hb2 (by (first | with_reducible assumption | (simp; done) | (go_light; first | omega | (simp; omega))))
  replace N_t := rowOf_below N_t hG L_t
  replace hB := bstep hB hG hB.size
  clear D_t L_t
  have L_t := rowOf_lt N_t
  have D_t := Nat.ne_of_lt L_t
  have L_h := rowOf_lt N_h
  have D_h := Nat.ne_of_lt L_h
  have L_v := rowOf_lt N_v
  have D_v := Nat.ne_of_lt L_v
  clear hb2 hG
  go_wp2_with fail
  refine gen_world (fun W2 => Below w.heap.size w W2 ∧ rowOf W2 (w.heap.size) = some #[.int .i64 d, .int .i64 c0, .int .i64 c1, .int .i64 c2, .int .i64 c3] ∧ rowOf W2 (w1.heap.size) = some (HV.row h0) ∧ rowOf W2 ((w1.heap.size + 1)) = some #[.int .i64 0, .int .i64 0, .int .i64 0, .int .i64 0, .int .i64 0]) ⟨by repeat' first | (with_reducible first | assumption | exact Below.refl _ _ | apply blast | apply Below.drew | apply below_setRow | apply Below.alloc | apply Below.setCell) | (first | with_reducible assumption | (simp; done) | (go_light; first | omega | (simp; omega))), by repeat' first | (with_reducible first | assumption | apply row_drew | apply row_drewN | apply row_set_same | apply row_cell_same | apply row_set_other | apply row_cell_other) | (with_reducible exact row_new (by (first | with_reducible assumption | (simp; done) | (go_light; first | omega | (simp; omega))))) | (with_reducible apply row_old) | (first | with_reducible assumption | (simp; done) | (go_light; first | omega | (simp; omega))) | rfl, by repeat' first | (with_reducible first | assumption | apply row_drew | apply row_drewN | apply row_set_same | apply row_cell_same | apply row_set_other | apply row_cell_other) | (with_reducible exact row_new (by (first | with_reducible assumption | (simp; done) | (go_light; first | omega | (simp; omega))))) | (with_reducible apply row_old) | (first | with_reducible assumption | (simp; done) | (go_light; first | omega | (simp; omega))) | rfl, by repeat' first | (with_reducible first | assumption | apply row_drew | apply row_drewN | apply row_set_same | apply row_cell_same | apply row_set_other | apply row_cell_other) | (with_reducible exact row_new (by (first | with_reducible assumption | (simp; done) | (go_light; first | omega | (simp; omega))))) | (with_reducible apply row_old) | (first | with_reducible assumption | (simp; done) | (go_light; first | omega | (simp; omega))) | rfl⟩ ?_
  clear hB
  clear N_t L_t D_t
  clear N_h L_h D_h
  clear N_v L_v D_v
  rintro w3 ⟨hB, N_t, N_h, N_v⟩
  have L_t : w.heap.size < w3.heap.size := rowOf_lt N_t
  have D_t : w.heap.size ≠ w3.heap.size := Nat.ne_of_lt L_t
  have L_h : w1.heap.size < w3.heap.size := rowOf_lt N_h
  have D_h : w1.heap.size ≠ w3.heap.size := Nat.ne_of_lt L_h
  have L_v : (w1.heap.size + 1) < w3.heap.size := rowOf_lt N_v
  have D_v : (w1.heap.size + 1) ≠ w3.heap.size := Nat.ne_of_lt L_v
  have t_0 : w3.cell? ⟨w.heap.size, 0, none⟩ = some (.int .i64 d) := rowOf_cell N_t 0
  have t_1 : w3.cell? ⟨w.heap.size, 1, none⟩ = some (.int .i64 c0) := rowOf_cell N_t 1
  have t_2 : w3.cell? ⟨w.heap.size, 2, none⟩ = some (.int .i64 c1) := rowOf_cell N_t 2
  have t_3 : w3.cell? ⟨w.heap.size, 3, none⟩ = some (.int .i64 c2) := rowOf_cell N_t 3
  have t_4 : w3.cell? ⟨w.heap.size, 4, none⟩ = some (.int .i64 c3) := rowOf_cell N_t 4
  have v_0 : w3.cell? ⟨(w1.heap.size + 1), 0, none⟩ = some (.int .i64 0) := rowOf_cell N_v 0
  have v_f0 := rowOf_frozen N_v 0
  have v_1 : w3.cell? ⟨(w1.heap.size + 1), 1, none⟩ = some (.int .i64 0) := rowOf_cell N_v 1
  have v_f1 := rowOf_frozen N_v 1
  have v_2 : w3.cell? ⟨(w1.heap.size + 1), 2, none⟩ = some (.int .i64 0) := rowOf_cell N_v 2
  have v_f2 := rowOf_frozen N_v 2
  have v_3 : w3.cell? ⟨(w1.heap.size + 1), 3, none⟩ = some (.int .i64 0) := rowOf_cell N_v 3
  have v_f3 := rowOf_frozen N_v 3
  have v_4 : w3.cell? ⟨(w1.heap.size + 1), 4, none⟩ = some (.int .i64 0) := rowOf_cell N_v 4
  have v_f4 := rowOf_frozen N_v 4
  refine cut_at (fun a => ((((a.put (some 37) (.agg #[.int .i64 d, .int .i64 c0, .int .i64 c1, .int .i64 c2, .int .i64 c3])).put (some 38) (.agg #[.int .i64 d, .int .i64 c0, .int .i64 c1, .int .i64 c2, .int .i64 c3])).put (some 39) (.bool false)).put (some 9) (.bool false))) (fun W2 => Below w.heap.size w W2 ∧ rowOf W2 (w.heap.size) = some #[.int .i64 d, .int .i64 c0, .int .i64 c1, .int .i64 c2, .int .i64 c3] ∧ rowOf W2 (w1.heap.size) = some (HV.row h0) ∧ rowOf W2 ((w1.heap.size + 1)) = some #[.int .i64 d, .int .i64 c0, .int .i64 c1, .int .i64 c2, .int .i64 c3]) ?_ ?_
  · go_region_with (go_at_call 21; refine (R0.out _).mono ?_; rintro e w' ⟨rfl, rfl⟩)
    all_goals exact ⟨rfl, by repeat' first | (with_reducible first | assumption | exact Below.refl _ _ | apply blast | apply Below.drew | apply below_setRow | apply Below.alloc | apply Below.setCell) | (first | with_reducible assumption | (simp; done) | (go_light; first | omega | (simp; omega))), by repeat' first | (with_reducible first | assumption | apply row_drew | apply row_drewN | apply row_set_same | apply row_cell_same | apply row_set_other | apply row_cell_other) | (with_reducible exact row_new (by (first | with_reducible assumption | (simp; done) | (go_light; first | omega | (simp; omega))))) | (with_reducible apply row_old) | (first | with_reducible assumption | (simp; done) | (go_light; first | omega | (simp; omega))) | rfl, by repeat' first | (with_reducible first | assumption | apply row_drew | apply row_drewN | apply row_set_same | apply row_cell_same | apply row_set_other | apply row_cell_other) | (with_reducible exact row_new (by (first | with_reducible assumption | (simp; done) | (go_light; first | omega | (simp; omega))))) | (with_reducible apply row_old) | (first | with_reducible assumption | (simp; done) | (go_light; first | omega | (simp; omega))) | rfl, by repeat' first | (with_reducible first | assumption | apply row_drew | apply row_drewN | apply row_set_same | apply row_cell_same | apply row_set_other | apply row_cell_other) | (with_reducible exact row_new (by (first | with_reducible assumption | (simp; done) | (go_light; first | omega | (simp; omega))))) | (with_reducible apply row_old) | (first | with_reducible assumption | (simp; done) | (go_light; first | omega | (simp; omega))) | rfl⟩
  clear t_0 t_1 t_2 t_3 t_4
  clear v_0 v_f0 v_1 v_f1 v_2 v_f2 v_3 v_f3 v_4 v_f4
  clear hB
  clear N_t L_t D_t
  clear N_h L_h D_h
  clear N_v L_v D_v
  rintro w4 ⟨hB, N_t, N_h, N_v⟩
  have L_t : w.heap.size < w4.heap.size := rowOf_lt N_t
  have D_t : w.heap.size ≠ w4.heap.size := Nat.ne_of_lt L_t
  have L_h : w1.heap.size < w4.heap.size := rowOf_lt N_h
  have D_h : w1.heap.size ≠ w4.heap.size := Nat.ne_of_lt L_h
  have L_v : (w1.heap.size + 1) < w4.heap.size := rowOf_lt N_v
  have D_v : (w1.heap.size + 1) ≠ w4.heap.size := Nat.ne_of_lt L_v
  go_simp
  go_wp2_with fail
  refine (C0.out _).mono ?_
  rintro e w5 ⟨rfl, hb5⟩
  have hG : Below w4.heap.size w4 w5 := bstep (by repeat' first | (with_reducible first | assumption | exact Below.refl _ _ | apply blast | apply Below.drew | apply below_setRow | apply Below.alloc | apply Below.setCell) | (first | with_reducible assumption | (simp; done) | (go_light; first | omega | (simp; omega)))) hb5 (by (first | with_reducible assumption | (simp; done) | (go_light; first | omega | (simp; omega))))
  have hz := hG.size
  replace N_t := rowOf_below N_t hG L_t
  replace N_h := rowOf_below N_h hG L_h
  replace N_v := rowOf_below N_v hG L_v
  replace hB := bstep hB hG hB.size
  clear D_t L_t
  have L_t := rowOf_lt N_t
  have D_t := Nat.ne_of_lt L_t
  clear D_h L_h
  have L_h := rowOf_lt N_h
  have D_h := Nat.ne_of_lt L_h
  clear D_v L_v
  have L_v := rowOf_lt N_v
  have D_v := Nat.ne_of_lt L_v
  clear hb5 hG
  have t_0 : w5.cell? ⟨w.heap.size, 0, none⟩ = some (.int .i64 d) := rowOf_cell N_t 0
  go_wp2_with fail
  rw [rounds_succ]
  clear t_0
  clear N_h L_h D_h
  clear N_v L_v D_v
  have Eh1 : w.heap.size ≠ (w5.heap.size + 1) := by omega
  have Ev1 : w.heap.size ≠ (w5.heap.size + 1 + 1) := by omega
  have Zh1 : w.heap.size ≤ (w5.heap.size + 1) := by omega
  have Zv1 : w.heap.size ≤ (w5.heap.size + 1 + 1) := by omega
  have Fh1 := Ne.symm Eh1
  have Fv1 := Ne.symm Ev1
  have G1 : (w5.heap.size + 1) ≠ (w5.heap.size + 1 + 1) := by omega
  have J1 := Ne.symm G1
  go_wp2_with fail
  refine (A1.out _).mono ?_
  rintro e w6 ⟨rfl, hb6⟩
  have hG : Below w5.heap.size w5 w6 := bstep (by repeat' first | (with_reducible first | assumption | exact Below.refl _ _ | apply blast | apply Below.drew | apply below_setRow | apply Below.alloc | apply Below.setCell) | (first | with_reducible assumption | (simp; done) | (go_light; first | omega | (simp; omega)))) hb6 (by (first | with_reducible assumption | (simp; done) | (go_light; first | omega | (simp; omega))))
  have hz := hG.size
  have N_h : rowOf w6 ((w5.heap.size + 1)) = some #[.int .i64 0, .int .i64 0, .int .i64 0, .int .i64 0, .int .i64 0, .int .i64 0, .int .i64 0, .int .i64 0, .int .i64 0, .int .i64 0, .int .i64 0] := rowOf_below (by repeat' first | (with_reducible first | assumption | apply row_drew | apply row_drewN | apply row_set_same | apply row_cell_same | apply row_set_other | apply row_cell_other) | (with_reducible exact row_new (by (first | with_reducible assumption | (simp; done) | (go_light; first | omega | (simp; omega))))) | (with_reducible apply row_old) | (first | with_reducible assumption | (simp; done) | (go_light; first | omega | (simp; omega))) | rfl) hb6 (by (first | with_reducible assumption | (simp; done) | (go_light; first | omega | (simp; omega))))
  have N_v : rowOf w6 ((w5.heap.size + 1 + 1)) = some #[.int .i64 0, .int .i64 0, .int .i64 0, .int .i64 0, .int .i64 0] := rowOf_below (by repeat' first | (with_reducible first | assumption | apply row_drew | apply row_drewN | apply row_set_same | apply row_cell_same | apply row_set_other | apply row_cell_other) | (with_reducible exact row_new (by (first | with_reducible assumption | (simp; done) | (go_light; first | omega | (simp; omega))))) | (with_reducible apply row_old) | (first | with_reducible assumption | (simp; done) | (go_light; first | omega | (simp; omega))) | rfl) hb6 (by (first | with_reducible assumption | (simp; done) | (go_light; first | omega | (simp; omega))))
  replace N_t := rowOf_below N_t hG L_t
  replace hB := bstep hB hG hB.size
  clear D_t L_t
  have L_t := rowOf_lt N_t
  have D_t := Nat.ne_of_lt L_t
  have L_h := rowOf_lt N_h
  have D_h := Nat.ne_of_lt L_h
  have L_v := rowOf_lt N_v
  have D_v := Nat.ne_of_lt L_v
  clear hb6 hG
  go_wp2_with fail
  refine (B1.out _).mono ?_
  rintro e w7 ⟨rfl, hb7⟩
  have hB2 : Below w.heap.size w w7 := bstep (by repeat' first | (with_reducible first | assumption | exact Below.refl _ _ | apply blast | apply Below.drew | apply below_setRow | apply Below.alloc | apply Below.setCell) | (first | with_reducible assumption | (simp; done) | (go_light; first | omega | (simp; omega)))) hb7 (by (first | with_reducible assumption | (simp; done) | (go_light; first | omega | (simp; omega))))
  have M_t : rowOf w7 (w.heap.size) = some #[.int .i64 d, .int .i64 c0, .int .i64 c1, .int .i64 c2, .int .i64 c3] := rowOf_below (by repeat' first | (with_reducible first | assumption | apply row_drew | apply row_drewN | apply row_set_same | apply row_cell_same | apply row_set_other | apply row_cell_other) | (with_reducible exact row_new (by (first | with_reducible assumption | (simp; done) | (go_light; first | omega | (simp; omega))))) | (with_reducible apply row_old) | (first | with_reducible assumption | (simp; done) | (go_light; first | omega | (simp; omega))) | rfl) hb7 (by (first | with_reducible assumption | (simp; done) | (go_light; first | omega | (simp; omega))))
  have M_h : rowOf w7 ((w5.heap.size + 1)) = some (HV.row h1) := rowOf_below (by repeat' first | (with_reducible first | assumption | apply row_drew | apply row_drewN | apply row_set_same | apply row_cell_same | apply row_set_other | apply row_cell_other) | (with_reducible exact row_new (by (first | with_reducible assumption | (simp; done) | (go_light; first | omega | (simp; omega))))) | (with_reducible apply row_old) | (first | with_reducible assumption | (simp; done) | (go_light; first | omega | (simp; omega))) | rfl) hb7 (by (first | with_reducible assumption | (simp; done) | (go_light; first | omega | (simp; omega))))
  have M_v : rowOf w7 ((w5.heap.size + 1 + 1)) = some #[.int .i64 0, .int .i64 0, .int .i64 0, .int .i64 0, .int .i64 0] := rowOf_below (by repeat' first | (with_reducible first | assumption | apply row_drew | apply row_drewN | apply row_set_same | apply row_cell_same | apply row_set_other | apply row_cell_other) | (with_reducible exact row_new (by (first | with_reducible assumption | (simp; done) | (go_light; first | omega | (simp; omega))))) | (with_reducible apply row_old) | (first | with_reducible assumption | (simp; done) | (go_light; first | omega | (simp; omega))) | rfl) hb7 (by (first | with_reducible assumption | (simp; done) | (go_light; first | omega | (simp; omega))))
  clear hB; have hB := hB2; clear hB2
  clear N_t D_t L_t
  clear N_h D_h L_h
  clear N_v D_v L_v
  have N_t := M_t; clear M_t
  have L_t := rowOf_lt N_t
  have D_t := Nat.ne_of_lt L_t
  have N_h := M_h; clear M_h
  have L_h := rowOf_lt N_h
  have D_h := Nat.ne_of_lt L_h
  have N_v := M_v; clear M_v
  have L_v := rowOf_lt N_v
  have D_v := Nat.ne_of_lt L_v
  clear hb7
  go_wp2_with fail
  refine (C1.out _).mono ?_
  rintro e w8 ⟨rfl, hb8⟩
  have hB2 : Below w.heap.size w w8 := bstep (by repeat' first | (with_reducible first | assumption | exact Below.refl _ _ | apply blast | apply Below.drew | apply below_setRow | apply Below.alloc | apply Below.setCell) | (first | with_reducible assumption | (simp; done) | (go_light; first | omega | (simp; omega)))) hb8 (by (first | with_reducible assumption | (simp; done) | (go_light; first | omega | (simp; omega))))
  have M_t : rowOf w8 (w.heap.size) = some #[.int .i64 d, .int .i64 c0, .int .i64 c1, .int .i64 c2, .int .i64 c3] := rowOf_below (by repeat' first | (with_reducible first | assumption | apply row_drew | apply row_drewN | apply row_set_same | apply row_cell_same | apply row_set_other | apply row_cell_other) | (with_reducible exact row_new (by (first | with_reducible assumption | (simp; done) | (go_light; first | omega | (simp; omega))))) | (with_reducible apply row_old) | (first | with_reducible assumption | (simp; done) | (go_light; first | omega | (simp; omega))) | rfl) hb8 (by (first | with_reducible assumption | (simp; done) | (go_light; first | omega | (simp; omega))))
  have M_h : rowOf w8 ((w5.heap.size + 1)) = some (HV.row h1) := rowOf_below (by repeat' first | (with_reducible first | assumption | apply row_drew | apply row_drewN | apply row_set_same | apply row_cell_same | apply row_set_other | apply row_cell_other) | (with_reducible exact row_new (by (first | with_reducible assumption | (simp; done) | (go_light; first | omega | (simp; omega))))) | (with_reducible apply row_old) | (first | with_reducible assumption | (simp; done) | (go_light; first | omega | (simp; omega))) | rfl) hb8 (by (first | with_reducible assumption | (simp; done) | (go_light; first | omega | (simp; omega))))
  have M_v : rowOf w8 ((w5.heap.size + 1 + 1)) = some (TV.row v1) := rowOf_below (by repeat' first | (with_reducible first | assumption | apply row_drew | apply row_drewN | apply row_set_same | apply row_cell_same | apply row_set_other | apply row_cell_other) | (with_reducible exact row_new (by (first | with_reducible assumption | (simp; done) | (go_light; first | omega | (simp; omega))))) | (with_reducible apply row_old) | (first | with_reducible assumption | (simp; done) | (go_light; first | omega | (simp; omega))) | rfl) hb8 (by (first | with_reducible assumption | (simp; done) | (go_light; first | omega | (simp; omega))))
  clear hB; have hB := hB2; clear hB2
  clear N_t D_t L_t
  clear N_h D_h L_h
  clear N_v D_v L_v
  have N_t := M_t; clear M_t
  have L_t := rowOf_lt N_t
  have D_t := Nat.ne_of_lt L_t
  have N_h := M_h; clear M_h
  have L_h := rowOf_lt N_h
  have D_h := Nat.ne_of_lt L_h
  have N_v := M_v; clear M_v
  have L_v := rowOf_lt N_v
  have D_v := Nat.ne_of_lt L_v
  clear hb8
  have t_0 : w8.cell? ⟨w.heap.size, 0, none⟩ = some (.int .i64 d) := rowOf_cell N_t 0
  go_wp2_with fail
  rw [rounds_succ]
  clear t_0
  clear N_h L_h D_h
  clear N_v L_v D_v
  have Eh2 : w.heap.size ≠ (w8.heap.size + 1) := by omega
  have Ev2 : w.heap.size ≠ (w8.heap.size + 1 + 1) := by omega
  have Zh2 : w.heap.size ≤ (w8.heap.size + 1) := by omega
  have Zv2 : w.heap.size ≤ (w8.heap.size + 1 + 1) := by omega
  have Fh2 := Ne.symm Eh2
  have Fv2 := Ne.symm Ev2
  have G2 : (w8.heap.size + 1) ≠ (w8.heap.size + 1 + 1) := by omega
  have J2 := Ne.symm G2
  go_wp2_with fail
  refine (A2.out _).mono ?_
  rintro e w9 ⟨rfl, hb9⟩
  have hG : Below w8.heap.size w8 w9 := bstep (by repeat' first | (with_reducible first | assumption | exact Below.refl _ _ | apply blast | apply Below.drew | apply below_setRow | apply Below.alloc | apply Below.setCell) | (first | with_reducible assumption | (simp; done) | (go_light; first | omega | (simp; omega)))) hb9 (by (first | with_reducible assumption | (simp; done) | (go_light; first | omega | (simp; omega))))
  have hz := hG.size
  have N_h : rowOf w9 ((w8.heap.size + 1)) = some #[.int .i64 0, .int .i64 0, .int .i64 0, .int .i64 0, .int .i64 0, .int .i64 0, .int .i64 0, .int .i64 0, .int .i64 0, .int .i64 0, .int .i64 0] := rowOf_below (by repeat' first | (with_reducible first | assumption | apply row_drew | apply row_drewN | apply row_set_same | apply row_cell_same | apply row_set_other | apply row_cell_other) | (with_reducible exact row_new (by (first | with_reducible assumption | (simp; done) | (go_light; first | omega | (simp; omega))))) | (with_reducible apply row_old) | (first | with_reducible assumption | (simp; done) | (go_light; first | omega | (simp; omega))) | rfl) hb9 (by (first | with_reducible assumption | (simp; done) | (go_light; first | omega | (simp; omega))))
  have N_v : rowOf w9 ((w8.heap.size + 1 + 1)) = some #[.int .i64 0, .int .i64 0, .int .i64 0, .int .i64 0, .int .i64 0] := rowOf_below (by repeat' first | (with_reducible first | assumption | apply row_drew | apply row_drewN | apply row_set_same | apply row_cell_same | apply row_set_other | apply row_cell_other) | (with_reducible exact row_new (by (first | with_reducible assumption | (simp; done) | (go_light; first | omega | (simp; omega))))) | (with_reducible apply row_old) | (first | with_reducible assumption | (simp; done) | (go_light; first | omega | (simp; omega))) | rfl) hb9 (by (first | with_reducible assumption | (simp; done) | (go_light; first | omega | (simp; omega))))
  replace N_t := rowOf_below N_t hG L_t
  replace hB := bstep hB hG hB.size
  clear D_t L_t
  have L_t := rowOf_lt N_t
  have D_t := Nat.ne_of_lt L_t
  have L_h := rowOf_lt N_h
  have D_h := Nat.ne_of_lt L_h
  have L_v := rowOf_lt N_v
  have D_v := Nat.ne_of_lt L_v
  clear hb9 hG
  go_wp2_with fail
  refine (B2.out _).mono ?_
  rintro e w10 ⟨rfl, hb10⟩
  have hB2 : Below w.heap.size w w10 := bstep (by repeat' first | (with_reducible first | assumption | exact Below.refl _ _ | apply blast | apply Below.drew | apply below_setRow | apply Below.alloc | apply Below.setCell) | (first | with_reducible assumption | (simp; done) | (go_light; first | omega | (simp; omega)))) hb10 (by (first | with_reducible assumption | (simp; done) | (go_light; first | omega | (simp; omega))))
  have M_t : rowOf w10 (w.heap.size) = some #[.int .i64 d, .int .i64 c0, .int .i64 c1, .int .i64 c2, .int .i64 c3] := rowOf_below (by repeat' first | (with_reducible first | assumption | apply row_drew | apply row_drewN | apply row_set_same | apply row_cell_same | apply row_set_other | apply row_cell_other) | (with_reducible exact row_new (by (first | with_reducible assumption | (simp; done) | (go_light; first | omega | (simp; omega))))) | (with_reducible apply row_old) | (first | with_reducible assumption | (simp; done) | (go_light; first | omega | (simp; omega))) | rfl) hb10 (by (first | with_reducible assumption | (simp; done) | (go_light; first | omega | (simp; omega))))
  have M_h : rowOf w10 ((w8.heap.size + 1)) = some (HV.row h2) := rowOf_below (by repeat' first | (with_reducible first | assumption | apply row_drew | apply row_drewN | apply row_set_same | apply row_cell_same | apply row_set_other | apply row_cell_other) | (with_reducible exact row_new (by (first | with_reducible assumption | (simp; done) | (go_light; first | omega | (simp; omega))))) | (with_reducible apply row_old) | (first | with_reducible assumption | (simp; done) | (go_light; first | omega | (simp; omega))) | rfl) hb10 (by (first | with_reducible assumption | (simp; done) | (go_light; first | omega | (simp; omega))))
  have M_v : rowOf w10 ((w8.heap.size + 1 + 1)) = some #[.int .i64 0, .int .i64 0, .int .i64 0, .int .i64 0, .int .i64 0] := rowOf_below (by repeat' first | (with_reducible first | assumption | apply row_drew | apply row_drewN | apply row_set_same | apply row_cell_same | apply row_set_other | apply row_cell_other) | (with_reducible exact row_new (by (first | with_reducible assumption | (simp; done) | (go_light; first | omega | (simp; omega))))) | (with_reducible apply row_old) | (first | with_reducible assumption | (simp; done) | (go_light; first | omega | (simp; omega))) | rfl) hb10 (by (first | with_reducible assumption | (simp; done) | (go_light; first | omega | (simp; omega))))
  clear hB; have hB := hB2; clear hB2
  clear N_t D_t L_t
  clear N_h D_h L_h
  clear N_v D_v L_v
  have N_t := M_t; clear M_t
  have L_t := rowOf_lt N_t
  have D_t := Nat.ne_of_lt L_t
  have N_h := M_h; clear M_h
  have L_h := rowOf_lt N_h
  have D_h := Nat.ne_of_lt L_h
  have N_v := M_v; clear M_v
  have L_v := rowOf_lt N_v
  have D_v := Nat.ne_of_lt L_v
  clear hb10
  go_wp2_with fail
  refine (C2.out _).mono ?_
  rintro e w11 ⟨rfl, hb11⟩
  have hB2 : Below w.heap.size w w11 := bstep (by repeat' first | (with_reducible first | assumption | exact Below.refl _ _ | apply blast | apply Below.drew | apply below_setRow | apply Below.alloc | apply Below.setCell) | (first | with_reducible assumption | (simp; done) | (go_light; first | omega | (simp; omega)))) hb11 (by (first | with_reducible assumption | (simp; done) | (go_light; first | omega | (simp; omega))))
  have M_t : rowOf w11 (w.heap.size) = some #[.int .i64 d, .int .i64 c0, .int .i64 c1, .int .i64 c2, .int .i64 c3] := rowOf_below (by repeat' first | (with_reducible first | assumption | apply row_drew | apply row_drewN | apply row_set_same | apply row_cell_same | apply row_set_other | apply row_cell_other) | (with_reducible exact row_new (by (first | with_reducible assumption | (simp; done) | (go_light; first | omega | (simp; omega))))) | (with_reducible apply row_old) | (first | with_reducible assumption | (simp; done) | (go_light; first | omega | (simp; omega))) | rfl) hb11 (by (first | with_reducible assumption | (simp; done) | (go_light; first | omega | (simp; omega))))
  have M_h : rowOf w11 ((w8.heap.size + 1)) = some (HV.row h2) := rowOf_below (by repeat' first | (with_reducible first | assumption | apply row_drew | apply row_drewN | apply row_set_same | apply row_cell_same | apply row_set_other | apply row_cell_other) | (with_reducible exact row_new (by (first | with_reducible assumption | (simp; done) | (go_light; first | omega | (simp; omega))))) | (with_reducible apply row_old) | (first | with_reducible assumption | (simp; done) | (go_light; first | omega | (simp; omega))) | rfl) hb11 (by (first | with_reducible assumption | (simp; done) | (go_light; first | omega | (simp; omega))))
  have M_v : rowOf w11 ((w8.heap.size + 1 + 1)) = some (TV.row v2) := rowOf_below (by repeat' first | (with_reducible first | assumption | apply row_drew | apply row_drewN | apply row_set_same | apply row_cell_same | apply row_set_other | apply row_cell_other) | (with_reducible exact row_new (by (first | with_reducible assumption | (simp; done) | (go_light; first | omega | (simp; omega))))) | (with_reducible apply row_old) | (first | with_reducible assumption | (simp; done) | (go_light; first | omega | (simp; omega))) | rfl) hb11 (by (first | with_reducible assumption | (simp; done) | (go_light; first | omega | (simp; omega))))
  clear hB; have hB := hB2; clear hB2
  clear N_t D_t L_t
  clear N_h D_h L_h
  clear N_v D_v L_v
  have N_t := M_t; clear M_t
  have L_t := rowOf_lt N_t
  have D_t := Nat.ne_of_lt L_t
  have N_h := M_h; clear M_h
  have L_h := rowOf_lt N_h
  have D_h := Nat.ne_of_lt L_h
  have N_v := M_v; clear M_v
  have L_v := rowOf_lt N_v
  have D_v := Nat.ne_of_lt L_v
  clear hb11
  have t_0 : w11.cell? ⟨w.heap.size, 0, none⟩ = some (.int .i64 d) := rowOf_cell N_t 0
  go_wp2_with fail
  rw [rounds_succ]
  clear t_0
  clear N_h L_h D_h
  clear N_v L_v D_v
  have Eh3 : w.heap.size ≠ (w11.heap.size + 1) := by omega
  have Ev3 : w.heap.size ≠ (w11.heap.size + 1 + 1) := by omega
  have Zh3 : w.heap.size ≤ (w11.heap.size + 1) := by omega
  have Zv3 : w.heap.size ≤ (w11.heap.size + 1 + 1) := by omega
  have Fh3 := Ne.symm Eh3
  have Fv3 := Ne.symm Ev3
  have G3 : (w11.heap.size + 1) ≠ (w11.heap.size + 1 + 1) := by omega
  have J3 := Ne.symm G3
  go_wp2_with fail
  refine (A3.out _).mono ?_
  rintro e w12 ⟨rfl, hb12⟩
  have hG : Below w11.heap.size w11 w12 := bstep (by repeat' first | (with_reducible first | assumption | exact Below.refl _ _ | apply blast | apply Below.drew | apply below_setRow | apply Below.alloc | apply Below.setCell) | (first | with_reducible assumption | (simp; done) | (go_light; first | omega | (simp; omega)))) hb12 (by (first | with_reducible assumption | (simp; done) | (go_light; first | omega | (simp; omega))))
  have hz := hG.size
  have N_h : rowOf w12 ((w11.heap.size + 1)) = some #[.int .i64 0, .int .i64 0, .int .i64 0, .int .i64 0, .int .i64 0, .int .i64 0, .int .i64 0, .int .i64 0, .int .i64 0, .int .i64 0, .int .i64 0] := rowOf_below (by repeat' first | (with_reducible first | assumption | apply row_drew | apply row_drewN | apply row_set_same | apply row_cell_same | apply row_set_other | apply row_cell_other) | (with_reducible exact row_new (by (first | with_reducible assumption | (simp; done) | (go_light; first | omega | (simp; omega))))) | (with_reducible apply row_old) | (first | with_reducible assumption | (simp; done) | (go_light; first | omega | (simp; omega))) | rfl) hb12 (by (first | with_reducible assumption | (simp; done) | (go_light; first | omega | (simp; omega))))
  have N_v : rowOf w12 ((w11.heap.size + 1 + 1)) = some #[.int .i64 0, .int .i64 0, .int .i64 0, .int .i64 0, .int .i64 0] := rowOf_below (by repeat' first | (with_reducible first | assumption | apply row_drew | apply row_drewN | apply row_set_same | apply row_cell_same | apply row_set_other | apply row_cell_other) | (with_reducible exact row_new (by (first | with_reducible assumption | (simp; done) | (go_light; first | omega | (simp; omega))))) | (with_reducible apply row_old) | (first | with_reducible assumption | (simp; done) | (go_light; first | omega | (simp; omega))) | rfl) hb12 (by (first | with_reducible assumption | (simp; done) | (go_light; first | omega | (simp; omega))))
  replace N_t := rowOf_below N_t hG L_t
  replace hB := bstep hB hG hB.size
  clear D_t L_t
  have L_t := rowOf_lt N_t
  have D_t := Nat.ne_of_lt L_t
  have L_h := rowOf_lt N_h
  have D_h := Nat.ne_of_lt L_h
  have L_v := rowOf_lt N_v
  have D_v := Nat.ne_of_lt L_v
  clear hb12 hG
  go_wp2_with fail
  refine (B3.out _).mono ?_
  rintro e w13 ⟨rfl, hb13⟩
  have hB2 : Below w.heap.size w w13 := bstep (by repeat' first | (with_reducible first | assumption | exact Below.refl _ _ | apply blast | apply Below.drew | apply below_setRow | apply Below.alloc | apply Below.setCell) | (first | with_reducible assumption | (simp; done) | (go_light; first | omega | (simp; omega)))) hb13 (by (first | with_reducible assumption | (simp; done) | (go_light; first | omega | (simp; omega))))
  have M_t : rowOf w13 (w.heap.size) = some #[.int .i64 d, .int .i64 c0, .int .i64 c1, .int .i64 c2, .int .i64 c3] := rowOf_below (by repeat' first | (with_reducible first | assumption | apply row_drew | apply row_drewN | apply row_set_same | apply row_cell_same | apply row_set_other | apply row_cell_other) | (with_reducible exact row_new (by (first | with_reducible assumption | (simp; done) | (go_light; first | omega | (simp; omega))))) | (with_reducible apply row_old) | (first | with_reducible assumption | (simp; done) | (go_light; first | omega | (simp; omega))) | rfl) hb13 (by (first | with_reducible assumption | (simp; done) | (go_light; first | omega | (simp; omega))))
  have M_h : rowOf w13 ((w11.heap.size + 1)) = some (HV.row h3) := rowOf_below (by repeat' first | (with_reducible first | assumption | apply row_drew | apply row_drewN | apply row_set_same | apply row_cell_same | apply row_set_other | apply row_cell_other) | (with_reducible exact row_new (by (first | with_reducible assumption | (simp; done) | (go_light; first | omega | (simp; omega))))) | (with_reducible apply row_old) | (first | with_reducible assumption | (simp; done) | (go_light; first | omega | (simp; omega))) | rfl) hb13 (by (first | with_reducible assumption | (simp; done) | (go_light; first | omega | (simp; omega))))
  have M_v : rowOf w13 ((w11.heap.size + 1 + 1)) = some #[.int .i64 0, .int .i64 0, .int .i64 0, .int .i64 0, .int .i64 0] := rowOf_below (by repeat' first | (with_reducible first | assumption | apply row_drew | apply row_drewN | apply row_set_same | apply row_cell_same | apply row_set_other | apply row_cell_other) | (with_reducible exact row_new (by (first | with_reducible assumption | (simp; done) | (go_light; first | omega | (simp; omega))))) | (with_reducible apply row_old) | (first | with_reducible assumption | (simp; done) | (go_light; first | omega | (simp; omega))) | rfl) hb13 (by (first | with_reducible assumption | (simp; done) | (go_light; first | omega | (simp; omega))))
  clear hB; have hB := hB2; clear hB2
  clear N_t D_t L_t
  clear N_h D_h L_h
  clear N_v D_v L_v
  have N_t := M_t; clear M_t
  have L_t := rowOf_lt N_t
  have D_t := Nat.ne_of_lt L_t
  have N_h := M_h; clear M_h
  have L_h := rowOf_lt N_h
  have D_h := Nat.ne_of_lt L_h
  have N_v := M_v; clear M_v
  have L_v := rowOf_lt N_v
  have D_v := Nat.ne_of_lt L_v
  clear hb13
  go_wp2_with fail
  refine (C3.out _).mono ?_
  rintro e w14 ⟨rfl, hb14⟩
  have hB2 : Below w.heap.size w w14 := bstep (by repeat' first | (with_reducible first | assumption | exact Below.refl _ _ | apply blast | apply Below.drew | apply below_setRow | apply Below.alloc | apply Below.setCell) | (first | with_reducible assumption | (simp; done) | (go_light; first | omega | (simp; omega)))) hb14 (by (first | with_reducible assumption | (simp; done) | (go_light; first | omega | (simp; omega))))
  have M_t : rowOf w14 (w.heap.size) = some #[.int .i64 d, .int .i64 c0, .int .i64 c1, .int .i64 c2, .int .i64 c3] := rowOf_below (by repeat' first | (with_reducible first | assumption | apply row_drew | apply row_drewN | apply row_set_same | apply row_cell_same | apply row_set_other | apply row_cell_other) | (with_reducible exact row_new (by (first | with_reducible assumption | (simp; done) | (go_light; first | omega | (simp; omega))))) | (with_reducible apply row_old) | (first | with_reducible assumption | (simp; done) | (go_light; first | omega | (simp; omega))) | rfl) hb14 (by (first | with_reducible assumption | (simp; done) | (go_light; first | omega | (simp; omega))))
  have M_h : rowOf w14 ((w11.heap.size + 1)) = some (HV.row h3) := rowOf_below (by repeat' first | (with_reducible first | assumption | apply row_drew | apply row_drewN | apply row_set_same | apply row_cell_same | apply row_set_other | apply row_cell_other) | (with_reducible exact row_new (by (first | with_reducible assumption | (simp; done) | (go_light; first | omega | (simp; omega))))) | (with_reducible apply row_old) | (first | with_reducible assumption | (simp; done) | (go_light; first | omega | (simp; omega))) | rfl) hb14 (by (first | with_reducible assumption | (simp; done) | (go_light; first | omega | (simp; omega))))
  have M_v : rowOf w14 ((w11.heap.size + 1 + 1)) = some (TV.row v3) := rowOf_below (by repeat' first | (with_reducible first | assumption | apply row_drew | apply row_drewN | apply row_set_same | apply row_cell_same | apply row_set_other | apply row_cell_other) | (with_reducible exact row_new (by (first | with_reducible assumption | (simp; done) | (go_light; first | omega | (simp; omega))))) | (with_reducible apply row_old) | (first | with_reducible assumption | (simp; done) | (go_light; first | omega | (simp; omega))) | rfl) hb14 (by (first | with_reducible assumption | (simp; done) | (go_light; first | omega | (simp; omega))))
  clear hB; have hB := hB2; clear hB2
  clear N_t D_t L_t
  clear N_h D_h L_h
  clear N_v D_v L_v
  have N_t := M_t; clear M_t
  have L_t := rowOf_lt N_t
  have D_t := Nat.ne_of_lt L_t
  have N_h := M_h; clear M_h
  have L_h := rowOf_lt N_h
  have D_h := Nat.ne_of_lt L_h
  have N_v := M_v; clear M_v
  have L_v := rowOf_lt N_v
  have D_v := Nat.ne_of_lt L_v
  clear hb14
  have t_0 : w14.cell? ⟨w.heap.size, 0, none⟩ = some (.int .i64 d) := rowOf_cell N_t 0
  go_wp2_with fail
  rw [rounds_succ]
  clear t_0
  clear N_h L_h D_h
  go_wp2
  go_returns
  exact ⟨ret_bool rfl, by repeat' first | (with_reducible first | assumption | exact Below.refl _ _ | apply blast | apply Below.drew | apply below_setRow | apply Below.alloc | apply Below.setCell) | (first | with_reducible assumption | (simp; done) | (go_light; first | omega | (simp; omega)))⟩

set_option maxHeartbeats 16000000 in
theorem hopSteps_4_last (c0 c1 c2 c3 : Int) (h0 : HV) (v1 : TV) (i1 : Bool) (x1 : TV) (n1 : Bool) (h2 : HV) (v2 : TV) (h3 : HV) (v3 : TV) (x3 : TV) 
    (HAW : ∀ W, Calls Try.prog 11 #[] W (Ret (.bool true) W))
    (A0 : ∀ W, Calls Try.prog 20 #[.int .i64 4] W (Ret (.tuple #[(HV.val h0), .bool true]) W))
    (R0 : ∀ W, Calls Try.prog 21 #[.agg #[.int .i64 4, .int .i64 c0, .int .i64 c1, .int .i64 c2, .int .i64 c3]] W (fun e w' => e = .returned (.bool true) ∧ w' = W.alloc (.cells #[.int .i64 4, .int .i64 c0, .int .i64 c1, .int .i64 c2, .int .i64 c3] 26)))
    (C0 : ∀ W, Calls Try.prog 13 #[(HV.val h0), .agg #[.int .i64 4, .int .i64 c0, .int .i64 c1, .int .i64 c2, .int .i64 c3]] W (Ret (.tuple #[.agg #[.int .i64 4, .int .i64 c0, .int .i64 c1, .int .i64 c2, .int .i64 c3], .bool true]) W))
    (A1 : ∀ W, Calls Try.prog 22 #[.int .i64 4] W (Ret (.tuple #[.agg #[.int .i64 0, .int .i64 0, .int .i64 0, .int .i64 0, .int .i64 0, .int .i64 0, .int .i64 0, .int .i64 0, .int .i64 0, .int .i64 0, .int .i64 0], .bool false]) W))
    (B1 : ∀ W, Calls Try.prog 23 #[.agg #[.int .i64 4, .int .i64 c0, .int .i64 c1, .int .i64 c2, .int .i64 c3]] W (Ret (.tuple #[(TV.val v1), .bool i1]) W))
    (C1 : ∀ W, Calls Try.prog 13 #[.agg #[.int .i64 0, .int .i64 0, .int .i64 0, .int .i64 0, .int .i64 0, .int .i64 0, .int .i64 0, .int .i64 0, .int .i64 0, .int .i64 0, .int .i64 0], .agg #[.int .i64 4, .int .i64 c0, .int .i64 c1, .int .i64 c2, .int .i64 c3]] W (Ret (.tuple #[(TV.val x1), .bool n1]) W))
    (A2 : ∀ W, Calls Try.prog 24 #[.int .i64 4] W (Ret (.tuple #[(HV.val h2), .bool true]) W))
    (B2 : ∀ W, Calls Try.prog 25 #[.agg #[.int .i64 4, .int .i64 c0, .int .i64 c1, .int .i64 c2, .int .i64 c3]] W (Ret (.tuple #[(TV.val v2), .bool true]) W))
    (C2 : ∀ W, Calls Try.prog 13 #[(HV.val h2), .agg #[.int .i64 4, .int .i64 c0, .int .i64 c1, .int .i64 c2, .int .i64 c3]] W (Ret (.tuple #[(TV.val v2), .bool true]) W))
    (A3 : ∀ W, Calls Try.prog 26 #[.int .i64 4] W (Ret (.tuple #[(HV.val h3), .bool true]) W))
    (B3 : ∀ W, Calls Try.prog 27 #[.agg #[.int .i64 4, .int .i64 c0, .int .i64 c1, .int .i64 c2, .int .i64 c3]] W (Ret (.tuple #[(TV.val v3), .bool false]) W))
    (C3 : ∀ W, Calls Try.prog 13 #[(HV.val h3), .agg #[.int .i64 4, .int .i64 c0, .int .i64 c1, .int .i64 c2, .int .i64 c3]] W (Ret (.tuple #[(TV.val x3), .bool false]) W)) (w : World) :
    Calls Try.prog 4 #[.int .i64 4, .agg #[.int .i64 4, .int .i64 c0, .int .i64 c1, .int .i64 c2, .int .i64 c3]] w (Ret (.bool true) w) := by
  replace HAW := Lib.hid HAW
  replace A0 := Lib.hid A0
  replace R0 := Lib.hid R0
  replace C0 := Lib.hid C0
  replace A1 := Lib.hid A1
  replace B1 := Lib.hid B1
  replace C1 := Lib.hid C1
  replace A2 := Lib.hid A2
  replace B2 := Lib.hid B2
  replace C2 := Lib.hid C2
  replace A3 := Lib.hid A3
  replace B3 := Lib.hid B3
  replace C3 := Lib.hid C3
  go_enter Try.func4, Try.ntmps4
  go_wp2_with fail
  refine (HAW.out _).mono ?_
  rintro e w1 ⟨rfl, hb1⟩
  have hG : Below w.heap.size w w1 := bstep (by repeat' first | (with_reducible first | assumption | exact Below.refl _ _ | apply blast | apply Below.drew | apply below_setRow | apply Below.alloc | apply Below.setCell) | (first | with_reducible assumption | (simp; done) | (go_light; first | omega | (simp; omega)))) hb1 (by (first | with_reducible assumption | (simp; done) | (go_light; first | omega | (simp; omega))))
  have hz := hG.size
  have N_t : rowOf w1 (w.heap.size) = some #[.int .i64 4, .int .i64 c0, .int .i64 c1, .int .i64 c2, .int .i64 c3] := rowOf_below (by repeat' first | (with_reducible first | assumption | apply row_drew | apply row_drewN | apply row_set_same | apply row_cell_same | apply row_set_other | apply row_cell_other) | (with_reducible exact row_new (by (first | with_reducible assumption | (simp; done) | (go_light; first | omega | (simp; omega))))) | (with_reducible apply row_old) | (first | with_reducible assumption | (simp; done) | (go_light; first | omega | (simp; omega))) | rfl) hb1 (by (first | with_reducible assumption | (simp; done) | (go_light; first | omega | (simp; omega))))
  have hB := hG
  have L_t := rowOf_lt N_t
  have D_t := Nat.ne_of_lt L_t
  clear hb1 hG
  go_wp2_with fail
  refine wp_loop_rounds 5 ?_
  rw [rounds_succ]
  have Eh0 : w.heap.size ≠ w1.heap.size := by omega
  have Ev0 : w.heap.size ≠ (w1.heap.size + 1) := by omega
  have Zh0 : w.heap.size ≤ w1.heap.size := by omega
  have Zv0 : w.heap.size ≤ (w1.heap.size + 1) := by omega
  have Fh0 := Ne.symm Eh0
  have Fv0 := Ne.symm Ev0
  have G0 : w1.heap.size ≠ (w1.heap.size + 1) := by omega
  have J0 := Ne.symm G0
  go_wp2_with fail
  refine (A0.out _).mono ?_
  rintro e w2 ⟨rfl, hb2⟩
  have hG : Below w1.heap.size w1 w2 := bstep (by repeat' first | (with_reducible first | assumption | exact Below.refl _ _ | apply blast | apply Below.drew | apply below_setRow | apply Below.alloc | apply Below.setCell) | (first | with_reducible assumption | (simp; done) | (go_light; first | omega | (simp; omega)))) hb2 (by (first | with_reducible assumption | (simp; done) | (go_light; first | omega | (simp; omega))))
  have hz := hG.size
  have N_h : rowOf w2 (w1.heap.size) = some #[.int .i64 0, .int .i64 0, .int .i64 0, .int .i64 0, .int .i64 0, .int .i64 0, .int .i64 0, .int .i64 0, .int .i64 0, .int .i64 0, .int .i64 0] := rowOf_below (by repeat' first | (with_reducible first | assumption | apply row_drew | apply row_drewN | apply row_set_same | apply row_cell_same | apply row_set_other | apply row_cell_other) | (with_reducible exact row_new (by (first | with_reducible assumption | (simp; done) | (go_light; first | omega | (simp; omega))))) | (with_reducible apply row_old) | (first | with_reducible assumption | (simp; done) | (go_light; first | omega | (simp; omega))) | rfl) hb2 (by (first | with_reducible assumption | (simp; done) | (go_light; first | omega | (simp; omega))))
  have N_v : rowOf w2 ((w1.heap.size + 1)) = some #[.int .i64 0, .int .i64 0, .int .i64 0, .int .i64 0, .int .i64 0] := rowOf_below (by repeat' first | (with_reducible first | assumption | apply row_drew | apply row_drewN | apply row_set_same | apply row_cell_same | apply row_set_other | apply row_cell_other) | (with_reducible exact row_new (by (first | with_reducible assumption | (simp; done) | (go_light; first | omega | (simp; omega))))) | (with_reducible apply row_old) | (first | with_reducible assumption | (simp; done) | (go_light; first | omega | (simp; omega))) | rfl) hb2 (by (first | with_reducible assumption | (simp; done) | (go_light; first | omega | (simp; omega))))
  replace N_t := rowOf_below N_t hG L_t
  replace hB := bstep hB hG hB.size
  clear D_t L_t
  have L_t := rowOf_lt N_t
  have D_t := Nat.ne_of_lt L_t
  have L_h := rowOf_lt N_h
  have D_h := Nat.ne_of_lt L_h
  have L_v := rowOf_lt N_v
  have D_v := Nat.ne_of_lt L_v
  clear hb2 hG
  go_wp2_with fail
  refine gen_world (fun W2 => Below w.heap.size w W2 ∧ rowOf W2 (w.heap.size) = some #[.int .i64 4, .int .i64 c0, .int .i64 c1, .int .i64 c2, .int .i64 c3] ∧ rowOf W2 (w1.heap.size) = some (HV.row h0) ∧ rowOf W2 ((w1.heap.size + 1)) = some #[.int .i64 0, .int .i64 0, .int .i64 0, .int .i64 0, .int .i64 0]) ⟨by repeat' first | (with_reducible first | assumption | exact Below.refl _ _ | apply blast | apply Below.drew | apply below_setRow | apply Below.alloc | apply Below.setCell) | (first | with_reducible assumption | (simp; done) | (go_light; first | omega | (simp; omega))), by repeat' first | (with_reducible first | assumption | apply row_drew | apply row_drewN | apply row_set_same | apply row_cell_same | apply row_set_other | apply row_cell_other) | (with_reducible exact row_new (by (first | with_reducible assumption | (simp; done) | (go_light; first | omega | (simp; omega))))) | (with_reducible apply row_old) | (first | with_reducible assumption | (simp; done) | (go_light; first | omega | (simp; omega))) | rfl, by repeat' first | (with_reducible first | assumption | apply row_drew | apply row_drewN | apply row_set_same | apply row_cell_same | apply row_set_other | apply row_cell_other) | (with_reducible exact row_new (by (first | with_reducible assumption | (simp; done) | (go_light; first | omega | (simp; omega))))) | (with_reducible apply row_old) | (first | with_reducible assumption | (simp; done) | (go_light; first | omega | (simp; omega))) | rfl, by repeat' first | (with_reducible first | assumption | apply row_drew | apply row_drewN | apply row_set_same | apply row_cell_same | apply row_set_other | apply row_cell_other) | (with_reducible exact row_new (by (first | with_reducible assumption | (simp; done) | (go_light; first | omega | (simp; omega))))) | (with_reducible apply row_old) | (first | with_reducible assumption | (simp; done) | (go_light; first | omega | (simp; omega))) | rfl⟩ ?_
  clear hB
  clear N_t L_t D_t
  clear N_h L_h D_h
  clear N_v L_v D_v
  rintro w3 ⟨hB, N_t, N_h, N_v⟩
  have L_t : w.heap.size < w3.heap.size := rowOf_lt N_t
  have D_t : w.heap.size ≠ w3.heap.size := Nat.ne_of_lt L_t
  have L_h : w1.heap.size < w3.heap.size := rowOf_lt N_h
  have D_h : w1.heap.size ≠ w3.heap.size := Nat.ne_of_lt L_h
  have L_v : (w1.heap.size + 1) < w3.heap.size := rowOf_lt N_v
  have D_v : (w1.heap.size + 1) ≠ w3.heap.size := Nat.ne_of_lt L_v
  have t_0 : w3.cell? ⟨w.heap.size, 0, none⟩ = some (.int .i64 4) := rowOf_cell N_t 0
  have t_1 : w3.cell? ⟨w.heap.size, 1, none⟩ = some (.int .i64 c0) := rowOf_cell N_t 1
  have t_2 : w3.cell? ⟨w.heap.size, 2, none⟩ = some (.int .i64 c1) := rowOf_cell N_t 2
  have t_3 : w3.cell? ⟨w.heap.size, 3, none⟩ = some (.int .i64 c2) := rowOf_cell N_t 3
  have t_4 : w3.cell? ⟨w.heap.size, 4, none⟩ = some (.int .i64 c3) := rowOf_cell N_t 4
  have v_0 : w3.cell? ⟨(w1.heap.size + 1), 0, none⟩ = some (.int .i64 0) := rowOf_cell N_v 0
  have v_f0 := rowOf_frozen N_v 0
  have v_1 : w3.cell? ⟨(w1.heap.size + 1), 1, none⟩ = some (.int .i64 0) := rowOf_cell N_v 1
  have v_f1 := rowOf_frozen N_v 1
  have v_2 : w3.cell? ⟨(w1.heap.size + 1), 2, none⟩ = some (.int .i64 0) := rowOf_cell N_v 2
  have v_f2 := rowOf_frozen N_v 2
  have v_3 : w3.cell? ⟨(w1.heap.size + 1), 3, none⟩ = some (.int .i64 0) := rowOf_cell N_v 3
  have v_f3 := rowOf_frozen N_v 3
  have v_4 : w3.cell? ⟨(w1.heap.size + 1), 4, none⟩ = some (.int .i64 0) := rowOf_cell N_v 4
  have v_f4 := rowOf_frozen N_v 4
  refine cut_at (fun a => ((((a.put (some 37) (.agg #[.int .i64 4, .int .i64 c0, .int .i64 c1, .int .i64 c2, .int .i64 c3])).put (some 38) (.agg #[.int .i64 4, .int .i64 c0, .int .i64 c1, .int .i64 c2, .int .i64 c3])).put (some 39) (.bool true)).put (some 9) (.bool true))) (fun W2 => Below w.heap.size w W2 ∧ rowOf W2 (w.heap.size) = some #[.int .i64 4, .int .i64 c0, .int .i64 c1, .int .i64 c2, .int .i64 c3] ∧ rowOf W2 (w1.heap.size) = some (HV.row h0) ∧ rowOf W2 ((w1.heap.size + 1)) = some #[.int .i64 4, .int .i64 c0, .int .i64 c1, .int .i64 c2, .int .i64 c3]) ?_ ?_
  · go_region_with (go_at_call 21; refine (R0.out _).mono ?_; rintro e w' ⟨rfl, rfl⟩)
    all_goals exact ⟨rfl, by repeat' first | (with_reducible first | assumption | exact Below.refl _ _ | apply blast | apply Below.drew | apply below_setRow | apply Below.alloc | apply Below.setCell) | (first | with_reducible assumption | (simp; done) | (go_light; first | omega | (simp; omega))), by repeat' first | (with_reducible first | assumption | apply row_drew | apply row_drewN | apply row_set_same | apply row_cell_same | apply row_set_other | apply row_cell_other) | (with_reducible exact row_new (by (first | with_reducible assumption | (simp; done) | (go_light; first | omega | (simp; omega))))) | (with_reducible apply row_old) | (first | with_reducible assumption | (simp; done) | (go_light; first | omega | (simp; omega))) | rfl, by repeat' first | (with_reducible first | assumption | apply row_drew | apply row_drewN | apply row_set_same | apply row_cell_same | apply row_set_other | apply row_cell_other) | (with_reducible exact row_new (by (first | with_reducible assumption | (simp; done) | (go_light; first | omega | (simp; omega))))) | (with_reducible apply row_old) | (first | with_reducible assumption | (simp; done) | (go_light; first | omega | (simp; omega))) | rfl, by repeat' first | (with_reducible first | assumption | apply row_drew | apply row_drewN | apply row_set_same | apply row_cell_same | apply row_set_other | apply row_cell_other) | (with_reducible exact row_new (by (first | with_reducible assumption | (simp; done) | (go_light; first | omega | (simp; omega))))) | (with_reducible apply row_old) | (first | with_reducible assumption | (simp; done) | (go_light; first | omega | (simp; omega))) | rfl⟩
  clear t_0 t_1 t_2 t_3 t_4
  clear v_0 v_f0 v_1 v_f1 v_2 v_f2 v_3 v_f3 v_4 v_f4
  clear hB
  clear N_t L_t D_t
  clear N_h L_h D_h
  clear N_v L_v D_v
  rintro w4 ⟨hB, N_t, N_h, N_v⟩
  have L_t : w.heap.size < w4.heap.size := rowOf_lt N_t
  have D_t : w.heap.size ≠ w4.heap.size := Nat.ne_of_lt L_t
  have L_h : w1.heap.size < w4.heap.size := rowOf_lt N_h
  have D_h : w1.heap.size ≠ w4.heap.size := Nat.ne_of_lt L_h
  have L_v : (w1.heap.size + 1) < w4.heap.size := rowOf_lt N_v
  have D_v : (w1.heap.size + 1) ≠ w4.heap.size := Nat.ne_of_lt L_v
  go_simp
  go_wp2_with fail
  refine (C0.out _).mono ?_
  rintro e w5 ⟨rfl, hb5⟩
  have hG : Below w4.heap.size w4 w5 := bstep (by repeat' first | (with_reducible first | assumption | exact Below.refl _ _ | apply blast | apply Below.drew | apply below_setRow | apply Below.alloc | apply Below.setCell) | (first | with_reducible assumption | (simp; done) | (go_light; first | omega | (simp; omega)))) hb5 (by (first | with_reducible assumption | (simp; done) | (go_light; first | omega | (simp; omega))))
  have hz := hG.size
  replace N_t := rowOf_below N_t hG L_t
  replace N_h := rowOf_below N_h hG L_h
  replace N_v := rowOf_below N_v hG L_v
  replace hB := bstep hB hG hB.size
  clear D_t L_t
  have L_t := rowOf_lt N_t
  have D_t := Nat.ne_of_lt L_t
  clear D_h L_h
  have L_h := rowOf_lt N_h
  have D_h := Nat.ne_of_lt L_h
  clear D_v L_v
  have L_v := rowOf_lt N_v
  have D_v := Nat.ne_of_lt L_v
  clear hb5 hG
  have t_0 : w5.cell? ⟨w.heap.size, 0, none⟩ = some (.int .i64 4) := rowOf_cell N_t 0
  go_wp2_with fail
  rw [rounds_succ]
  clear t_0
  clear N_h L_h D_h
  clear N_v L_v D_v
  have Eh1 : w.heap.size ≠ (w5.heap.size + 1) := by omega
  have Ev1 : w.heap.size ≠ (w5.heap.size + 1 + 1) := by omega
  have Zh1 : w.heap.size ≤ (w5.heap.size + 1) := by omega
  have Zv1 : w.heap.size ≤ (w5.heap.size + 1 + 1) := by omega
  have Fh1 := Ne.symm Eh1
  have Fv1 := Ne.symm Ev1
  have G1 : (w5.heap.size + 1) ≠ (w5.heap.size + 1 + 1) := by omega
  have J1 := Ne.symm G1
  go_wp2_with fail
  refine (A1.out _).mono ?_
  rintro e w6 ⟨rfl, hb6⟩
  have hG : Below w5.heap.size w5 w6 := bstep (by repeat' first | (with_reducible first | assumption | exact Below.refl _ _ | apply blast | apply Below.drew | apply below_setRow | apply Below.alloc | apply Below.setCell) | (first | with_reducible assumption | (simp; done) | (go_light; first | omega | (simp; omega)))) hb6 (by (first | with_reducible assumption | (simp; done) | (go_light; first | omega | (simp; omega))))
  have hz := hG.size
  have N_h : rowOf w6 ((w5.heap.size + 1)) = some #[.int .i64 0, .int .i64 0, .int .i64 0, .int .i64 0, .int .i64 0, .int .i64 0, .int .i64 0, .int .i64 0, .int .i64 0, .int .i64 0, .int .i64 0] := rowOf_below (by repeat' first | (with_reducible first | assumption | apply row_drew | apply row_drewN | apply row_set_same | apply row_cell_same | apply row_set_other | apply row_cell_other) | (with_reducible exact row_new (by (first | with_reducible assumption | (simp; done) | (go_light; first | omega | (simp; omega))))) | (with_reducible apply row_old) | (first | with_reducible assumption | (simp; done) | (go_light; first | omega | (simp; omega))) | rfl) hb6 (by (first | with_reducible assumption | (simp; done) | (go_light; first | omega | (simp; omega))))
  have N_v : rowOf w6 ((w5.heap.size + 1 + 1)) = some #[.int .i64 0, .int .i64 0, .int .i64 0, .int .i64 0, .int .i64 0] := rowOf_below (by repeat' first | (with_reducible first | assumption | apply row_drew | apply row_drewN | apply row_set_same | apply row_cell_same | apply row_set_other | apply row_cell_other) | (with_reducible exact row_new (by (first | with_reducible assumption | (simp; done) | (go_light; first | omega | (simp; omega))))) | (with_reducible apply row_old) | (first | with_reducible assumption | (simp; done) | (go_light; first | omega | (simp; omega))) | rfl) hb6 (by (first | with_reducible assumption | (simp; done) | (go_light; first | omega | (simp; omega))))
  replace N_t := rowOf_below N_t hG L_t
  replace hB := bstep hB hG hB.size
  clear D_t L_t
  have L_t := rowOf_lt N_t
  have D_t := Nat.ne_of_lt L_t
  have L_h := rowOf_lt N_h
  have D_h := Nat.ne_of_lt L_h
  have L_v := rowOf_lt N_v
  have D_v := Nat.ne_of_lt L_v
  clear hb6 hG
  go_wp2_with fail
  refine (B1.out _).mono ?_
  rintro e w7 ⟨rfl, hb7⟩
  have hB2 : Below w.heap.size w w7 := bstep (by repeat' first | (with_reducible first | assumption | exact Below.refl _ _ | apply blast | apply Below.drew | apply below_setRow | apply Below.alloc | apply Below.setCell) | (first | with_reducible assumption | (simp; done) | (go_light; first | omega | (simp; omega)))) hb7 (by (first | with_reducible assumption | (simp; done) | (go_light; first | omega | (simp; omega))))
  have M_t : rowOf w7 (w.heap.size) = some #[.int .i64 4, .int .i64 c0, .int .i64 c1, .int .i64 c2, .int .i64 c3] := rowOf_below (by repeat' first | (with_reducible first | assumption | apply row_drew | apply row_drewN | apply row_set_same | apply row_cell_same | apply row_set_other | apply row_cell_other) | (with_reducible exact row_new (by (first | with_reducible assumption | (simp; done) | (go_light; first | omega | (simp; omega))))) | (with_reducible apply row_old) | (first | with_reducible assumption | (simp; done) | (go_light; first | omega | (simp; omega))) | rfl) hb7 (by (first | with_reducible assumption | (simp; done) | (go_light; first | omega | (simp; omega))))
  have M_h : rowOf w7 ((w5.heap.size + 1)) = some #[.int .i64 0, .int .i64 0, .int .i64 0, .int .i64 0, .int .i64 0, .int .i64 0, .int .i64 0, .int .i64 0, .int .i64 0, .int .i64 0, .int .i64 0] := rowOf_below (by repeat' first | (with_reducible first | assumption | apply row_drew | apply row_drewN | apply row_set_same | apply row_cell_same | apply row_set_other | apply row_cell_other) | (with_reducible exact row_new (by (first | with_reducible assumption | (simp; done) | (go_light; first | omega | (simp; omega))))) | (with_reducible apply row_old) | (first | with_reducible assumption | (simp; done) | (go_light; first | omega | (simp; omega))) | rfl) hb7 (by (first | with_reducible assumption | (simp; done) | (go_light; first | omega | (simp; omega))))
  have M_v : rowOf w7 ((w5.heap.size + 1 + 1)) = some #[.int .i64 0, .int .i64 0, .int .i64 0, .int .i64 0, .int .i64 0] := rowOf_below (by repeat' first | (with_reducible first | assumption | apply row_drew | apply row_drewN | apply row_set_same | apply row_cell_same | apply row_set_other | apply row_cell_other) | (with_reducible exact row_new (by (first | with_reducible assumption | (simp; done) | (go_light; first | omega | (simp; omega))))) | (with_reducible apply row_old) | (first | with_reducible assumption | (simp; done) | (go_light; first | omega | (simp; omega))) | rfl) hb7 (by (first | with_reducible assumption | (simp; done) | (go_light; first | omega | (simp; omega))))
  clear hB; have hB := hB2; clear hB2
  clear N_t D_t L_t
  clear N_h D_h L_h
  clear N_v D_v L_v
  have N_t := M_t; clear M_t
  have L_t := rowOf_lt N_t
  have D_t := Nat.ne_of_lt L_t
  have N_h := M_h; clear M_h
  have L_h := rowOf_lt N_h
  have D_h := Nat.ne_of_lt L_h
  have N_v := M_v; clear M_v
  have L_v := rowOf_lt N_v
  have D_v := Nat.ne_of_lt L_v
  clear hb7
  go_wp2_with fail
  refine (C1.out _).mono ?_
  rintro e w8 ⟨rfl, hb8⟩
  have hB2 : Below w.heap.size w w8 := bstep (by repeat' first | (with_reducible first | assumption | exact Below.refl _ _ | apply blast | apply Below.drew | apply below_setRow | apply Below.alloc | apply Below.setCell) | (first | with_reducible assumption | (simp; done) | (go_light; first | omega | (simp; omega)))) hb8 (by (first | with_reducible assumption | (simp; done) | (go_light; first | omega | (simp; omega))))
  have M_t : rowOf w8 (w.heap.size) = some #[.int .i64 4, .int .i64 c0, .int .i64 c1, .int .i64 c2, .int .i64 c3] := rowOf_below (by repeat' first | (with_reducible first | assumption | apply row_drew | apply row_drewN | apply row_set_same | apply row_cell_same | apply row_set_other | apply row_cell_other) | (with_reducible exact row_new (by (first | with_reducible assumption | (simp; done) | (go_light; first | omega | (simp; omega))))) | (with_reducible apply row_old) | (first | with_reducible assumption | (simp; done) | (go_light; first | omega | (simp; omega))) | rfl) hb8 (by (first | with_reducible assumption | (simp; done) | (go_light; first | omega | (simp; omega))))
  have M_h : rowOf w8 ((w5.heap.size + 1)) = some #[.int .i64 0, .int .i64 0, .int .i64 0, .int .i64 0, .int .i64 0, .int .i64 0, .int .i64 0, .int .i64 0, .int .i64 0, .int .i64 0, .int .i64 0] := rowOf_below (by repeat' first | (with_reducible first | assumption | apply row_drew | apply row_drewN | apply row_set_same | apply row_cell_same | apply row_set_other | apply row_cell_other) | (with_reducible exact row_new (by (first | with_reducible assumption | (simp; done) | (go_light; first | omega | (simp; omega))))) | (with_reducible apply row_old) | (first | with_reducible assumption | (simp; done) | (go_light; first | omega | (simp; omega))) | rfl) hb8 (by (first | with_reducible assumption | (simp; done) | (go_light; first | omega | (simp; omega))))
  have M_v : rowOf w8 ((w5.heap.size + 1 + 1)) = some (TV.row v1) := rowOf_below (by repeat' first | (with_reducible first | assumption | apply row_drew | apply row_drewN | apply row_set_same | apply row_cell_same | apply row_set_other | apply row_cell_other) | (with_reducible exact row_new (by (first | with_reducible assumption | (simp; done) | (go_light; first | omega | (simp; omega))))) | (with_reducible apply row_old) | (first | with_reducible assumption | (simp; done) | (go_light; first | omega | (simp; omega))) | rfl) hb8 (by (first | with_reducible assumption | (simp; done) | (go_light; first | omega | (simp; omega))))
  clear hB; have hB := hB2; clear hB2
  clear N_t D_t L_t
  clear N_h D_h L_h
  clear N_v D_v L_v
  have N_t := M_t; clear M_t
  have L_t := rowOf_lt N_t
  have D_t := Nat.ne_of_lt L_t
  have N_h := M_h; clear M_h
  have L_h := rowOf_lt N_h
  have D_h := Nat.ne_of_lt L_h
  have N_v := M_v; clear M_v
  have L_v := rowOf_lt N_v
  have D_v := Nat.ne_of_lt L_v
  clear hb8
  have t_0 : w8.cell? ⟨w.heap.size, 0, none⟩ = some (.int .i64 4) := rowOf_cell N_t 0
  go_wp2_with fail
  rw [rounds_succ]
  clear t_0
  clear N_h L_h D_h
  clear N_v L_v D_v
  have Eh2 : w.heap.size ≠ (w8.heap.size + 1) := by omega
  have Ev2 : w.heap.size ≠ (w8.heap.size + 1 + 1) := by omega
  have Zh2 : w.heap.size ≤ (w8.heap.size + 1) := by omega
  have Zv2 : w.heap.size ≤ (w8.heap.size + 1 + 1) := by omega
  have Fh2 := Ne.symm Eh2
  have Fv2 := Ne.symm Ev2
  have G2 : (w8.heap.size + 1) ≠ (w8.heap.size + 1 + 1) := by omega
  have J2 := Ne.symm G2
  go_wp2_with fail
  refine (A2.out _).mono ?_
  rintro e w9 ⟨rfl, hb9⟩
  have hG : Below w8.heap.size w8 w9 := bstep (by repeat' first | (with_reducible first | assumption | exact Below.refl _ _ | apply blast | apply Below.drew | apply below_setRow | apply Below.alloc | apply Below.setCell) | (first | with_reducible assumption | (simp; done) | (go_light; first | omega | (simp; omega)))) hb9 (by (first | with_reducible assumption | (simp; done) | (go_light; first | omega | (simp; omega))))
  have hz := hG.size
  have N_h : rowOf w9 ((w8.heap.size + 1)) = some #[.int .i64 0, .int .i64 0, .int .i64 0, .int .i64 0, .int .i64 0, .int .i64 0, .int .i64 0, .int .i64 0, .int .i64 0, .int .i64 0, .int .i64 0] := rowOf_below (by repeat' first | (with_reducible first | assumption | apply row_drew | apply row_drewN | apply row_set_same | apply row_cell_same | apply row_set_other | apply row_cell_other) | (with_reducible exact row_new (by (first | with_reducible assumption | (simp; done) | (go_light; first | omega | (simp; omega))))) | (with_reducible apply row_old) | (first | with_reducible assumption | (simp; done) | (go_light; first | omega | (simp; omega))) | rfl) hb9 (by (first | with_reducible assumption | (simp; done) | (go_light; first | omega | (simp; omega))))
  have N_v : rowOf w9 ((w8.heap.size + 1 + 1)) = some #[.int .i64 0, .int .i64 0, .int .i64 0, .int .i64 0, .int .i64 0] := rowOf_below (by repeat' first | (with_reducible first | assumption | apply row_drew | apply row_drewN | apply row_set_same | apply row_cell_same | apply row_set_other | apply row_cell_other) | (with_reducible exact row_new (by (first | with_reducible assumption | (simp; done) | (go_light; first | omega | (simp; omega))))) | (with_reducible apply row_old) | (first | with_reducible assumption | (simp; done) | (go_light; first | omega | (simp; omega))) | rfl) hb9 (by (first | with_reducible assumption | (simp; done) | (go_light; first | omega | (simp; omega))))
  replace N_t := rowOf_below N_t hG L_t
  replace hB := bstep hB hG hB.size
  clear D_t L_t
  have L_t := rowOf_lt N_t
  have D_t := Nat.ne_of_lt L_t
  have L_h := rowOf_lt N_h
  have D_h := Nat.ne_of_lt L_h
  have L_v := rowOf_lt N_v
  have D_v := Nat.ne_of_lt L_v
  clear hb9 hG
  go_wp2_with fail
  refine (B2.out _).mono ?_
  rintro e w10 ⟨rfl, hb10⟩
  have hB2 : Below w.heap.size w w10 := bstep (by repeat' first | (with_reducible first | assumption | exact Below.refl _ _ | apply blast | apply Below.drew | apply below_setRow | apply Below.alloc | apply Below.setCell) | (first | with_reducible assumption | (simp; done) | (go_light; first | omega | (simp; omega)))) hb10 (by (first | with_reducible assumption | (simp; done) | (go_light; first | omega | (simp; omega))))
  have M_t : rowOf w10 (w.heap.size) = some #[.int .i64 4, .int .i64 c0, .int .i64 c1, .int .i64 c2, .int .i64 c3] := rowOf_below (by repeat' first | (with_reducible first | assumption | apply row_drew | apply row_drewN | apply row_set_same | apply row_cell_same | apply row_set_other | apply row_cell_other) | (with_reducible exact row_new (by (first | with_reducible assumption | (simp; done) | (go_light; first | omega | (simp; omega))))) | (with_reducible apply row_old) | (first | with_reducible assumption | (simp; done) | (go_light; first | omega | (simp; omega))) | rfl) hb10 (by (first | with_reducible assumption | (simp; done) | (go_light; first | omega | (simp; omega))))
  have M_h : rowOf w10 ((w8.heap.size + 1)) = some (HV.row h2) := rowOf_below (by repeat' first | (with_reducible first | assumption | apply row_drew | apply row_drewN | apply row_set_same | apply row_cell_same | apply row_set_other | apply row_cell_other) | (with_reducible exact row_new (by (first | with_reducible assumption | (simp; done) | (go_light; first | omega | (simp; omega))))) | (with_reducible apply row_old) | (first | with_reducible assumption | (simp; done) | (go_light; first | omega | (simp; omega))) | rfl) hb10 (by (first | with_reducible assumption | (simp; done) | (go_light; first | omega | (simp; omega))))
  have M_v : rowOf w10 ((w8.heap.size + 1 + 1)) = some #[.int .i64 0, .int .i64 0, .int .i64 0, .int .i64 0, .int .i64 0] := rowOf_below (by repeat' first | (with_reducible first | assumption | apply row_drew | apply row_drewN | apply row_set_same | apply row_cell_same | apply row_set_other | apply row_cell_other) | (with_reducible exact row_new (by (first | with_reducible assumption | (simp; done) | (go_light; first | omega | (simp; omega))))) | (with_reducible apply row_old) | (first | with_reducible assumption | (simp; done) | (go_light; first | omega | (simp; omega))) | rfl) hb10 (by (first | with_reducible assumption | (simp; done) | (go_light; first | omega | (simp; omega))))
  clear hB; have hB := hB2; clear hB2
  clear N_t D_t L_t
  clear N_h D_h L_h
  clear N_v D_v L_v
  have N_t := M_t; clear M_t
  have L_t := rowOf_lt N_t
  have D_t := Nat.ne_of_lt L_t
  have N_h := M_h; clear M_h
  have L_h := rowOf_lt N_h
  have D_h := Nat.ne_of_lt L_h
  have N_v := M_v; clear M_v
  have L_v := rowOf_lt N_v
  have D_v := Nat.ne_of_lt L_v
  clear hb10
  go_wp2_with fail
  refine (C2.out _).mono ?_
  rintro e w11 ⟨rfl, hb11⟩
  have hB2 : Below w.heap.size w w11 := bstep (by repeat' first | (with_reducible first | assumption | exact Below.refl _ _ | apply blast | apply Below.drew | apply below_setRow | apply Below.alloc | apply Below.setCell) | (first | with_reducible assumption | (simp; done) | (go_light; first | omega | (simp; omega)))) hb11 (by (first | with_reducible assumption | (simp; done) | (go_light; first | omega | (simp; omega))))
  have M_t : rowOf w11 (w.heap.size) = some #[.int .i64 4, .int .i64 c0, .int .i64 c1, .int .i64 c2, .int .i64 c3] := rowOf_below (by repeat' first | (with_reducible first | assumption | apply row_drew | apply row_drewN | apply row_set_same | apply row_cell_same | apply row_set_other | apply row_cell_other) | (with_reducible exact row_new (by (first | with_reducible assumption | (simp; done) | (go_light; first | omega | (simp; omega))))) | (with_reducible apply row_old) | (first | with_reducible assumption | (simp; done) | (go_light; first | omega | (simp; omega))) | rfl) hb11 (by (first | with_reducible assumption | (simp; done) | (go_light; first | omega | (simp; omega))))
  have M_h : rowOf w11 ((w8.heap.size + 1)) = some (HV.row h2) := rowOf_below (by repeat' first | (with_reducible first | assumption | apply row_drew | apply row_drewN | apply row_set_same | apply row_cell_same | apply row_set_other | apply row_cell_other) | (with_reducible exact row_new (by (first | with_reducible assumption | (simp; done) | (go_light; first | omega | (simp; omega))))) | (with_reducible apply row_old) | (first | with_reducible assumption | (simp; done) | (go_light; first | omega | (simp; omega))) | rfl) hb11 (by (first | with_reducible assumption | (simp; done) | (go_light; first | omega | (simp; omega))))
  have M_v : rowOf w11 ((w8.heap.size + 1 + 1)) = some (TV.row v2) := rowOf_below (by repeat' first | (with_reducible first | assumption | apply row_drew | apply row_drewN | apply row_set_same | apply row_cell_same | apply row_set_other | apply row_cell_other) | (with_reducible exact row_new (by (first | with_reducible assumption | (simp; done) | (go_light; first | omega | (simp; omega))))) | (with_reducible apply row_old) | (first | with_reducible assumption | (simp; done) | (go_light; first | omega | (simp; omega))) | rfl) hb11 (by (first | with_reducible assumption | (simp; done) | (go_light; first | omega | (simp; omega))))
  clear hB; have hB := hB2; clear hB2
  clear N_t D_t L_t
  clear N_h D_h L_h
  clear N_v D_v L_v
  have N_t := M_t; clear M_t
  have L_t := rowOf_lt N_t
  have D_t := Nat.ne_of_lt L_t
  have N_h := M_h; clear M_h
  have L_h := rowOf_lt N_h
  have D_h := Nat.ne_of_lt L_h
  have N_v := M_v; clear M_v
  have L_v := rowOf_lt N_v
  have D_v := Nat.ne_of_lt L_v
  clear hb11
  have t_0 : w11.cell? ⟨w.heap.size, 0, none⟩ = some (.int .i64 4) := rowOf_cell N_t 0
  go_wp2_with fail
  rw [rounds_succ]
  clear t_0
  clear N_h L_h D_h
  clear N_v L_v D_v
  have Eh3 : w.heap.size ≠ (w11.heap.size + 1) := by omega
  have Ev3 : w.heap.size ≠ (w11.heap.size + 1 + 1) := by omega
  have Zh3 : w.heap.size ≤ (w11.heap.size + 1) := by omega
  have Zv3 : w.heap.size ≤ (w11.heap.size + 1 + 1) := by omega
  have Fh3 := Ne.symm Eh3
  have Fv3 := Ne.symm Ev3
  have G3 : (w11.heap.size + 1) ≠ (w11.heap.size + 1 + 1) := by omega
  have J3 := Ne.symm G3
  go_wp2_with fail
  refine (A3.out _).mono ?_
  rintro e w12 ⟨rfl, hb12⟩
  have hG : Below w11.heap.size w11 w12 := bstep (by repeat' first | (with_reducible first | assumption | exact Below.refl _ _ | apply blast | apply Below.drew | apply below_setRow | apply Below.alloc | apply Below.setCell) | (first | with_reducible assumption | (simp; done) | (go_light; first | omega | (simp; omega)))) hb12 (by (first | with_reducible assumption | (simp; done) | (go_light; first | omega | (simp; omega))))
  have hz := hG.size
  have N_h : rowOf w12 ((w11.heap.size + 1)) = some #[.int .i64 0, .int .i64 0, .int .i64 0, .int .i64 0, .int .i64 0, .int .i64 0, .int .i64 0, .int .i64 0, .int .i64 0, .int .i64 0, .int .i64 0] := rowOf_below (by repeat' first | (with_reducible first | assumption | apply row_drew | apply row_drewN | apply row_set_same | apply row_cell_same | apply row_set_other | apply row_cell_other) | (with_reducible exact row_new (by (first | with_reducible assumption | (simp; done) | (go_light; first | omega | (simp; omega))))) | (with_reducible apply row_old) | (first | with_reducible assumption | (simp; done) | (go_light; first | omega | (simp; omega))) | rfl) hb12 (by (first | with_reducible assumption | (simp; done) | (go_light; first | omega | (simp; omega))))
  have N_v : rowOf w12 ((w11.heap.size + 1 + 1)) = some #[.int .i64 0, .int .i64 0, .int .i64 0, .int .i64 0, .int .i64 0] := rowOf_below (by repeat' first | (with_reducible first | assumption | apply row_drew | apply row_drewN | apply row_set_same | apply row_cell_same | apply row_set_other | apply row_cell_other) | (with_reducible exact row_new (by (first | with_reducible assumption | (simp; done) | (go_light; first | omega | (simp; omega))))) | (with_reducible apply row_old) | (first | with_reducible assumption | (simp; done) | (go_light; first | omega | (simp; omega))) | rfl) hb12 (by (first | with_reducible assumption | (simp; done) | (go_light; first | omega | (simp; omega))))
  replace N_t := rowOf_below N_t hG L_t
  replace hB := bstep hB hG hB.size
  clear D_t L_t
  have L_t := rowOf_lt N_t
  have D_t := Nat.ne_of_lt L_t
  have L_h := rowOf_lt N_h
  have D_h := Nat.ne_of_lt L_h
  have L_v := rowOf_lt N_v
  have D_v := Nat.ne_of_lt L_v
  clear hb12 hG
  go_wp2_with fail
  refine (B3.out _).mono ?_
  rintro e w13 ⟨rfl, hb13⟩
  have hB2 : Below w.heap.size w w13 := bstep (by repeat' first | (with_reducible first | assumption | exact Below.refl _ _ | apply blast | apply Below.drew | apply below_setRow | apply Below.alloc | apply Below.setCell) | (first | with_reducible assumption | (simp; done) | (go_light; first | omega | (simp; omega)))) hb13 (by (first | with_reducible assumption | (simp; done) | (go_light; first | omega | (simp; omega))))
  have M_t : rowOf w13 (w.heap.size) = some #[.int .i64 4, .int .i64 c0, .int .i64 c1, .int .i64 c2, .int .i64 c3] := rowOf_below (by repeat' first | (with_reducible first | assumption | apply row_drew | apply row_drewN | apply row_set_same | apply row_cell_same | apply row_set_other | apply row_cell_other) | (with_reducible exact row_new (by (first | with_reducible assumption | (simp; done) | (go_light; first | omega | (simp; omega))))) | (with_reducible apply row_old) | (first | with_reducible assumption | (simp; done) | (go_light; first | omega | (simp; omega))) | rfl) hb13 (by (first | with_reducible assumption | (simp; done) | (go_light; first | omega | (simp; omega))))
  have M_h : rowOf w13 ((w11.heap.size + 1)) = some (HV.row h3) := rowOf_below (by repeat' first | (with_reducible first | assumption | apply row_drew | apply row_drewN | apply row_set_same | apply row_cell_same | apply row_set_other | apply row_cell_other) | (with_reducible exact row_new (by (first | with_reducible assumption | (simp; done) | (go_light; first | omega | (simp; omega))))) | (with_reducible apply row_old) | (first | with_reducible assumption | (simp; done) | (go_light; first | omega | (simp; omega))) | rfl) hb13 (by (first | with_reducible assumption | (simp; done) | (go_light; first | omega | (simp; omega))))
  have M_v : rowOf w13 ((w11.heap.size + 1 + 1)) = some #[.int .i64 0, .int .i64 0, .int .i64 0, .int .i64 0, .int .i64 0] := rowOf_below (by repeat' first | (with_reducible first | assumption | apply row_drew | apply row_drewN | apply row_set_same | apply row_cell_same | apply row_set_other | apply row_cell_other) | (with_reducible exact row_new (by (first | with_reducible assumption | (simp; done) | (go_light; first | omega | (simp; omega))))) | (with_reducible apply row_old) | (first | with_reducible assumption | (simp; done) | (go_light; first | omega | (simp; omega))) | rfl) hb13 (by (first | with_reducible assumption | (simp; done) | (go_light; first | omega | (simp; omega))))
  clear hB; have hB := hB2; clear hB2
  clear N_t D_t L_t
  clear N_h D_h L_h
  clear N_v D_v L_v
  have N_t := M_t; clear M_t
  have L_t := rowOf_lt N_t
  have D_t := Nat.ne_of_lt L_t
  have N_h := M_h; clear M_h
  have L_h := rowOf_lt N_h
  have D_h := Nat.ne_of_lt L_h
  have N_v := M_v; clear M_v
  have L_v := rowOf_lt N_v
  have D_v := Nat.ne_of_lt L_v
  clear hb13
  go_wp2_with fail
  refine (C3.out _).mono ?_
  rintro e w14 ⟨rfl, hb14⟩
  have hB2 : Below w.heap.size w w14 := bstep (by repeat' first | (with_reducible first | assumption | exact Below.refl _ _ | apply blast | apply Below.drew | apply below_setRow | apply Below.alloc | apply Below.setCell) | (first | with_reducible assumption | (simp; done) | (go_light; first | omega | (simp; omega)))) hb14 (by (first | with_reducible assumption | (simp; done) | (go_light; first | omega | (simp; omega))))
  have M_t : rowOf w14 (w.heap.size) = some #[.int .i64 4, .int .i64 c0, .int .i64 c1, .int .i64 c2, .int .i64 c3] := rowOf_below (by repeat' first | (with_reducible first | assumption | apply row_drew | apply row_drewN | apply row_set_same | apply row_cell_same | apply row_set_other | apply row_cell_other) | (with_reducible exact row_new (by (first | with_reducible assumption | (simp; done) | (go_light; first | omega | (simp; omega))))) | (with_reducible apply row_old) | (first | with_reducible assumption | (simp; done) | (go_light; first | omega | (simp; omega))) | rfl) hb14 (by (first | with_reducible assumption | (simp; done) | (go_light; first | omega | (simp; omega))))
  have M_h : rowOf w14 ((w11.heap.size + 1)) = some (HV.row h3) := rowOf_below (by repeat' first | (with_reducible first | assumption | apply row_drew | apply row_drewN | apply row_set_same | apply row_cell_same | apply row_set_other | apply row_cell_other) | (with_reducible exact row_new (by (first | with_reducible assumption | (simp; done) | (go_light; first | omega | (simp; omega))))) | (with_reducible apply row_old) | (first | with_reducible assumption | (simp; done) | (go_light; first | omega | (simp; omega))) | rfl) hb14 (by (first | with_reducible assumption | (simp; done) | (go_light; first | omega | (simp; omega))))
  have M_v : rowOf w14 ((w11.heap.size + 1 + 1)) = some (TV.row v3) := rowOf_below (by repeat' first | (with_reducible first | assumption | apply row_drew | apply row_drewN | apply row_set_same | apply row_cell_same | apply row_set_other | apply row_cell_other) | (with_reducible exact row_new (by (first | with_reducible assumption | (simp; done) | (go_light; first | omega | (simp; omega))))) | (with_reducible apply row_old) | (first | with_reducible assumption | (simp; done) | (go_light; first | omega | (simp; omega))) | rfl) hb14 (by (first | with_reducible assumption | (simp; done) | (go_light; first | omega | (simp; omega))))
  clear hB; have hB := hB2; clear hB2
  clear N_t D_t L_t
  clear N_h D_h L_h
  clear N_v D_v L_v
  have N_t := M_t; clear M_t
  have L_t := rowOf_lt N_t
  have D_t := Nat.ne_of_lt L_t
  have N_h := M_h; clear M_h
  have L_h := rowOf_lt N_h
  have D_h := Nat.ne_of_lt L_h
  have N_v := M_v; clear M_v
  have L_v := rowOf_lt N_v
  have D_v := Nat.ne_of_lt L_v
  clear hb14
  have t_0 : w14.cell? ⟨w.heap.size, 0, none⟩ = some (.int .i64 4) := rowOf_cell N_t 0
  go_wp2_with fail
  rw [rounds_succ]
  clear t_0
  clear N_h L_h D_h
  go_wp2
  go_returns
  exact ⟨ret_bool rfl, by repeat' first | (with_reducible first | assumption | exact Below.refl _ _ | apply blast | apply Below.drew | apply below_setRow | apply Below.alloc | apply Below.setCell) | (first | with_reducible assumption | (simp; done) | (go_light; first | omega | (simp; omega)))⟩

end Go.Proofs.Ytfkjlcmmmmjbkaa
