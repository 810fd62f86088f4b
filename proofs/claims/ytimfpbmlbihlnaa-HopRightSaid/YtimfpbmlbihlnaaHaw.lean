import Derived.Test.YtimfpbmlbihlnaaH6x
import Derived.Test.YtimfpbmlbihlnaaH6y
namespace Go.Proofs.Ytimfpbmlbihlnaa
open Go.RowKit
set_option linter.unusedVariables false
set_option linter.unusedSimpArgs false
attribute [local go_sem ↓] loadH loadT storeH storeT
attribute [local simp] size_setRow
attribute [local go_sem] HV.row TV.row
attribute [local go_sem] rowAt_head rowOf_alloc_at rowOf_alloc_past rowOf_drew rowOf_drewN rowOf_setRow_same rowOf_setRow_other rowOf_setCell_same rowOf_setCell_other size_setRow setRow_drew setRow_alloc_at setRow_alloc_past one_int one_bool cell_setRow_same cell_setRow_other frozen_setRow_same frozen_setRow_other
attribute [local go_sem] eqArr4

set_option maxHeartbeats 4000000 in
theorem awake_any (w : World) : Calls Try.prog 4 #[] w (Ret (.bool true) w) := by
  have H1 : Hid (∀ W, Calls Try.prog 13 #[.int .i64 1] W (Ret (.tuple #[.agg #[.int .i64 1, .int .i64 1, .int .i64 1, .int .i64 0, .int .i64 0, .int .i64 0, .int .i64 0, .int .i64 0, .int .i64 0, .int .i64 0, .int .i64 0], .bool true]) W)) := fun W => by have q := Enter_h 1 W; rw [show (enterH 1).rightB = true by rw [enter_right]; rfl] at q; exact q
  have H2 : Hid (∀ W, Calls Try.prog 14 #[.int .i64 2] W (Ret (.tuple #[.agg #[.int .i64 2, .int .i64 2, .int .i64 0, .int .i64 0, .int .i64 1, .int .i64 0, .int .i64 0, .int .i64 0, .int .i64 0, .int .i64 0, .int .i64 0], .bool true]) W)) := next_2_h
  have H3 : Hid (∀ W, Calls Try.prog 9 #[.agg #[.int .i64 1, .int .i64 1, .int .i64 1, .int .i64 0, .int .i64 0, .int .i64 0, .int .i64 0, .int .i64 0, .int .i64 0, .int .i64 0, .int .i64 0], .agg #[.int .i64 2, .int .i64 2, .int .i64 0, .int .i64 0, .int .i64 1, .int .i64 0, .int .i64 0, .int .i64 0, .int .i64 0, .int .i64 0, .int .i64 0]] W (Ret (.tuple #[.agg #[.int .i64 1, .int .i64 1, .int .i64 1, .int .i64 0, .int .i64 0, .int .i64 0, .int .i64 0, .int .i64 1, .int .i64 0, .int .i64 0, .int .i64 0], .bool true]) W)) := fun W => by
    have q := then_1x ⟨1, 1, 1, 0, 0, 0, 0, 0, 0, 0, 0⟩ ⟨2, 2, 0, 0, 1, 0, 0, 0, 0, 0, 0⟩ ⟨1, 1, 1, 0, 0, 0, 0, 1, 0, 0, 0⟩ (by decide +kernel) (by decide +kernel) rfl 2 rfl rfl rfl rfl 0 0 (fun _ => rfl) rfl (fun _ => by decide) (by decide) 0 1 (fun _ => rfl) rfl (fun _ => by decide) (by decide) 0 0 (fun _ => rfl) rfl (fun _ => by decide) (by decide) 0 0 (fun _ => rfl) rfl (fun _ => by decide) (by decide) rfl W
    rw [show HV.rightB ⟨1, 1, 1, 0, 0, 0, 0, 1, 0, 0, 0⟩ = true by decide +kernel] at q
    exact q
  have H4 : Hid (∀ W, Calls Try.prog 6 #[.agg #[.int .i64 1, .int .i64 1, .int .i64 1, .int .i64 0, .int .i64 0, .int .i64 0, .int .i64 0, .int .i64 1, .int .i64 0, .int .i64 0, .int .i64 0], .agg #[.int .i64 1, .int .i64 5, .int .i64 0, .int .i64 0, .int .i64 0]] W (Ret (.tuple #[.agg #[.int .i64 2, .int .i64 5, .int .i64 1, .int .i64 0, .int .i64 0], .bool true]) W)) := fun W => apply_is (h := ⟨1, 1, 1, 0, 0, 0, 0, 1, 0, 0, 0⟩) (t := ⟨1, 5, 0, 0, 0⟩) (x := ⟨2, 5, 1, 0, 0⟩) (by rw [applyT_ok (show applyOk ⟨1, 1, 1, 0, 0, 0, 0, 1, 0, 0, 0⟩ ⟨1, 5, 0, 0, 0⟩ = true by decide +kernel)]; rfl) (by decide +kernel) W
  go_enter Try.func4, Try.ntmps4
  go_wp2_with fail
  refine (H1.out _).mono ?_
  rintro e w1 ⟨rfl, hb1⟩
  have hG : Below w.heap.size w w1 := bstep (by repeat' first | (with_reducible first | assumption | exact Below.refl _ _ | apply blast | apply Below.drew | apply below_setRow | apply Below.alloc | apply Below.setCell) | (first | with_reducible assumption | (simp; done) | (go_light; first | omega | (simp; omega)))) hb1 (by (first | with_reducible assumption | (simp; done) | (go_light; first | omega | (simp; omega))))
  have hz := hG.size
  have hB := hG
  clear hb1 hG
  go_wp2_with fail
  refine (H2.out _).mono ?_
  rintro e w2 ⟨rfl, hb2⟩
  have hG : Below w1.heap.size w1 w2 := bstep (by repeat' first | (with_reducible first | assumption | exact Below.refl _ _ | apply blast | apply Below.drew | apply below_setRow | apply Below.alloc | apply Below.setCell) | (first | with_reducible assumption | (simp; done) | (go_light; first | omega | (simp; omega)))) hb2 (by (first | with_reducible assumption | (simp; done) | (go_light; first | omega | (simp; omega))))
  have hz := hG.size
  have N_a : rowOf w2 (w1.heap.size) = some #[.int .i64 1, .int .i64 1, .int .i64 1, .int .i64 0, .int .i64 0, .int .i64 0, .int .i64 0, .int .i64 0, .int .i64 0, .int .i64 0, .int .i64 0] := rowOf_below (by repeat' first | (with_reducible first | assumption | apply row_drew | apply row_drewN | apply row_set_same | apply row_cell_same | apply row_set_other | apply row_cell_other) | (with_reducible exact row_new (by (first | with_reducible assumption | (simp; done) | (go_light; first | omega | (simp; omega))))) | (with_reducible apply row_old) | (first | with_reducible assumption | (simp; done) | (go_light; first | omega | (simp; omega))) | rfl) hb2 (by (first | with_reducible assumption | (simp; done) | (go_light; first | omega | (simp; omega))))
  replace hB := bstep hB hG hB.size
  have L_a := rowOf_lt N_a
  have D_a := Nat.ne_of_lt L_a
  clear hb2 hG
  have E_a_b := D_a
  have F_a_b := Ne.symm D_a
  have Z_b : w.heap.size ≤ w2.heap.size := hB.size
  go_wp2_with fail
  refine (H3.out _).mono ?_
  rintro e w3 ⟨rfl, hb3⟩
  have hG : Below w2.heap.size w2 w3 := bstep (by repeat' first | (with_reducible first | assumption | exact Below.refl _ _ | apply blast | apply Below.drew | apply below_setRow | apply Below.alloc | apply Below.setCell) | (first | with_reducible assumption | (simp; done) | (go_light; first | omega | (simp; omega)))) hb3 (by (first | with_reducible assumption | (simp; done) | (go_light; first | omega | (simp; omega))))
  have hz := hG.size
  have N_b : rowOf w3 (w2.heap.size) = some #[.int .i64 2, .int .i64 2, .int .i64 0, .int .i64 0, .int .i64 1, .int .i64 0, .int .i64 0, .int .i64 0, .int .i64 0, .int .i64 0, .int .i64 0] := rowOf_below (by repeat' first | (with_reducible first | assumption | apply row_drew | apply row_drewN | apply row_set_same | apply row_cell_same | apply row_set_other | apply row_cell_other) | (with_reducible exact row_new (by (first | with_reducible assumption | (simp; done) | (go_light; first | omega | (simp; omega))))) | (with_reducible apply row_old) | (first | with_reducible assumption | (simp; done) | (go_light; first | omega | (simp; omega))) | rfl) hb3 (by (first | with_reducible assumption | (simp; done) | (go_light; first | omega | (simp; omega))))
  replace N_a := rowOf_below N_a hG L_a
  replace hB := bstep hB hG hB.size
  clear D_a L_a
  have L_a := rowOf_lt N_a
  have D_a := Nat.ne_of_lt L_a
  have L_b := rowOf_lt N_b
  have D_b := Nat.ne_of_lt L_b
  clear hb3 hG
  have E_a_c := D_a
  have F_a_c := Ne.symm D_a
  have E_b_c := D_b
  have F_b_c := Ne.symm D_b
  have Z_c : w.heap.size ≤ w3.heap.size := hB.size
  go_wp2_with fail
  refine (H4.out _).mono ?_
  rintro e w4 ⟨rfl, hb4⟩
  have hG : Below w3.heap.size w3 w4 := bstep (by repeat' first | (with_reducible first | assumption | exact Below.refl _ _ | apply blast | apply Below.drew | apply below_setRow | apply Below.alloc | apply Below.setCell) | (first | with_reducible assumption | (simp; done) | (go_light; first | omega | (simp; omega)))) hb4 (by (first | with_reducible assumption | (simp; done) | (go_light; first | omega | (simp; omega))))
  have hz := hG.size
  have N_c : rowOf w4 (w3.heap.size) = some #[.int .i64 1, .int .i64 1, .int .i64 1, .int .i64 0, .int .i64 0, .int .i64 0, .int .i64 0, .int .i64 1, .int .i64 0, .int .i64 0, .int .i64 0] := rowOf_below (by repeat' first | (with_reducible first | assumption | apply row_drew | apply row_drewN | apply row_set_same | apply row_cell_same | apply row_set_other | apply row_cell_other) | (with_reducible exact row_new (by (first | with_reducible assumption | (simp; done) | (go_light; first | omega | (simp; omega))))) | (with_reducible apply row_old) | (first | with_reducible assumption | (simp; done) | (go_light; first | omega | (simp; omega))) | rfl) hb4 (by (first | with_reducible assumption | (simp; done) | (go_light; first | omega | (simp; omega))))
  replace N_a := rowOf_below N_a hG L_a
  replace N_b := rowOf_below N_b hG L_b
  replace hB := bstep hB hG hB.size
  clear D_a L_a
  have L_a := rowOf_lt N_a
  have D_a := Nat.ne_of_lt L_a
  clear D_b L_b
  have L_b := rowOf_lt N_b
  have D_b := Nat.ne_of_lt L_b
  have L_c := rowOf_lt N_c
  have D_c := Nat.ne_of_lt L_c
  clear hb4 hG
  have E_a_t := D_a
  have F_a_t := Ne.symm D_a
  have E_b_t := D_b
  have F_b_t := Ne.symm D_b
  have E_c_t := D_c
  have F_c_t := Ne.symm D_c
  have Z_t : w.heap.size ≤ w4.heap.size := hB.size
  go_wp2
  go_returns
  exact ⟨ret_bool rfl, by repeat' first | (with_reducible first | assumption | exact Below.refl _ _ | apply blast | apply Below.drew | apply below_setRow | apply Below.alloc | apply Below.setCell) | (first | with_reducible assumption | (simp; done) | (go_light; first | omega | (simp; omega)))⟩
end Go.Proofs.Ytimfpbmlbihlnaa
