import Derived.Test.YtimfpbmlbihlnaaH4a
namespace Go.Proofs.Ytimfpbmlbihlnaa
open Go.RowKit
set_option linter.unusedVariables false
set_option linter.unusedSimpArgs false
attribute [local go_sem ↓] loadH loadT storeH storeT
attribute [local simp] size_setRow
attribute [local go_sem] HV.row TV.row
attribute [local go_sem] rowAt_head rowOf_alloc_at rowOf_alloc_past rowOf_drew rowOf_drewN rowOf_setRow_same rowOf_setRow_other rowOf_setCell_same rowOf_setCell_other size_setRow setRow_drew setRow_alloc_at setRow_alloc_past one_int one_bool cell_setRow_same cell_setRow_other frozen_setRow_same frozen_setRow_other

set_option maxHeartbeats 4000000 in
theorem apply_0_2 (f a0 a1 a2 a3 b0 b1 b2 b3 c0 c1 c2 c3 : Int) (ok : Bool) (hr : HV.rightB ⟨f, 0, 2, a0, a1, a2, a3, b0, b1, b2, b3⟩ = true) (ht : rightB f c0 c1 c2 c3 = true)  (ho : rightB 2 b0 b1 0 0 = ok) (w : World) :
    Calls Try.prog 6 #[.agg #[.int .i64 f, .int .i64 0, .int .i64 2, .int .i64 a0, .int .i64 a1, .int .i64 a2, .int .i64 a3, .int .i64 b0, .int .i64 b1, .int .i64 b2, .int .i64 b3], .agg #[.int .i64 f, .int .i64 c0, .int .i64 c1, .int .i64 c2, .int .i64 c3]] w (Ret (.tuple #[.agg #[.int .i64 (gate ok 2), .int .i64 (gate ok b0), .int .i64 (gate ok b1), .int .i64 (gate ok 0), .int .i64 (gate ok 0)], .bool ok]) w) := by
  have HR := Lib.hid (hright_is hr)
  have HT := Lib.hid (tright_is ht)
  have HO := Lib.hid (tright_is ho)
  have HG : Hid (∀ W, Calls Try.prog 16 #[.agg #[.int .i64 f, .int .i64 0, .int .i64 2, .int .i64 a0, .int .i64 a1, .int .i64 a2, .int .i64 a3, .int .i64 b0, .int .i64 b1, .int .i64 b2, .int .i64 b3]] W (Ret (.int .i64 2) W)) := fun W => gives_n f 0 2 a0 a1 a2 a3 b0 b1 b2 b3 (by decide) (by decide) (by decide) (by decide) W
  have HA0 : Hid (∀ W, Calls Try.prog 17 #[.agg #[.int .i64 f, .int .i64 0, .int .i64 2, .int .i64 a0, .int .i64 a1, .int .i64 a2, .int .i64 a3, .int .i64 b0, .int .i64 b1, .int .i64 b2, .int .i64 b3], .int .i64 0] W (Ret (.tuple #[.int .i64 b0, .bool false]) W)) := fun W => at_new_n f 0 2 a0 a1 a2 a3 b0 b1 b2 b3 0 (by decide) (by decide) (by decide) (by decide) (by decide) (by decide) W
  have HA1 : Hid (∀ W, Calls Try.prog 17 #[.agg #[.int .i64 f, .int .i64 0, .int .i64 2, .int .i64 a0, .int .i64 a1, .int .i64 a2, .int .i64 a3, .int .i64 b0, .int .i64 b1, .int .i64 b2, .int .i64 b3], .int .i64 1] W (Ret (.tuple #[.int .i64 b1, .bool false]) W)) := fun W => at_new_n f 0 2 a0 a1 a2 a3 b0 b1 b2 b3 1 (by decide) (by decide) (by decide) (by decide) (by decide) (by decide) W
  clear hr ht ho
  go_enter Try.func6, Try.ntmps6
  generalize hQ : bodyPost _ _ _ = Q0
  have HQ := Lib.hid hQ
  clear hQ
  go_wp2_with fail
  refine (HR.out _).mono ?_
  rintro e w1 ⟨rfl, hb1⟩
  have hG : Below w.heap.size w w1 := bstep (by repeat' first | (with_reducible first | assumption | exact Below.refl _ _ | apply blast | apply Below.drew | apply below_setRow | apply Below.alloc | apply Below.setCell) | (first | with_reducible assumption | (simp; done) | (go_light; first | omega | (simp; omega)))) hb1 (by (first | with_reducible assumption | (simp; done) | (go_light; first | omega | (simp; omega))))
  have hz := hG.size
  have N_p : rowOf w1 (w.heap.size) = some #[.int .i64 f, .int .i64 0, .int .i64 2, .int .i64 a0, .int .i64 a1, .int .i64 a2, .int .i64 a3, .int .i64 b0, .int .i64 b1, .int .i64 b2, .int .i64 b3] := rowOf_below (by repeat' first | (with_reducible first | assumption | apply row_drew | apply row_drewN | apply row_set_same | apply row_cell_same | apply row_set_other | apply row_cell_other) | (with_reducible exact row_new (by (first | with_reducible assumption | (simp; done) | (go_light; first | omega | (simp; omega))))) | (with_reducible apply row_old) | (first | with_reducible assumption | (simp; done) | (go_light; first | omega | (simp; omega))) | rfl) hb1 (by (first | with_reducible assumption | (simp; done) | (go_light; first | omega | (simp; omega))))
  have N_q : rowOf w1 ((w.heap.size + 1)) = some #[.int .i64 f, .int .i64 c0, .int .i64 c1, .int .i64 c2, .int .i64 c3] := rowOf_below (by repeat' first | (with_reducible first | assumption | apply row_drew | apply row_drewN | apply row_set_same | apply row_cell_same | apply row_set_other | apply row_cell_other) | (with_reducible exact row_new (by (first | with_reducible assumption | (simp; done) | (go_light; first | omega | (simp; omega))))) | (with_reducible apply row_old) | (first | with_reducible assumption | (simp; done) | (go_light; first | omega | (simp; omega))) | rfl) hb1 (by (first | with_reducible assumption | (simp; done) | (go_light; first | omega | (simp; omega))))
  have N_r : rowOf w1 ((w.heap.size + 1 + 1)) = some #[.int .i64 0, .int .i64 0, .int .i64 0, .int .i64 0, .int .i64 0] := rowOf_below (by repeat' first | (with_reducible first | assumption | apply row_drew | apply row_drewN | apply row_set_same | apply row_cell_same | apply row_set_other | apply row_cell_other) | (with_reducible exact row_new (by (first | with_reducible assumption | (simp; done) | (go_light; first | omega | (simp; omega))))) | (with_reducible apply row_old) | (first | with_reducible assumption | (simp; done) | (go_light; first | omega | (simp; omega))) | rfl) hb1 (by (first | with_reducible assumption | (simp; done) | (go_light; first | omega | (simp; omega))))
  have hB := hG
  have L_p := rowOf_lt N_p
  have D_p := Nat.ne_of_lt L_p
  have L_q := rowOf_lt N_q
  have D_q := Nat.ne_of_lt L_q
  have L_r := rowOf_lt N_r
  have D_r := Nat.ne_of_lt L_r
  clear hb1 hG
  go_wp2_with fail
  refine (HT.out _).mono ?_
  rintro e w2 ⟨rfl, hb2⟩
  have hG : Below w1.heap.size w1 w2 := bstep (by repeat' first | (with_reducible first | assumption | exact Below.refl _ _ | apply blast | apply Below.drew | apply below_setRow | apply Below.alloc | apply Below.setCell) | (first | with_reducible assumption | (simp; done) | (go_light; first | omega | (simp; omega)))) hb2 (by (first | with_reducible assumption | (simp; done) | (go_light; first | omega | (simp; omega))))
  have hz := hG.size
  replace N_p := rowOf_below N_p hG L_p
  replace N_q := rowOf_below N_q hG L_q
  replace N_r := rowOf_below N_r hG L_r
  replace hB := bstep hB hG hB.size
  clear D_p L_p
  have L_p := rowOf_lt N_p
  have D_p := Nat.ne_of_lt L_p
  clear D_q L_q
  have L_q := rowOf_lt N_q
  have D_q := Nat.ne_of_lt L_q
  clear D_r L_r
  have L_r := rowOf_lt N_r
  have D_r := Nat.ne_of_lt L_r
  clear hb2 hG
  have p_0 : w2.cell? ⟨w.heap.size, 0, none⟩ = some (.int .i64 f) := rowOf_cell N_p 0
  have q_0 : w2.cell? ⟨(w.heap.size + 1), 0, none⟩ = some (.int .i64 f) := rowOf_cell N_q 0
  go_wp2_with fail
  refine (HG.out _).mono ?_
  rintro e w3 ⟨rfl, hb3⟩
  have hG : Below w2.heap.size w2 w3 := bstep (by repeat' first | (with_reducible first | assumption | exact Below.refl _ _ | apply blast | apply Below.drew | apply below_setRow | apply Below.alloc | apply Below.setCell) | (first | with_reducible assumption | (simp; done) | (go_light; first | omega | (simp; omega)))) hb3 (by (first | with_reducible assumption | (simp; done) | (go_light; first | omega | (simp; omega))))
  have hz := hG.size
  replace N_p := rowOf_below N_p hG L_p
  replace N_q := rowOf_below N_q hG L_q
  replace N_r := rowOf_below N_r hG L_r
  clear p_0
  clear q_0
  replace hB := bstep hB hG hB.size
  clear D_p L_p
  have L_p := rowOf_lt N_p
  have D_p := Nat.ne_of_lt L_p
  clear D_q L_q
  have L_q := rowOf_lt N_q
  have D_q := Nat.ne_of_lt L_q
  clear D_r L_r
  have L_r := rowOf_lt N_r
  have D_r := Nat.ne_of_lt L_r
  clear hb3 hG
  have E_p_x := D_p
  have F_p_x := Ne.symm D_p
  have E_q_x := D_q
  have F_q_x := Ne.symm D_q
  have E_r_x := D_r
  have F_r_x := Ne.symm D_r
  have Z_x : w.heap.size ≤ w3.heap.size := hB.size
  go_wp2_with fail
  refine wp_loop_rounds 3 ?_
  rw [rounds_succ]
  go_wp2_with fail
  refine (HA0.out _).mono ?_
  rintro e w4 ⟨rfl, hb4⟩
  have hG : Below w3.heap.size w3 w4 := bstep (by repeat' first | (with_reducible first | assumption | exact Below.refl _ _ | apply blast | apply Below.drew | apply below_setRow | apply Below.alloc | apply Below.setCell) | (first | with_reducible assumption | (simp; done) | (go_light; first | omega | (simp; omega)))) hb4 (by (first | with_reducible assumption | (simp; done) | (go_light; first | omega | (simp; omega))))
  have hz := hG.size
  have N_x : rowOf w4 (w3.heap.size) = some #[.int .i64 2, .int .i64 0, .int .i64 0, .int .i64 0, .int .i64 0] := rowOf_below (by repeat' first | (with_reducible first | assumption | apply row_drew | apply row_drewN | apply row_set_same | apply row_cell_same | apply row_set_other | apply row_cell_other) | (with_reducible exact row_new (by (first | with_reducible assumption | (simp; done) | (go_light; first | omega | (simp; omega))))) | (with_reducible apply row_old) | (first | with_reducible assumption | (simp; done) | (go_light; first | omega | (simp; omega))) | rfl) hb4 (by (first | with_reducible assumption | (simp; done) | (go_light; first | omega | (simp; omega))))
  replace N_p := rowOf_below N_p hG L_p
  replace N_q := rowOf_below N_q hG L_q
  replace N_r := rowOf_below N_r hG L_r
  replace hB := bstep hB hG hB.size
  clear D_p L_p
  have L_p := rowOf_lt N_p
  have D_p := Nat.ne_of_lt L_p
  clear D_q L_q
  have L_q := rowOf_lt N_q
  have D_q := Nat.ne_of_lt L_q
  clear D_r L_r
  have L_r := rowOf_lt N_r
  have D_r := Nat.ne_of_lt L_r
  have L_x := rowOf_lt N_x
  have D_x := Nat.ne_of_lt L_x
  clear hb4 hG
  have x_1 : w4.cell? ⟨w3.heap.size, 1, none⟩ = some (.int .i64 0) := rowOf_cell N_x 1
  have x_f1 := rowOf_frozen N_x 1
  go_wp2_with fail
  rw [rounds_succ]
  go_wp2_with fail
  refine (HA1.out _).mono ?_
  rintro e w5 ⟨rfl, hb5⟩
  have hB2 : Below w.heap.size w w5 := bstep (by repeat' first | (with_reducible first | assumption | exact Below.refl _ _ | apply blast | apply Below.drew | apply below_setRow | apply Below.alloc | apply Below.setCell) | (first | with_reducible assumption | (simp; done) | (go_light; first | omega | (simp; omega)))) hb5 (by (first | with_reducible assumption | (simp; done) | (go_light; first | omega | (simp; omega))))
  have M_p : rowOf w5 (w.heap.size) = some #[.int .i64 f, .int .i64 0, .int .i64 2, .int .i64 a0, .int .i64 a1, .int .i64 a2, .int .i64 a3, .int .i64 b0, .int .i64 b1, .int .i64 b2, .int .i64 b3] := rowOf_below (by repeat' first | (with_reducible first | assumption | apply row_drew | apply row_drewN | apply row_set_same | apply row_cell_same | apply row_set_other | apply row_cell_other) | (with_reducible exact row_new (by (first | with_reducible assumption | (simp; done) | (go_light; first | omega | (simp; omega))))) | (with_reducible apply row_old) | (first | with_reducible assumption | (simp; done) | (go_light; first | omega | (simp; omega))) | rfl) hb5 (by (first | with_reducible assumption | (simp; done) | (go_light; first | omega | (simp; omega))))
  have M_q : rowOf w5 ((w.heap.size + 1)) = some #[.int .i64 f, .int .i64 c0, .int .i64 c1, .int .i64 c2, .int .i64 c3] := rowOf_below (by repeat' first | (with_reducible first | assumption | apply row_drew | apply row_drewN | apply row_set_same | apply row_cell_same | apply row_set_other | apply row_cell_other) | (with_reducible exact row_new (by (first | with_reducible assumption | (simp; done) | (go_light; first | omega | (simp; omega))))) | (with_reducible apply row_old) | (first | with_reducible assumption | (simp; done) | (go_light; first | omega | (simp; omega))) | rfl) hb5 (by (first | with_reducible assumption | (simp; done) | (go_light; first | omega | (simp; omega))))
  have M_r : rowOf w5 ((w.heap.size + 1 + 1)) = some #[.int .i64 0, .int .i64 0, .int .i64 0, .int .i64 0, .int .i64 0] := rowOf_below (by repeat' first | (with_reducible first | assumption | apply row_drew | apply row_drewN | apply row_set_same | apply row_cell_same | apply row_set_other | apply row_cell_other) | (with_reducible exact row_new (by (first | with_reducible assumption | (simp; done) | (go_light; first | omega | (simp; omega))))) | (with_reducible apply row_old) | (first | with_reducible assumption | (simp; done) | (go_light; first | omega | (simp; omega))) | rfl) hb5 (by (first | with_reducible assumption | (simp; done) | (go_light; first | omega | (simp; omega))))
  have M_x : rowOf w5 (w3.heap.size) = some #[.int .i64 2, .int .i64 b0, .int .i64 0, .int .i64 0, .int .i64 0] := rowOf_below (by repeat' first | (with_reducible first | assumption | apply row_drew | apply row_drewN | apply row_set_same | apply row_cell_same | apply row_set_other | apply row_cell_other) | (with_reducible exact row_new (by (first | with_reducible assumption | (simp; done) | (go_light; first | omega | (simp; omega))))) | (with_reducible apply row_old) | (first | with_reducible assumption | (simp; done) | (go_light; first | omega | (simp; omega))) | rfl) hb5 (by (first | with_reducible assumption | (simp; done) | (go_light; first | omega | (simp; omega))))
  clear x_1 x_f1
  clear hB; have hB := hB2; clear hB2
  clear N_p D_p L_p
  clear N_q D_q L_q
  clear N_r D_r L_r
  clear N_x D_x L_x
  have N_p := M_p; clear M_p
  have L_p := rowOf_lt N_p
  have D_p := Nat.ne_of_lt L_p
  have N_q := M_q; clear M_q
  have L_q := rowOf_lt N_q
  have D_q := Nat.ne_of_lt L_q
  have N_r := M_r; clear M_r
  have L_r := rowOf_lt N_r
  have D_r := Nat.ne_of_lt L_r
  have N_x := M_x; clear M_x
  have L_x := rowOf_lt N_x
  have D_x := Nat.ne_of_lt L_x
  clear hb5
  have x_2 : w5.cell? ⟨w3.heap.size, 2, none⟩ = some (.int .i64 0) := rowOf_cell N_x 2
  have x_f2 := rowOf_frozen N_x 2
  go_wp2_with fail
  rw [rounds_succ]
  go_wp2_with fail
  refine (HO.out _).mono ?_
  rintro e w6 ⟨rfl, hb6⟩
  have hB2 : Below w.heap.size w w6 := bstep (by repeat' first | (with_reducible first | assumption | exact Below.refl _ _ | apply blast | apply Below.drew | apply below_setRow | apply Below.alloc | apply Below.setCell) | (first | with_reducible assumption | (simp; done) | (go_light; first | omega | (simp; omega)))) hb6 (by (first | with_reducible assumption | (simp; done) | (go_light; first | omega | (simp; omega))))
  have M_p : rowOf w6 (w.heap.size) = some #[.int .i64 f, .int .i64 0, .int .i64 2, .int .i64 a0, .int .i64 a1, .int .i64 a2, .int .i64 a3, .int .i64 b0, .int .i64 b1, .int .i64 b2, .int .i64 b3] := rowOf_below (by repeat' first | (with_reducible first | assumption | apply row_drew | apply row_drewN | apply row_set_same | apply row_cell_same | apply row_set_other | apply row_cell_other) | (with_reducible exact row_new (by (first | with_reducible assumption | (simp; done) | (go_light; first | omega | (simp; omega))))) | (with_reducible apply row_old) | (first | with_reducible assumption | (simp; done) | (go_light; first | omega | (simp; omega))) | rfl) hb6 (by (first | with_reducible assumption | (simp; done) | (go_light; first | omega | (simp; omega))))
  have M_q : rowOf w6 ((w.heap.size + 1)) = some #[.int .i64 f, .int .i64 c0, .int .i64 c1, .int .i64 c2, .int .i64 c3] := rowOf_below (by repeat' first | (with_reducible first | assumption | apply row_drew | apply row_drewN | apply row_set_same | apply row_cell_same | apply row_set_other | apply row_cell_other) | (with_reducible exact row_new (by (first | with_reducible assumption | (simp; done) | (go_light; first | omega | (simp; omega))))) | (with_reducible apply row_old) | (first | with_reducible assumption | (simp; done) | (go_light; first | omega | (simp; omega))) | rfl) hb6 (by (first | with_reducible assumption | (simp; done) | (go_light; first | omega | (simp; omega))))
  have M_r : rowOf w6 ((w.heap.size + 1 + 1)) = some #[.int .i64 0, .int .i64 0, .int .i64 0, .int .i64 0, .int .i64 0] := rowOf_below (by repeat' first | (with_reducible first | assumption | apply row_drew | apply row_drewN | apply row_set_same | apply row_cell_same | apply row_set_other | apply row_cell_other) | (with_reducible exact row_new (by (first | with_reducible assumption | (simp; done) | (go_light; first | omega | (simp; omega))))) | (with_reducible apply row_old) | (first | with_reducible assumption | (simp; done) | (go_light; first | omega | (simp; omega))) | rfl) hb6 (by (first | with_reducible assumption | (simp; done) | (go_light; first | omega | (simp; omega))))
  have M_x : rowOf w6 (w3.heap.size) = some #[.int .i64 2, .int .i64 b0, .int .i64 b1, .int .i64 0, .int .i64 0] := rowOf_below (by repeat' first | (with_reducible first | assumption | apply row_drew | apply row_drewN | apply row_set_same | apply row_cell_same | apply row_set_other | apply row_cell_other) | (with_reducible exact row_new (by (first | with_reducible assumption | (simp; done) | (go_light; first | omega | (simp; omega))))) | (with_reducible apply row_old) | (first | with_reducible assumption | (simp; done) | (go_light; first | omega | (simp; omega))) | rfl) hb6 (by (first | with_reducible assumption | (simp; done) | (go_light; first | omega | (simp; omega))))
  clear x_2 x_f2
  clear hB; have hB := hB2; clear hB2
  clear N_p D_p L_p
  clear N_q D_q L_q
  clear N_r D_r L_r
  clear N_x D_x L_x
  have N_p := M_p; clear M_p
  have L_p := rowOf_lt N_p
  have D_p := Nat.ne_of_lt L_p
  have N_q := M_q; clear M_q
  have L_q := rowOf_lt N_q
  have D_q := Nat.ne_of_lt L_q
  have N_r := M_r; clear M_r
  have L_r := rowOf_lt N_r
  have D_r := Nat.ne_of_lt L_r
  have N_x := M_x; clear M_x
  have L_x := rowOf_lt N_x
  have D_x := Nat.ne_of_lt L_x
  clear hb6
  cases ok
  all_goals
    go_wp2
    rw [← HQ.out]
    first | exact bodyPost_ret (v := .tuple #[.agg #[.int .i64 (gate false 2), .int .i64 (gate false b0), .int .i64 (gate false b1), .int .i64 (gate false 0), .int .i64 (gate false 0)], .bool false]) (by simp [gate, results, Try.results6, go_sem, N_r, L_r, D_r]) rfl ⟨rfl, by repeat' first | (with_reducible first | assumption | exact Below.refl _ _ | apply blast | apply Below.drew | apply below_setRow | apply Below.alloc | apply Below.setCell) | (first | with_reducible assumption | (simp; done) | (go_light; first | omega | (simp; omega)))⟩ | exact bodyPost_ret (v := .tuple #[.agg #[.int .i64 (gate true 2), .int .i64 (gate true b0), .int .i64 (gate true b1), .int .i64 (gate true 0), .int .i64 (gate true 0)], .bool true]) (by simp [gate, results, Try.results6, go_sem, N_r, L_r, D_r]) rfl ⟨rfl, by repeat' first | (with_reducible first | assumption | exact Below.refl _ _ | apply blast | apply Below.drew | apply below_setRow | apply Below.alloc | apply Below.setCell) | (first | with_reducible assumption | (simp; done) | (go_light; first | omega | (simp; omega)))⟩

set_option maxHeartbeats 4000000 in
theorem apply_1_1 (f a0 a1 a2 a3 b0 b1 b2 b3 c0 c1 c2 c3 : Int) (ok : Bool) (hr : HV.rightB ⟨f, 1, 1, a0, a1, a2, a3, b0, b1, b2, b3⟩ = true) (ht : rightB f c0 c1 c2 c3 = true) (ha0 : 0 ≤ a0 ∧ a0 ≤ 1048576) (hc0 : 0 ≤ c0 ∧ c0 ≤ 1048576) (ho : rightB 2 (a0 + c0) b0 0 0 = ok) (w : World) :
    Calls Try.prog 6 #[.agg #[.int .i64 f, .int .i64 1, .int .i64 1, .int .i64 a0, .int .i64 a1, .int .i64 a2, .int .i64 a3, .int .i64 b0, .int .i64 b1, .int .i64 b2, .int .i64 b3], .agg #[.int .i64 f, .int .i64 c0, .int .i64 c1, .int .i64 c2, .int .i64 c3]] w (Ret (.tuple #[.agg #[.int .i64 (gate ok 2), .int .i64 (gate ok (a0 + c0)), .int .i64 (gate ok b0), .int .i64 (gate ok 0), .int .i64 (gate ok 0)], .bool ok]) w) := by
  have HR := Lib.hid (hright_is hr)
  have HT := Lib.hid (tright_is ht)
  have HO := Lib.hid (tright_is ho)
  have HG : Hid (∀ W, Calls Try.prog 16 #[.agg #[.int .i64 f, .int .i64 1, .int .i64 1, .int .i64 a0, .int .i64 a1, .int .i64 a2, .int .i64 a3, .int .i64 b0, .int .i64 b1, .int .i64 b2, .int .i64 b3]] W (Ret (.int .i64 2) W)) := fun W => gives_n f 1 1 a0 a1 a2 a3 b0 b1 b2 b3 (by decide) (by decide) (by decide) (by decide) W
  have HA0 : Hid (∀ W, Calls Try.prog 17 #[.agg #[.int .i64 f, .int .i64 1, .int .i64 1, .int .i64 a0, .int .i64 a1, .int .i64 a2, .int .i64 a3, .int .i64 b0, .int .i64 b1, .int .i64 b2, .int .i64 b3], .int .i64 0] W (Ret (.tuple #[.int .i64 a0, .bool true]) W)) := fun W => at_kept_n f 1 1 a0 a1 a2 a3 b0 b1 b2 b3 0 (by decide) (by decide) (by decide) (by decide) (by decide) (by decide) W
  have HA1 : Hid (∀ W, Calls Try.prog 17 #[.agg #[.int .i64 f, .int .i64 1, .int .i64 1, .int .i64 a0, .int .i64 a1, .int .i64 a2, .int .i64 a3, .int .i64 b0, .int .i64 b1, .int .i64 b2, .int .i64 b3], .int .i64 1] W (Ret (.tuple #[.int .i64 b0, .bool false]) W)) := fun W => at_new_n f 1 1 a0 a1 a2 a3 b0 b1 b2 b3 1 (by decide) (by decide) (by decide) (by decide) (by decide) (by decide) W
  obtain ⟨ha0, ha0x⟩ := ha0; obtain ⟨hc0, hc0x⟩ := hc0
  clear hr ht ho
  go_enter Try.func6, Try.ntmps6
  generalize hQ : bodyPost _ _ _ = Q0
  have HQ := Lib.hid hQ
  clear hQ
  go_wp2_with fail
  refine (HR.out _).mono ?_
  rintro e w1 ⟨rfl, hb1⟩
  have hG : Below w.heap.size w w1 := bstep (by repeat' first | (with_reducible first | assumption | exact Below.refl _ _ | apply blast | apply Below.drew | apply below_setRow | apply Below.alloc | apply Below.setCell) | (first | with_reducible assumption | (simp; done) | (go_light; first | omega | (simp; omega)))) hb1 (by (first | with_reducible assumption | (simp; done) | (go_light; first | omega | (simp; omega))))
  have hz := hG.size
  have N_p : rowOf w1 (w.heap.size) = some #[.int .i64 f, .int .i64 1, .int .i64 1, .int .i64 a0, .int .i64 a1, .int .i64 a2, .int .i64 a3, .int .i64 b0, .int .i64 b1, .int .i64 b2, .int .i64 b3] := rowOf_below (by repeat' first | (with_reducible first | assumption | apply row_drew | apply row_drewN | apply row_set_same | apply row_cell_same | apply row_set_other | apply row_cell_other) | (with_reducible exact row_new (by (first | with_reducible assumption | (simp; done) | (go_light; first | omega | (simp; omega))))) | (with_reducible apply row_old) | (first | with_reducible assumption | (simp; done) | (go_light; first | omega | (simp; omega))) | rfl) hb1 (by (first | with_reducible assumption | (simp; done) | (go_light; first | omega | (simp; omega))))
  have N_q : rowOf w1 ((w.heap.size + 1)) = some #[.int .i64 f, .int .i64 c0, .int .i64 c1, .int .i64 c2, .int .i64 c3] := rowOf_below (by repeat' first | (with_reducible first | assumption | apply row_drew | apply row_drewN | apply row_set_same | apply row_cell_same | apply row_set_other | apply row_cell_other) | (with_reducible exact row_new (by (first | with_reducible assumption | (simp; done) | (go_light; first | omega | (simp; omega))))) | (with_reducible apply row_old) | (first | with_reducible assumption | (simp; done) | (go_light; first | omega | (simp; omega))) | rfl) hb1 (by (first | with_reducible assumption | (simp; done) | (go_light; first | omega | (simp; omega))))
  have N_r : rowOf w1 ((w.heap.size + 1 + 1)) = some #[.int .i64 0, .int .i64 0, .int .i64 0, .int .i64 0, .int .i64 0] := rowOf_below (by repeat' first | (with_reducible first | assumption | apply row_drew | apply row_drewN | apply row_set_same | apply row_cell_same | apply row_set_other | apply row_cell_other) | (with_reducible exact row_new (by (first | with_reducible assumption | (simp; done) | (go_light; first | omega | (simp; omega))))) | (with_reducible apply row_old) | (first | with_reducible assumption | (simp; done) | (go_light; first | omega | (simp; omega))) | rfl) hb1 (by (first | with_reducible assumption | (simp; done) | (go_light; first | omega | (simp; omega))))
  have hB := hG
  have L_p := rowOf_lt N_p
  have D_p := Nat.ne_of_lt L_p
  have L_q := rowOf_lt N_q
  have D_q := Nat.ne_of_lt L_q
  have L_r := rowOf_lt N_r
  have D_r := Nat.ne_of_lt L_r
  clear hb1 hG
  go_wp2_with fail
  refine (HT.out _).mono ?_
  rintro e w2 ⟨rfl, hb2⟩
  have hG : Below w1.heap.size w1 w2 := bstep (by repeat' first | (with_reducible first | assumption | exact Below.refl _ _ | apply blast | apply Below.drew | apply below_setRow | apply Below.alloc | apply Below.setCell) | (first | with_reducible assumption | (simp; done) | (go_light; first | omega | (simp; omega)))) hb2 (by (first | with_reducible assumption | (simp; done) | (go_light; first | omega | (simp; omega))))
  have hz := hG.size
  replace N_p := rowOf_below N_p hG L_p
  replace N_q := rowOf_below N_q hG L_q
  replace N_r := rowOf_below N_r hG L_r
  replace hB := bstep hB hG hB.size
  clear D_p L_p
  have L_p := rowOf_lt N_p
  have D_p := Nat.ne_of_lt L_p
  clear D_q L_q
  have L_q := rowOf_lt N_q
  have D_q := Nat.ne_of_lt L_q
  clear D_r L_r
  have L_r := rowOf_lt N_r
  have D_r := Nat.ne_of_lt L_r
  clear hb2 hG
  have p_0 : w2.cell? ⟨w.heap.size, 0, none⟩ = some (.int .i64 f) := rowOf_cell N_p 0
  have q_0 : w2.cell? ⟨(w.heap.size + 1), 0, none⟩ = some (.int .i64 f) := rowOf_cell N_q 0
  go_wp2_with fail
  refine (HG.out _).mono ?_
  rintro e w3 ⟨rfl, hb3⟩
  have hG : Below w2.heap.size w2 w3 := bstep (by repeat' first | (with_reducible first | assumption | exact Below.refl _ _ | apply blast | apply Below.drew | apply below_setRow | apply Below.alloc | apply Below.setCell) | (first | with_reducible assumption | (simp; done) | (go_light; first | omega | (simp; omega)))) hb3 (by (first | with_reducible assumption | (simp; done) | (go_light; first | omega | (simp; omega))))
  have hz := hG.size
  replace N_p := rowOf_below N_p hG L_p
  replace N_q := rowOf_below N_q hG L_q
  replace N_r := rowOf_below N_r hG L_r
  clear p_0
  clear q_0
  replace hB := bstep hB hG hB.size
  clear D_p L_p
  have L_p := rowOf_lt N_p
  have D_p := Nat.ne_of_lt L_p
  clear D_q L_q
  have L_q := rowOf_lt N_q
  have D_q := Nat.ne_of_lt L_q
  clear D_r L_r
  have L_r := rowOf_lt N_r
  have D_r := Nat.ne_of_lt L_r
  clear hb3 hG
  have E_p_x := D_p
  have F_p_x := Ne.symm D_p
  have E_q_x := D_q
  have F_q_x := Ne.symm D_q
  have E_r_x := D_r
  have F_r_x := Ne.symm D_r
  have Z_x : w.heap.size ≤ w3.heap.size := hB.size
  go_wp2_with fail
  refine wp_loop_rounds 3 ?_
  rw [rounds_succ]
  go_wp2_with fail
  refine (HA0.out _).mono ?_
  rintro e w4 ⟨rfl, hb4⟩
  have hG : Below w3.heap.size w3 w4 := bstep (by repeat' first | (with_reducible first | assumption | exact Below.refl _ _ | apply blast | apply Below.drew | apply below_setRow | apply Below.alloc | apply Below.setCell) | (first | with_reducible assumption | (simp; done) | (go_light; first | omega | (simp; omega)))) hb4 (by (first | with_reducible assumption | (simp; done) | (go_light; first | omega | (simp; omega))))
  have hz := hG.size
  have N_x : rowOf w4 (w3.heap.size) = some #[.int .i64 2, .int .i64 0, .int .i64 0, .int .i64 0, .int .i64 0] := rowOf_below (by repeat' first | (with_reducible first | assumption | apply row_drew | apply row_drewN | apply row_set_same | apply row_cell_same | apply row_set_other | apply row_cell_other) | (with_reducible exact row_new (by (first | with_reducible assumption | (simp; done) | (go_light; first | omega | (simp; omega))))) | (with_reducible apply row_old) | (first | with_reducible assumption | (simp; done) | (go_light; first | omega | (simp; omega))) | rfl) hb4 (by (first | with_reducible assumption | (simp; done) | (go_light; first | omega | (simp; omega))))
  replace N_p := rowOf_below N_p hG L_p
  replace N_q := rowOf_below N_q hG L_q
  replace N_r := rowOf_below N_r hG L_r
  replace hB := bstep hB hG hB.size
  clear D_p L_p
  have L_p := rowOf_lt N_p
  have D_p := Nat.ne_of_lt L_p
  clear D_q L_q
  have L_q := rowOf_lt N_q
  have D_q := Nat.ne_of_lt L_q
  clear D_r L_r
  have L_r := rowOf_lt N_r
  have D_r := Nat.ne_of_lt L_r
  have L_x := rowOf_lt N_x
  have D_x := Nat.ne_of_lt L_x
  clear hb4 hG
  have q_1 : w4.cell? ⟨(w.heap.size + 1), 1, none⟩ = some (.int .i64 c0) := rowOf_cell N_q 1
  have x_1 : w4.cell? ⟨w3.heap.size, 1, none⟩ = some (.int .i64 0) := rowOf_cell N_x 1
  have x_f1 := rowOf_frozen N_x 1
  go_wp2_with fail
  rw [rounds_succ]
  go_wp2_with fail
  refine (HA1.out _).mono ?_
  rintro e w5 ⟨rfl, hb5⟩
  have hB2 : Below w.heap.size w w5 := bstep (by repeat' first | (with_reducible first | assumption | exact Below.refl _ _ | apply blast | apply Below.drew | apply below_setRow | apply Below.alloc | apply Below.setCell) | (first | with_reducible assumption | (simp; done) | (go_light; first | omega | (simp; omega)))) hb5 (by (first | with_reducible assumption | (simp; done) | (go_light; first | omega | (simp; omega))))
  have M_p : rowOf w5 (w.heap.size) = some #[.int .i64 f, .int .i64 1, .int .i64 1, .int .i64 a0, .int .i64 a1, .int .i64 a2, .int .i64 a3, .int .i64 b0, .int .i64 b1, .int .i64 b2, .int .i64 b3] := rowOf_below (by repeat' first | (with_reducible first | assumption | apply row_drew | apply row_drewN | apply row_set_same | apply row_cell_same | apply row_set_other | apply row_cell_other) | (with_reducible exact row_new (by (first | with_reducible assumption | (simp; done) | (go_light; first | omega | (simp; omega))))) | (with_reducible apply row_old) | (first | with_reducible assumption | (simp; done) | (go_light; first | omega | (simp; omega))) | rfl) hb5 (by (first | with_reducible assumption | (simp; done) | (go_light; first | omega | (simp; omega))))
  have M_q : rowOf w5 ((w.heap.size + 1)) = some #[.int .i64 f, .int .i64 c0, .int .i64 c1, .int .i64 c2, .int .i64 c3] := rowOf_below (by repeat' first | (with_reducible first | assumption | apply row_drew | apply row_drewN | apply row_set_same | apply row_cell_same | apply row_set_other | apply row_cell_other) | (with_reducible exact row_new (by (first | with_reducible assumption | (simp; done) | (go_light; first | omega | (simp; omega))))) | (with_reducible apply row_old) | (first | with_reducible assumption | (simp; done) | (go_light; first | omega | (simp; omega))) | rfl) hb5 (by (first | with_reducible assumption | (simp; done) | (go_light; first | omega | (simp; omega))))
  have M_r : rowOf w5 ((w.heap.size + 1 + 1)) = some #[.int .i64 0, .int .i64 0, .int .i64 0, .int .i64 0, .int .i64 0] := rowOf_below (by repeat' first | (with_reducible first | assumption | apply row_drew | apply row_drewN | apply row_set_same | apply row_cell_same | apply row_set_other | apply row_cell_other) | (with_reducible exact row_new (by (first | with_reducible assumption | (simp; done) | (go_light; first | omega | (simp; omega))))) | (with_reducible apply row_old) | (first | with_reducible assumption | (simp; done) | (go_light; first | omega | (simp; omega))) | rfl) hb5 (by (first | with_reducible assumption | (simp; done) | (go_light; first | omega | (simp; omega))))
  have M_x : rowOf w5 (w3.heap.size) = some #[.int .i64 2, .int .i64 (a0 + c0), .int .i64 0, .int .i64 0, .int .i64 0] := rowOf_below (by repeat' first | (with_reducible first | assumption | apply row_drew | apply row_drewN | apply row_set_same | apply row_cell_same | apply row_set_other | apply row_cell_other) | (with_reducible exact row_new (by (first | with_reducible assumption | (simp; done) | (go_light; first | omega | (simp; omega))))) | (with_reducible apply row_old) | (first | with_reducible assumption | (simp; done) | (go_light; first | omega | (simp; omega))) | rfl) hb5 (by (first | with_reducible assumption | (simp; done) | (go_light; first | omega | (simp; omega))))
  clear q_1
  clear x_1 x_f1
  clear hB; have hB := hB2; clear hB2
  clear N_p D_p L_p
  clear N_q D_q L_q
  clear N_r D_r L_r
  clear N_x D_x L_x
  have N_p := M_p; clear M_p
  have L_p := rowOf_lt N_p
  have D_p := Nat.ne_of_lt L_p
  have N_q := M_q; clear M_q
  have L_q := rowOf_lt N_q
  have D_q := Nat.ne_of_lt L_q
  have N_r := M_r; clear M_r
  have L_r := rowOf_lt N_r
  have D_r := Nat.ne_of_lt L_r
  have N_x := M_x; clear M_x
  have L_x := rowOf_lt N_x
  have D_x := Nat.ne_of_lt L_x
  clear hb5
  have x_2 : w5.cell? ⟨w3.heap.size, 2, none⟩ = some (.int .i64 0) := rowOf_cell N_x 2
  have x_f2 := rowOf_frozen N_x 2
  go_wp2_with fail
  rw [rounds_succ]
  go_wp2_with fail
  refine (HO.out _).mono ?_
  rintro e w6 ⟨rfl, hb6⟩
  have hB2 : Below w.heap.size w w6 := bstep (by repeat' first | (with_reducible first | assumption | exact Below.refl _ _ | apply blast | apply Below.drew | apply below_setRow | apply Below.alloc | apply Below.setCell) | (first | with_reducible assumption | (simp; done) | (go_light; first | omega | (simp; omega)))) hb6 (by (first | with_reducible assumption | (simp; done) | (go_light; first | omega | (simp; omega))))
  have M_p : rowOf w6 (w.heap.size) = some #[.int .i64 f, .int .i64 1, .int .i64 1, .int .i64 a0, .int .i64 a1, .int .i64 a2, .int .i64 a3, .int .i64 b0, .int .i64 b1, .int .i64 b2, .int .i64 b3] := rowOf_below (by repeat' first | (with_reducible first | assumption | apply row_drew | apply row_drewN | apply row_set_same | apply row_cell_same | apply row_set_other | apply row_cell_other) | (with_reducible exact row_new (by (first | with_reducible assumption | (simp; done) | (go_light; first | omega | (simp; omega))))) | (with_reducible apply row_old) | (first | with_reducible assumption | (simp; done) | (go_light; first | omega | (simp; omega))) | rfl) hb6 (by (first | with_reducible assumption | (simp; done) | (go_light; first | omega | (simp; omega))))
  have M_q : rowOf w6 ((w.heap.size + 1)) = some #[.int .i64 f, .int .i64 c0, .int .i64 c1, .int .i64 c2, .int .i64 c3] := rowOf_below (by repeat' first | (with_reducible first | assumption | apply row_drew | apply row_drewN | apply row_set_same | apply row_cell_same | apply row_set_other | apply row_cell_other) | (with_reducible exact row_new (by (first | with_reducible assumption | (simp; done) | (go_light; first | omega | (simp; omega))))) | (with_reducible apply row_old) | (first | with_reducible assumption | (simp; done) | (go_light; first | omega | (simp; omega))) | rfl) hb6 (by (first | with_reducible assumption | (simp; done) | (go_light; first | omega | (simp; omega))))
  have M_r : rowOf w6 ((w.heap.size + 1 + 1)) = some #[.int .i64 0, .int .i64 0, .int .i64 0, .int .i64 0, .int .i64 0] := rowOf_below (by repeat' first | (with_reducible first | assumption | apply row_drew | apply row_drewN | apply row_set_same | apply row_cell_same | apply row_set_other | apply row_cell_other) | (with_reducible exact row_new (by (first | with_reducible assumption | (simp; done) | (go_light; first | omega | (simp; omega))))) | (with_reducible apply row_old) | (first | with_reducible assumption | (simp; done) | (go_light; first | omega | (simp; omega))) | rfl) hb6 (by (first | with_reducible assumption | (simp; done) | (go_light; first | omega | (simp; omega))))
  have M_x : rowOf w6 (w3.heap.size) = some #[.int .i64 2, .int .i64 (a0 + c0), .int .i64 b0, .int .i64 0, .int .i64 0] := rowOf_below (by repeat' first | (with_reducible first | assumption | apply row_drew | apply row_drewN | apply row_set_same | apply row_cell_same | apply row_set_other | apply row_cell_other) | (with_reducible exact row_new (by (first | with_reducible assumption | (simp; done) | (go_light; first | omega | (simp; omega))))) | (with_reducible apply row_old) | (first | with_reducible assumption | (simp; done) | (go_light; first | omega | (simp; omega))) | rfl) hb6 (by (first | with_reducible assumption | (simp; done) | (go_light; first | omega | (simp; omega))))
  clear x_2 x_f2
  clear hB; have hB := hB2; clear hB2
  clear N_p D_p L_p
  clear N_q D_q L_q
  clear N_r D_r L_r
  clear N_x D_x L_x
  have N_p := M_p; clear M_p
  have L_p := rowOf_lt N_p
  have D_p := Nat.ne_of_lt L_p
  have N_q := M_q; clear M_q
  have L_q := rowOf_lt N_q
  have D_q := Nat.ne_of_lt L_q
  have N_r := M_r; clear M_r
  have L_r := rowOf_lt N_r
  have D_r := Nat.ne_of_lt L_r
  have N_x := M_x; clear M_x
  have L_x := rowOf_lt N_x
  have D_x := Nat.ne_of_lt L_x
  clear hb6
  cases ok
  all_goals
    go_wp2
    rw [← HQ.out]
    first | exact bodyPost_ret (v := .tuple #[.agg #[.int .i64 (gate false 2), .int .i64 (gate false (a0 + c0)), .int .i64 (gate false b0), .int .i64 (gate false 0), .int .i64 (gate false 0)], .bool false]) (by simp [gate, results, Try.results6, go_sem, N_r, L_r, D_r]) rfl ⟨rfl, by repeat' first | (with_reducible first | assumption | exact Below.refl _ _ | apply blast | apply Below.drew | apply below_setRow | apply Below.alloc | apply Below.setCell) | (first | with_reducible assumption | (simp; done) | (go_light; first | omega | (simp; omega)))⟩ | exact bodyPost_ret (v := .tuple #[.agg #[.int .i64 (gate true 2), .int .i64 (gate true (a0 + c0)), .int .i64 (gate true b0), .int .i64 (gate true 0), .int .i64 (gate true 0)], .bool true]) (by simp [gate, results, Try.results6, go_sem, N_r, L_r, D_r]) rfl ⟨rfl, by repeat' first | (with_reducible first | assumption | exact Below.refl _ _ | apply blast | apply Below.drew | apply below_setRow | apply Below.alloc | apply Below.setCell) | (first | with_reducible assumption | (simp; done) | (go_light; first | omega | (simp; omega)))⟩

set_option maxHeartbeats 4000000 in
theorem apply_2_1 (f a0 a1 a2 a3 b0 b1 b2 b3 c0 c1 c2 c3 : Int) (ok : Bool) (hr : HV.rightB ⟨f, 2, 1, a0, a1, a2, a3, b0, b1, b2, b3⟩ = true) (ht : rightB f c0 c1 c2 c3 = true) (ha0 : 0 ≤ a0 ∧ a0 ≤ 1048576) (hc0 : 0 ≤ c0 ∧ c0 ≤ 1048576) (ha1 : 0 ≤ a1 ∧ a1 ≤ 1048576) (hc1 : 0 ≤ c1 ∧ c1 ≤ 1048576) (ho : rightB 3 (a0 + c0) (a1 + c1) b0 0 = ok) (w : World) :
    Calls Try.prog 6 #[.agg #[.int .i64 f, .int .i64 2, .int .i64 1, .int .i64 a0, .int .i64 a1, .int .i64 a2, .int .i64 a3, .int .i64 b0, .int .i64 b1, .int .i64 b2, .int .i64 b3], .agg #[.int .i64 f, .int .i64 c0, .int .i64 c1, .int .i64 c2, .int .i64 c3]] w (Ret (.tuple #[.agg #[.int .i64 (gate ok 3), .int .i64 (gate ok (a0 + c0)), .int .i64 (gate ok (a1 + c1)), .int .i64 (gate ok b0), .int .i64 (gate ok 0)], .bool ok]) w) := by
  have HR := Lib.hid (hright_is hr)
  have HT := Lib.hid (tright_is ht)
  have HO := Lib.hid (tright_is ho)
  have HG : Hid (∀ W, Calls Try.prog 16 #[.agg #[.int .i64 f, .int .i64 2, .int .i64 1, .int .i64 a0, .int .i64 a1, .int .i64 a2, .int .i64 a3, .int .i64 b0, .int .i64 b1, .int .i64 b2, .int .i64 b3]] W (Ret (.int .i64 3) W)) := fun W => gives_n f 2 1 a0 a1 a2 a3 b0 b1 b2 b3 (by decide) (by decide) (by decide) (by decide) W
  have HA0 : Hid (∀ W, Calls Try.prog 17 #[.agg #[.int .i64 f, .int .i64 2, .int .i64 1, .int .i64 a0, .int .i64 a1, .int .i64 a2, .int .i64 a3, .int .i64 b0, .int .i64 b1, .int .i64 b2, .int .i64 b3], .int .i64 0] W (Ret (.tuple #[.int .i64 a0, .bool true]) W)) := fun W => at_kept_n f 2 1 a0 a1 a2 a3 b0 b1 b2 b3 0 (by decide) (by decide) (by decide) (by decide) (by decide) (by decide) W
  have HA1 : Hid (∀ W, Calls Try.prog 17 #[.agg #[.int .i64 f, .int .i64 2, .int .i64 1, .int .i64 a0, .int .i64 a1, .int .i64 a2, .int .i64 a3, .int .i64 b0, .int .i64 b1, .int .i64 b2, .int .i64 b3], .int .i64 1] W (Ret (.tuple #[.int .i64 a1, .bool true]) W)) := fun W => at_kept_n f 2 1 a0 a1 a2 a3 b0 b1 b2 b3 1 (by decide) (by decide) (by decide) (by decide) (by decide) (by decide) W
  have HA2 : Hid (∀ W, Calls Try.prog 17 #[.agg #[.int .i64 f, .int .i64 2, .int .i64 1, .int .i64 a0, .int .i64 a1, .int .i64 a2, .int .i64 a3, .int .i64 b0, .int .i64 b1, .int .i64 b2, .int .i64 b3], .int .i64 2] W (Ret (.tuple #[.int .i64 b0, .bool false]) W)) := fun W => at_new_n f 2 1 a0 a1 a2 a3 b0 b1 b2 b3 2 (by decide) (by decide) (by decide) (by decide) (by decide) (by decide) W
  obtain ⟨ha0, ha0x⟩ := ha0; obtain ⟨hc0, hc0x⟩ := hc0
  obtain ⟨ha1, ha1x⟩ := ha1; obtain ⟨hc1, hc1x⟩ := hc1
  clear hr ht ho
  go_enter Try.func6, Try.ntmps6
  generalize hQ : bodyPost _ _ _ = Q0
  have HQ := Lib.hid hQ
  clear hQ
  go_wp2_with fail
  refine (HR.out _).mono ?_
  rintro e w1 ⟨rfl, hb1⟩
  have hG : Below w.heap.size w w1 := bstep (by repeat' first | (with_reducible first | assumption | exact Below.refl _ _ | apply blast | apply Below.drew | apply below_setRow | apply Below.alloc | apply Below.setCell) | (first | with_reducible assumption | (simp; done) | (go_light; first | omega | (simp; omega)))) hb1 (by (first | with_reducible assumption | (simp; done) | (go_light; first | omega | (simp; omega))))
  have hz := hG.size
  have N_p : rowOf w1 (w.heap.size) = some #[.int .i64 f, .int .i64 2, .int .i64 1, .int .i64 a0, .int .i64 a1, .int .i64 a2, .int .i64 a3, .int .i64 b0, .int .i64 b1, .int .i64 b2, .int .i64 b3] := rowOf_below (by repeat' first | (with_reducible first | assumption | apply row_drew | apply row_drewN | apply row_set_same | apply row_cell_same | apply row_set_other | apply row_cell_other) | (with_reducible exact row_new (by (first | with_reducible assumption | (simp; done) | (go_light; first | omega | (simp; omega))))) | (with_reducible apply row_old) | (first | with_reducible assumption | (simp; done) | (go_light; first | omega | (simp; omega))) | rfl) hb1 (by (first | with_reducible assumption | (simp; done) | (go_light; first | omega | (simp; omega))))
  have N_q : rowOf w1 ((w.heap.size + 1)) = some #[.int .i64 f, .int .i64 c0, .int .i64 c1, .int .i64 c2, .int .i64 c3] := rowOf_below (by repeat' first | (with_reducible first | assumption | apply row_drew | apply row_drewN | apply row_set_same | apply row_cell_same | apply row_set_other | apply row_cell_other) | (with_reducible exact row_new (by (first | with_reducible assumption | (simp; done) | (go_light; first | omega | (simp; omega))))) | (with_reducible apply row_old) | (first | with_reducible assumption | (simp; done) | (go_light; first | omega | (simp; omega))) | rfl) hb1 (by (first | with_reducible assumption | (simp; done) | (go_light; first | omega | (simp; omega))))
  have N_r : rowOf w1 ((w.heap.size + 1 + 1)) = some #[.int .i64 0, .int .i64 0, .int .i64 0, .int .i64 0, .int .i64 0] := rowOf_below (by repeat' first | (with_reducible first | assumption | apply row_drew | apply row_drewN | apply row_set_same | apply row_cell_same | apply row_set_other | apply row_cell_other) | (with_reducible exact row_new (by (first | with_reducible assumption | (simp; done) | (go_light; first | omega | (simp; omega))))) | (with_reducible apply row_old) | (first | with_reducible assumption | (simp; done) | (go_light; first | omega | (simp; omega))) | rfl) hb1 (by (first | with_reducible assumption | (simp; done) | (go_light; first | omega | (simp; omega))))
  have hB := hG
  have L_p := rowOf_lt N_p
  have D_p := Nat.ne_of_lt L_p
  have L_q := rowOf_lt N_q
  have D_q := Nat.ne_of_lt L_q
  have L_r := rowOf_lt N_r
  have D_r := Nat.ne_of_lt L_r
  clear hb1 hG
  go_wp2_with fail
  refine (HT.out _).mono ?_
  rintro e w2 ⟨rfl, hb2⟩
  have hG : Below w1.heap.size w1 w2 := bstep (by repeat' first | (with_reducible first | assumption | exact Below.refl _ _ | apply blast | apply Below.drew | apply below_setRow | apply Below.alloc | apply Below.setCell) | (first | with_reducible assumption | (simp; done) | (go_light; first | omega | (simp; omega)))) hb2 (by (first | with_reducible assumption | (simp; done) | (go_light; first | omega | (simp; omega))))
  have hz := hG.size
  replace N_p := rowOf_below N_p hG L_p
  replace N_q := rowOf_below N_q hG L_q
  replace N_r := rowOf_below N_r hG L_r
  replace hB := bstep hB hG hB.size
  clear D_p L_p
  have L_p := rowOf_lt N_p
  have D_p := Nat.ne_of_lt L_p
  clear D_q L_q
  have L_q := rowOf_lt N_q
  have D_q := Nat.ne_of_lt L_q
  clear D_r L_r
  have L_r := rowOf_lt N_r
  have D_r := Nat.ne_of_lt L_r
  clear hb2 hG
  have p_0 : w2.cell? ⟨w.heap.size, 0, none⟩ = some (.int .i64 f) := rowOf_cell N_p 0
  have q_0 : w2.cell? ⟨(w.heap.size + 1), 0, none⟩ = some (.int .i64 f) := rowOf_cell N_q 0
  go_wp2_with fail
  refine (HG.out _).mono ?_
  rintro e w3 ⟨rfl, hb3⟩
  have hG : Below w2.heap.size w2 w3 := bstep (by repeat' first | (with_reducible first | assumption | exact Below.refl _ _ | apply blast | apply Below.drew | apply below_setRow | apply Below.alloc | apply Below.setCell) | (first | with_reducible assumption | (simp; done) | (go_light; first | omega | (simp; omega)))) hb3 (by (first | with_reducible assumption | (simp; done) | (go_light; first | omega | (simp; omega))))
  have hz := hG.size
  replace N_p := rowOf_below N_p hG L_p
  replace N_q := rowOf_below N_q hG L_q
  replace N_r := rowOf_below N_r hG L_r
  clear p_0
  clear q_0
  replace hB := bstep hB hG hB.size
  clear D_p L_p
  have L_p := rowOf_lt N_p
  have D_p := Nat.ne_of_lt L_p
  clear D_q L_q
  have L_q := rowOf_lt N_q
  have D_q := Nat.ne_of_lt L_q
  clear D_r L_r
  have L_r := rowOf_lt N_r
  have D_r := Nat.ne_of_lt L_r
  clear hb3 hG
  have E_p_x := D_p
  have F_p_x := Ne.symm D_p
  have E_q_x := D_q
  have F_q_x := Ne.symm D_q
  have E_r_x := D_r
  have F_r_x := Ne.symm D_r
  have Z_x : w.heap.size ≤ w3.heap.size := hB.size
  go_wp2_with fail
  refine wp_loop_rounds 4 ?_
  rw [rounds_succ]
  go_wp2_with fail
  refine (HA0.out _).mono ?_
  rintro e w4 ⟨rfl, hb4⟩
  have hG : Below w3.heap.size w3 w4 := bstep (by repeat' first | (with_reducible first | assumption | exact Below.refl _ _ | apply blast | apply Below.drew | apply below_setRow | apply Below.alloc | apply Below.setCell) | (first | with_reducible assumption | (simp; done) | (go_light; first | omega | (simp; omega)))) hb4 (by (first | with_reducible assumption | (simp; done) | (go_light; first | omega | (simp; omega))))
  have hz := hG.size
  have N_x : rowOf w4 (w3.heap.size) = some #[.int .i64 3, .int .i64 0, .int .i64 0, .int .i64 0, .int .i64 0] := rowOf_below (by repeat' first | (with_reducible first | assumption | apply row_drew | apply row_drewN | apply row_set_same | apply row_cell_same | apply row_set_other | apply row_cell_other) | (with_reducible exact row_new (by (first | with_reducible assumption | (simp; done) | (go_light; first | omega | (simp; omega))))) | (with_reducible apply row_old) | (first | with_reducible assumption | (simp; done) | (go_light; first | omega | (simp; omega))) | rfl) hb4 (by (first | with_reducible assumption | (simp; done) | (go_light; first | omega | (simp; omega))))
  replace N_p := rowOf_below N_p hG L_p
  replace N_q := rowOf_below N_q hG L_q
  replace N_r := rowOf_below N_r hG L_r
  replace hB := bstep hB hG hB.size
  clear D_p L_p
  have L_p := rowOf_lt N_p
  have D_p := Nat.ne_of_lt L_p
  clear D_q L_q
  have L_q := rowOf_lt N_q
  have D_q := Nat.ne_of_lt L_q
  clear D_r L_r
  have L_r := rowOf_lt N_r
  have D_r := Nat.ne_of_lt L_r
  have L_x := rowOf_lt N_x
  have D_x := Nat.ne_of_lt L_x
  clear hb4 hG
  have q_1 : w4.cell? ⟨(w.heap.size + 1), 1, none⟩ = some (.int .i64 c0) := rowOf_cell N_q 1
  have x_1 : w4.cell? ⟨w3.heap.size, 1, none⟩ = some (.int .i64 0) := rowOf_cell N_x 1
  have x_f1 := rowOf_frozen N_x 1
  go_wp2_with fail
  rw [rounds_succ]
  go_wp2_with fail
  refine (HA1.out _).mono ?_
  rintro e w5 ⟨rfl, hb5⟩
  have hB2 : Below w.heap.size w w5 := bstep (by repeat' first | (with_reducible first | assumption | exact Below.refl _ _ | apply blast | apply Below.drew | apply below_setRow | apply Below.alloc | apply Below.setCell) | (first | with_reducible assumption | (simp; done) | (go_light; first | omega | (simp; omega)))) hb5 (by (first | with_reducible assumption | (simp; done) | (go_light; first | omega | (simp; omega))))
  have M_p : rowOf w5 (w.heap.size) = some #[.int .i64 f, .int .i64 2, .int .i64 1, .int .i64 a0, .int .i64 a1, .int .i64 a2, .int .i64 a3, .int .i64 b0, .int .i64 b1, .int .i64 b2, .int .i64 b3] := rowOf_below (by repeat' first | (with_reducible first | assumption | apply row_drew | apply row_drewN | apply row_set_same | apply row_cell_same | apply row_set_other | apply row_cell_other) | (with_reducible exact row_new (by (first | with_reducible assumption | (simp; done) | (go_light; first | omega | (simp; omega))))) | (with_reducible apply row_old) | (first | with_reducible assumption | (simp; done) | (go_light; first | omega | (simp; omega))) | rfl) hb5 (by (first | with_reducible assumption | (simp; done) | (go_light; first | omega | (simp; omega))))
  have M_q : rowOf w5 ((w.heap.size + 1)) = some #[.int .i64 f, .int .i64 c0, .int .i64 c1, .int .i64 c2, .int .i64 c3] := rowOf_below (by repeat' first | (with_reducible first | assumption | apply row_drew | apply row_drewN | apply row_set_same | apply row_cell_same | apply row_set_other | apply row_cell_other) | (with_reducible exact row_new (by (first | with_reducible assumption | (simp; done) | (go_light; first | omega | (simp; omega))))) | (with_reducible apply row_old) | (first | with_reducible assumption | (simp; done) | (go_light; first | omega | (simp; omega))) | rfl) hb5 (by (first | with_reducible assumption | (simp; done) | (go_light; first | omega | (simp; omega))))
  have M_r : rowOf w5 ((w.heap.size + 1 + 1)) = some #[.int .i64 0, .int .i64 0, .int .i64 0, .int .i64 0, .int .i64 0] := rowOf_below (by repeat' first | (with_reducible first | assumption | apply row_drew | apply row_drewN | apply row_set_same | apply row_cell_same | apply row_set_other | apply row_cell_other) | (with_reducible exact row_new (by (first | with_reducible assumption | (simp; done) | (go_light; first | omega | (simp; omega))))) | (with_reducible apply row_old) | (first | with_reducible assumption | (simp; done) | (go_light; first | omega | (simp; omega))) | rfl) hb5 (by (first | with_reducible assumption | (simp; done) | (go_light; first | omega | (simp; omega))))
  have M_x : rowOf w5 (w3.heap.size) = some #[.int .i64 3, .int .i64 (a0 + c0), .int .i64 0, .int .i64 0, .int .i64 0] := rowOf_below (by repeat' first | (with_reducible first | assumption | apply row_drew | apply row_drewN | apply row_set_same | apply row_cell_same | apply row_set_other | apply row_cell_other) | (with_reducible exact row_new (by (first | with_reducible assumption | (simp; done) | (go_light; first | omega | (simp; omega))))) | (with_reducible apply row_old) | (first | with_reducible assumption | (simp; done) | (go_light; first | omega | (simp; omega))) | rfl) hb5 (by (first | with_reducible assumption | (simp; done) | (go_light; first | omega | (simp; omega))))
  clear q_1
  clear x_1 x_f1
  clear hB; have hB := hB2; clear hB2
  clear N_p D_p L_p
  clear N_q D_q L_q
  clear N_r D_r L_r
  clear N_x D_x L_x
  have N_p := M_p; clear M_p
  have L_p := rowOf_lt N_p
  have D_p := Nat.ne_of_lt L_p
  have N_q := M_q; clear M_q
  have L_q := rowOf_lt N_q
  have D_q := Nat.ne_of_lt L_q
  have N_r := M_r; clear M_r
  have L_r := rowOf_lt N_r
  have D_r := Nat.ne_of_lt L_r
  have N_x := M_x; clear M_x
  have L_x := rowOf_lt N_x
  have D_x := Nat.ne_of_lt L_x
  clear hb5
  have q_2 : w5.cell? ⟨(w.heap.size + 1), 2, none⟩ = some (.int .i64 c1) := rowOf_cell N_q 2
  have x_2 : w5.cell? ⟨w3.heap.size, 2, none⟩ = some (.int .i64 0) := rowOf_cell N_x 2
  have x_f2 := rowOf_frozen N_x 2
  go_wp2_with fail
  rw [rounds_succ]
  go_wp2_with fail
  refine (HA2.out _).mono ?_
  rintro e w6 ⟨rfl, hb6⟩
  have hB2 : Below w.heap.size w w6 := bstep (by repeat' first | (with_reducible first | assumption | exact Below.refl _ _ | apply blast | apply Below.drew | apply below_setRow | apply Below.alloc | apply Below.setCell) | (first | with_reducible assumption | (simp; done) | (go_light; first | omega | (simp; omega)))) hb6 (by (first | with_reducible assumption | (simp; done) | (go_light; first | omega | (simp; omega))))
  have M_p : rowOf w6 (w.heap.size) = some #[.int .i64 f, .int .i64 2, .int .i64 1, .int .i64 a0, .int .i64 a1, .int .i64 a2, .int .i64 a3, .int .i64 b0, .int .i64 b1, .int .i64 b2, .int .i64 b3] := rowOf_below (by repeat' first | (with_reducible first | assumption | apply row_drew | apply row_drewN | apply row_set_same | apply row_cell_same | apply row_set_other | apply row_cell_other) | (with_reducible exact row_new (by (first | with_reducible assumption | (simp; done) | (go_light; first | omega | (simp; omega))))) | (with_reducible apply row_old) | (first | with_reducible assumption | (simp; done) | (go_light; first | omega | (simp; omega))) | rfl) hb6 (by (first | with_reducible assumption | (simp; done) | (go_light; first | omega | (simp; omega))))
  have M_q : rowOf w6 ((w.heap.size + 1)) = some #[.int .i64 f, .int .i64 c0, .int .i64 c1, .int .i64 c2, .int .i64 c3] := rowOf_below (by repeat' first | (with_reducible first | assumption | apply row_drew | apply row_drewN | apply row_set_same | apply row_cell_same | apply row_set_other | apply row_cell_other) | (with_reducible exact row_new (by (first | with_reducible assumption | (simp; done) | (go_light; first | omega | (simp; omega))))) | (with_reducible apply row_old) | (first | with_reducible assumption | (simp; done) | (go_light; first | omega | (simp; omega))) | rfl) hb6 (by (first | with_reducible assumption | (simp; done) | (go_light; first | omega | (simp; omega))))
  have M_r : rowOf w6 ((w.heap.size + 1 + 1)) = some #[.int .i64 0, .int .i64 0, .int .i64 0, .int .i64 0, .int .i64 0] := rowOf_below (by repeat' first | (with_reducible first | assumption | apply row_drew | apply row_drewN | apply row_set_same | apply row_cell_same | apply row_set_other | apply row_cell_other) | (with_reducible exact row_new (by (first | with_reducible assumption | (simp; done) | (go_light; first | omega | (simp; omega))))) | (with_reducible apply row_old) | (first | with_reducible assumption | (simp; done) | (go_light; first | omega | (simp; omega))) | rfl) hb6 (by (first | with_reducible assumption | (simp; done) | (go_light; first | omega | (simp; omega))))
  have M_x : rowOf w6 (w3.heap.size) = some #[.int .i64 3, .int .i64 (a0 + c0), .int .i64 (a1 + c1), .int .i64 0, .int .i64 0] := rowOf_below (by repeat' first | (with_reducible first | assumption | apply row_drew | apply row_drewN | apply row_set_same | apply row_cell_same | apply row_set_other | apply row_cell_other) | (with_reducible exact row_new (by (first | with_reducible assumption | (simp; done) | (go_light; first | omega | (simp; omega))))) | (with_reducible apply row_old) | (first | with_reducible assumption | (simp; done) | (go_light; first | omega | (simp; omega))) | rfl) hb6 (by (first | with_reducible assumption | (simp; done) | (go_light; first | omega | (simp; omega))))
  clear q_2
  clear x_2 x_f2
  clear hB; have hB := hB2; clear hB2
  clear N_p D_p L_p
  clear N_q D_q L_q
  clear N_r D_r L_r
  clear N_x D_x L_x
  have N_p := M_p; clear M_p
  have L_p := rowOf_lt N_p
  have D_p := Nat.ne_of_lt L_p
  have N_q := M_q; clear M_q
  have L_q := rowOf_lt N_q
  have D_q := Nat.ne_of_lt L_q
  have N_r := M_r; clear M_r
  have L_r := rowOf_lt N_r
  have D_r := Nat.ne_of_lt L_r
  have N_x := M_x; clear M_x
  have L_x := rowOf_lt N_x
  have D_x := Nat.ne_of_lt L_x
  clear hb6
  have x_3 : w6.cell? ⟨w3.heap.size, 3, none⟩ = some (.int .i64 0) := rowOf_cell N_x 3
  have x_f3 := rowOf_frozen N_x 3
  go_wp2_with fail
  rw [rounds_succ]
  go_wp2_with fail
  refine (HO.out _).mono ?_
  rintro e w7 ⟨rfl, hb7⟩
  have hB2 : Below w.heap.size w w7 := bstep (by repeat' first | (with_reducible first | assumption | exact Below.refl _ _ | apply blast | apply Below.drew | apply below_setRow | apply Below.alloc | apply Below.setCell) | (first | with_reducible assumption | (simp; done) | (go_light; first | omega | (simp; omega)))) hb7 (by (first | with_reducible assumption | (simp; done) | (go_light; first | omega | (simp; omega))))
  have M_p : rowOf w7 (w.heap.size) = some #[.int .i64 f, .int .i64 2, .int .i64 1, .int .i64 a0, .int .i64 a1, .int .i64 a2, .int .i64 a3, .int .i64 b0, .int .i64 b1, .int .i64 b2, .int .i64 b3] := rowOf_below (by repeat' first | (with_reducible first | assumption | apply row_drew | apply row_drewN | apply row_set_same | apply row_cell_same | apply row_set_other | apply row_cell_other) | (with_reducible exact row_new (by (first | with_reducible assumption | (simp; done) | (go_light; first | omega | (simp; omega))))) | (with_reducible apply row_old) | (first | with_reducible assumption | (simp; done) | (go_light; first | omega | (simp; omega))) | rfl) hb7 (by (first | with_reducible assumption | (simp; done) | (go_light; first | omega | (simp; omega))))
  have M_q : rowOf w7 ((w.heap.size + 1)) = some #[.int .i64 f, .int .i64 c0, .int .i64 c1, .int .i64 c2, .int .i64 c3] := rowOf_below (by repeat' first | (with_reducible first | assumption | apply row_drew | apply row_drewN | apply row_set_same | apply row_cell_same | apply row_set_other | apply row_cell_other) | (with_reducible exact row_new (by (first | with_reducible assumption | (simp; done) | (go_light; first | omega | (simp; omega))))) | (with_reducible apply row_old) | (first | with_reducible assumption | (simp; done) | (go_light; first | omega | (simp; omega))) | rfl) hb7 (by (first | with_reducible assumption | (simp; done) | (go_light; first | omega | (simp; omega))))
  have M_r : rowOf w7 ((w.heap.size + 1 + 1)) = some #[.int .i64 0, .int .i64 0, .int .i64 0, .int .i64 0, .int .i64 0] := rowOf_below (by repeat' first | (with_reducible first | assumption | apply row_drew | apply row_drewN | apply row_set_same | apply row_cell_same | apply row_set_other | apply row_cell_other) | (with_reducible exact row_new (by (first | with_reducible assumption | (simp; done) | (go_light; first | omega | (simp; omega))))) | (with_reducible apply row_old) | (first | with_reducible assumption | (simp; done) | (go_light; first | omega | (simp; omega))) | rfl) hb7 (by (first | with_reducible assumption | (simp; done) | (go_light; first | omega | (simp; omega))))
  have M_x : rowOf w7 (w3.heap.size) = some #[.int .i64 3, .int .i64 (a0 + c0), .int .i64 (a1 + c1), .int .i64 b0, .int .i64 0] := rowOf_below (by repeat' first | (with_reducible first | assumption | apply row_drew | apply row_drewN | apply row_set_same | apply row_cell_same | apply row_set_other | apply row_cell_other) | (with_reducible exact row_new (by (first | with_reducible assumption | (simp; done) | (go_light; first | omega | (simp; omega))))) | (with_reducible apply row_old) | (first | with_reducible assumption | (simp; done) | (go_light; first | omega | (simp; omega))) | rfl) hb7 (by (first | with_reducible assumption | (simp; done) | (go_light; first | omega | (simp; omega))))
  clear x_3 x_f3
  clear hB; have hB := hB2; clear hB2
  clear N_p D_p L_p
  clear N_q D_q L_q
  clear N_r D_r L_r
  clear N_x D_x L_x
  have N_p := M_p; clear M_p
  have L_p := rowOf_lt N_p
  have D_p := Nat.ne_of_lt L_p
  have N_q := M_q; clear M_q
  have L_q := rowOf_lt N_q
  have D_q := Nat.ne_of_lt L_q
  have N_r := M_r; clear M_r
  have L_r := rowOf_lt N_r
  have D_r := Nat.ne_of_lt L_r
  have N_x := M_x; clear M_x
  have L_x := rowOf_lt N_x
  have D_x := Nat.ne_of_lt L_x
  clear hb7
  cases ok
  all_goals
    go_wp2
    rw [← HQ.out]
    first | exact bodyPost_ret (v := .tuple #[.agg #[.int .i64 (gate false 3), .int .i64 (gate false (a0 + c0)), .int .i64 (gate false (a1 + c1)), .int .i64 (gate false b0), .int .i64 (gate false 0)], .bool false]) (by simp [gate, results, Try.results6, go_sem, N_r, L_r, D_r]) rfl ⟨rfl, by repeat' first | (with_reducible first | assumption | exact Below.refl _ _ | apply blast | apply Below.drew | apply below_setRow | apply Below.alloc | apply Below.setCell) | (first | with_reducible assumption | (simp; done) | (go_light; first | omega | (simp; omega)))⟩ | exact bodyPost_ret (v := .tuple #[.agg #[.int .i64 (gate true 3), .int .i64 (gate true (a0 + c0)), .int .i64 (gate true (a1 + c1)), .int .i64 (gate true b0), .int .i64 (gate true 0)], .bool true]) (by simp [gate, results, Try.results6, go_sem, N_r, L_r, D_r]) rfl ⟨rfl, by repeat' first | (with_reducible first | assumption | exact Below.refl _ _ | apply blast | apply Below.drew | apply below_setRow | apply Below.alloc | apply Below.setCell) | (first | with_reducible assumption | (simp; done) | (go_light; first | omega | (simp; omega)))⟩

set_option maxHeartbeats 4000000 in
theorem apply_4_0 (f a0 a1 a2 a3 b0 b1 b2 b3 c0 c1 c2 c3 : Int) (ok : Bool) (hr : HV.rightB ⟨f, 4, 0, a0, a1, a2, a3, b0, b1, b2, b3⟩ = true) (ht : rightB f c0 c1 c2 c3 = true) (ha0 : 0 ≤ a0 ∧ a0 ≤ 1048576) (hc0 : 0 ≤ c0 ∧ c0 ≤ 1048576) (ha1 : 0 ≤ a1 ∧ a1 ≤ 1048576) (hc1 : 0 ≤ c1 ∧ c1 ≤ 1048576) (ha2 : 0 ≤ a2 ∧ a2 ≤ 1048576) (hc2 : 0 ≤ c2 ∧ c2 ≤ 1048576) (ha3 : 0 ≤ a3 ∧ a3 ≤ 1048576) (hc3 : 0 ≤ c3 ∧ c3 ≤ 1048576) (ho : rightB 4 (a0 + c0) (a1 + c1) (a2 + c2) (a3 + c3) = ok) (w : World) :
    Calls Try.prog 6 #[.agg #[.int .i64 f, .int .i64 4, .int .i64 0, .int .i64 a0, .int .i64 a1, .int .i64 a2, .int .i64 a3, .int .i64 b0, .int .i64 b1, .int .i64 b2, .int .i64 b3], .agg #[.int .i64 f, .int .i64 c0, .int .i64 c1, .int .i64 c2, .int .i64 c3]] w (Ret (.tuple #[.agg #[.int .i64 (gate ok 4), .int .i64 (gate ok (a0 + c0)), .int .i64 (gate ok (a1 + c1)), .int .i64 (gate ok (a2 + c2)), .int .i64 (gate ok (a3 + c3))], .bool ok]) w) := by
  have HR := Lib.hid (hright_is hr)
  have HT := Lib.hid (tright_is ht)
  have HO := Lib.hid (tright_is ho)
  have HG : Hid (∀ W, Calls Try.prog 16 #[.agg #[.int .i64 f, .int .i64 4, .int .i64 0, .int .i64 a0, .int .i64 a1, .int .i64 a2, .int .i64 a3, .int .i64 b0, .int .i64 b1, .int .i64 b2, .int .i64 b3]] W (Ret (.int .i64 4) W)) := fun W => gives_n f 4 0 a0 a1 a2 a3 b0 b1 b2 b3 (by decide) (by decide) (by decide) (by decide) W
  have HA0 : Hid (∀ W, Calls Try.prog 17 #[.agg #[.int .i64 f, .int .i64 4, .int .i64 0, .int .i64 a0, .int .i64 a1, .int .i64 a2, .int .i64 a3, .int .i64 b0, .int .i64 b1, .int .i64 b2, .int .i64 b3], .int .i64 0] W (Ret (.tuple #[.int .i64 a0, .bool true]) W)) := fun W => at_kept_n f 4 0 a0 a1 a2 a3 b0 b1 b2 b3 0 (by decide) (by decide) (by decide) (by decide) (by decide) (by decide) W
  have HA1 : Hid (∀ W, Calls Try.prog 17 #[.agg #[.int .i64 f, .int .i64 4, .int .i64 0, .int .i64 a0, .int .i64 a1, .int .i64 a2, .int .i64 a3, .int .i64 b0, .int .i64 b1, .int .i64 b2, .int .i64 b3], .int .i64 1] W (Ret (.tuple #[.int .i64 a1, .bool true]) W)) := fun W => at_kept_n f 4 0 a0 a1 a2 a3 b0 b1 b2 b3 1 (by decide) (by decide) (by decide) (by decide) (by decide) (by decide) W
  have HA2 : Hid (∀ W, Calls Try.prog 17 #[.agg #[.int .i64 f, .int .i64 4, .int .i64 0, .int .i64 a0, .int .i64 a1, .int .i64 a2, .int .i64 a3, .int .i64 b0, .int .i64 b1, .int .i64 b2, .int .i64 b3], .int .i64 2] W (Ret (.tuple #[.int .i64 a2, .bool true]) W)) := fun W => at_kept_n f 4 0 a0 a1 a2 a3 b0 b1 b2 b3 2 (by decide) (by decide) (by decide) (by decide) (by decide) (by decide) W
  have HA3 : Hid (∀ W, Calls Try.prog 17 #[.agg #[.int .i64 f, .int .i64 4, .int .i64 0, .int .i64 a0, .int .i64 a1, .int .i64 a2, .int .i64 a3, .int .i64 b0, .int .i64 b1, .int .i64 b2, .int .i64 b3], .int .i64 3] W (Ret (.tuple #[.int .i64 a3, .bool true]) W)) := fun W => at_kept_n f 4 0 a0 a1 a2 a3 b0 b1 b2 b3 3 (by decide) (by decide) (by decide) (by decide) (by decide) (by decide) W
  obtain ⟨ha0, ha0x⟩ := ha0; obtain ⟨hc0, hc0x⟩ := hc0
  obtain ⟨ha1, ha1x⟩ := ha1; obtain ⟨hc1, hc1x⟩ := hc1
  obtain ⟨ha2, ha2x⟩ := ha2; obtain ⟨hc2, hc2x⟩ := hc2
  obtain ⟨ha3, ha3x⟩ := ha3; obtain ⟨hc3, hc3x⟩ := hc3
  clear hr ht ho
  go_enter Try.func6, Try.ntmps6
  generalize hQ : bodyPost _ _ _ = Q0
  have HQ := Lib.hid hQ
  clear hQ
  go_wp2_with fail
  refine (HR.out _).mono ?_
  rintro e w1 ⟨rfl, hb1⟩
  have hG : Below w.heap.size w w1 := bstep (by repeat' first | (with_reducible first | assumption | exact Below.refl _ _ | apply blast | apply Below.drew | apply below_setRow | apply Below.alloc | apply Below.setCell) | (first | with_reducible assumption | (simp; done) | (go_light; first | omega | (simp; omega)))) hb1 (by (first | with_reducible assumption | (simp; done) | (go_light; first | omega | (simp; omega))))
  have hz := hG.size
  have N_p : rowOf w1 (w.heap.size) = some #[.int .i64 f, .int .i64 4, .int .i64 0, .int .i64 a0, .int .i64 a1, .int .i64 a2, .int .i64 a3, .int .i64 b0, .int .i64 b1, .int .i64 b2, .int .i64 b3] := rowOf_below (by repeat' first | (with_reducible first | assumption | apply row_drew | apply row_drewN | apply row_set_same | apply row_cell_same | apply row_set_other | apply row_cell_other) | (with_reducible exact row_new (by (first | with_reducible assumption | (simp; done) | (go_light; first | omega | (simp; omega))))) | (with_reducible apply row_old) | (first | with_reducible assumption | (simp; done) | (go_light; first | omega | (simp; omega))) | rfl) hb1 (by (first | with_reducible assumption | (simp; done) | (go_light; first | omega | (simp; omega))))
  have N_q : rowOf w1 ((w.heap.size + 1)) = some #[.int .i64 f, .int .i64 c0, .int .i64 c1, .int .i64 c2, .int .i64 c3] := rowOf_below (by repeat' first | (with_reducible first | assumption | apply row_drew | apply row_drewN | apply row_set_same | apply row_cell_same | apply row_set_other | apply row_cell_other) | (with_reducible exact row_new (by (first | with_reducible assumption | (simp; done) | (go_light; first | omega | (simp; omega))))) | (with_reducible apply row_old) | (first | with_reducible assumption | (simp; done) | (go_light; first | omega | (simp; omega))) | rfl) hb1 (by (first | with_reducible assumption | (simp; done) | (go_light; first | omega | (simp; omega))))
  have N_r : rowOf w1 ((w.heap.size + 1 + 1)) = some #[.int .i64 0, .int .i64 0, .int .i64 0, .int .i64 0, .int .i64 0] := rowOf_below (by repeat' first | (with_reducible first | assumption | apply row_drew | apply row_drewN | apply row_set_same | apply row_cell_same | apply row_set_other | apply row_cell_other) | (with_reducible exact row_new (by (first | with_reducible assumption | (simp; done) | (go_light; first | omega | (simp; omega))))) | (with_reducible apply row_old) | (first | with_reducible assumption | (simp; done) | (go_light; first | omega | (simp; omega))) | rfl) hb1 (by (first | with_reducible assumption | (simp; done) | (go_light; first | omega | (simp; omega))))
  have hB := hG
  have L_p := rowOf_lt N_p
  have D_p := Nat.ne_of_lt L_p
  have L_q := rowOf_lt N_q
  have D_q := Nat.ne_of_lt L_q
  have L_r := rowOf_lt N_r
  have D_r := Nat.ne_of_lt L_r
  clear hb1 hG
  go_wp2_with fail
  refine (HT.out _).mono ?_
  rintro e w2 ⟨rfl, hb2⟩
  have hG : Below w1.heap.size w1 w2 := bstep (by repeat' first | (with_reducible first | assumption | exact Below.refl _ _ | apply blast | apply Below.drew | apply below_setRow | apply Below.alloc | apply Below.setCell) | (first | with_reducible assumption | (simp; done) | (go_light; first | omega | (simp; omega)))) hb2 (by (first | with_reducible assumption | (simp; done) | (go_light; first | omega | (simp; omega))))
  have hz := hG.size
  replace N_p := rowOf_below N_p hG L_p
  replace N_q := rowOf_below N_q hG L_q
  replace N_r := rowOf_below N_r hG L_r
  replace hB := bstep hB hG hB.size
  clear D_p L_p
  have L_p := rowOf_lt N_p
  have D_p := Nat.ne_of_lt L_p
  clear D_q L_q
  have L_q := rowOf_lt N_q
  have D_q := Nat.ne_of_lt L_q
  clear D_r L_r
  have L_r := rowOf_lt N_r
  have D_r := Nat.ne_of_lt L_r
  clear hb2 hG
  have p_0 : w2.cell? ⟨w.heap.size, 0, none⟩ = some (.int .i64 f) := rowOf_cell N_p 0
  have q_0 : w2.cell? ⟨(w.heap.size + 1), 0, none⟩ = some (.int .i64 f) := rowOf_cell N_q 0
  go_wp2_with fail
  refine (HG.out _).mono ?_
  rintro e w3 ⟨rfl, hb3⟩
  have hG : Below w2.heap.size w2 w3 := bstep (by repeat' first | (with_reducible first | assumption | exact Below.refl _ _ | apply blast | apply Below.drew | apply below_setRow | apply Below.alloc | apply Below.setCell) | (first | with_reducible assumption | (simp; done) | (go_light; first | omega | (simp; omega)))) hb3 (by (first | with_reducible assumption | (simp; done) | (go_light; first | omega | (simp; omega))))
  have hz := hG.size
  replace N_p := rowOf_below N_p hG L_p
  replace N_q := rowOf_below N_q hG L_q
  replace N_r := rowOf_below N_r hG L_r
  clear p_0
  clear q_0
  replace hB := bstep hB hG hB.size
  clear D_p L_p
  have L_p := rowOf_lt N_p
  have D_p := Nat.ne_of_lt L_p
  clear D_q L_q
  have L_q := rowOf_lt N_q
  have D_q := Nat.ne_of_lt L_q
  clear D_r L_r
  have L_r := rowOf_lt N_r
  have D_r := Nat.ne_of_lt L_r
  clear hb3 hG
  have E_p_x := D_p
  have F_p_x := Ne.symm D_p
  have E_q_x := D_q
  have F_q_x := Ne.symm D_q
  have E_r_x := D_r
  have F_r_x := Ne.symm D_r
  have Z_x : w.heap.size ≤ w3.heap.size := hB.size
  go_wp2_with fail
  refine wp_loop_rounds 5 ?_
  rw [rounds_succ]
  go_wp2_with fail
  refine (HA0.out _).mono ?_
  rintro e w4 ⟨rfl, hb4⟩
  have hG : Below w3.heap.size w3 w4 := bstep (by repeat' first | (with_reducible first | assumption | exact Below.refl _ _ | apply blast | apply Below.drew | apply below_setRow | apply Below.alloc | apply Below.setCell) | (first | with_reducible assumption | (simp; done) | (go_light; first | omega | (simp; omega)))) hb4 (by (first | with_reducible assumption | (simp; done) | (go_light; first | omega | (simp; omega))))
  have hz := hG.size
  have N_x : rowOf w4 (w3.heap.size) = some #[.int .i64 4, .int .i64 0, .int .i64 0, .int .i64 0, .int .i64 0] := rowOf_below (by repeat' first | (with_reducible first | assumption | apply row_drew | apply row_drewN | apply row_set_same | apply row_cell_same | apply row_set_other | apply row_cell_other) | (with_reducible exact row_new (by (first | with_reducible assumption | (simp; done) | (go_light; first | omega | (simp; omega))))) | (with_reducible apply row_old) | (first | with_reducible assumption | (simp; done) | (go_light; first | omega | (simp; omega))) | rfl) hb4 (by (first | with_reducible assumption | (simp; done) | (go_light; first | omega | (simp; omega))))
  replace N_p := rowOf_below N_p hG L_p
  replace N_q := rowOf_below N_q hG L_q
  replace N_r := rowOf_below N_r hG L_r
  replace hB := bstep hB hG hB.size
  clear D_p L_p
  have L_p := rowOf_lt N_p
  have D_p := Nat.ne_of_lt L_p
  clear D_q L_q
  have L_q := rowOf_lt N_q
  have D_q := Nat.ne_of_lt L_q
  clear D_r L_r
  have L_r := rowOf_lt N_r
  have D_r := Nat.ne_of_lt L_r
  have L_x := rowOf_lt N_x
  have D_x := Nat.ne_of_lt L_x
  clear hb4 hG
  have q_1 : w4.cell? ⟨(w.heap.size + 1), 1, none⟩ = some (.int .i64 c0) := rowOf_cell N_q 1
  have x_1 : w4.cell? ⟨w3.heap.size, 1, none⟩ = some (.int .i64 0) := rowOf_cell N_x 1
  have x_f1 := rowOf_frozen N_x 1
  go_wp2_with fail
  rw [rounds_succ]
  go_wp2_with fail
  refine (HA1.out _).mono ?_
  rintro e w5 ⟨rfl, hb5⟩
  have hB2 : Below w.heap.size w w5 := bstep (by repeat' first | (with_reducible first | assumption | exact Below.refl _ _ | apply blast | apply Below.drew | apply below_setRow | apply Below.alloc | apply Below.setCell) | (first | with_reducible assumption | (simp; done) | (go_light; first | omega | (simp; omega)))) hb5 (by (first | with_reducible assumption | (simp; done) | (go_light; first | omega | (simp; omega))))
  have M_p : rowOf w5 (w.heap.size) = some #[.int .i64 f, .int .i64 4, .int .i64 0, .int .i64 a0, .int .i64 a1, .int .i64 a2, .int .i64 a3, .int .i64 b0, .int .i64 b1, .int .i64 b2, .int .i64 b3] := rowOf_below (by repeat' first | (with_reducible first | assumption | apply row_drew | apply row_drewN | apply row_set_same | apply row_cell_same | apply row_set_other | apply row_cell_other) | (with_reducible exact row_new (by (first | with_reducible assumption | (simp; done) | (go_light; first | omega | (simp; omega))))) | (with_reducible apply row_old) | (first | with_reducible assumption | (simp; done) | (go_light; first | omega | (simp; omega))) | rfl) hb5 (by (first | with_reducible assumption | (simp; done) | (go_light; first | omega | (simp; omega))))
  have M_q : rowOf w5 ((w.heap.size + 1)) = some #[.int .i64 f, .int .i64 c0, .int .i64 c1, .int .i64 c2, .int .i64 c3] := rowOf_below (by repeat' first | (with_reducible first | assumption | apply row_drew | apply row_drewN | apply row_set_same | apply row_cell_same | apply row_set_other | apply row_cell_other) | (with_reducible exact row_new (by (first | with_reducible assumption | (simp; done) | (go_light; first | omega | (simp; omega))))) | (with_reducible apply row_old) | (first | with_reducible assumption | (simp; done) | (go_light; first | omega | (simp; omega))) | rfl) hb5 (by (first | with_reducible assumption | (simp; done) | (go_light; first | omega | (simp; omega))))
  have M_r : rowOf w5 ((w.heap.size + 1 + 1)) = some #[.int .i64 0, .int .i64 0, .int .i64 0, .int .i64 0, .int .i64 0] := rowOf_below (by repeat' first | (with_reducible first | assumption | apply row_drew | apply row_drewN | apply row_set_same | apply row_cell_same | apply row_set_other | apply row_cell_other) | (with_reducible exact row_new (by (first | with_reducible assumption | (simp; done) | (go_light; first | omega | (simp; omega))))) | (with_reducible apply row_old) | (first | with_reducible assumption | (simp; done) | (go_light; first | omega | (simp; omega))) | rfl) hb5 (by (first | with_reducible assumption | (simp; done) | (go_light; first | omega | (simp; omega))))
  have M_x : rowOf w5 (w3.heap.size) = some #[.int .i64 4, .int .i64 (a0 + c0), .int .i64 0, .int .i64 0, .int .i64 0] := rowOf_below (by repeat' first | (with_reducible first | assumption | apply row_drew | apply row_drewN | apply row_set_same | apply row_cell_same | apply row_set_other | apply row_cell_other) | (with_reducible exact row_new (by (first | with_reducible assumption | (simp; done) | (go_light; first | omega | (simp; omega))))) | (with_reducible apply row_old) | (first | with_reducible assumption | (simp; done) | (go_light; first | omega | (simp; omega))) | rfl) hb5 (by (first | with_reducible assumption | (simp; done) | (go_light; first | omega | (simp; omega))))
  clear q_1
  clear x_1 x_f1
  clear hB; have hB := hB2; clear hB2
  clear N_p D_p L_p
  clear N_q D_q L_q
  clear N_r D_r L_r
  clear N_x D_x L_x
  have N_p := M_p; clear M_p
  have L_p := rowOf_lt N_p
  have D_p := Nat.ne_of_lt L_p
  have N_q := M_q; clear M_q
  have L_q := rowOf_lt N_q
  have D_q := Nat.ne_of_lt L_q
  have N_r := M_r; clear M_r
  have L_r := rowOf_lt N_r
  have D_r := Nat.ne_of_lt L_r
  have N_x := M_x; clear M_x
  have L_x := rowOf_lt N_x
  have D_x := Nat.ne_of_lt L_x
  clear hb5
  have q_2 : w5.cell? ⟨(w.heap.size + 1), 2, none⟩ = some (.int .i64 c1) := rowOf_cell N_q 2
  have x_2 : w5.cell? ⟨w3.heap.size, 2, none⟩ = some (.int .i64 0) := rowOf_cell N_x 2
  have x_f2 := rowOf_frozen N_x 2
  go_wp2_with fail
  rw [rounds_succ]
  go_wp2_with fail
  refine (HA2.out _).mono ?_
  rintro e w6 ⟨rfl, hb6⟩
  have hB2 : Below w.heap.size w w6 := bstep (by repeat' first | (with_reducible first | assumption | exact Below.refl _ _ | apply blast | apply Below.drew | apply below_setRow | apply Below.alloc | apply Below.setCell) | (first | with_reducible assumption | (simp; done) | (go_light; first | omega | (simp; omega)))) hb6 (by (first | with_reducible assumption | (simp; done) | (go_light; first | omega | (simp; omega))))
  have M_p : rowOf w6 (w.heap.size) = some #[.int .i64 f, .int .i64 4, .int .i64 0, .int .i64 a0, .int .i64 a1, .int .i64 a2, .int .i64 a3, .int .i64 b0, .int .i64 b1, .int .i64 b2, .int .i64 b3] := rowOf_below (by repeat' first | (with_reducible first | assumption | apply row_drew | apply row_drewN | apply row_set_same | apply row_cell_same | apply row_set_other | apply row_cell_other) | (with_reducible exact row_new (by (first | with_reducible assumption | (simp; done) | (go_light; first | omega | (simp; omega))))) | (with_reducible apply row_old) | (first | with_reducible assumption | (simp; done) | (go_light; first | omega | (simp; omega))) | rfl) hb6 (by (first | with_reducible assumption | (simp; done) | (go_light; first | omega | (simp; omega))))
  have M_q : rowOf w6 ((w.heap.size + 1)) = some #[.int .i64 f, .int .i64 c0, .int .i64 c1, .int .i64 c2, .int .i64 c3] := rowOf_below (by repeat' first | (with_reducible first | assumption | apply row_drew | apply row_drewN | apply row_set_same | apply row_cell_same | apply row_set_other | apply row_cell_other) | (with_reducible exact row_new (by (first | with_reducible assumption | (simp; done) | (go_light; first | omega | (simp; omega))))) | (with_reducible apply row_old) | (first | with_reducible assumption | (simp; done) | (go_light; first | omega | (simp; omega))) | rfl) hb6 (by (first | with_reducible assumption | (simp; done) | (go_light; first | omega | (simp; omega))))
  have M_r : rowOf w6 ((w.heap.size + 1 + 1)) = some #[.int .i64 0, .int .i64 0, .int .i64 0, .int .i64 0, .int .i64 0] := rowOf_below (by repeat' first | (with_reducible first | assumption | apply row_drew | apply row_drewN | apply row_set_same | apply row_cell_same | apply row_set_other | apply row_cell_other) | (with_reducible exact row_new (by (first | with_reducible assumption | (simp; done) | (go_light; first | omega | (simp; omega))))) | (with_reducible apply row_old) | (first | with_reducible assumption | (simp; done) | (go_light; first | omega | (simp; omega))) | rfl) hb6 (by (first | with_reducible assumption | (simp; done) | (go_light; first | omega | (simp; omega))))
  have M_x : rowOf w6 (w3.heap.size) = some #[.int .i64 4, .int .i64 (a0 + c0), .int .i64 (a1 + c1), .int .i64 0, .int .i64 0] := rowOf_below (by repeat' first | (with_reducible first | assumption | apply row_drew | apply row_drewN | apply row_set_same | apply row_cell_same | apply row_set_other | apply row_cell_other) | (with_reducible exact row_new (by (first | with_reducible assumption | (simp; done) | (go_light; first | omega | (simp; omega))))) | (with_reducible apply row_old) | (first | with_reducible assumption | (simp; done) | (go_light; first | omega | (simp; omega))) | rfl) hb6 (by (first | with_reducible assumption | (simp; done) | (go_light; first | omega | (simp; omega))))
  clear q_2
  clear x_2 x_f2
  clear hB; have hB := hB2; clear hB2
  clear N_p D_p L_p
  clear N_q D_q L_q
  clear N_r D_r L_r
  clear N_x D_x L_x
  have N_p := M_p; clear M_p
  have L_p := rowOf_lt N_p
  have D_p := Nat.ne_of_lt L_p
  have N_q := M_q; clear M_q
  have L_q := rowOf_lt N_q
  have D_q := Nat.ne_of_lt L_q
  have N_r := M_r; clear M_r
  have L_r := rowOf_lt N_r
  have D_r := Nat.ne_of_lt L_r
  have N_x := M_x; clear M_x
  have L_x := rowOf_lt N_x
  have D_x := Nat.ne_of_lt L_x
  clear hb6
  have q_3 : w6.cell? ⟨(w.heap.size + 1), 3, none⟩ = some (.int .i64 c2) := rowOf_cell N_q 3
  have x_3 : w6.cell? ⟨w3.heap.size, 3, none⟩ = some (.int .i64 0) := rowOf_cell N_x 3
  have x_f3 := rowOf_frozen N_x 3
  go_wp2_with fail
  rw [rounds_succ]
  go_wp2_with fail
  refine (HA3.out _).mono ?_
  rintro e w7 ⟨rfl, hb7⟩
  have hB2 : Below w.heap.size w w7 := bstep (by repeat' first | (with_reducible first | assumption | exact Below.refl _ _ | apply blast | apply Below.drew | apply below_setRow | apply Below.alloc | apply Below.setCell) | (first | with_reducible assumption | (simp; done) | (go_light; first | omega | (simp; omega)))) hb7 (by (first | with_reducible assumption | (simp; done) | (go_light; first | omega | (simp; omega))))
  have M_p : rowOf w7 (w.heap.size) = some #[.int .i64 f, .int .i64 4, .int .i64 0, .int .i64 a0, .int .i64 a1, .int .i64 a2, .int .i64 a3, .int .i64 b0, .int .i64 b1, .int .i64 b2, .int .i64 b3] := rowOf_below (by repeat' first | (with_reducible first | assumption | apply row_drew | apply row_drewN | apply row_set_same | apply row_cell_same | apply row_set_other | apply row_cell_other) | (with_reducible exact row_new (by (first | with_reducible assumption | (simp; done) | (go_light; first | omega | (simp; omega))))) | (with_reducible apply row_old) | (first | with_reducible assumption | (simp; done) | (go_light; first | omega | (simp; omega))) | rfl) hb7 (by (first | with_reducible assumption | (simp; done) | (go_light; first | omega | (simp; omega))))
  have M_q : rowOf w7 ((w.heap.size + 1)) = some #[.int .i64 f, .int .i64 c0, .int .i64 c1, .int .i64 c2, .int .i64 c3] := rowOf_below (by repeat' first | (with_reducible first | assumption | apply row_drew | apply row_drewN | apply row_set_same | apply row_cell_same | apply row_set_other | apply row_cell_other) | (with_reducible exact row_new (by (first | with_reducible assumption | (simp; done) | (go_light; first | omega | (simp; omega))))) | (with_reducible apply row_old) | (first | with_reducible assumption | (simp; done) | (go_light; first | omega | (simp; omega))) | rfl) hb7 (by (first | with_reducible assumption | (simp; done) | (go_light; first | omega | (simp; omega))))
  have M_r : rowOf w7 ((w.heap.size + 1 + 1)) = some #[.int .i64 0, .int .i64 0, .int .i64 0, .int .i64 0, .int .i64 0] := rowOf_below (by repeat' first | (with_reducible first | assumption | apply row_drew | apply row_drewN | apply row_set_same | apply row_cell_same | apply row_set_other | apply row_cell_other) | (with_reducible exact row_new (by (first | with_reducible assumption | (simp; done) | (go_light; first | omega | (simp; omega))))) | (with_reducible apply row_old) | (first | with_reducible assumption | (simp; done) | (go_light; first | omega | (simp; omega))) | rfl) hb7 (by (first | with_reducible assumption | (simp; done) | (go_light; first | omega | (simp; omega))))
  have M_x : rowOf w7 (w3.heap.size) = some #[.int .i64 4, .int .i64 (a0 + c0), .int .i64 (a1 + c1), .int .i64 (a2 + c2), .int .i64 0] := rowOf_below (by repeat' first | (with_reducible first | assumption | apply row_drew | apply row_drewN | apply row_set_same | apply row_cell_same | apply row_set_other | apply row_cell_other) | (with_reducible exact row_new (by (first | with_reducible assumption | (simp; done) | (go_light; first | omega | (simp; omega))))) | (with_reducible apply row_old) | (first | with_reducible assumption | (simp; done) | (go_light; first | omega | (simp; omega))) | rfl) hb7 (by (first | with_reducible assumption | (simp; done) | (go_light; first | omega | (simp; omega))))
  clear q_3
  clear x_3 x_f3
  clear hB; have hB := hB2; clear hB2
  clear N_p D_p L_p
  clear N_q D_q L_q
  clear N_r D_r L_r
  clear N_x D_x L_x
  have N_p := M_p; clear M_p
  have L_p := rowOf_lt N_p
  have D_p := Nat.ne_of_lt L_p
  have N_q := M_q; clear M_q
  have L_q := rowOf_lt N_q
  have D_q := Nat.ne_of_lt L_q
  have N_r := M_r; clear M_r
  have L_r := rowOf_lt N_r
  have D_r := Nat.ne_of_lt L_r
  have N_x := M_x; clear M_x
  have L_x := rowOf_lt N_x
  have D_x := Nat.ne_of_lt L_x
  clear hb7
  have q_4 : w7.cell? ⟨(w.heap.size + 1), 4, none⟩ = some (.int .i64 c3) := rowOf_cell N_q 4
  have x_4 : w7.cell? ⟨w3.heap.size, 4, none⟩ = some (.int .i64 0) := rowOf_cell N_x 4
  have x_f4 := rowOf_frozen N_x 4
  go_wp2_with fail
  rw [rounds_succ]
  go_wp2_with fail
  refine (HO.out _).mono ?_
  rintro e w8 ⟨rfl, hb8⟩
  have hB2 : Below w.heap.size w w8 := bstep (by repeat' first | (with_reducible first | assumption | exact Below.refl _ _ | apply blast | apply Below.drew | apply below_setRow | apply Below.alloc | apply Below.setCell) | (first | with_reducible assumption | (simp; done) | (go_light; first | omega | (simp; omega)))) hb8 (by (first | with_reducible assumption | (simp; done) | (go_light; first | omega | (simp; omega))))
  have M_p : rowOf w8 (w.heap.size) = some #[.int .i64 f, .int .i64 4, .int .i64 0, .int .i64 a0, .int .i64 a1, .int .i64 a2, .int .i64 a3, .int .i64 b0, .int .i64 b1, .int .i64 b2, .int .i64 b3] := rowOf_below (by repeat' first | (with_reducible first | assumption | apply row_drew | apply row_drewN | apply row_set_same | apply row_cell_same | apply row_set_other | apply row_cell_other) | (with_reducible exact row_new (by (first | with_reducible assumption | (simp; done) | (go_light; first | omega | (simp; omega))))) | (with_reducible apply row_old) | (first | with_reducible assumption | (simp; done) | (go_light; first | omega | (simp; omega))) | rfl) hb8 (by (first | with_reducible assumption | (simp; done) | (go_light; first | omega | (simp; omega))))
  have M_q : rowOf w8 ((w.heap.size + 1)) = some #[.int .i64 f, .int .i64 c0, .int .i64 c1, .int .i64 c2, .int .i64 c3] := rowOf_below (by repeat' first | (with_reducible first | assumption | apply row_drew | apply row_drewN | apply row_set_same | apply row_cell_same | apply row_set_other | apply row_cell_other) | (with_reducible exact row_new (by (first | with_reducible assumption | (simp; done) | (go_light; first | omega | (simp; omega))))) | (with_reducible apply row_old) | (first | with_reducible assumption | (simp; done) | (go_light; first | omega | (simp; omega))) | rfl) hb8 (by (first | with_reducible assumption | (simp; done) | (go_light; first | omega | (simp; omega))))
  have M_r : rowOf w8 ((w.heap.size + 1 + 1)) = some #[.int .i64 0, .int .i64 0, .int .i64 0, .int .i64 0, .int .i64 0] := rowOf_below (by repeat' first | (with_reducible first | assumption | apply row_drew | apply row_drewN | apply row_set_same | apply row_cell_same | apply row_set_other | apply row_cell_other) | (with_reducible exact row_new (by (first | with_reducible assumption | (simp; done) | (go_light; first | omega | (simp; omega))))) | (with_reducible apply row_old) | (first | with_reducible assumption | (simp; done) | (go_light; first | omega | (simp; omega))) | rfl) hb8 (by (first | with_reducible assumption | (simp; done) | (go_light; first | omega | (simp; omega))))
  have M_x : rowOf w8 (w3.heap.size) = some #[.int .i64 4, .int .i64 (a0 + c0), .int .i64 (a1 + c1), .int .i64 (a2 + c2), .int .i64 (a3 + c3)] := rowOf_below (by repeat' first | (with_reducible first | assumption | apply row_drew | apply row_drewN | apply row_set_same | apply row_cell_same | apply row_set_other | apply row_cell_other) | (with_reducible exact row_new (by (first | with_reducible assumption | (simp; done) | (go_light; first | omega | (simp; omega))))) | (with_reducible apply row_old) | (first | with_reducible assumption | (simp; done) | (go_light; first | omega | (simp; omega))) | rfl) hb8 (by (first | with_reducible assumption | (simp; done) | (go_light; first | omega | (simp; omega))))
  clear q_4
  clear x_4 x_f4
  clear hB; have hB := hB2; clear hB2
  clear N_p D_p L_p
  clear N_q D_q L_q
  clear N_r D_r L_r
  clear N_x D_x L_x
  have N_p := M_p; clear M_p
  have L_p := rowOf_lt N_p
  have D_p := Nat.ne_of_lt L_p
  have N_q := M_q; clear M_q
  have L_q := rowOf_lt N_q
  have D_q := Nat.ne_of_lt L_q
  have N_r := M_r; clear M_r
  have L_r := rowOf_lt N_r
  have D_r := Nat.ne_of_lt L_r
  have N_x := M_x; clear M_x
  have L_x := rowOf_lt N_x
  have D_x := Nat.ne_of_lt L_x
  clear hb8
  cases ok
  all_goals
    go_wp2
    rw [← HQ.out]
    first | exact bodyPost_ret (v := .tuple #[.agg #[.int .i64 (gate false 4), .int .i64 (gate false (a0 + c0)), .int .i64 (gate false (a1 + c1)), .int .i64 (gate false (a2 + c2)), .int .i64 (gate false (a3 + c3))], .bool false]) (by simp [gate, results, Try.results6, go_sem, N_r, L_r, D_r]) rfl ⟨rfl, by repeat' first | (with_reducible first | assumption | exact Below.refl _ _ | apply blast | apply Below.drew | apply below_setRow | apply Below.alloc | apply Below.setCell) | (first | with_reducible assumption | (simp; done) | (go_light; first | omega | (simp; omega)))⟩ | exact bodyPost_ret (v := .tuple #[.agg #[.int .i64 (gate true 4), .int .i64 (gate true (a0 + c0)), .int .i64 (gate true (a1 + c1)), .int .i64 (gate true (a2 + c2)), .int .i64 (gate true (a3 + c3))], .bool true]) (by simp [gate, results, Try.results6, go_sem, N_r, L_r, D_r]) rfl ⟨rfl, by repeat' first | (with_reducible first | assumption | exact Below.refl _ _ | apply blast | apply Below.drew | apply below_setRow | apply Below.alloc | apply Below.setCell) | (first | with_reducible assumption | (simp; done) | (go_light; first | omega | (simp; omega)))⟩

end Go.Proofs.Ytimfpbmlbihlnaa
