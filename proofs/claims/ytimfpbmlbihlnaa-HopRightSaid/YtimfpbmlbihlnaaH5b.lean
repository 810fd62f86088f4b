import Derived.Test.YtimfpbmlbihlnaaH5a
namespace Go.Proofs.Ytimfpbmlbihlnaa
open Go.RowKit
set_option linter.unusedVariables false
set_option linter.unusedSimpArgs false
attribute [local go_sem ↓] loadH loadT storeH storeT
attribute [local simp] size_setRow
attribute [local go_sem] HV.row TV.row
attribute [local go_sem] rowAt_head rowOf_alloc_at rowOf_alloc_past rowOf_drew rowOf_drewN rowOf_setRow_same rowOf_setRow_other rowOf_setCell_same rowOf_setCell_other size_setRow setRow_drew setRow_alloc_at setRow_alloc_past one_int one_bool cell_setRow_same cell_setRow_other frozen_setRow_same frozen_setRow_other

def leC (g ak bk A0 B0 A1 B1 A2 B2 A3 B3 : Int) : Bool := decide ((0 < g → A0 ≤ B0 ∧ (ak ≤ 0 ∨ 0 < bk)) ∧ (1 < g → A1 ≤ B1 ∧ (ak ≤ 1 ∨ 1 < bk)) ∧ (2 < g → A2 ≤ B2 ∧ (ak ≤ 2 ∨ 2 < bk)) ∧ (3 < g → A3 ≤ B3 ∧ (ak ≤ 3 ∨ 3 < bk)))
set_option maxHeartbeats 16000000 in
theorem le_yes (a b : HV) (ha : a.rightB = true) (hb : b.rightB = true) (hf : (a.f != b.f) = false) (g : Int) (hga : g = a.k + a.t) (hgb : g = b.k + b.t) (A0 B0 : Int) (hA0 : a.at 0 = A0) (hB0 : b.at 0 = B0) (A1 B1 : Int) (hA1 : a.at 1 = A1) (hB1 : b.at 1 = B1) (A2 B2 : Int) (hA2 : a.at 2 = A2) (hB2 : b.at 2 = B2) (A3 B3 : Int) (hA3 : a.at 3 = A3) (hB3 : b.at 3 = B3) (w : World) :
    Calls Try.prog 11 #[a.val, b.val] w (Ret (.bool (leC g a.k b.k A0 B0 A1 B1 A2 B2 A3 B3)) w) := by
  have HA := Lib.hid (hright_is ha)
  have HB := Lib.hid (hright_is hb)
  have GA : Hid (∀ W, Calls Try.prog 16 #[(HV.val a)] W (Ret (.int .i64 g) W)) := fun W => by rw [hga]; exact gives_is a ha W
  have GB : Hid (∀ W, Calls Try.prog 16 #[(HV.val b)] W (Ret (.int .i64 g) W)) := fun W => by rw [hgb]; exact gives_is b hb W
  have AT0 : Hid (0 < g → ∀ W, Calls Try.prog 17 #[(HV.val a), .int .i64 0] W (Ret (.tuple #[.int .i64 A0, .bool (decide (0 < a.k))]) W)) := fun hi W => by have q := at_is a ha 0 (by decide) (by omega) W; rw [hA0] at q; exact q
  have AT1 : Hid (1 < g → ∀ W, Calls Try.prog 17 #[(HV.val a), .int .i64 1] W (Ret (.tuple #[.int .i64 A1, .bool (decide (1 < a.k))]) W)) := fun hi W => by have q := at_is a ha 1 (by decide) (by omega) W; rw [hA1] at q; exact q
  have AT2 : Hid (2 < g → ∀ W, Calls Try.prog 17 #[(HV.val a), .int .i64 2] W (Ret (.tuple #[.int .i64 A2, .bool (decide (2 < a.k))]) W)) := fun hi W => by have q := at_is a ha 2 (by decide) (by omega) W; rw [hA2] at q; exact q
  have AT3 : Hid (3 < g → ∀ W, Calls Try.prog 17 #[(HV.val a), .int .i64 3] W (Ret (.tuple #[.int .i64 A3, .bool (decide (3 < a.k))]) W)) := fun hi W => by have q := at_is a ha 3 (by decide) (by omega) W; rw [hA3] at q; exact q
  have BT0 : Hid (0 < g → ∀ W, Calls Try.prog 17 #[(HV.val b), .int .i64 0] W (Ret (.tuple #[.int .i64 B0, .bool (decide (0 < b.k))]) W)) := fun hi W => by have q := at_is b hb 0 (by decide) (by omega) W; rw [hB0] at q; exact q
  have BT1 : Hid (1 < g → ∀ W, Calls Try.prog 17 #[(HV.val b), .int .i64 1] W (Ret (.tuple #[.int .i64 B1, .bool (decide (1 < b.k))]) W)) := fun hi W => by have q := at_is b hb 1 (by decide) (by omega) W; rw [hB1] at q; exact q
  have BT2 : Hid (2 < g → ∀ W, Calls Try.prog 17 #[(HV.val b), .int .i64 2] W (Ret (.tuple #[.int .i64 B2, .bool (decide (2 < b.k))]) W)) := fun hi W => by have q := at_is b hb 2 (by decide) (by omega) W; rw [hB2] at q; exact q
  have BT3 : Hid (3 < g → ∀ W, Calls Try.prog 17 #[(HV.val b), .int .i64 3] W (Ret (.tuple #[.int .i64 B3, .bool (decide (3 < b.k))]) W)) := fun hi W => by have q := at_is b hb 3 (by decide) (by omega) W; rw [hB3] at q; exact q
  have hg1 : 1 ≤ g := by have := (shape_of ha).2.1; omega
  have hg4 : g ≤ 4 := by have := (shape_of ha).2.2.1; omega
  clear ha hb hga hgb hA0 hA1 hA2 hA3 hB0 hB1 hB2 hB3
  go_enter Try.func11, Try.ntmps11
  go_wp2_with fail
  refine gen_world (fun W2 => Below w.heap.size w W2 ∧ rowOf W2 (w.heap.size) = some (HV.row a) ∧ rowOf W2 ((w.heap.size + 1)) = some (HV.row b)) ⟨by repeat' first | (with_reducible first | assumption | exact Below.refl _ _ | apply blast | apply Below.drew | apply below_setRow | apply Below.alloc | apply Below.setCell) | (first | with_reducible assumption | (simp; done) | (go_light; first | omega | (simp; omega))), by repeat' first | (with_reducible first | assumption | apply row_drew | apply row_drewN | apply row_set_same | apply row_cell_same | apply row_set_other | apply row_cell_other) | (with_reducible exact row_new (by (first | with_reducible assumption | (simp; done) | (go_light; first | omega | (simp; omega))))) | (with_reducible apply row_old) | (first | with_reducible assumption | (simp; done) | (go_light; first | omega | (simp; omega))) | rfl, by repeat' first | (with_reducible first | assumption | apply row_drew | apply row_drewN | apply row_set_same | apply row_cell_same | apply row_set_other | apply row_cell_other) | (with_reducible exact row_new (by (first | with_reducible assumption | (simp; done) | (go_light; first | omega | (simp; omega))))) | (with_reducible apply row_old) | (first | with_reducible assumption | (simp; done) | (go_light; first | omega | (simp; omega))) | rfl⟩ ?_
  rintro w1 ⟨hB, N_p, N_q⟩
  have L_p := rowOf_lt N_p
  have D_p := Nat.ne_of_lt L_p
  have L_q := rowOf_lt N_q
  have D_q := Nat.ne_of_lt L_q
  have p_0 : w1.cell? ⟨w.heap.size, 0, none⟩ = some (.int .i64 a.f) := rowOf_cell N_p 0
  have p_1 : w1.cell? ⟨w.heap.size, 1, none⟩ = some (.int .i64 a.k) := rowOf_cell N_p 1
  have p_2 : w1.cell? ⟨w.heap.size, 2, none⟩ = some (.int .i64 a.t) := rowOf_cell N_p 2
  have p_3 : w1.cell? ⟨w.heap.size, 3, none⟩ = some (.int .i64 a.a0) := rowOf_cell N_p 3
  have p_4 : w1.cell? ⟨w.heap.size, 4, none⟩ = some (.int .i64 a.a1) := rowOf_cell N_p 4
  have p_5 : w1.cell? ⟨w.heap.size, 5, none⟩ = some (.int .i64 a.a2) := rowOf_cell N_p 5
  have p_6 : w1.cell? ⟨w.heap.size, 6, none⟩ = some (.int .i64 a.a3) := rowOf_cell N_p 6
  have p_7 : w1.cell? ⟨w.heap.size, 7, none⟩ = some (.int .i64 a.b0) := rowOf_cell N_p 7
  have p_8 : w1.cell? ⟨w.heap.size, 8, none⟩ = some (.int .i64 a.b1) := rowOf_cell N_p 8
  have p_9 : w1.cell? ⟨w.heap.size, 9, none⟩ = some (.int .i64 a.b2) := rowOf_cell N_p 9
  have p_10 : w1.cell? ⟨w.heap.size, 10, none⟩ = some (.int .i64 a.b3) := rowOf_cell N_p 10
  have q_0 : w1.cell? ⟨(w.heap.size + 1), 0, none⟩ = some (.int .i64 b.f) := rowOf_cell N_q 0
  have q_1 : w1.cell? ⟨(w.heap.size + 1), 1, none⟩ = some (.int .i64 b.k) := rowOf_cell N_q 1
  have q_2 : w1.cell? ⟨(w.heap.size + 1), 2, none⟩ = some (.int .i64 b.t) := rowOf_cell N_q 2
  have q_3 : w1.cell? ⟨(w.heap.size + 1), 3, none⟩ = some (.int .i64 b.a0) := rowOf_cell N_q 3
  have q_4 : w1.cell? ⟨(w.heap.size + 1), 4, none⟩ = some (.int .i64 b.a1) := rowOf_cell N_q 4
  have q_5 : w1.cell? ⟨(w.heap.size + 1), 5, none⟩ = some (.int .i64 b.a2) := rowOf_cell N_q 5
  have q_6 : w1.cell? ⟨(w.heap.size + 1), 6, none⟩ = some (.int .i64 b.a3) := rowOf_cell N_q 6
  have q_7 : w1.cell? ⟨(w.heap.size + 1), 7, none⟩ = some (.int .i64 b.b0) := rowOf_cell N_q 7
  have q_8 : w1.cell? ⟨(w.heap.size + 1), 8, none⟩ = some (.int .i64 b.b1) := rowOf_cell N_q 8
  have q_9 : w1.cell? ⟨(w.heap.size + 1), 9, none⟩ = some (.int .i64 b.b2) := rowOf_cell N_q 9
  have q_10 : w1.cell? ⟨(w.heap.size + 1), 10, none⟩ = some (.int .i64 b.b3) := rowOf_cell N_q 10
  refine wp_region_beh (by kernel_rfl) (by kernel_rfl) ?_
  have p_b0 := beh_cell p_0
  have p_b1 := beh_cell p_1
  have p_b2 := beh_cell p_2
  have p_b3 := beh_cell p_3
  have p_b4 := beh_cell p_4
  have p_b5 := beh_cell p_5
  have p_b6 := beh_cell p_6
  have p_b7 := beh_cell p_7
  have p_b8 := beh_cell p_8
  have p_b9 := beh_cell p_9
  have p_b10 := beh_cell p_10
  clear p_0 p_1 p_2 p_3 p_4 p_5 p_6 p_7 p_8 p_9 p_10
  have q_b0 := beh_cell q_0
  have q_b1 := beh_cell q_1
  have q_b2 := beh_cell q_2
  have q_b3 := beh_cell q_3
  have q_b4 := beh_cell q_4
  have q_b5 := beh_cell q_5
  have q_b6 := beh_cell q_6
  have q_b7 := beh_cell q_7
  have q_b8 := beh_cell q_8
  have q_b9 := beh_cell q_9
  have q_b10 := beh_cell q_10
  clear q_0 q_1 q_2 q_3 q_4 q_5 q_6 q_7 q_8 q_9 q_10
  repeat (first | go_big_quiet_step (first | (with_reducible exact Calls.beh (HA.out _)) | (with_reducible exact Calls.beh (HB.out _)) | (with_reducible exact Calls.beh (GA.out _)) | (with_reducible exact Calls.beh (GB.out _))) | quiet_step (first | (with_reducible exact Calls.beh (HA.out _)) | (with_reducible exact Calls.beh (HB.out _)) | (with_reducible exact Calls.beh (GA.out _)) | (with_reducible exact Calls.beh (GB.out _))))
  refine wpQuiet_nil ?_
  intro _ hw'
  obtain ⟨g, hw''⟩ := hw'
  subst hw''
  clear p_b0 p_b1 p_b2 p_b3 p_b4 p_b5 p_b6 p_b7 p_b8 p_b9 p_b10 q_b0 q_b1 q_b2 q_b3 q_b4 q_b5 q_b6 q_b7 q_b8 q_b9 q_b10
  have hb2 := g.h
  generalize g.w = w2 at hb2 ⊢
  clear g
  have hG : Below w1.heap.size w1 w2 := bstep (by repeat' first | (with_reducible first | assumption | exact Below.refl _ _ | apply blast | apply Below.drew | apply below_setRow | apply Below.alloc | apply Below.setCell) | (first | with_reducible assumption | (simp; done) | (go_light; first | omega | (simp; omega)))) hb2 (by (first | with_reducible assumption | (simp; done) | (go_light; first | omega | (simp; omega))))
  have hz := hG.size
  replace N_p := rowOf_below N_p hG L_p
  replace N_q := rowOf_below N_q hG L_q
  replace hB := bstep hB hG hB.size
  clear D_p L_p
  have L_p := rowOf_lt N_p
  have D_p := Nat.ne_of_lt L_p
  clear D_q L_q
  have L_q := rowOf_lt N_q
  have D_q := Nat.ne_of_lt L_q
  clear hb2 hG
  clear HA HB GB
  go_wp2_with fail
  refine (GA.out _).mono ?_
  rintro e w3 ⟨rfl, hb3⟩
  have hG : Below w2.heap.size w2 w3 := bstep (by repeat' first | (with_reducible first | assumption | exact Below.refl _ _ | apply blast | apply Below.drew | apply below_setRow | apply Below.alloc | apply Below.setCell) | (first | with_reducible assumption | (simp; done) | (go_light; first | omega | (simp; omega)))) hb3 (by (first | with_reducible assumption | (simp; done) | (go_light; first | omega | (simp; omega))))
  have hz := hG.size
  replace N_p := rowOf_below N_p hG L_p
  replace N_q := rowOf_below N_q hG L_q
  replace hB := bstep hB hG hB.size
  clear D_p L_p
  have L_p := rowOf_lt N_p
  have D_p := Nat.ne_of_lt L_p
  clear D_q L_q
  have L_q := rowOf_lt N_q
  have D_q := Nat.ne_of_lt L_q
  clear hb3 hG
  clear GA
  go_wp2_with fail
  refine wp_loop_rounds 5 ?_
  rw [rounds_succ]
  have hi0 : 0 < g := by omega
  have XA := Lib.hid (AT0.out hi0)
  have XB := Lib.hid (BT0.out hi0)
  go_wp2_with fail
  refine (XA.out _).mono ?_
  rintro e w4 ⟨rfl, hb4⟩
  have hG : Below w3.heap.size w3 w4 := bstep (by repeat' first | (with_reducible first | assumption | exact Below.refl _ _ | apply blast | apply Below.drew | apply below_setRow | apply Below.alloc | apply Below.setCell) | (first | with_reducible assumption | (simp; done) | (go_light; first | omega | (simp; omega)))) hb4 (by (first | with_reducible assumption | (simp; done) | (go_light; first | omega | (simp; omega))))
  have hz := hG.size
  replace N_p := rowOf_below N_p hG L_p
  replace N_q := rowOf_below N_q hG L_q
  replace hB := bstep hB hG hB.size
  clear D_p L_p
  have L_p := rowOf_lt N_p
  have D_p := Nat.ne_of_lt L_p
  clear D_q L_q
  have L_q := rowOf_lt N_q
  have D_q := Nat.ne_of_lt L_q
  clear hb4 hG
  go_wp2_with fail
  refine (XB.out _).mono ?_
  rintro e w5 ⟨rfl, hb5⟩
  have hG : Below w4.heap.size w4 w5 := bstep (by repeat' first | (with_reducible first | assumption | exact Below.refl _ _ | apply blast | apply Below.drew | apply below_setRow | apply Below.alloc | apply Below.setCell) | (first | with_reducible assumption | (simp; done) | (go_light; first | omega | (simp; omega)))) hb5 (by (first | with_reducible assumption | (simp; done) | (go_light; first | omega | (simp; omega))))
  have hz := hG.size
  replace N_p := rowOf_below N_p hG L_p
  replace N_q := rowOf_below N_q hG L_q
  replace hB := bstep hB hG hB.size
  clear D_p L_p
  have L_p := rowOf_lt N_p
  have D_p := Nat.ne_of_lt L_p
  clear D_q L_q
  have L_q := rowOf_lt N_q
  have D_q := Nat.ne_of_lt L_q
  clear hb5 hG
  clear XA XB
  by_cases hm0 : B0 < A0
  · go_wp2
    go_returns
    refine ⟨ret_bool ?_, by repeat' first | (with_reducible first | assumption | exact Below.refl _ _ | apply blast | apply Below.drew | apply below_setRow | apply Below.alloc | apply Below.setCell) | (first | with_reducible assumption | (simp; done) | (go_light; first | omega | (simp; omega)))⟩
    go_light
    unfold leC; exact (decide_eq_false (by omega)).symm
  by_cases ka0 : 0 < a.k
  rotate_left
  · rw [show decide (0 < a.k) = false from decide_eq_false ka0]
    go_wp2_with fail
    rw [rounds_succ]
    by_cases hi1 : 1 < g
    rotate_left
    · go_wp2
      go_returns
      refine ⟨ret_bool ?_, by repeat' first | (with_reducible first | assumption | exact Below.refl _ _ | apply blast | apply Below.drew | apply below_setRow | apply Below.alloc | apply Below.setCell) | (first | with_reducible assumption | (simp; done) | (go_light; first | omega | (simp; omega)))⟩
      go_light
      unfold leC; exact (decide_eq_true (by omega)).symm
    have XA := Lib.hid (AT1.out hi1)
    have XB := Lib.hid (BT1.out hi1)
    go_wp2_with fail
    refine (XA.out _).mono ?_
    rintro e w6 ⟨rfl, hb6⟩
    have hG : Below w5.heap.size w5 w6 := bstep (by repeat' first | (with_reducible first | assumption | exact Below.refl _ _ | apply blast | apply Below.drew | apply below_setRow | apply Below.alloc | apply Below.setCell) | (first | with_reducible assumption | (simp; done) | (go_light; first | omega | (simp; omega)))) hb6 (by (first | with_reducible assumption | (simp; done) | (go_light; first | omega | (simp; omega))))
    have hz := hG.size
    replace N_p := rowOf_below N_p hG L_p
    replace N_q := rowOf_below N_q hG L_q
    replace hB := bstep hB hG hB.size
    clear D_p L_p
    have L_p := rowOf_lt N_p
    have D_p := Nat.ne_of_lt L_p
    clear D_q L_q
    have L_q := rowOf_lt N_q
    have D_q := Nat.ne_of_lt L_q
    clear hb6 hG
    go_wp2_with fail
    refine (XB.out _).mono ?_
    rintro e w7 ⟨rfl, hb7⟩
    have hG : Below w6.heap.size w6 w7 := bstep (by repeat' first | (with_reducible first | assumption | exact Below.refl _ _ | apply blast | apply Below.drew | apply below_setRow | apply Below.alloc | apply Below.setCell) | (first | with_reducible assumption | (simp; done) | (go_light; first | omega | (simp; omega)))) hb7 (by (first | with_reducible assumption | (simp; done) | (go_light; first | omega | (simp; omega))))
    have hz := hG.size
    replace N_p := rowOf_below N_p hG L_p
    replace N_q := rowOf_below N_q hG L_q
    replace hB := bstep hB hG hB.size
    clear D_p L_p
    have L_p := rowOf_lt N_p
    have D_p := Nat.ne_of_lt L_p
    clear D_q L_q
    have L_q := rowOf_lt N_q
    have D_q := Nat.ne_of_lt L_q
    clear hb7 hG
    clear XA XB
    by_cases hm1 : B1 < A1
    · go_wp2
      go_returns
      refine ⟨ret_bool ?_, by repeat' first | (with_reducible first | assumption | exact Below.refl _ _ | apply blast | apply Below.drew | apply below_setRow | apply Below.alloc | apply Below.setCell) | (first | with_reducible assumption | (simp; done) | (go_light; first | omega | (simp; omega)))⟩
      go_light
      unfold leC; exact (decide_eq_false (by omega)).symm
    by_cases ka1 : 1 < a.k
    rotate_left
    · rw [show decide (1 < a.k) = false from decide_eq_false ka1]
      go_wp2_with fail
      rw [rounds_succ]
      by_cases hi2 : 2 < g
      rotate_left
      · go_wp2
        go_returns
        refine ⟨ret_bool ?_, by repeat' first | (with_reducible first | assumption | exact Below.refl _ _ | apply blast | apply Below.drew | apply below_setRow | apply Below.alloc | apply Below.setCell) | (first | with_reducible assumption | (simp; done) | (go_light; first | omega | (simp; omega)))⟩
        go_light
        unfold leC; exact (decide_eq_true (by omega)).symm
      have XA := Lib.hid (AT2.out hi2)
      have XB := Lib.hid (BT2.out hi2)
      go_wp2_with fail
      refine (XA.out _).mono ?_
      rintro e w8 ⟨rfl, hb8⟩
      have hG : Below w7.heap.size w7 w8 := bstep (by repeat' first | (with_reducible first | assumption | exact Below.refl _ _ | apply blast | apply Below.drew | apply below_setRow | apply Below.alloc | apply Below.setCell) | (first | with_reducible assumption | (simp; done) | (go_light; first | omega | (simp; omega)))) hb8 (by (first | with_reducible assumption | (simp; done) | (go_light; first | omega | (simp; omega))))
      have hz := hG.size
      replace N_p := rowOf_below N_p hG L_p
      replace N_q := rowOf_below N_q hG L_q
      replace hB := bstep hB hG hB.size
      clear D_p L_p
      have L_p := rowOf_lt N_p
      have D_p := Nat.ne_of_lt L_p
      clear D_q L_q
      have L_q := rowOf_lt N_q
      have D_q := Nat.ne_of_lt L_q
      clear hb8 hG
      go_wp2_with fail
      refine (XB.out _).mono ?_
      rintro e w9 ⟨rfl, hb9⟩
      have hG : Below w8.heap.size w8 w9 := bstep (by repeat' first | (with_reducible first | assumption | exact Below.refl _ _ | apply blast | apply Below.drew | apply below_setRow | apply Below.alloc | apply Below.setCell) | (first | with_reducible assumption | (simp; done) | (go_light; first | omega | (simp; omega)))) hb9 (by (first | with_reducible assumption | (simp; done) | (go_light; first | omega | (simp; omega))))
      have hz := hG.size
      replace N_p := rowOf_below N_p hG L_p
      replace N_q := rowOf_below N_q hG L_q
      replace hB := bstep hB hG hB.size
      clear D_p L_p
      have L_p := rowOf_lt N_p
      have D_p := Nat.ne_of_lt L_p
      clear D_q L_q
      have L_q := rowOf_lt N_q
      have D_q := Nat.ne_of_lt L_q
      clear hb9 hG
      clear XA XB
      by_cases hm2 : B2 < A2
      · go_wp2
        go_returns
        refine ⟨ret_bool ?_, by repeat' first | (with_reducible first | assumption | exact Below.refl _ _ | apply blast | apply Below.drew | apply below_setRow | apply Below.alloc | apply Below.setCell) | (first | with_reducible assumption | (simp; done) | (go_light; first | omega | (simp; omega)))⟩
        go_light
        unfold leC; exact (decide_eq_false (by omega)).symm
      by_cases ka2 : 2 < a.k
      rotate_left
      · rw [show decide (2 < a.k) = false from decide_eq_false ka2]
        go_wp2_with fail
        rw [rounds_succ]
        by_cases hi3 : 3 < g
        rotate_left
        · go_wp2
          go_returns
          refine ⟨ret_bool ?_, by repeat' first | (with_reducible first | assumption | exact Below.refl _ _ | apply blast | apply Below.drew | apply below_setRow | apply Below.alloc | apply Below.setCell) | (first | with_reducible assumption | (simp; done) | (go_light; first | omega | (simp; omega)))⟩
          go_light
          unfold leC; exact (decide_eq_true (by omega)).symm
        have XA := Lib.hid (AT3.out hi3)
        have XB := Lib.hid (BT3.out hi3)
        go_wp2_with fail
        refine (XA.out _).mono ?_
        rintro e w10 ⟨rfl, hb10⟩
        have hG : Below w9.heap.size w9 w10 := bstep (by repeat' first | (with_reducible first | assumption | exact Below.refl _ _ | apply blast | apply Below.drew | apply below_setRow | apply Below.alloc | apply Below.setCell) | (first | with_reducible assumption | (simp; done) | (go_light; first | omega | (simp; omega)))) hb10 (by (first | with_reducible assumption | (simp; done) | (go_light; first | omega | (simp; omega))))
        have hz := hG.size
        replace N_p := rowOf_below N_p hG L_p
        replace N_q := rowOf_below N_q hG L_q
        replace hB := bstep hB hG hB.size
        clear D_p L_p
        have L_p := rowOf_lt N_p
        have D_p := Nat.ne_of_lt L_p
        clear D_q L_q
        have L_q := rowOf_lt N_q
        have D_q := Nat.ne_of_lt L_q
        clear hb10 hG
        go_wp2_with fail
        refine (XB.out _).mono ?_
        rintro e w11 ⟨rfl, hb11⟩
        have hG : Below w10.heap.size w10 w11 := bstep (by repeat' first | (with_reducible first | assumption | exact Below.refl _ _ | apply blast | apply Below.drew | apply below_setRow | apply Below.alloc | apply Below.setCell) | (first | with_reducible assumption | (simp; done) | (go_light; first | omega | (simp; omega)))) hb11 (by (first | with_reducible assumption | (simp; done) | (go_light; first | omega | (simp; omega))))
        have hz := hG.size
        replace N_p := rowOf_below N_p hG L_p
        replace N_q := rowOf_below N_q hG L_q
        replace hB := bstep hB hG hB.size
        clear D_p L_p
        have L_p := rowOf_lt N_p
        have D_p := Nat.ne_of_lt L_p
        clear D_q L_q
        have L_q := rowOf_lt N_q
        have D_q := Nat.ne_of_lt L_q
        clear hb11 hG
        clear XA XB
        by_cases hm3 : B3 < A3
        · go_wp2
          go_returns
          refine ⟨ret_bool ?_, by repeat' first | (with_reducible first | assumption | exact Below.refl _ _ | apply blast | apply Below.drew | apply below_setRow | apply Below.alloc | apply Below.setCell) | (first | with_reducible assumption | (simp; done) | (go_light; first | omega | (simp; omega)))⟩
          go_light
          unfold leC; exact (decide_eq_false (by omega)).symm
        by_cases ka3 : 3 < a.k
        rotate_left
        · rw [show decide (3 < a.k) = false from decide_eq_false ka3]
          go_wp2_with fail
          rw [rounds_succ]
          have hi4 : ¬ 4 < g := by omega
          go_wp2
          go_returns
          refine ⟨ret_bool ?_, by repeat' first | (with_reducible first | assumption | exact Below.refl _ _ | apply blast | apply Below.drew | apply below_setRow | apply Below.alloc | apply Below.setCell) | (first | with_reducible assumption | (simp; done) | (go_light; first | omega | (simp; omega)))⟩
          go_light
          unfold leC; exact (decide_eq_true (by omega)).symm
        exfalso; omega
      exfalso; omega
    exfalso; omega
  rw [show decide (0 < a.k) = true from decide_eq_true ka0]
  by_cases kb0 : 0 < b.k
  rotate_left
  · rw [show decide (0 < b.k) = false from decide_eq_false kb0]
    go_wp2
    go_returns
    refine ⟨ret_bool ?_, by repeat' first | (with_reducible first | assumption | exact Below.refl _ _ | apply blast | apply Below.drew | apply below_setRow | apply Below.alloc | apply Below.setCell) | (first | with_reducible assumption | (simp; done) | (go_light; first | omega | (simp; omega)))⟩
    go_light
    unfold leC; exact (decide_eq_false (by omega)).symm
  rw [show decide (0 < b.k) = true from decide_eq_true kb0]
  go_wp2_with fail
  rw [rounds_succ]
  by_cases hi1 : 1 < g
  rotate_left
  · go_wp2
    go_returns
    refine ⟨ret_bool ?_, by repeat' first | (with_reducible first | assumption | exact Below.refl _ _ | apply blast | apply Below.drew | apply below_setRow | apply Below.alloc | apply Below.setCell) | (first | with_reducible assumption | (simp; done) | (go_light; first | omega | (simp; omega)))⟩
    go_light
    unfold leC; exact (decide_eq_true (by omega)).symm
  have XA := Lib.hid (AT1.out hi1)
  have XB := Lib.hid (BT1.out hi1)
  go_wp2_with fail
  refine (XA.out _).mono ?_
  rintro e w6 ⟨rfl, hb6⟩
  have hG : Below w5.heap.size w5 w6 := bstep (by repeat' first | (with_reducible first | assumption | exact Below.refl _ _ | apply blast | apply Below.drew | apply below_setRow | apply Below.alloc | apply Below.setCell) | (first | with_reducible assumption | (simp; done) | (go_light; first | omega | (simp; omega)))) hb6 (by (first | with_reducible assumption | (simp; done) | (go_light; first | omega | (simp; omega))))
  have hz := hG.size
  replace N_p := rowOf_below N_p hG L_p
  replace N_q := rowOf_below N_q hG L_q
  replace hB := bstep hB hG hB.size
  clear D_p L_p
  have L_p := rowOf_lt N_p
  have D_p := Nat.ne_of_lt L_p
  clear D_q L_q
  have L_q := rowOf_lt N_q
  have D_q := Nat.ne_of_lt L_q
  clear hb6 hG
  go_wp2_with fail
  refine (XB.out _).mono ?_
  rintro e w7 ⟨rfl, hb7⟩
  have hG : Below w6.heap.size w6 w7 := bstep (by repeat' first | (with_reducible first | assumption | exact Below.refl _ _ | apply blast | apply Below.drew | apply below_setRow | apply Below.alloc | apply Below.setCell) | (first | with_reducible assumption | (simp; done) | (go_light; first | omega | (simp; omega)))) hb7 (by (first | with_reducible assumption | (simp; done) | (go_light; first | omega | (simp; omega))))
  have hz := hG.size
  replace N_p := rowOf_below N_p hG L_p
  replace N_q := rowOf_below N_q hG L_q
  replace hB := bstep hB hG hB.size
  clear D_p L_p
  have L_p := rowOf_lt N_p
  have D_p := Nat.ne_of_lt L_p
  clear D_q L_q
  have L_q := rowOf_lt N_q
  have D_q := Nat.ne_of_lt L_q
  clear hb7 hG
  clear XA XB
  by_cases hm1 : B1 < A1
  · go_wp2
    go_returns
    refine ⟨ret_bool ?_, by repeat' first | (with_reducible first | assumption | exact Below.refl _ _ | apply blast | apply Below.drew | apply below_setRow | apply Below.alloc | apply Below.setCell) | (first | with_reducible assumption | (simp; done) | (go_light; first | omega | (simp; omega)))⟩
    go_light
    unfold leC; exact (decide_eq_false (by omega)).symm
  by_cases ka1 : 1 < a.k
  rotate_left
  · rw [show decide (1 < a.k) = false from decide_eq_false ka1]
    go_wp2_with fail
    rw [rounds_succ]
    by_cases hi2 : 2 < g
    rotate_left
    · go_wp2
      go_returns
      refine ⟨ret_bool ?_, by repeat' first | (with_reducible first | assumption | exact Below.refl _ _ | apply blast | apply Below.drew | apply below_setRow | apply Below.alloc | apply Below.setCell) | (first | with_reducible assumption | (simp; done) | (go_light; first | omega | (simp; omega)))⟩
      go_light
      unfold leC; exact (decide_eq_true (by omega)).symm
    have XA := Lib.hid (AT2.out hi2)
    have XB := Lib.hid (BT2.out hi2)
    go_wp2_with fail
    refine (XA.out _).mono ?_
    rintro e w8 ⟨rfl, hb8⟩
    have hG : Below w7.heap.size w7 w8 := bstep (by repeat' first | (with_reducible first | assumption | exact Below.refl _ _ | apply blast | apply Below.drew | apply below_setRow | apply Below.alloc | apply Below.setCell) | (first | with_reducible assumption | (simp; done) | (go_light; first | omega | (simp; omega)))) hb8 (by (first | with_reducible assumption | (simp; done) | (go_light; first | omega | (simp; omega))))
    have hz := hG.size
    replace N_p := rowOf_below N_p hG L_p
    replace N_q := rowOf_below N_q hG L_q
    replace hB := bstep hB hG hB.size
    clear D_p L_p
    have L_p := rowOf_lt N_p
    have D_p := Nat.ne_of_lt L_p
    clear D_q L_q
    have L_q := rowOf_lt N_q
    have D_q := Nat.ne_of_lt L_q
    clear hb8 hG
    go_wp2_with fail
    refine (XB.out _).mono ?_
    rintro e w9 ⟨rfl, hb9⟩
    have hG : Below w8.heap.size w8 w9 := bstep (by repeat' first | (with_reducible first | assumption | exact Below.refl _ _ | apply blast | apply Below.drew | apply below_setRow | apply Below.alloc | apply Below.setCell) | (first | with_reducible assumption | (simp; done) | (go_light; first | omega | (simp; omega)))) hb9 (by (first | with_reducible assumption | (simp; done) | (go_light; first | omega | (simp; omega))))
    have hz := hG.size
    replace N_p := rowOf_below N_p hG L_p
    replace N_q := rowOf_below N_q hG L_q
    replace hB := bstep hB hG hB.size
    clear D_p L_p
    have L_p := rowOf_lt N_p
    have D_p := Nat.ne_of_lt L_p
    clear D_q L_q
    have L_q := rowOf_lt N_q
    have D_q := Nat.ne_of_lt L_q
    clear hb9 hG
    clear XA XB
    by_cases hm2 : B2 < A2
    · go_wp2
      go_returns
      refine ⟨ret_bool ?_, by repeat' first | (with_reducible first | assumption | exact Below.refl _ _ | apply blast | apply Below.drew | apply below_setRow | apply Below.alloc | apply Below.setCell) | (first | with_reducible assumption | (simp; done) | (go_light; first | omega | (simp; omega)))⟩
      go_light
      unfold leC; exact (decide_eq_false (by omega)).symm
    by_cases ka2 : 2 < a.k
    rotate_left
    · rw [show decide (2 < a.k) = false from decide_eq_false ka2]
      go_wp2_with fail
      rw [rounds_succ]
      by_cases hi3 : 3 < g
      rotate_left
      · go_wp2
        go_returns
        refine ⟨ret_bool ?_, by repeat' first | (with_reducible first | assumption | exact Below.refl _ _ | apply blast | apply Below.drew | apply below_setRow | apply Below.alloc | apply Below.setCell) | (first | with_reducible assumption | (simp; done) | (go_light; first | omega | (simp; omega)))⟩
        go_light
        unfold leC; exact (decide_eq_true (by omega)).symm
      have XA := Lib.hid (AT3.out hi3)
      have XB := Lib.hid (BT3.out hi3)
      go_wp2_with fail
      refine (XA.out _).mono ?_
      rintro e w10 ⟨rfl, hb10⟩
      have hG : Below w9.heap.size w9 w10 := bstep (by repeat' first | (with_reducible first | assumption | exact Below.refl _ _ | apply blast | apply Below.drew | apply below_setRow | apply Below.alloc | apply Below.setCell) | (first | with_reducible assumption | (simp; done) | (go_light; first | omega | (simp; omega)))) hb10 (by (first | with_reducible assumption | (simp; done) | (go_light; first | omega | (simp; omega))))
      have hz := hG.size
      replace N_p := rowOf_below N_p hG L_p
      replace N_q := rowOf_below N_q hG L_q
      replace hB := bstep hB hG hB.size
      clear D_p L_p
      have L_p := rowOf_lt N_p
      have D_p := Nat.ne_of_lt L_p
      clear D_q L_q
      have L_q := rowOf_lt N_q
      have D_q := Nat.ne_of_lt L_q
      clear hb10 hG
      go_wp2_with fail
      refine (XB.out _).mono ?_
      rintro e w11 ⟨rfl, hb11⟩
      have hG : Below w10.heap.size w10 w11 := bstep (by repeat' first | (with_reducible first | assumption | exact Below.refl _ _ | apply blast | apply Below.drew | apply below_setRow | apply Below.alloc | apply Below.setCell) | (first | with_reducible assumption | (simp; done) | (go_light; first | omega | (simp; omega)))) hb11 (by (first | with_reducible assumption | (simp; done) | (go_light; first | omega | (simp; omega))))
      have hz := hG.size
      replace N_p := rowOf_below N_p hG L_p
      replace N_q := rowOf_below N_q hG L_q
      replace hB := bstep hB hG hB.size
      clear D_p L_p
      have L_p := rowOf_lt N_p
      have D_p := Nat.ne_of_lt L_p
      clear D_q L_q
      have L_q := rowOf_lt N_q
      have D_q := Nat.ne_of_lt L_q
      clear hb11 hG
      clear XA XB
      by_cases hm3 : B3 < A3
      · go_wp2
        go_returns
        refine ⟨ret_bool ?_, by repeat' first | (with_reducible first | assumption | exact Below.refl _ _ | apply blast | apply Below.drew | apply below_setRow | apply Below.alloc | apply Below.setCell) | (first | with_reducible assumption | (simp; done) | (go_light; first | omega | (simp; omega)))⟩
        go_light
        unfold leC; exact (decide_eq_false (by omega)).symm
      by_cases ka3 : 3 < a.k
      rotate_left
      · rw [show decide (3 < a.k) = false from decide_eq_false ka3]
        go_wp2_with fail
        rw [rounds_succ]
        have hi4 : ¬ 4 < g := by omega
        go_wp2
        go_returns
        refine ⟨ret_bool ?_, by repeat' first | (with_reducible first | assumption | exact Below.refl _ _ | apply blast | apply Below.drew | apply below_setRow | apply Below.alloc | apply Below.setCell) | (first | with_reducible assumption | (simp; done) | (go_light; first | omega | (simp; omega)))⟩
        go_light
        unfold leC; exact (decide_eq_true (by omega)).symm
      exfalso; omega
    exfalso; omega
  rw [show decide (1 < a.k) = true from decide_eq_true ka1]
  by_cases kb1 : 1 < b.k
  rotate_left
  · rw [show decide (1 < b.k) = false from decide_eq_false kb1]
    go_wp2
    go_returns
    refine ⟨ret_bool ?_, by repeat' first | (with_reducible first | assumption | exact Below.refl _ _ | apply blast | apply Below.drew | apply below_setRow | apply Below.alloc | apply Below.setCell) | (first | with_reducible assumption | (simp; done) | (go_light; first | omega | (simp; omega)))⟩
    go_light
    unfold leC; exact (decide_eq_false (by omega)).symm
  rw [show decide (1 < b.k) = true from decide_eq_true kb1]
  go_wp2_with fail
  rw [rounds_succ]
  by_cases hi2 : 2 < g
  rotate_left
  · go_wp2
    go_returns
    refine ⟨ret_bool ?_, by repeat' first | (with_reducible first | assumption | exact Below.refl _ _ | apply blast | apply Below.drew | apply below_setRow | apply Below.alloc | apply Below.setCell) | (first | with_reducible assumption | (simp; done) | (go_light; first | omega | (simp; omega)))⟩
    go_light
    unfold leC; exact (decide_eq_true (by omega)).symm
  have XA := Lib.hid (AT2.out hi2)
  have XB := Lib.hid (BT2.out hi2)
  go_wp2_with fail
  refine (XA.out _).mono ?_
  rintro e w8 ⟨rfl, hb8⟩
  have hG : Below w7.heap.size w7 w8 := bstep (by repeat' first | (with_reducible first | assumption | exact Below.refl _ _ | apply blast | apply Below.drew | apply below_setRow | apply Below.alloc | apply Below.setCell) | (first | with_reducible assumption | (simp; done) | (go_light; first | omega | (simp; omega)))) hb8 (by (first | with_reducible assumption | (simp; done) | (go_light; first | omega | (simp; omega))))
  have hz := hG.size
  replace N_p := rowOf_below N_p hG L_p
  replace N_q := rowOf_below N_q hG L_q
  replace hB := bstep hB hG hB.size
  clear D_p L_p
  have L_p := rowOf_lt N_p
  have D_p := Nat.ne_of_lt L_p
  clear D_q L_q
  have L_q := rowOf_lt N_q
  have D_q := Nat.ne_of_lt L_q
  clear hb8 hG
  go_wp2_with fail
  refine (XB.out _).mono ?_
  rintro e w9 ⟨rfl, hb9⟩
  have hG : Below w8.heap.size w8 w9 := bstep (by repeat' first | (with_reducible first | assumption | exact Below.refl _ _ | apply blast | apply Below.drew | apply below_setRow | apply Below.alloc | apply Below.setCell) | (first | with_reducible assumption | (simp; done) | (go_light; first | omega | (simp; omega)))) hb9 (by (first | with_reducible assumption | (simp; done) | (go_light; first | omega | (simp; omega))))
  have hz := hG.size
  replace N_p := rowOf_below N_p hG L_p
  replace N_q := rowOf_below N_q hG L_q
  replace hB := bstep hB hG hB.size
  clear D_p L_p
  have L_p := rowOf_lt N_p
  have D_p := Nat.ne_of_lt L_p
  clear D_q L_q
  have L_q := rowOf_lt N_q
  have D_q := Nat.ne_of_lt L_q
  clear hb9 hG
  clear XA XB
  by_cases hm2 : B2 < A2
  · go_wp2
    go_returns
    refine ⟨ret_bool ?_, by repeat' first | (with_reducible first | assumption | exact Below.refl _ _ | apply blast | apply Below.drew | apply below_setRow | apply Below.alloc | apply Below.setCell) | (first | with_reducible assumption | (simp; done) | (go_light; first | omega | (simp; omega)))⟩
    go_light
    unfold leC; exact (decide_eq_false (by omega)).symm
  by_cases ka2 : 2 < a.k
  rotate_left
  · rw [show decide (2 < a.k) = false from decide_eq_false ka2]
    go_wp2_with fail
    rw [rounds_succ]
    by_cases hi3 : 3 < g
    rotate_left
    · go_wp2
      go_returns
      refine ⟨ret_bool ?_, by repeat' first | (with_reducible first | assumption | exact Below.refl _ _ | apply blast | apply Below.drew | apply below_setRow | apply Below.alloc | apply Below.setCell) | (first | with_reducible assumption | (simp; done) | (go_light; first | omega | (simp; omega)))⟩
      go_light
      unfold leC; exact (decide_eq_true (by omega)).symm
    have XA := Lib.hid (AT3.out hi3)
    have XB := Lib.hid (BT3.out hi3)
    go_wp2_with fail
    refine (XA.out _).mono ?_
    rintro e w10 ⟨rfl, hb10⟩
    have hG : Below w9.heap.size w9 w10 := bstep (by repeat' first | (with_reducible first | assumption | exact Below.refl _ _ | apply blast | apply Below.drew | apply below_setRow | apply Below.alloc | apply Below.setCell) | (first | with_reducible assumption | (simp; done) | (go_light; first | omega | (simp; omega)))) hb10 (by (first | with_reducible assumption | (simp; done) | (go_light; first | omega | (simp; omega))))
    have hz := hG.size
    replace N_p := rowOf_below N_p hG L_p
    replace N_q := rowOf_below N_q hG L_q
    replace hB := bstep hB hG hB.size
    clear D_p L_p
    have L_p := rowOf_lt N_p
    have D_p := Nat.ne_of_lt L_p
    clear D_q L_q
    have L_q := rowOf_lt N_q
    have D_q := Nat.ne_of_lt L_q
    clear hb10 hG
    go_wp2_with fail
    refine (XB.out _).mono ?_
    rintro e w11 ⟨rfl, hb11⟩
    have hG : Below w10.heap.size w10 w11 := bstep (by repeat' first | (with_reducible first | assumption | exact Below.refl _ _ | apply blast | apply Below.drew | apply below_setRow | apply Below.alloc | apply Below.setCell) | (first | with_reducible assumption | (simp; done) | (go_light; first | omega | (simp; omega)))) hb11 (by (first | with_reducible assumption | (simp; done) | (go_light; first | omega | (simp; omega))))
    have hz := hG.size
    replace N_p := rowOf_below N_p hG L_p
    replace N_q := rowOf_below N_q hG L_q
    replace hB := bstep hB hG hB.size
    clear D_p L_p
    have L_p := rowOf_lt N_p
    have D_p := Nat.ne_of_lt L_p
    clear D_q L_q
    have L_q := rowOf_lt N_q
    have D_q := Nat.ne_of_lt L_q
    clear hb11 hG
    clear XA XB
    by_cases hm3 : B3 < A3
    · go_wp2
      go_returns
      refine ⟨ret_bool ?_, by repeat' first | (with_reducible first | assumption | exact Below.refl _ _ | apply blast | apply Below.drew | apply below_setRow | apply Below.alloc | apply Below.setCell) | (first | with_reducible assumption | (simp; done) | (go_light; first | omega | (simp; omega)))⟩
      go_light
      unfold leC; exact (decide_eq_false (by omega)).symm
    by_cases ka3 : 3 < a.k
    rotate_left
    · rw [show decide (3 < a.k) = false from decide_eq_false ka3]
      go_wp2_with fail
      rw [rounds_succ]
      have hi4 : ¬ 4 < g := by omega
      go_wp2
      go_returns
      refine ⟨ret_bool ?_, by repeat' first | (with_reducible first | assumption | exact Below.refl _ _ | apply blast | apply Below.drew | apply below_setRow | apply Below.alloc | apply Below.setCell) | (first | with_reducible assumption | (simp; done) | (go_light; first | omega | (simp; omega)))⟩
      go_light
      unfold leC; exact (decide_eq_true (by omega)).symm
    exfalso; omega
  rw [show decide (2 < a.k) = true from decide_eq_true ka2]
  by_cases kb2 : 2 < b.k
  rotate_left
  · rw [show decide (2 < b.k) = false from decide_eq_false kb2]
    go_wp2
    go_returns
    refine ⟨ret_bool ?_, by repeat' first | (with_reducible first | assumption | exact Below.refl _ _ | apply blast | apply Below.drew | apply below_setRow | apply Below.alloc | apply Below.setCell) | (first | with_reducible assumption | (simp; done) | (go_light; first | omega | (simp; omega)))⟩
    go_light
    unfold leC; exact (decide_eq_false (by omega)).symm
  rw [show decide (2 < b.k) = true from decide_eq_true kb2]
  go_wp2_with fail
  rw [rounds_succ]
  by_cases hi3 : 3 < g
  rotate_left
  · go_wp2
    go_returns
    refine ⟨ret_bool ?_, by repeat' first | (with_reducible first | assumption | exact Below.refl _ _ | apply blast | apply Below.drew | apply below_setRow | apply Below.alloc | apply Below.setCell) | (first | with_reducible assumption | (simp; done) | (go_light; first | omega | (simp; omega)))⟩
    go_light
    unfold leC; exact (decide_eq_true (by omega)).symm
  have XA := Lib.hid (AT3.out hi3)
  have XB := Lib.hid (BT3.out hi3)
  go_wp2_with fail
  refine (XA.out _).mono ?_
  rintro e w10 ⟨rfl, hb10⟩
  have hG : Below w9.heap.size w9 w10 := bstep (by repeat' first | (with_reducible first | assumption | exact Below.refl _ _ | apply blast | apply Below.drew | apply below_setRow | apply Below.alloc | apply Below.setCell) | (first | with_reducible assumption | (simp; done) | (go_light; first | omega | (simp; omega)))) hb10 (by (first | with_reducible assumption | (simp; done) | (go_light; first | omega | (simp; omega))))
  have hz := hG.size
  replace N_p := rowOf_below N_p hG L_p
  replace N_q := rowOf_below N_q hG L_q
  replace hB := bstep hB hG hB.size
  clear D_p L_p
  have L_p := rowOf_lt N_p
  have D_p := Nat.ne_of_lt L_p
  clear D_q L_q
  have L_q := rowOf_lt N_q
  have D_q := Nat.ne_of_lt L_q
  clear hb10 hG
  go_wp2_with fail
  refine (XB.out _).mono ?_
  rintro e w11 ⟨rfl, hb11⟩
  have hG : Below w10.heap.size w10 w11 := bstep (by repeat' first | (with_reducible first | assumption | exact Below.refl _ _ | apply blast | apply Below.drew | apply below_setRow | apply Below.alloc | apply Below.setCell) | (first | with_reducible assumption | (simp; done) | (go_light; first | omega | (simp; omega)))) hb11 (by (first | with_reducible assumption | (simp; done) | (go_light; first | omega | (simp; omega))))
  have hz := hG.size
  replace N_p := rowOf_below N_p hG L_p
  replace N_q := rowOf_below N_q hG L_q
  replace hB := bstep hB hG hB.size
  clear D_p L_p
  have L_p := rowOf_lt N_p
  have D_p := Nat.ne_of_lt L_p
  clear D_q L_q
  have L_q := rowOf_lt N_q
  have D_q := Nat.ne_of_lt L_q
  clear hb11 hG
  clear XA XB
  by_cases hm3 : B3 < A3
  · go_wp2
    go_returns
    refine ⟨ret_bool ?_, by repeat' first | (with_reducible first | assumption | exact Below.refl _ _ | apply blast | apply Below.drew | apply below_setRow | apply Below.alloc | apply Below.setCell) | (first | with_reducible assumption | (simp; done) | (go_light; first | omega | (simp; omega)))⟩
    go_light
    unfold leC; exact (decide_eq_false (by omega)).symm
  by_cases ka3 : 3 < a.k
  rotate_left
  · rw [show decide (3 < a.k) = false from decide_eq_false ka3]
    go_wp2_with fail
    rw [rounds_succ]
    have hi4 : ¬ 4 < g := by omega
    go_wp2
    go_returns
    refine ⟨ret_bool ?_, by repeat' first | (with_reducible first | assumption | exact Below.refl _ _ | apply blast | apply Below.drew | apply below_setRow | apply Below.alloc | apply Below.setCell) | (first | with_reducible assumption | (simp; done) | (go_light; first | omega | (simp; omega)))⟩
    go_light
    unfold leC; exact (decide_eq_true (by omega)).symm
  rw [show decide (3 < a.k) = true from decide_eq_true ka3]
  by_cases kb3 : 3 < b.k
  rotate_left
  · rw [show decide (3 < b.k) = false from decide_eq_false kb3]
    go_wp2
    go_returns
    refine ⟨ret_bool ?_, by repeat' first | (with_reducible first | assumption | exact Below.refl _ _ | apply blast | apply Below.drew | apply below_setRow | apply Below.alloc | apply Below.setCell) | (first | with_reducible assumption | (simp; done) | (go_light; first | omega | (simp; omega)))⟩
    go_light
    unfold leC; exact (decide_eq_false (by omega)).symm
  rw [show decide (3 < b.k) = true from decide_eq_true kb3]
  go_wp2_with fail
  rw [rounds_succ]
  have hi4 : ¬ 4 < g := by omega
  go_wp2
  go_returns
  refine ⟨ret_bool ?_, by repeat' first | (with_reducible first | assumption | exact Below.refl _ _ | apply blast | apply Below.drew | apply below_setRow | apply Below.alloc | apply Below.setCell) | (first | with_reducible assumption | (simp; done) | (go_light; first | omega | (simp; omega)))⟩
  go_light
  unfold leC; exact (decide_eq_true (by omega)).symm

/-- is one step at or before another one? -/
def leH (a b : HV) : Bool := a.rightB && b.rightB && (a.f == b.f) && (a.k + a.t == b.k + b.t) && leC (a.k + a.t) a.k b.k (a.at 0) (b.at 0) (a.at 1) (b.at 1) (a.at 2) (b.at 2) (a.at 3) (b.at 3)
theorem leH_any (a b : HV) (w : World) : Calls Try.prog 11 #[a.val, b.val] w (Ret (.bool (leH a b)) w) := by
  cases ha : a.rightB
  · rw [show leH a b = false by simp [leH, ha]]; exact le_no1 a b ha w
  · cases hb : b.rightB
    · rw [show leH a b = false by simp [leH, hb]]; exact le_no2 a b ha hb w
    · cases hf : (a.f != b.f)
      · cases hg : (a.k + a.t != b.k + b.t)
        · have e1 : (a.f == b.f) = true := by simpa using hf
          have e2 : (a.k + a.t == b.k + b.t) = true := by simpa using hg
          rw [show leH a b = leC (a.k + a.t) a.k b.k (a.at 0) (b.at 0) (a.at 1) (b.at 1) (a.at 2) (b.at 2) (a.at 3) (b.at 3) by simp only [leH, ha, hb, e1, e2, Bool.true_and]]
          exact le_yes a b ha hb hf _ rfl (by simpa using hg) _ _ rfl rfl _ _ rfl rfl _ _ rfl rfl _ _ rfl rfl w
        · have e2 : (a.k + a.t == b.k + b.t) = false := by simpa using hg
          rw [show leH a b = false by simp only [leH, e2, Bool.and_false, Bool.false_and]]; exact le_no4 a b ha hb hf _ _ rfl rfl hg w
      · have e1 : (a.f == b.f) = false := by simpa using hf
        rw [show leH a b = false by simp only [leH, e1, Bool.and_false, Bool.false_and]]; exact le_no3 a b ha hb hf w
end Go.Proofs.Ytimfpbmlbihlnaa
