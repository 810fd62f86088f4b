import Derived.Test.YtimfpbmlbihlnaaH6q
import Derived.Deep.RegionWith
namespace Go.Proofs.Ytimfpbmlbihlnaa
open Go.RowKit
set_option linter.unusedVariables false
set_option linter.unusedSimpArgs false
attribute [local go_sem ↓] loadH loadT storeH storeT
attribute [local simp] size_setRow
attribute [local go_sem] HV.row TV.row
attribute [local go_sem] rowAt_head rowOf_alloc_at rowOf_alloc_past rowOf_drew rowOf_drewN rowOf_setRow_same rowOf_setRow_other rowOf_setCell_same rowOf_setCell_other size_setRow setRow_drew setRow_alloc_at setRow_alloc_past one_int one_bool cell_setRow_same cell_setRow_other frozen_setRow_same frozen_setRow_other
attribute [local go_sem ↓] run_imin
set_option maxHeartbeats 32000000 in
theorem then_1x (a b R : HV) (ha : a.rightB = true) (hb : b.rightB = true) (hga : a.k + a.t = b.f) (g : Int) (hgg : g = b.k + b.t) (hm : imin a.k b.k = 1) (hbk : b.k = 2) (hgl : g = 2) (A0 B0 : Int) (hA0 : 0 < b.k → a.at 0 = A0) (hB0 : b.at 0 = B0) (bA0 : 0 < b.k → 0 ≤ A0 ∧ A0 ≤ 1048576) (bb0 : 0 ≤ B0 ∧ B0 ≤ 1048576) (A1 B1 : Int) (hA1 : 1 < b.k → a.at 1 = A1) (hB1 : b.at 1 = B1) (bA1 : 1 < b.k → 0 ≤ A1 ∧ A1 ≤ 1048576) (bb1 : 0 ≤ B1 ∧ B1 ≤ 1048576) (A2 B2 : Int) (hA2 : 2 < b.k → a.at 2 = A2) (hB2 : b.at 2 = B2) (bA2 : 2 < b.k → 0 ≤ A2 ∧ A2 ≤ 1048576) (bb2 : 0 ≤ B2 ∧ B2 ≤ 1048576) (A3 B3 : Int) (hA3 : 3 < b.k → a.at 3 = A3) (hB3 : b.at 3 = B3) (bA3 : 3 < b.k → 0 ≤ A3 ∧ A3 ≤ 1048576) (bb3 : 0 ≤ B3 ∧ B3 ≤ 1048576)
    (hR : R = thenR a.f 1 g b.k A0 A1 A2 A3 B0 B1 B2 B3) (w : World) : Calls Try.prog 9 #[a.val, b.val] w (Ret (.tuple #[(HV.val (HV.gate (HV.rightB R) R)), .bool (HV.rightB R)]) w) := by
  have HA := Lib.hid (hright_is ha)
  have HB := Lib.hid (hright_is hb)
  have GA : Hid (∀ W, Calls Try.prog 16 #[(HV.val a)] W (Ret (.int .i64 b.f) W)) := fun W => by rw [← hga]; exact gives_is a ha W
  have GB : Hid (∀ W, Calls Try.prog 16 #[(HV.val b)] W (Ret (.int .i64 g) W)) := fun W => by rw [hgg]; exact gives_is b hb W
  have GX : Hid (∀ W, Calls Try.prog 16 #[(HV.val b)] W (fun e w' => e = .returned (.int .i64 g) ∧ w' = W.alloc (.cells (HV.row b) 24))) := fun W => by have r := shape_of hb; rw [hgg]; exact gives_exact b r.1.2.2.1 (by have := r.1.2.1; have := r.1.2.2.2.1; omega) r.1.2.2.2.2.1 r.1.2.2.2.2.2 W
  have hr := shape_of hb
  have hra := shape_of ha
  have hpf : b.k ≤ a.k + a.t := by have := hr.1.2.2.2.1; omega
  have HBk0 : Hid (0 < b.k → ∀ W, Calls Try.prog 17 #[(HV.val b), .int .i64 0] W (Ret (.tuple #[.int .i64 B0, .bool true]) W)) := fun hi W => by have q := at_is b hb 0 (by decide) (by have := hr.1.2.2.2.2.1; omega) W; rw [hB0, decide_eq_true hi] at q; exact q
  have HBn0 : Hid (b.k ≤ 0 → 0 < g → ∀ W, Calls Try.prog 17 #[(HV.val b), .int .i64 0] W (Ret (.tuple #[.int .i64 B0, .bool false]) W)) := fun hi hg W => by have q := at_is b hb 0 (by decide) (by omega) W; rw [hB0, decide_eq_false (by omega)] at q; exact q
  have HA0 : Hid (0 < b.k → ∀ W, Calls Try.prog 17 #[(HV.val a), .int .i64 0] W (Ret (.tuple #[.int .i64 A0, .bool (decide (0 < a.k))]) W)) := fun hi W => by have q := at_is a ha 0 (by decide) (by omega) W; rw [hA0 hi] at q; exact q
  have HbA0 := Lib.hid bA0; have Hbb0 := Lib.hid bb0; clear bA0 bb0
  have HBk1 : Hid (1 < b.k → ∀ W, Calls Try.prog 17 #[(HV.val b), .int .i64 1] W (Ret (.tuple #[.int .i64 B1, .bool true]) W)) := fun hi W => by have q := at_is b hb 1 (by decide) (by have := hr.1.2.2.2.2.1; omega) W; rw [hB1, decide_eq_true hi] at q; exact q
  have HBn1 : Hid (b.k ≤ 1 → 1 < g → ∀ W, Calls Try.prog 17 #[(HV.val b), .int .i64 1] W (Ret (.tuple #[.int .i64 B1, .bool false]) W)) := fun hi hg W => by have q := at_is b hb 1 (by decide) (by omega) W; rw [hB1, decide_eq_false (by omega)] at q; exact q
  have HA1 : Hid (1 < b.k → ∀ W, Calls Try.prog 17 #[(HV.val a), .int .i64 1] W (Ret (.tuple #[.int .i64 A1, .bool (decide (1 < a.k))]) W)) := fun hi W => by have q := at_is a ha 1 (by decide) (by omega) W; rw [hA1 hi] at q; exact q
  have HbA1 := Lib.hid bA1; have Hbb1 := Lib.hid bb1; clear bA1 bb1
  have HBk2 : Hid (2 < b.k → ∀ W, Calls Try.prog 17 #[(HV.val b), .int .i64 2] W (Ret (.tuple #[.int .i64 B2, .bool true]) W)) := fun hi W => by have q := at_is b hb 2 (by decide) (by have := hr.1.2.2.2.2.1; omega) W; rw [hB2, decide_eq_true hi] at q; exact q
  have HBn2 : Hid (b.k ≤ 2 → 2 < g → ∀ W, Calls Try.prog 17 #[(HV.val b), .int .i64 2] W (Ret (.tuple #[.int .i64 B2, .bool false]) W)) := fun hi hg W => by have q := at_is b hb 2 (by decide) (by omega) W; rw [hB2, decide_eq_false (by omega)] at q; exact q
  have HA2 : Hid (2 < b.k → ∀ W, Calls Try.prog 17 #[(HV.val a), .int .i64 2] W (Ret (.tuple #[.int .i64 A2, .bool (decide (2 < a.k))]) W)) := fun hi W => by have q := at_is a ha 2 (by decide) (by omega) W; rw [hA2 hi] at q; exact q
  have HbA2 := Lib.hid bA2; have Hbb2 := Lib.hid bb2; clear bA2 bb2
  have HBk3 : Hid (3 < b.k → ∀ W, Calls Try.prog 17 #[(HV.val b), .int .i64 3] W (Ret (.tuple #[.int .i64 B3, .bool true]) W)) := fun hi W => by have q := at_is b hb 3 (by decide) (by have := hr.1.2.2.2.2.1; omega) W; rw [hB3, decide_eq_true hi] at q; exact q
  have HBn3 : Hid (b.k ≤ 3 → 3 < g → ∀ W, Calls Try.prog 17 #[(HV.val b), .int .i64 3] W (Ret (.tuple #[.int .i64 B3, .bool false]) W)) := fun hi hg W => by have q := at_is b hb 3 (by decide) (by omega) W; rw [hB3, decide_eq_false (by omega)] at q; exact q
  have HA3 : Hid (3 < b.k → ∀ W, Calls Try.prog 17 #[(HV.val a), .int .i64 3] W (Ret (.tuple #[.int .i64 A3, .bool (decide (3 < a.k))]) W)) := fun hi W => by have q := at_is a ha 3 (by decide) (by omega) W; rw [hA3 hi] at q; exact q
  have HbA3 := Lib.hid bA3; have Hbb3 := Lib.hid bb3; clear bA3 bb3
  have hg1 : 1 ≤ g := by have := hr.2.1; omega
  have hg4 : g ≤ 4 := by have := hr.2.2.1; omega
  have hkg : b.k ≤ g := by have := hr.1.2.2.2.2.1; omega
  have hmk : 1 ≤ b.k := by unfold imin at hm; split at hm <;> omega
  have HRR := Lib.hid hR
  have HIF : Hid (∀ W, Calls Try.prog 21 #[HV.val R] W (Ret (.tuple #[(HV.val (HV.gate (HV.rightB R) R)), .bool (HV.rightB R)]) W)) := fun W => ifRight_any R W
  generalize HV.gate (HV.rightB R) R = V at HIF ⊢
  generalize HV.rightB R = ok at HIF ⊢
  have HBK := Lib.hid hbk; have HGL := Lib.hid hgl; clear hbk hgl
  clear ha hb hga hgg hpf hr hra hR hA0 hB0 hA1 hB1 hA2 hB2 hA3 hB3
  go_enter Try.func9, Try.ntmps9
  generalize hQ : bodyPost _ _ _ = Q0
  have HQ := Lib.hid hQ
  clear hQ
  go_wp2_with fail
  refine gen_world (fun W2 => Below w.heap.size w W2 ∧ rowOf W2 (w.heap.size) = some (HV.row a) ∧ rowOf W2 ((w.heap.size + 1)) = some (HV.row b) ∧ rowOf W2 ((w.heap.size + 1 + 1)) = some #[.int .i64 0, .int .i64 0, .int .i64 0, .int .i64 0, .int .i64 0, .int .i64 0, .int .i64 0, .int .i64 0, .int .i64 0, .int .i64 0, .int .i64 0]) ⟨by repeat' first | (with_reducible first | assumption | exact Below.refl _ _ | apply blast | apply Below.drew | apply below_setRow | apply Below.alloc | apply Below.setCell) | (first | with_reducible assumption | (simp; done) | (go_light; first | omega | (simp; omega))), by repeat' first | (with_reducible first | assumption | apply row_drew | apply row_drewN | apply row_set_same | apply row_cell_same | apply row_set_other | apply row_cell_other) | (with_reducible exact row_new (by (first | with_reducible assumption | (simp; done) | (go_light; first | omega | (simp; omega))))) | (with_reducible apply row_old) | (first | with_reducible assumption | (simp; done) | (go_light; first | omega | (simp; omega))) | rfl, by repeat' first | (with_reducible first | assumption | apply row_drew | apply row_drewN | apply row_set_same | apply row_cell_same | apply row_set_other | apply row_cell_other) | (with_reducible exact row_new (by (first | with_reducible assumption | (simp; done) | (go_light; first | omega | (simp; omega))))) | (with_reducible apply row_old) | (first | with_reducible assumption | (simp; done) | (go_light; first | omega | (simp; omega))) | rfl, by repeat' first | (with_reducible first | assumption | apply row_drew | apply row_drewN | apply row_set_same | apply row_cell_same | apply row_set_other | apply row_cell_other) | (with_reducible exact row_new (by (first | with_reducible assumption | (simp; done) | (go_light; first | omega | (simp; omega))))) | (with_reducible apply row_old) | (first | with_reducible assumption | (simp; done) | (go_light; first | omega | (simp; omega))) | rfl⟩ ?_
  rintro w1 ⟨hB, N_p, N_q, N_r⟩
  have L_p := rowOf_lt N_p
  have D_p := Nat.ne_of_lt L_p
  have L_q := rowOf_lt N_q
  have D_q := Nat.ne_of_lt L_q
  have L_r := rowOf_lt N_r
  have D_r := Nat.ne_of_lt L_r
  have p_0 : w1.cell? ⟨w.heap.size, 0, none⟩ = some (.int .i64 a.f) := rowOf_cell N_p 0
  have p_1 : w1.cell? ⟨w.heap.size, 1, none⟩ = some (.int .i64 a.k) := rowOf_cell N_p 1
  have p_2 : w1.cell? ⟨w.heap.size, 2, none⟩ = some (.int .i64 a.t) := rowOf_cell N_p 2
  have p_3 : w1.cell? ⟨w.heap.size, 3, none⟩ = some (.int .i64 a.a0) := rowOf_cell N_p 3
  have p_4 : w1.cell? ⟨w.heap.size, 4, none⟩ = some (.int .i64 a.a1) := rowOf_cell N_p 4
  have p_5 : w1.cell? ⟨w.heap.size, 5, none⟩ = some (.int .i64 a.a2) := rowOf_cell N_p 5
  have p_6 : w1.cell? ⟨w.heap.size, 6, none⟩ = some (.int .i64 a.a3) := rowOf_cell N_p 6
  have p_7 : w1.cell? ⟨w.heap.size, 7, none⟩ = some (.int .i64 a.b0) := rowOf_cell N_p 7
  have p_8 : w1.cell? ⟨w.heap.size, 8, none⟩ = some (.int .i64 a.b1) := rowOf_cell N_p 8
  have p_9 : w1.cell? ⟨w.heap.size, 9, none⟩ = some (.int .i64 a.b2) := rowOf_cell N_p 9
  have p_10 : w1.cell? ⟨w.heap.size, 10, none⟩ = some (.int .i64 a.b3) := rowOf_cell N_p 10
  have q_0 : w1.cell? ⟨(w.heap.size + 1), 0, none⟩ = some (.int .i64 b.f) := rowOf_cell N_q 0
  have q_1 : w1.cell? ⟨(w.heap.size + 1), 1, none⟩ = some (.int .i64 b.k) := rowOf_cell N_q 1
  have q_2 : w1.cell? ⟨(w.heap.size + 1), 2, none⟩ = some (.int .i64 b.t) := rowOf_cell N_q 2
  have q_3 : w1.cell? ⟨(w.heap.size + 1), 3, none⟩ = some (.int .i64 b.a0) := rowOf_cell N_q 3
  have q_4 : w1.cell? ⟨(w.heap.size + 1), 4, none⟩ = some (.int .i64 b.a1) := rowOf_cell N_q 4
  have q_5 : w1.cell? ⟨(w.heap.size + 1), 5, none⟩ = some (.int .i64 b.a2) := rowOf_cell N_q 5
  have q_6 : w1.cell? ⟨(w.heap.size + 1), 6, none⟩ = some (.int .i64 b.a3) := rowOf_cell N_q 6
  have q_7 : w1.cell? ⟨(w.heap.size + 1), 7, none⟩ = some (.int .i64 b.b0) := rowOf_cell N_q 7
  have q_8 : w1.cell? ⟨(w.heap.size + 1), 8, none⟩ = some (.int .i64 b.b1) := rowOf_cell N_q 8
  have q_9 : w1.cell? ⟨(w.heap.size + 1), 9, none⟩ = some (.int .i64 b.b2) := rowOf_cell N_q 9
  have q_10 : w1.cell? ⟨(w.heap.size + 1), 10, none⟩ = some (.int .i64 b.b3) := rowOf_cell N_q 10
  refine wp_region_beh (by kernel_rfl) (by kernel_rfl) ?_
  have p_b0 := beh_cell p_0
  have p_b1 := beh_cell p_1
  have p_b2 := beh_cell p_2
  have p_b3 := beh_cell p_3
  have p_b4 := beh_cell p_4
  have p_b5 := beh_cell p_5
  have p_b6 := beh_cell p_6
  have p_b7 := beh_cell p_7
  have p_b8 := beh_cell p_8
  have p_b9 := beh_cell p_9
  have p_b10 := beh_cell p_10
  clear p_0 p_1 p_2 p_3 p_4 p_5 p_6 p_7 p_8 p_9 p_10
  have q_b0 := beh_cell q_0
  have q_b1 := beh_cell q_1
  have q_b2 := beh_cell q_2
  have q_b3 := beh_cell q_3
  have q_b4 := beh_cell q_4
  have q_b5 := beh_cell q_5
  have q_b6 := beh_cell q_6
  have q_b7 := beh_cell q_7
  have q_b8 := beh_cell q_8
  have q_b9 := beh_cell q_9
  have q_b10 := beh_cell q_10
  clear q_0 q_1 q_2 q_3 q_4 q_5 q_6 q_7 q_8 q_9 q_10
  repeat (first | go_big_quiet_step (first | (with_reducible exact Calls.beh (HA.out _)) | (with_reducible exact Calls.beh (HB.out _)) | (with_reducible exact Calls.beh (GA.out _))) | quiet_step (first | (with_reducible exact Calls.beh (HA.out _)) | (with_reducible exact Calls.beh (HB.out _)) | (with_reducible exact Calls.beh (GA.out _))))
  refine wpQuiet_nil ?_
  intro _ hw'
  obtain ⟨g, hw''⟩ := hw'
  subst hw''
  clear p_b0 p_b1 p_b2 p_b3 p_b4 p_b5 p_b6 p_b7 p_b8 p_b9 p_b10 q_b0 q_b1 q_b2 q_b3 q_b4 q_b5 q_b6 q_b7 q_b8 q_b9 q_b10
  have hb2 := g.h
  generalize g.w = w2 at hb2 ⊢
  clear g
  have hG : Below w1.heap.size w1 w2 := bstep (by repeat' first | (with_reducible first | assumption | exact Below.refl _ _ | apply blast | apply Below.drew | apply below_setRow | apply Below.alloc | apply Below.setCell) | (first | with_reducible assumption | (simp; done) | (go_light; first | omega | (simp; omega)))) hb2 (by (first | with_reducible assumption | (simp; done) | (go_light; first | omega | (simp; omega))))
  have hz := hG.size
  replace N_p := rowOf_below N_p hG L_p
  replace N_q := rowOf_below N_q hG L_q
  replace N_r := rowOf_below N_r hG L_r
  replace hB := bstep hB hG hB.size
  clear D_p L_p
  have L_p := rowOf_lt N_p
  have D_p := Nat.ne_of_lt L_p
  clear D_q L_q
  have L_q := rowOf_lt N_q
  have D_q := Nat.ne_of_lt L_q
  clear D_r L_r
  have L_r := rowOf_lt N_r
  have D_r := Nat.ne_of_lt L_r
  clear hb2 hG
  clear HA HB GA
  have E_p_x := D_p
  have F_p_x := Ne.symm D_p
  have E_q_x := D_q
  have F_q_x := Ne.symm D_q
  have E_r_x := D_r
  have F_r_x := Ne.symm D_r
  have Z_x : w.heap.size ≤ w2.heap.size := hB.size
  have p_0 : w2.cell? ⟨w.heap.size, 0, none⟩ = some (.int .i64 a.f) := rowOf_cell N_p 0
  have p_1 : w2.cell? ⟨w.heap.size, 1, none⟩ = some (.int .i64 a.k) := rowOf_cell N_p 1
  have q_1 : w2.cell? ⟨(w.heap.size + 1), 1, none⟩ = some (.int .i64 b.k) := rowOf_cell N_q 1
  go_wp2_with fail
  refine gen_world (fun W2 => Below w.heap.size w W2 ∧ rowOf W2 (w.heap.size) = some (HV.row a) ∧ rowOf W2 ((w.heap.size + 1)) = some (HV.row b) ∧ rowOf W2 ((w.heap.size + 1 + 1)) = some #[.int .i64 0, .int .i64 0, .int .i64 0, .int .i64 0, .int .i64 0, .int .i64 0, .int .i64 0, .int .i64 0, .int .i64 0, .int .i64 0, .int .i64 0] ∧ rowOf W2 (w2.heap.size) = some #[.int .i64 a.f, .int .i64 1, .int .i64 0, .int .i64 0, .int .i64 0, .int .i64 0, .int .i64 0, .int .i64 0, .int .i64 0, .int .i64 0, .int .i64 0]) ⟨by repeat' first | (with_reducible first | assumption | exact Below.refl _ _ | apply blast | apply Below.drew | apply below_setRow | apply Below.alloc | apply Below.setCell) | (first | with_reducible assumption | (simp; done) | (go_light; first | omega | (simp; omega))), by repeat' first | (with_reducible first | assumption | apply row_drew | apply row_drewN | apply row_set_same | apply row_cell_same | apply row_set_other | apply row_cell_other) | (with_reducible exact row_new (by (first | with_reducible assumption | (simp; done) | (go_light; first | omega | (simp; omega))))) | (with_reducible apply row_old) | (first | with_reducible assumption | (simp; done) | (go_light; first | omega | (simp; omega))) | rfl, by repeat' first | (with_reducible first | assumption | apply row_drew | apply row_drewN | apply row_set_same | apply row_cell_same | apply row_set_other | apply row_cell_other) | (with_reducible exact row_new (by (first | with_reducible assumption | (simp; done) | (go_light; first | omega | (simp; omega))))) | (with_reducible apply row_old) | (first | with_reducible assumption | (simp; done) | (go_light; first | omega | (simp; omega))) | rfl, by repeat' first | (with_reducible first | assumption | apply row_drew | apply row_drewN | apply row_set_same | apply row_cell_same | apply row_set_other | apply row_cell_other) | (with_reducible exact row_new (by (first | with_reducible assumption | (simp; done) | (go_light; first | omega | (simp; omega))))) | (with_reducible apply row_old) | (first | with_reducible assumption | (simp; done) | (go_light; first | omega | (simp; omega))) | rfl, by repeat' first | (with_reducible first | assumption | apply row_drew | apply row_drewN | apply row_set_same | apply row_cell_same | apply row_set_other | apply row_cell_other) | (with_reducible exact row_new (by (first | with_reducible assumption | (simp; done) | (go_light; first | omega | (simp; omega))))) | (with_reducible apply row_old) | (first | with_reducible assumption | (simp; done) | (go_light; first | omega | (simp; omega))) | rfl⟩ ?_
  clear hB
  clear N_p L_p D_p
  clear N_q L_q D_q
  clear N_r L_r D_r
  rintro w3 ⟨hB, N_p, N_q, N_r, N_x⟩
  have L_p := rowOf_lt N_p
  have D_p := Nat.ne_of_lt L_p
  have L_q := rowOf_lt N_q
  have D_q := Nat.ne_of_lt L_q
  have L_r := rowOf_lt N_r
  have D_r := Nat.ne_of_lt L_r
  have L_x := rowOf_lt N_x
  have D_x := Nat.ne_of_lt L_x
  have q_0 : w3.cell? ⟨(w.heap.size + 1), 0, none⟩ = some (.int .i64 b.f) := rowOf_cell N_q 0
  have q_1 : w3.cell? ⟨(w.heap.size + 1), 1, none⟩ = some (.int .i64 b.k) := rowOf_cell N_q 1
  have q_2 : w3.cell? ⟨(w.heap.size + 1), 2, none⟩ = some (.int .i64 b.t) := rowOf_cell N_q 2
  have q_3 : w3.cell? ⟨(w.heap.size + 1), 3, none⟩ = some (.int .i64 b.a0) := rowOf_cell N_q 3
  have q_4 : w3.cell? ⟨(w.heap.size + 1), 4, none⟩ = some (.int .i64 b.a1) := rowOf_cell N_q 4
  have q_5 : w3.cell? ⟨(w.heap.size + 1), 5, none⟩ = some (.int .i64 b.a2) := rowOf_cell N_q 5
  have q_6 : w3.cell? ⟨(w.heap.size + 1), 6, none⟩ = some (.int .i64 b.a3) := rowOf_cell N_q 6
  have q_7 : w3.cell? ⟨(w.heap.size + 1), 7, none⟩ = some (.int .i64 b.b0) := rowOf_cell N_q 7
  have q_8 : w3.cell? ⟨(w.heap.size + 1), 8, none⟩ = some (.int .i64 b.b1) := rowOf_cell N_q 8
  have q_9 : w3.cell? ⟨(w.heap.size + 1), 9, none⟩ = some (.int .i64 b.b2) := rowOf_cell N_q 9
  have q_10 : w3.cell? ⟨(w.heap.size + 1), 10, none⟩ = some (.int .i64 b.b3) := rowOf_cell N_q 10
  have x_1 : w3.cell? ⟨w2.heap.size, 1, none⟩ = some (.int .i64 1) := rowOf_cell N_x 1
  have x_f1 := rowOf_frozen N_x 1
  have x_2 : w3.cell? ⟨w2.heap.size, 2, none⟩ = some (.int .i64 0) := rowOf_cell N_x 2
  have x_f2 := rowOf_frozen N_x 2
  refine cut_at (fun a => ((((((a.put (some 36) ((HV.val b))).put (some 37) (.int .i64 g)).put (some 38) (.pointer (some ⟨w2.heap.size, 1, none⟩))).put (some 39) (.int .i64 1)).put (some 40) (.int .i64 (g - 1))).put (some 41) (.pointer (some ⟨w2.heap.size, 2, none⟩)))) (fun W2 => Below w.heap.size w W2 ∧ rowOf W2 (w.heap.size) = some (HV.row a) ∧ rowOf W2 ((w.heap.size + 1)) = some (HV.row b) ∧ rowOf W2 ((w.heap.size + 1 + 1)) = some #[.int .i64 0, .int .i64 0, .int .i64 0, .int .i64 0, .int .i64 0, .int .i64 0, .int .i64 0, .int .i64 0, .int .i64 0, .int .i64 0, .int .i64 0] ∧ rowOf W2 (w2.heap.size) = some #[.int .i64 a.f, .int .i64 1, .int .i64 (g - 1), .int .i64 0, .int .i64 0, .int .i64 0, .int .i64 0, .int .i64 0, .int .i64 0, .int .i64 0, .int .i64 0]) ?_ ?_
  · have hwr : IntKind.i64.wrap (g - 1) = g - 1 := by rw [IntKind.wrap_i64]; omega
    go_region_with (go_at_call 16; refine (GX.out _).mono ?_; rintro e w' ⟨rfl, rfl⟩)
    all_goals exact ⟨by kernel_rfl, by repeat' first | (with_reducible first | assumption | exact Below.refl _ _ | apply blast | apply Below.drew | apply below_setRow | apply Below.alloc | apply Below.setCell) | (first | with_reducible assumption | (simp; done) | (go_light; first | omega | (simp; omega))), by repeat' first | (with_reducible first | assumption | apply row_drew | apply row_drewN | apply row_set_same | apply row_cell_same | apply row_set_other | apply row_cell_other) | (with_reducible exact row_new (by (first | with_reducible assumption | (simp; done) | (go_light; first | omega | (simp; omega))))) | (with_reducible apply row_old) | (first | with_reducible assumption | (simp; done) | (go_light; first | omega | (simp; omega))) | rfl, by repeat' first | (with_reducible first | assumption | apply row_drew | apply row_drewN | apply row_set_same | apply row_cell_same | apply row_set_other | apply row_cell_other) | (with_reducible exact row_new (by (first | with_reducible assumption | (simp; done) | (go_light; first | omega | (simp; omega))))) | (with_reducible apply row_old) | (first | with_reducible assumption | (simp; done) | (go_light; first | omega | (simp; omega))) | rfl, by repeat' first | (with_reducible first | assumption | apply row_drew | apply row_drewN | apply row_set_same | apply row_cell_same | apply row_set_other | apply row_cell_other) | (with_reducible exact row_new (by (first | with_reducible assumption | (simp; done) | (go_light; first | omega | (simp; omega))))) | (with_reducible apply row_old) | (first | with_reducible assumption | (simp; done) | (go_light; first | omega | (simp; omega))) | rfl, by repeat' first | (with_reducible first | assumption | apply row_drew | apply row_drewN | apply row_set_same | apply row_cell_same | apply row_set_other | apply row_cell_other) | (with_reducible exact row_new (by (first | with_reducible assumption | (simp; done) | (go_light; first | omega | (simp; omega))))) | (with_reducible apply row_old) | (first | with_reducible assumption | (simp; done) | (go_light; first | omega | (simp; omega))) | rfl⟩
  clear q_0 q_1 q_2 q_3 q_4 q_5 q_6 q_7 q_8 q_9 q_10
  clear x_1 x_f1 x_2 x_f2
  clear hB GX hm
  clear N_p L_p D_p
  clear N_q L_q D_q
  clear N_r L_r D_r
  clear N_x L_x D_x
  rintro w4 ⟨hB, N_p, N_q, N_r, N_x⟩
  have L_p : w.heap.size < w4.heap.size := rowOf_lt N_p
  have D_p : w.heap.size ≠ w4.heap.size := Nat.ne_of_lt L_p
  have L_q : (w.heap.size + 1) < w4.heap.size := rowOf_lt N_q
  have D_q : (w.heap.size + 1) ≠ w4.heap.size := Nat.ne_of_lt L_q
  have L_r : (w.heap.size + 1 + 1) < w4.heap.size := rowOf_lt N_r
  have D_r : (w.heap.size + 1 + 1) ≠ w4.heap.size := Nat.ne_of_lt L_r
  have L_x : w2.heap.size < w4.heap.size := rowOf_lt N_x
  have D_x : w2.heap.size ≠ w4.heap.size := Nat.ne_of_lt L_x
  go_simp
  go_wp2_with fail
  refine (GB.out _).mono ?_
  rintro e w5 ⟨rfl, hb5⟩
  have hG : Below w4.heap.size w4 w5 := bstep (by repeat' first | (with_reducible first | assumption | exact Below.refl _ _ | apply blast | apply Below.drew | apply below_setRow | apply Below.alloc | apply Below.setCell) | (first | with_reducible assumption | (simp; done) | (go_light; first | omega | (simp; omega)))) hb5 (by (first | with_reducible assumption | (simp; done) | (go_light; first | omega | (simp; omega))))
  have hz := hG.size
  replace N_p := rowOf_below N_p hG L_p
  replace N_q := rowOf_below N_q hG L_q
  replace N_r := rowOf_below N_r hG L_r
  replace N_x := rowOf_below N_x hG L_x
  replace hB := bstep hB hG hB.size
  clear D_p L_p
  have L_p := rowOf_lt N_p
  have D_p := Nat.ne_of_lt L_p
  clear D_q L_q
  have L_q := rowOf_lt N_q
  have D_q := Nat.ne_of_lt L_q
  clear D_r L_r
  have L_r := rowOf_lt N_r
  have D_r := Nat.ne_of_lt L_r
  clear D_x L_x
  have L_x := rowOf_lt N_x
  have D_x := Nat.ne_of_lt L_x
  clear hb5 hG
  clear GB
  go_wp2_with fail
  refine wp_loop_rounds 5 ?_
  rw [rounds_succ]
  have hk0 : 0 < b.k := by (have hx1 := HBK.out; have hx2 := HGL.out; omega)
  have hi0 : 0 < g := by (have hx1 := HBK.out; have hx2 := HGL.out; omega)
  have XB := Lib.hid (HBk0.out hk0)
  have XA := Lib.hid (HA0.out hk0)
  obtain ⟨lA0, uA0⟩ := HbA0.out hk0; obtain ⟨lB0, uB0⟩ := Hbb0.out
  go_wp2_with fail
  refine (XB.out _).mono ?_
  rintro e w6 ⟨rfl, hb6⟩
  have hG : Below w5.heap.size w5 w6 := bstep (by repeat' first | (with_reducible first | assumption | exact Below.refl _ _ | apply blast | apply Below.drew | apply below_setRow | apply Below.alloc | apply Below.setCell) | (first | with_reducible assumption | (simp; done) | (go_light; first | omega | (simp; omega)))) hb6 (by (first | with_reducible assumption | (simp; done) | (go_light; first | omega | (simp; omega))))
  have hz := hG.size
  replace N_p := rowOf_below N_p hG L_p
  replace N_q := rowOf_below N_q hG L_q
  replace N_r := rowOf_below N_r hG L_r
  replace N_x := rowOf_below N_x hG L_x
  replace hB := bstep hB hG hB.size
  clear D_p L_p
  have L_p := rowOf_lt N_p
  have D_p := Nat.ne_of_lt L_p
  clear D_q L_q
  have L_q := rowOf_lt N_q
  have D_q := Nat.ne_of_lt L_q
  clear D_r L_r
  have L_r := rowOf_lt N_r
  have D_r := Nat.ne_of_lt L_r
  clear D_x L_x
  have L_x := rowOf_lt N_x
  have D_x := Nat.ne_of_lt L_x
  clear hb6 hG
  go_wp2_with fail
  refine (XA.out _).mono ?_
  rintro e w7 ⟨rfl, hb7⟩
  have hG : Below w6.heap.size w6 w7 := bstep (by repeat' first | (with_reducible first | assumption | exact Below.refl _ _ | apply blast | apply Below.drew | apply below_setRow | apply Below.alloc | apply Below.setCell) | (first | with_reducible assumption | (simp; done) | (go_light; first | omega | (simp; omega)))) hb7 (by (first | with_reducible assumption | (simp; done) | (go_light; first | omega | (simp; omega))))
  have hz := hG.size
  replace N_p := rowOf_below N_p hG L_p
  replace N_q := rowOf_below N_q hG L_q
  replace N_r := rowOf_below N_r hG L_r
  replace N_x := rowOf_below N_x hG L_x
  replace hB := bstep hB hG hB.size
  clear D_p L_p
  have L_p := rowOf_lt N_p
  have D_p := Nat.ne_of_lt L_p
  clear D_q L_q
  have L_q := rowOf_lt N_q
  have D_q := Nat.ne_of_lt L_q
  clear D_r L_r
  have L_r := rowOf_lt N_r
  have D_r := Nat.ne_of_lt L_r
  clear D_x L_x
  have L_x := rowOf_lt N_x
  have D_x := Nat.ne_of_lt L_x
  clear hb7 hG
  clear XB XA
  have x_1 : w7.cell? ⟨w2.heap.size, 1, none⟩ = some (.int .i64 1) := rowOf_cell N_x 1
  have x_f1 := rowOf_frozen N_x 1
  have x_3 : w7.cell? ⟨w2.heap.size, 3, none⟩ = some (.int .i64 0) := rowOf_cell N_x 3
  have x_f3 := rowOf_frozen N_x 3
  go_wp2_with fail
  rw [rounds_succ]
  have hk1 : 1 < b.k := by (have hx1 := HBK.out; have hx2 := HGL.out; omega)
  have hi1 : 1 < g := by (have hx1 := HBK.out; have hx2 := HGL.out; omega)
  have XB := Lib.hid (HBk1.out hk1)
  have XA := Lib.hid (HA1.out hk1)
  obtain ⟨lA1, uA1⟩ := HbA1.out hk1; obtain ⟨lB1, uB1⟩ := Hbb1.out
  go_wp2_with fail
  refine (XB.out _).mono ?_
  rintro e w8 ⟨rfl, hb8⟩
  have hB2 : Below w.heap.size w w8 := bstep (by repeat' first | (with_reducible first | assumption | exact Below.refl _ _ | apply blast | apply Below.drew | apply below_setRow | apply Below.alloc | apply Below.setCell) | (first | with_reducible assumption | (simp; done) | (go_light; first | omega | (simp; omega)))) hb8 (by (first | with_reducible assumption | (simp; done) | (go_light; first | omega | (simp; omega))))
  have M_p : rowOf w8 (w.heap.size) = some (HV.row a) := rowOf_below (by repeat' first | (with_reducible first | assumption | apply row_drew | apply row_drewN | apply row_set_same | apply row_cell_same | apply row_set_other | apply row_cell_other) | (with_reducible exact row_new (by (first | with_reducible assumption | (simp; done) | (go_light; first | omega | (simp; omega))))) | (with_reducible apply row_old) | (first | with_reducible assumption | (simp; done) | (go_light; first | omega | (simp; omega))) | rfl) hb8 (by (first | with_reducible assumption | (simp; done) | (go_light; first | omega | (simp; omega))))
  have M_q : rowOf w8 ((w.heap.size + 1)) = some (HV.row b) := rowOf_below (by repeat' first | (with_reducible first | assumption | apply row_drew | apply row_drewN | apply row_set_same | apply row_cell_same | apply row_set_other | apply row_cell_other) | (with_reducible exact row_new (by (first | with_reducible assumption | (simp; done) | (go_light; first | omega | (simp; omega))))) | (with_reducible apply row_old) | (first | with_reducible assumption | (simp; done) | (go_light; first | omega | (simp; omega))) | rfl) hb8 (by (first | with_reducible assumption | (simp; done) | (go_light; first | omega | (simp; omega))))
  have M_r : rowOf w8 ((w.heap.size + 1 + 1)) = some #[.int .i64 0, .int .i64 0, .int .i64 0, .int .i64 0, .int .i64 0, .int .i64 0, .int .i64 0, .int .i64 0, .int .i64 0, .int .i64 0, .int .i64 0] := rowOf_below (by repeat' first | (with_reducible first | assumption | apply row_drew | apply row_drewN | apply row_set_same | apply row_cell_same | apply row_set_other | apply row_cell_other) | (with_reducible exact row_new (by (first | with_reducible assumption | (simp; done) | (go_light; first | omega | (simp; omega))))) | (with_reducible apply row_old) | (first | with_reducible assumption | (simp; done) | (go_light; first | omega | (simp; omega))) | rfl) hb8 (by (first | with_reducible assumption | (simp; done) | (go_light; first | omega | (simp; omega))))
  have M_x : rowOf w8 (w2.heap.size) = some #[.int .i64 a.f, .int .i64 1, .int .i64 (g - 1), .int .i64 (B0 + A0), .int .i64 0, .int .i64 0, .int .i64 0, .int .i64 0, .int .i64 0, .int .i64 0, .int .i64 0] := rowOf_below (by repeat' first | (with_reducible first | assumption | apply row_drew | apply row_drewN | apply row_set_same | apply row_cell_same | apply row_set_other | apply row_cell_other) | (with_reducible exact row_new (by (first | with_reducible assumption | (simp; done) | (go_light; first | omega | (simp; omega))))) | (with_reducible apply row_old) | (first | with_reducible assumption | (simp; done) | (go_light; first | omega | (simp; omega))) | rfl) hb8 (by (first | with_reducible assumption | (simp; done) | (go_light; first | omega | (simp; omega))))
  clear x_1 x_f1 x_3 x_f3
  clear hB; have hB := hB2; clear hB2
  clear N_p D_p L_p
  clear N_q D_q L_q
  clear N_r D_r L_r
  clear N_x D_x L_x
  have N_p := M_p; clear M_p
  have L_p := rowOf_lt N_p
  have D_p := Nat.ne_of_lt L_p
  have N_q := M_q; clear M_q
  have L_q := rowOf_lt N_q
  have D_q := Nat.ne_of_lt L_q
  have N_r := M_r; clear M_r
  have L_r := rowOf_lt N_r
  have D_r := Nat.ne_of_lt L_r
  have N_x := M_x; clear M_x
  have L_x := rowOf_lt N_x
  have D_x := Nat.ne_of_lt L_x
  clear hb8
  go_wp2_with fail
  refine (XA.out _).mono ?_
  rintro e w9 ⟨rfl, hb9⟩
  have hG : Below w8.heap.size w8 w9 := bstep (by repeat' first | (with_reducible first | assumption | exact Below.refl _ _ | apply blast | apply Below.drew | apply below_setRow | apply Below.alloc | apply Below.setCell) | (first | with_reducible assumption | (simp; done) | (go_light; first | omega | (simp; omega)))) hb9 (by (first | with_reducible assumption | (simp; done) | (go_light; first | omega | (simp; omega))))
  have hz := hG.size
  replace N_p := rowOf_below N_p hG L_p
  replace N_q := rowOf_below N_q hG L_q
  replace N_r := rowOf_below N_r hG L_r
  replace N_x := rowOf_below N_x hG L_x
  replace hB := bstep hB hG hB.size
  clear D_p L_p
  have L_p := rowOf_lt N_p
  have D_p := Nat.ne_of_lt L_p
  clear D_q L_q
  have L_q := rowOf_lt N_q
  have D_q := Nat.ne_of_lt L_q
  clear D_r L_r
  have L_r := rowOf_lt N_r
  have D_r := Nat.ne_of_lt L_r
  clear D_x L_x
  have L_x := rowOf_lt N_x
  have D_x := Nat.ne_of_lt L_x
  clear hb9 hG
  clear XB XA
  have x_1 : w9.cell? ⟨w2.heap.size, 1, none⟩ = some (.int .i64 1) := rowOf_cell N_x 1
  have x_f1 := rowOf_frozen N_x 1
  have x_7 : w9.cell? ⟨w2.heap.size, 7, none⟩ = some (.int .i64 0) := rowOf_cell N_x 7
  have x_f7 := rowOf_frozen N_x 7
  go_wp2_with fail
  rw [rounds_succ]
  have hk2 : ¬ 2 < b.k := by (have hx1 := HBK.out; have hx2 := HGL.out; omega)
  replace hk2 : b.k ≤ 2 := by (have hx1 := HBK.out; have hx2 := HGL.out; omega)
  have hi2 : ¬ 2 < g := by (have hx1 := HBK.out; have hx2 := HGL.out; omega)
  have hgi : g = 2 := by (have hx1 := HBK.out; have hx2 := HGL.out; omega)
  subst hgi
  have hR2 : R = ⟨a.f, 1, 1, (B0 + A0), 0, 0, 0, (B1 + A1), 0, 0, 0⟩ := HRR.out.trans (leaf_1_2_2 _ _ _ _ _ _ _ _ _ _ (by (have hx1 := HBK.out; have hx2 := HGL.out; omega)))
  have HI : Hid (∀ W, Calls Try.prog 21 #[.agg #[.int .i64 a.f, .int .i64 1, .int .i64 1, .int .i64 (B0 + A0), .int .i64 0, .int .i64 0, .int .i64 0, .int .i64 (B1 + A1), .int .i64 0, .int .i64 0, .int .i64 0]] W (Ret (.tuple #[(HV.val V), .bool ok]) W)) := fun W => by have q := HIF.out W; rw [show R.val = (.agg #[.int .i64 a.f, .int .i64 1, .int .i64 1, .int .i64 (B0 + A0), .int .i64 0, .int .i64 0, .int .i64 0, .int .i64 (B1 + A1), .int .i64 0, .int .i64 0, .int .i64 0] : Value) from by rw [hR2]] at q; exact q
  clear hR2
  go_wp2_with fail
  refine (HI.out _).mono ?_
  rintro e w10 ⟨rfl, hb10⟩
  have hB2 : Below w.heap.size w w10 := bstep (by repeat' first | (with_reducible first | assumption | exact Below.refl _ _ | apply blast | apply Below.drew | apply below_setRow | apply Below.alloc | apply Below.setCell) | (first | with_reducible assumption | (simp; done) | (go_light; first | omega | (simp; omega)))) hb10 (by (first | with_reducible assumption | (simp; done) | (go_light; first | omega | (simp; omega))))
  have M_p : rowOf w10 (w.heap.size) = some (HV.row a) := rowOf_below (by repeat' first | (with_reducible first | assumption | apply row_drew | apply row_drewN | apply row_set_same | apply row_cell_same | apply row_set_other | apply row_cell_other) | (with_reducible exact row_new (by (first | with_reducible assumption | (simp; done) | (go_light; first | omega | (simp; omega))))) | (with_reducible apply row_old) | (first | with_reducible assumption | (simp; done) | (go_light; first | omega | (simp; omega))) | rfl) hb10 (by (first | with_reducible assumption | (simp; done) | (go_light; first | omega | (simp; omega))))
  have M_q : rowOf w10 ((w.heap.size + 1)) = some (HV.row b) := rowOf_below (by repeat' first | (with_reducible first | assumption | apply row_drew | apply row_drewN | apply row_set_same | apply row_cell_same | apply row_set_other | apply row_cell_other) | (with_reducible exact row_new (by (first | with_reducible assumption | (simp; done) | (go_light; first | omega | (simp; omega))))) | (with_reducible apply row_old) | (first | with_reducible assumption | (simp; done) | (go_light; first | omega | (simp; omega))) | rfl) hb10 (by (first | with_reducible assumption | (simp; done) | (go_light; first | omega | (simp; omega))))
  have M_r : rowOf w10 ((w.heap.size + 1 + 1)) = some #[.int .i64 0, .int .i64 0, .int .i64 0, .int .i64 0, .int .i64 0, .int .i64 0, .int .i64 0, .int .i64 0, .int .i64 0, .int .i64 0, .int .i64 0] := rowOf_below (by repeat' first | (with_reducible first | assumption | apply row_drew | apply row_drewN | apply row_set_same | apply row_cell_same | apply row_set_other | apply row_cell_other) | (with_reducible exact row_new (by (first | with_reducible assumption | (simp; done) | (go_light; first | omega | (simp; omega))))) | (with_reducible apply row_old) | (first | with_reducible assumption | (simp; done) | (go_light; first | omega | (simp; omega))) | rfl) hb10 (by (first | with_reducible assumption | (simp; done) | (go_light; first | omega | (simp; omega))))
  have M_x : rowOf w10 (w2.heap.size) = some #[.int .i64 a.f, .int .i64 1, .int .i64 1, .int .i64 (B0 + A0), .int .i64 0, .int .i64 0, .int .i64 0, .int .i64 (B1 + A1), .int .i64 0, .int .i64 0, .int .i64 0] := rowOf_below (by repeat' first | (with_reducible first | assumption | apply row_drew | apply row_drewN | apply row_set_same | apply row_cell_same | apply row_set_other | apply row_cell_other) | (with_reducible exact row_new (by (first | with_reducible assumption | (simp; done) | (go_light; first | omega | (simp; omega))))) | (with_reducible apply row_old) | (first | with_reducible assumption | (simp; done) | (go_light; first | omega | (simp; omega))) | rfl) hb10 (by (first | with_reducible assumption | (simp; done) | (go_light; first | omega | (simp; omega))))
  clear x_1 x_f1 x_7 x_f7
  clear hB; have hB := hB2; clear hB2
  clear N_p D_p L_p
  clear N_q D_q L_q
  clear N_r D_r L_r
  clear N_x D_x L_x
  have N_p := M_p; clear M_p
  have L_p := rowOf_lt N_p
  have D_p := Nat.ne_of_lt L_p
  have N_q := M_q; clear M_q
  have L_q := rowOf_lt N_q
  have D_q := Nat.ne_of_lt L_q
  have N_r := M_r; clear M_r
  have L_r := rowOf_lt N_r
  have D_r := Nat.ne_of_lt L_r
  have N_x := M_x; clear M_x
  have L_x := rowOf_lt N_x
  have D_x := Nat.ne_of_lt L_x
  clear hb10
  go_wp2
  rw [← HQ.out]
  exact bodyPost_ret (v := .tuple #[(HV.val V), .bool ok]) (by simp [results, Try.results9, go_sem, N_r, L_r, D_r]) rfl ⟨rfl, by repeat' first | (with_reducible first | assumption | exact Below.refl _ _ | apply blast | apply Below.drew | apply below_setRow | apply Below.alloc | apply Below.setCell) | (first | with_reducible assumption | (simp; done) | (go_light; first | omega | (simp; omega)))⟩

end Go.Proofs.Ytimfpbmlbihlnaa
