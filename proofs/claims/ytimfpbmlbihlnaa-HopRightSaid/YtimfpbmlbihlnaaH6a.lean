import Derived.Test.YtimfpbmlbihlnaaH5a
import Derived.Deep.RegionWith
namespace Go.Proofs.Ytimfpbmlbihlnaa
open Go.RowKit
set_option linter.unusedVariables false
set_option linter.unusedSimpArgs false
attribute [local go_sem ↓] loadH loadT storeH storeT
attribute [local simp] size_setRow
attribute [local go_sem] HV.row TV.row
attribute [local go_sem] rowAt_head rowOf_alloc_at rowOf_alloc_past rowOf_drew rowOf_drewN rowOf_setRow_same rowOf_setRow_other rowOf_setCell_same rowOf_setCell_other size_setRow setRow_drew setRow_alloc_at setRow_alloc_past one_int one_bool cell_setRow_same cell_setRow_other frozen_setRow_same frozen_setRow_other

theorem gives_exact (h : HV) (h0 : 0 ≤ h.k) (h1 : h.k ≤ 4) (h2 : 0 ≤ h.t) (h3 : h.t ≤ 4) (w : World) :
    Calls Try.prog 16 #[h.val] w (fun e w' => e = .returned (.int .i64 (h.k + h.t)) ∧ w' = w.alloc (.cells (HV.row h) 24)) := by
  go_enter Try.func16, Try.ntmps16
  go_wp2
  go_returns
  exact ⟨rfl, rfl⟩
theorem cut_here {P : Program} {c : Code} {Q : Exit → Act → World → Prop} {a : Act} {W : World} {fr : Act} {F : World → Prop}
    (h : Code.wp P c (fun e a' w' => match e with | .normal => a' = fr ∧ F w' | _ => False) a W) (k : ∀ w', F w' → Q .normal fr w') : Code.wp P c Q a W :=
  Code.wp_mono (fun e a' w' q => by
    cases e with
    | normal => obtain ⟨ha, hf⟩ := q; subst ha; exact k w' hf
    | _ => exact q.elim) h

set_option maxHeartbeats 2000000 in
theorem then_no1 (a b : HV) (ha : a.rightB = false) (w : World) : Calls Try.prog 9 #[a.val, b.val] w (Ret (.tuple #[.agg #[.int .i64 0, .int .i64 0, .int .i64 0, .int .i64 0, .int .i64 0, .int .i64 0, .int .i64 0, .int .i64 0, .int .i64 0, .int .i64 0, .int .i64 0], .bool false]) w) := by
  have HA := Lib.hid (hright_is ha)
  clear ha
  go_enter Try.func9, Try.ntmps9
  go_wp2_with fail
  refine gen_world (fun W2 => Below w.heap.size w W2 ∧ rowOf W2 (w.heap.size) = some (HV.row a) ∧ rowOf W2 ((w.heap.size + 1)) = some (HV.row b) ∧ rowOf W2 ((w.heap.size + 1 + 1)) = some #[.int .i64 0, .int .i64 0, .int .i64 0, .int .i64 0, .int .i64 0, .int .i64 0, .int .i64 0, .int .i64 0, .int .i64 0, .int .i64 0, .int .i64 0]) ⟨by repeat' first | (with_reducible first | assumption | exact Below.refl _ _ | apply blast | apply Below.drew | apply below_setRow | apply Below.alloc | apply Below.setCell) | (first | with_reducible assumption | (simp; done) | (go_light; first | omega | (simp; omega))), by repeat' first | (with_reducible first | assumption | apply row_drew | apply row_drewN | apply row_set_same | apply row_cell_same | apply row_set_other | apply row_cell_other) | (with_reducible exact row_new (by (first | with_reducible assumption | (simp; done) | (go_light; first | omega | (simp; omega))))) | (with_reducible apply row_old) | (first | with_reducible assumption | (simp; done) | (go_light; first | omega | (simp; omega))) | rfl, by repeat' first | (with_reducible first | assumption | apply row_drew | apply row_drewN | apply row_set_same | apply row_cell_same | apply row_set_other | apply row_cell_other) | (with_reducible exact row_new (by (first | with_reducible assumption | (simp; done) | (go_light; first | omega | (simp; omega))))) | (with_reducible apply row_old) | (first | with_reducible assumption | (simp; done) | (go_light; first | omega | (simp; omega))) | rfl, by repeat' first | (with_reducible first | assumption | apply row_drew | apply row_drewN | apply row_set_same | apply row_cell_same | apply row_set_other | apply row_cell_other) | (with_reducible exact row_new (by (first | with_reducible assumption | (simp; done) | (go_light; first | omega | (simp; omega))))) | (with_reducible apply row_old) | (first | with_reducible assumption | (simp; done) | (go_light; first | omega | (simp; omega))) | rfl⟩ ?_
  rintro w1 ⟨hB, N_p, N_q, N_r⟩
  have L_p := rowOf_lt N_p
  have D_p := Nat.ne_of_lt L_p
  have L_q := rowOf_lt N_q
  have D_q := Nat.ne_of_lt L_q
  have L_r := rowOf_lt N_r
  have D_r := Nat.ne_of_lt L_r
  have p_0 : w1.cell? ⟨w.heap.size, 0, none⟩ = some (.int .i64 a.f) := rowOf_cell N_p 0
  have p_1 : w1.cell? ⟨w.heap.size, 1, none⟩ = some (.int .i64 a.k) := rowOf_cell N_p 1
  have p_2 : w1.cell? ⟨w.heap.size, 2, none⟩ = some (.int .i64 a.t) := rowOf_cell N_p 2
  have p_3 : w1.cell? ⟨w.heap.size, 3, none⟩ = some (.int .i64 a.a0) := rowOf_cell N_p 3
  have p_4 : w1.cell? ⟨w.heap.size, 4, none⟩ = some (.int .i64 a.a1) := rowOf_cell N_p 4
  have p_5 : w1.cell? ⟨w.heap.size, 5, none⟩ = some (.int .i64 a.a2) := rowOf_cell N_p 5
  have p_6 : w1.cell? ⟨w.heap.size, 6, none⟩ = some (.int .i64 a.a3) := rowOf_cell N_p 6
  have p_7 : w1.cell? ⟨w.heap.size, 7, none⟩ = some (.int .i64 a.b0) := rowOf_cell N_p 7
  have p_8 : w1.cell? ⟨w.heap.size, 8, none⟩ = some (.int .i64 a.b1) := rowOf_cell N_p 8
  have p_9 : w1.cell? ⟨w.heap.size, 9, none⟩ = some (.int .i64 a.b2) := rowOf_cell N_p 9
  have p_10 : w1.cell? ⟨w.heap.size, 10, none⟩ = some (.int .i64 a.b3) := rowOf_cell N_p 10
  have q_0 : w1.cell? ⟨(w.heap.size + 1), 0, none⟩ = some (.int .i64 b.f) := rowOf_cell N_q 0
  have q_1 : w1.cell? ⟨(w.heap.size + 1), 1, none⟩ = some (.int .i64 b.k) := rowOf_cell N_q 1
  have q_2 : w1.cell? ⟨(w.heap.size + 1), 2, none⟩ = some (.int .i64 b.t) := rowOf_cell N_q 2
  have q_3 : w1.cell? ⟨(w.heap.size + 1), 3, none⟩ = some (.int .i64 b.a0) := rowOf_cell N_q 3
  have q_4 : w1.cell? ⟨(w.heap.size + 1), 4, none⟩ = some (.int .i64 b.a1) := rowOf_cell N_q 4
  have q_5 : w1.cell? ⟨(w.heap.size + 1), 5, none⟩ = some (.int .i64 b.a2) := rowOf_cell N_q 5
  have q_6 : w1.cell? ⟨(w.heap.size + 1), 6, none⟩ = some (.int .i64 b.a3) := rowOf_cell N_q 6
  have q_7 : w1.cell? ⟨(w.heap.size + 1), 7, none⟩ = some (.int .i64 b.b0) := rowOf_cell N_q 7
  have q_8 : w1.cell? ⟨(w.heap.size + 1), 8, none⟩ = some (.int .i64 b.b1) := rowOf_cell N_q 8
  have q_9 : w1.cell? ⟨(w.heap.size + 1), 9, none⟩ = some (.int .i64 b.b2) := rowOf_cell N_q 9
  have q_10 : w1.cell? ⟨(w.heap.size + 1), 10, none⟩ = some (.int .i64 b.b3) := rowOf_cell N_q 10
  refine wp_region_beh (by kernel_rfl) (by kernel_rfl) ?_
  have p_b0 := beh_cell p_0
  have p_b1 := beh_cell p_1
  have p_b2 := beh_cell p_2
  have p_b3 := beh_cell p_3
  have p_b4 := beh_cell p_4
  have p_b5 := beh_cell p_5
  have p_b6 := beh_cell p_6
  have p_b7 := beh_cell p_7
  have p_b8 := beh_cell p_8
  have p_b9 := beh_cell p_9
  have p_b10 := beh_cell p_10
  clear p_0 p_1 p_2 p_3 p_4 p_5 p_6 p_7 p_8 p_9 p_10
  have q_b0 := beh_cell q_0
  have q_b1 := beh_cell q_1
  have q_b2 := beh_cell q_2
  have q_b3 := beh_cell q_3
  have q_b4 := beh_cell q_4
  have q_b5 := beh_cell q_5
  have q_b6 := beh_cell q_6
  have q_b7 := beh_cell q_7
  have q_b8 := beh_cell q_8
  have q_b9 := beh_cell q_9
  have q_b10 := beh_cell q_10
  clear q_0 q_1 q_2 q_3 q_4 q_5 q_6 q_7 q_8 q_9 q_10
  repeat (first | go_big_quiet_step (first | (with_reducible exact Calls.beh (HA.out _))) | quiet_step (first | (with_reducible exact Calls.beh (HA.out _))))
  refine wpQuiet_nil ?_
  intro _ hw'
  obtain ⟨g, hw''⟩ := hw'
  subst hw''
  clear p_b0 p_b1 p_b2 p_b3 p_b4 p_b5 p_b6 p_b7 p_b8 p_b9 p_b10 q_b0 q_b1 q_b2 q_b3 q_b4 q_b5 q_b6 q_b7 q_b8 q_b9 q_b10
  have hb2 := g.h
  generalize g.w = w2 at hb2 ⊢
  clear g
  have hG : Below w1.heap.size w1 w2 := bstep (by repeat' first | (with_reducible first | assumption | exact Below.refl _ _ | apply blast | apply Below.drew | apply below_setRow | apply Below.alloc | apply Below.setCell) | (first | with_reducible assumption | (simp; done) | (go_light; first | omega | (simp; omega)))) hb2 (by (first | with_reducible assumption | (simp; done) | (go_light; first | omega | (simp; omega))))
  have hz := hG.size
  replace N_p := rowOf_below N_p hG L_p
  replace N_q := rowOf_below N_q hG L_q
  replace N_r := rowOf_below N_r hG L_r
  replace hB := bstep hB hG hB.size
  clear D_p L_p
  have L_p := rowOf_lt N_p
  have D_p := Nat.ne_of_lt L_p
  clear D_q L_q
  have L_q := rowOf_lt N_q
  have D_q := Nat.ne_of_lt L_q
  clear D_r L_r
  have L_r := rowOf_lt N_r
  have D_r := Nat.ne_of_lt L_r
  clear hb2 hG
  go_wp2
  exact bodyPost_ret (v := .tuple #[.agg #[.int .i64 0, .int .i64 0, .int .i64 0, .int .i64 0, .int .i64 0, .int .i64 0, .int .i64 0, .int .i64 0, .int .i64 0, .int .i64 0, .int .i64 0], .bool false]) (by simp [results, Try.results9, go_sem, N_r, L_r, D_r]) rfl ⟨rfl, by repeat' first | (with_reducible first | assumption | exact Below.refl _ _ | apply blast | apply Below.drew | apply below_setRow | apply Below.alloc | apply Below.setCell) | (first | with_reducible assumption | (simp; done) | (go_light; first | omega | (simp; omega)))⟩

set_option maxHeartbeats 2000000 in
theorem then_no2 (a b : HV) (ha : a.rightB = true) (hb : b.rightB = false) (w : World) : Calls Try.prog 9 #[a.val, b.val] w (Ret (.tuple #[.agg #[.int .i64 0, .int .i64 0, .int .i64 0, .int .i64 0, .int .i64 0, .int .i64 0, .int .i64 0, .int .i64 0, .int .i64 0, .int .i64 0, .int .i64 0], .bool false]) w) := by
  have HA := Lib.hid (hright_is ha)
  have HB := Lib.hid (hright_is hb)
  clear ha hb
  go_enter Try.func9, Try.ntmps9
  go_wp2_with fail
  refine gen_world (fun W2 => Below w.heap.size w W2 ∧ rowOf W2 (w.heap.size) = some (HV.row a) ∧ rowOf W2 ((w.heap.size + 1)) = some (HV.row b) ∧ rowOf W2 ((w.heap.size + 1 + 1)) = some #[.int .i64 0, .int .i64 0, .int .i64 0, .int .i64 0, .int .i64 0, .int .i64 0, .int .i64 0, .int .i64 0, .int .i64 0, .int .i64 0, .int .i64 0]) ⟨by repeat' first | (with_reducible first | assumption | exact Below.refl _ _ | apply blast | apply Below.drew | apply below_setRow | apply Below.alloc | apply Below.setCell) | (first | with_reducible assumption | (simp; done) | (go_light; first | omega | (simp; omega))), by repeat' first | (with_reducible first | assumption | apply row_drew | apply row_drewN | apply row_set_same | apply row_cell_same | apply row_set_other | apply row_cell_other) | (with_reducible exact row_new (by (first | with_reducible assumption | (simp; done) | (go_light; first | omega | (simp; omega))))) | (with_reducible apply row_old) | (first | with_reducible assumption | (simp; done) | (go_light; first | omega | (simp; omega))) | rfl, by repeat' first | (with_reducible first | assumption | apply row_drew | apply row_drewN | apply row_set_same | apply row_cell_same | apply row_set_other | apply row_cell_other) | (with_reducible exact row_new (by (first | with_reducible assumption | (simp; done) | (go_light; first | omega | (simp; omega))))) | (with_reducible apply row_old) | (first | with_reducible assumption | (simp; done) | (go_light; first | omega | (simp; omega))) | rfl, by repeat' first | (with_reducible first | assumption | apply row_drew | apply row_drewN | apply row_set_same | apply row_cell_same | apply row_set_other | apply row_cell_other) | (with_reducible exact row_new (by (first | with_reducible assumption | (simp; done) | (go_light; first | omega | (simp; omega))))) | (with_reducible apply row_old) | (first | with_reducible assumption | (simp; done) | (go_light; first | omega | (simp; omega))) | rfl⟩ ?_
  rintro w1 ⟨hB, N_p, N_q, N_r⟩
  have L_p := rowOf_lt N_p
  have D_p := Nat.ne_of_lt L_p
  have L_q := rowOf_lt N_q
  have D_q := Nat.ne_of_lt L_q
  have L_r := rowOf_lt N_r
  have D_r := Nat.ne_of_lt L_r
  have p_0 : w1.cell? ⟨w.heap.size, 0, none⟩ = some (.int .i64 a.f) := rowOf_cell N_p 0
  have p_1 : w1.cell? ⟨w.heap.size, 1, none⟩ = some (.int .i64 a.k) := rowOf_cell N_p 1
  have p_2 : w1.cell? ⟨w.heap.size, 2, none⟩ = some (.int .i64 a.t) := rowOf_cell N_p 2
  have p_3 : w1.cell? ⟨w.heap.size, 3, none⟩ = some (.int .i64 a.a0) := rowOf_cell N_p 3
  have p_4 : w1.cell? ⟨w.heap.size, 4, none⟩ = some (.int .i64 a.a1) := rowOf_cell N_p 4
  have p_5 : w1.cell? ⟨w.heap.size, 5, none⟩ = some (.int .i64 a.a2) := rowOf_cell N_p 5
  have p_6 : w1.cell? ⟨w.heap.size, 6, none⟩ = some (.int .i64 a.a3) := rowOf_cell N_p 6
  have p_7 : w1.cell? ⟨w.heap.size, 7, none⟩ = some (.int .i64 a.b0) := rowOf_cell N_p 7
  have p_8 : w1.cell? ⟨w.heap.size, 8, none⟩ = some (.int .i64 a.b1) := rowOf_cell N_p 8
  have p_9 : w1.cell? ⟨w.heap.size, 9, none⟩ = some (.int .i64 a.b2) := rowOf_cell N_p 9
  have p_10 : w1.cell? ⟨w.heap.size, 10, none⟩ = some (.int .i64 a.b3) := rowOf_cell N_p 10
  have q_0 : w1.cell? ⟨(w.heap.size + 1), 0, none⟩ = some (.int .i64 b.f) := rowOf_cell N_q 0
  have q_1 : w1.cell? ⟨(w.heap.size + 1), 1, none⟩ = some (.int .i64 b.k) := rowOf_cell N_q 1
  have q_2 : w1.cell? ⟨(w.heap.size + 1), 2, none⟩ = some (.int .i64 b.t) := rowOf_cell N_q 2
  have q_3 : w1.cell? ⟨(w.heap.size + 1), 3, none⟩ = some (.int .i64 b.a0) := rowOf_cell N_q 3
  have q_4 : w1.cell? ⟨(w.heap.size + 1), 4, none⟩ = some (.int .i64 b.a1) := rowOf_cell N_q 4
  have q_5 : w1.cell? ⟨(w.heap.size + 1), 5, none⟩ = some (.int .i64 b.a2) := rowOf_cell N_q 5
  have q_6 : w1.cell? ⟨(w.heap.size + 1), 6, none⟩ = some (.int .i64 b.a3) := rowOf_cell N_q 6
  have q_7 : w1.cell? ⟨(w.heap.size + 1), 7, none⟩ = some (.int .i64 b.b0) := rowOf_cell N_q 7
  have q_8 : w1.cell? ⟨(w.heap.size + 1), 8, none⟩ = some (.int .i64 b.b1) := rowOf_cell N_q 8
  have q_9 : w1.cell? ⟨(w.heap.size + 1), 9, none⟩ = some (.int .i64 b.b2) := rowOf_cell N_q 9
  have q_10 : w1.cell? ⟨(w.heap.size + 1), 10, none⟩ = some (.int .i64 b.b3) := rowOf_cell N_q 10
  refine wp_region_beh (by kernel_rfl) (by kernel_rfl) ?_
  have p_b0 := beh_cell p_0
  have p_b1 := beh_cell p_1
  have p_b2 := beh_cell p_2
  have p_b3 := beh_cell p_3
  have p_b4 := beh_cell p_4
  have p_b5 := beh_cell p_5
  have p_b6 := beh_cell p_6
  have p_b7 := beh_cell p_7
  have p_b8 := beh_cell p_8
  have p_b9 := beh_cell p_9
  have p_b10 := beh_cell p_10
  clear p_0 p_1 p_2 p_3 p_4 p_5 p_6 p_7 p_8 p_9 p_10
  have q_b0 := beh_cell q_0
  have q_b1 := beh_cell q_1
  have q_b2 := beh_cell q_2
  have q_b3 := beh_cell q_3
  have q_b4 := beh_cell q_4
  have q_b5 := beh_cell q_5
  have q_b6 := beh_cell q_6
  have q_b7 := beh_cell q_7
  have q_b8 := beh_cell q_8
  have q_b9 := beh_cell q_9
  have q_b10 := beh_cell q_10
  clear q_0 q_1 q_2 q_3 q_4 q_5 q_6 q_7 q_8 q_9 q_10
  repeat (first | go_big_quiet_step (first | (with_reducible exact Calls.beh (HA.out _)) | (with_reducible exact Calls.beh (HB.out _))) | quiet_step (first | (with_reducible exact Calls.beh (HA.out _)) | (with_reducible exact Calls.beh (HB.out _))))
  refine wpQuiet_nil ?_
  intro _ hw'
  obtain ⟨g, hw''⟩ := hw'
  subst hw''
  clear p_b0 p_b1 p_b2 p_b3 p_b4 p_b5 p_b6 p_b7 p_b8 p_b9 p_b10 q_b0 q_b1 q_b2 q_b3 q_b4 q_b5 q_b6 q_b7 q_b8 q_b9 q_b10
  have hb2 := g.h
  generalize g.w = w2 at hb2 ⊢
  clear g
  have hG : Below w1.heap.size w1 w2 := bstep (by repeat' first | (with_reducible first | assumption | exact Below.refl _ _ | apply blast | apply Below.drew | apply below_setRow | apply Below.alloc | apply Below.setCell) | (first | with_reducible assumption | (simp; done) | (go_light; first | omega | (simp; omega)))) hb2 (by (first | with_reducible assumption | (simp; done) | (go_light; first | omega | (simp; omega))))
  have hz := hG.size
  replace N_p := rowOf_below N_p hG L_p
  replace N_q := rowOf_below N_q hG L_q
  replace N_r := rowOf_below N_r hG L_r
  replace hB := bstep hB hG hB.size
  clear D_p L_p
  have L_p := rowOf_lt N_p
  have D_p := Nat.ne_of_lt L_p
  clear D_q L_q
  have L_q := rowOf_lt N_q
  have D_q := Nat.ne_of_lt L_q
  clear D_r L_r
  have L_r := rowOf_lt N_r
  have D_r := Nat.ne_of_lt L_r
  clear hb2 hG
  go_wp2
  exact bodyPost_ret (v := .tuple #[.agg #[.int .i64 0, .int .i64 0, .int .i64 0, .int .i64 0, .int .i64 0, .int .i64 0, .int .i64 0, .int .i64 0, .int .i64 0, .int .i64 0, .int .i64 0], .bool false]) (by simp [results, Try.results9, go_sem, N_r, L_r, D_r]) rfl ⟨rfl, by repeat' first | (with_reducible first | assumption | exact Below.refl _ _ | apply blast | apply Below.drew | apply below_setRow | apply Below.alloc | apply Below.setCell) | (first | with_reducible assumption | (simp; done) | (go_light; first | omega | (simp; omega)))⟩

set_option maxHeartbeats 2000000 in
theorem then_no3 (a b : HV) (ha : a.rightB = true) (hb : b.rightB = true) (g : Int) (hga : g = a.k + a.t) (hg : (g != b.f) = true) (w : World) : Calls Try.prog 9 #[a.val, b.val] w (Ret (.tuple #[.agg #[.int .i64 0, .int .i64 0, .int .i64 0, .int .i64 0, .int .i64 0, .int .i64 0, .int .i64 0, .int .i64 0, .int .i64 0, .int .i64 0, .int .i64 0], .bool false]) w) := by
  have HA := Lib.hid (hright_is ha)
  have HB := Lib.hid (hright_is hb)
  have GA : Hid (∀ W, Calls Try.prog 16 #[(HV.val a)] W (Ret (.int .i64 g) W)) := fun W => by rw [hga]; exact gives_is a ha W
  clear ha hb hga
  go_enter Try.func9, Try.ntmps9
  go_wp2_with fail
  refine gen_world (fun W2 => Below w.heap.size w W2 ∧ rowOf W2 (w.heap.size) = some (HV.row a) ∧ rowOf W2 ((w.heap.size + 1)) = some (HV.row b) ∧ rowOf W2 ((w.heap.size + 1 + 1)) = some #[.int .i64 0, .int .i64 0, .int .i64 0, .int .i64 0, .int .i64 0, .int .i64 0, .int .i64 0, .int .i64 0, .int .i64 0, .int .i64 0, .int .i64 0]) ⟨by repeat' first | (with_reducible first | assumption | exact Below.refl _ _ | apply blast | apply Below.drew | apply below_setRow | apply Below.alloc | apply Below.setCell) | (first | with_reducible assumption | (simp; done) | (go_light; first | omega | (simp; omega))), by repeat' first | (with_reducible first | assumption | apply row_drew | apply row_drewN | apply row_set_same | apply row_cell_same | apply row_set_other | apply row_cell_other) | (with_reducible exact row_new (by (first | with_reducible assumption | (simp; done) | (go_light; first | omega | (simp; omega))))) | (with_reducible apply row_old) | (first | with_reducible assumption | (simp; done) | (go_light; first | omega | (simp; omega))) | rfl, by repeat' first | (with_reducible first | assumption | apply row_drew | apply row_drewN | apply row_set_same | apply row_cell_same | apply row_set_other | apply row_cell_other) | (with_reducible exact row_new (by (first | with_reducible assumption | (simp; done) | (go_light; first | omega | (simp; omega))))) | (with_reducible apply row_old) | (first | with_reducible assumption | (simp; done) | (go_light; first | omega | (simp; omega))) | rfl, by repeat' first | (with_reducible first | assumption | apply row_drew | apply row_drewN | apply row_set_same | apply row_cell_same | apply row_set_other | apply row_cell_other) | (with_reducible exact row_new (by (first | with_reducible assumption | (simp; done) | (go_light; first | omega | (simp; omega))))) | (with_reducible apply row_old) | (first | with_reducible assumption | (simp; done) | (go_light; first | omega | (simp; omega))) | rfl⟩ ?_
  rintro w1 ⟨hB, N_p, N_q, N_r⟩
  have L_p := rowOf_lt N_p
  have D_p := Nat.ne_of_lt L_p
  have L_q := rowOf_lt N_q
  have D_q := Nat.ne_of_lt L_q
  have L_r := rowOf_lt N_r
  have D_r := Nat.ne_of_lt L_r
  have p_0 : w1.cell? ⟨w.heap.size, 0, none⟩ = some (.int .i64 a.f) := rowOf_cell N_p 0
  have p_1 : w1.cell? ⟨w.heap.size, 1, none⟩ = some (.int .i64 a.k) := rowOf_cell N_p 1
  have p_2 : w1.cell? ⟨w.heap.size, 2, none⟩ = some (.int .i64 a.t) := rowOf_cell N_p 2
  have p_3 : w1.cell? ⟨w.heap.size, 3, none⟩ = some (.int .i64 a.a0) := rowOf_cell N_p 3
  have p_4 : w1.cell? ⟨w.heap.size, 4, none⟩ = some (.int .i64 a.a1) := rowOf_cell N_p 4
  have p_5 : w1.cell? ⟨w.heap.size, 5, none⟩ = some (.int .i64 a.a2) := rowOf_cell N_p 5
  have p_6 : w1.cell? ⟨w.heap.size, 6, none⟩ = some (.int .i64 a.a3) := rowOf_cell N_p 6
  have p_7 : w1.cell? ⟨w.heap.size, 7, none⟩ = some (.int .i64 a.b0) := rowOf_cell N_p 7
  have p_8 : w1.cell? ⟨w.heap.size, 8, none⟩ = some (.int .i64 a.b1) := rowOf_cell N_p 8
  have p_9 : w1.cell? ⟨w.heap.size, 9, none⟩ = some (.int .i64 a.b2) := rowOf_cell N_p 9
  have p_10 : w1.cell? ⟨w.heap.size, 10, none⟩ = some (.int .i64 a.b3) := rowOf_cell N_p 10
  have q_0 : w1.cell? ⟨(w.heap.size + 1), 0, none⟩ = some (.int .i64 b.f) := rowOf_cell N_q 0
  have q_1 : w1.cell? ⟨(w.heap.size + 1), 1, none⟩ = some (.int .i64 b.k) := rowOf_cell N_q 1
  have q_2 : w1.cell? ⟨(w.heap.size + 1), 2, none⟩ = some (.int .i64 b.t) := rowOf_cell N_q 2
  have q_3 : w1.cell? ⟨(w.heap.size + 1), 3, none⟩ = some (.int .i64 b.a0) := rowOf_cell N_q 3
  have q_4 : w1.cell? ⟨(w.heap.size + 1), 4, none⟩ = some (.int .i64 b.a1) := rowOf_cell N_q 4
  have q_5 : w1.cell? ⟨(w.heap.size + 1), 5, none⟩ = some (.int .i64 b.a2) := rowOf_cell N_q 5
  have q_6 : w1.cell? ⟨(w.heap.size + 1), 6, none⟩ = some (.int .i64 b.a3) := rowOf_cell N_q 6
  have q_7 : w1.cell? ⟨(w.heap.size + 1), 7, none⟩ = some (.int .i64 b.b0) := rowOf_cell N_q 7
  have q_8 : w1.cell? ⟨(w.heap.size + 1), 8, none⟩ = some (.int .i64 b.b1) := rowOf_cell N_q 8
  have q_9 : w1.cell? ⟨(w.heap.size + 1), 9, none⟩ = some (.int .i64 b.b2) := rowOf_cell N_q 9
  have q_10 : w1.cell? ⟨(w.heap.size + 1), 10, none⟩ = some (.int .i64 b.b3) := rowOf_cell N_q 10
  refine wp_region_beh (by kernel_rfl) (by kernel_rfl) ?_
  have p_b0 := beh_cell p_0
  have p_b1 := beh_cell p_1
  have p_b2 := beh_cell p_2
  have p_b3 := beh_cell p_3
  have p_b4 := beh_cell p_4
  have p_b5 := beh_cell p_5
  have p_b6 := beh_cell p_6
  have p_b7 := beh_cell p_7
  have p_b8 := beh_cell p_8
  have p_b9 := beh_cell p_9
  have p_b10 := beh_cell p_10
  clear p_0 p_1 p_2 p_3 p_4 p_5 p_6 p_7 p_8 p_9 p_10
  have q_b0 := beh_cell q_0
  have q_b1 := beh_cell q_1
  have q_b2 := beh_cell q_2
  have q_b3 := beh_cell q_3
  have q_b4 := beh_cell q_4
  have q_b5 := beh_cell q_5
  have q_b6 := beh_cell q_6
  have q_b7 := beh_cell q_7
  have q_b8 := beh_cell q_8
  have q_b9 := beh_cell q_9
  have q_b10 := beh_cell q_10
  clear q_0 q_1 q_2 q_3 q_4 q_5 q_6 q_7 q_8 q_9 q_10
  repeat (first | go_big_quiet_step (first | (with_reducible exact Calls.beh (HA.out _)) | (with_reducible exact Calls.beh (HB.out _)) | (with_reducible exact Calls.beh (GA.out _))) | quiet_step (first | (with_reducible exact Calls.beh (HA.out _)) | (with_reducible exact Calls.beh (HB.out _)) | (with_reducible exact Calls.beh (GA.out _))))
  refine wpQuiet_nil ?_
  intro _ hw'
  obtain ⟨g, hw''⟩ := hw'
  subst hw''
  clear p_b0 p_b1 p_b2 p_b3 p_b4 p_b5 p_b6 p_b7 p_b8 p_b9 p_b10 q_b0 q_b1 q_b2 q_b3 q_b4 q_b5 q_b6 q_b7 q_b8 q_b9 q_b10
  have hb2 := g.h
  generalize g.w = w2 at hb2 ⊢
  clear g
  have hG : Below w1.heap.size w1 w2 := bstep (by repeat' first | (with_reducible first | assumption | exact Below.refl _ _ | apply blast | apply Below.drew | apply below_setRow | apply Below.alloc | apply Below.setCell) | (first | with_reducible assumption | (simp; done) | (go_light; first | omega | (simp; omega)))) hb2 (by (first | with_reducible assumption | (simp; done) | (go_light; first | omega | (simp; omega))))
  have hz := hG.size
  replace N_p := rowOf_below N_p hG L_p
  replace N_q := rowOf_below N_q hG L_q
  replace N_r := rowOf_below N_r hG L_r
  replace hB := bstep hB hG hB.size
  clear D_p L_p
  have L_p := rowOf_lt N_p
  have D_p := Nat.ne_of_lt L_p
  clear D_q L_q
  have L_q := rowOf_lt N_q
  have D_q := Nat.ne_of_lt L_q
  clear D_r L_r
  have L_r := rowOf_lt N_r
  have D_r := Nat.ne_of_lt L_r
  clear hb2 hG
  go_wp2
  exact bodyPost_ret (v := .tuple #[.agg #[.int .i64 0, .int .i64 0, .int .i64 0, .int .i64 0, .int .i64 0, .int .i64 0, .int .i64 0, .int .i64 0, .int .i64 0, .int .i64 0, .int .i64 0], .bool false]) (by simp [results, Try.results9, go_sem, N_r, L_r, D_r]) rfl ⟨rfl, by repeat' first | (with_reducible first | assumption | exact Below.refl _ _ | apply blast | apply Below.drew | apply below_setRow | apply Below.alloc | apply Below.setCell) | (first | with_reducible assumption | (simp; done) | (go_light; first | omega | (simp; omega)))⟩
end Go.Proofs.Ytimfpbmlbihlnaa
