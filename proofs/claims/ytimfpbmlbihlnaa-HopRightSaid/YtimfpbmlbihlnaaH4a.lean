import Derived.Test.YtimfpbmlbihlnaaH3
namespace Go.Proofs.Ytimfpbmlbihlnaa
open Go.RowKit
set_option linter.unusedVariables false
set_option linter.unusedSimpArgs false
attribute [local go_sem ↓] loadH loadT storeH storeT
attribute [local simp] size_setRow
attribute [local go_sem] HV.row TV.row
attribute [local go_sem] rowAt_head rowOf_alloc_at rowOf_alloc_past rowOf_drew rowOf_drewN rowOf_setRow_same rowOf_setRow_other rowOf_setCell_same rowOf_setCell_other size_setRow setRow_drew setRow_alloc_at setRow_alloc_past one_int one_bool cell_setRow_same cell_setRow_other frozen_setRow_same frozen_setRow_other
attribute [local go_sem] ix4_0 ix4_1 ix4_2 ix4_3

theorem at_kept (h : HV) (i : Int) (h0 : 0 ≤ h.k) (h1 : h.k ≤ 4) (h2 : 0 ≤ h.t) (h3 : h.k + h.t ≤ 4) (hi : 0 ≤ i) (hk : i < h.k) (w : World) :
    Calls Try.prog 17 #[h.val, .int .i64 i] w (Ret (.tuple #[.int .i64 (h.add i), .bool true]) w) := by
  have q := at_any h i h0 h1 h2 h3 hi (by omega) w
  rw [show h.at i = h.add i from if_pos hk, decide_eq_true hk] at q
  exact q
theorem at_new (h : HV) (i : Int) (h0 : 0 ≤ h.k) (h1 : h.k ≤ 4) (h2 : 0 ≤ h.t) (h3 : h.k + h.t ≤ 4) (hi : h.k ≤ i) (hg : i < h.k + h.t) (w : World) :
    Calls Try.prog 17 #[h.val, .int .i64 i] w (Ret (.tuple #[.int .i64 (h.tl (i - h.k)), .bool false]) w) := by
  have q := at_any h i h0 h1 h2 h3 (by omega) hg w
  rw [show h.at i = h.tl (i - h.k) from if_neg (by omega), decide_eq_false (by omega)] at q
  exact q
theorem hright_is {h : HV} {b : Bool} (q : h.rightB = b) (W : World) : Calls Try.prog 8 #[h.val] W (Ret (.bool b) W) := by have q' := hopRight_any h W; rw [q] at q'; exact q'
theorem tright_is {d c0 c1 c2 c3 : Int} {b : Bool} (q : rightB d c0 c1 c2 c3 = b) (W : World) : Calls Try.prog 15 #[.agg #[.int .i64 d, .int .i64 c0, .int .i64 c1, .int .i64 c2, .int .i64 c3]] W (Ret (.bool b) W) := by have q' := right_any d c0 c1 c2 c3 W; rw [q] at q'; exact q'

theorem at_kept_n (f k t a0 a1 a2 a3 b0 b1 b2 b3 i : Int) (h0 : 0 ≤ k) (h1 : k ≤ 4) (h2 : 0 ≤ t) (h3 : k + t ≤ 4) (hi : 0 ≤ i) (hk : i < k) (w : World) : Calls Try.prog 17 #[HV.val ⟨f, k, t, a0, a1, a2, a3, b0, b1, b2, b3⟩, .int .i64 i] w (Ret (.tuple #[.int .i64 (HV.add ⟨f, k, t, a0, a1, a2, a3, b0, b1, b2, b3⟩ i), .bool true]) w) := at_kept ⟨f, k, t, a0, a1, a2, a3, b0, b1, b2, b3⟩ i h0 h1 h2 h3 hi hk w
theorem at_new_n (f k t a0 a1 a2 a3 b0 b1 b2 b3 i : Int) (h0 : 0 ≤ k) (h1 : k ≤ 4) (h2 : 0 ≤ t) (h3 : k + t ≤ 4) (hi : k ≤ i) (hg : i < k + t) (w : World) : Calls Try.prog 17 #[HV.val ⟨f, k, t, a0, a1, a2, a3, b0, b1, b2, b3⟩, .int .i64 i] w (Ret (.tuple #[.int .i64 (HV.tl ⟨f, k, t, a0, a1, a2, a3, b0, b1, b2, b3⟩ (i - k)), .bool false]) w) := at_new ⟨f, k, t, a0, a1, a2, a3, b0, b1, b2, b3⟩ i h0 h1 h2 h3 hi hg w
theorem gives_n (f k t a0 a1 a2 a3 b0 b1 b2 b3 : Int) (h0 : 0 ≤ k) (h1 : k ≤ 4) (h2 : 0 ≤ t) (h3 : t ≤ 4) (w : World) : Calls Try.prog 16 #[HV.val ⟨f, k, t, a0, a1, a2, a3, b0, b1, b2, b3⟩] w (Ret (.int .i64 (k + t)) w) := gives_any ⟨f, k, t, a0, a1, a2, a3, b0, b1, b2, b3⟩ h0 h1 h2 h3 w

set_option maxHeartbeats 2000000 in
theorem apply_no1 (f k t a0 a1 a2 a3 b0 b1 b2 b3 d c0 c1 c2 c3 : Int) (hr : HV.rightB ⟨f, k, t, a0, a1, a2, a3, b0, b1, b2, b3⟩ = false) (w : World) : Calls Try.prog 6 #[.agg #[.int .i64 f, .int .i64 k, .int .i64 t, .int .i64 a0, .int .i64 a1, .int .i64 a2, .int .i64 a3, .int .i64 b0, .int .i64 b1, .int .i64 b2, .int .i64 b3], .agg #[.int .i64 d, .int .i64 c0, .int .i64 c1, .int .i64 c2, .int .i64 c3]] w (Ret (.tuple #[.agg #[.int .i64 0, .int .i64 0, .int .i64 0, .int .i64 0, .int .i64 0], .bool false]) w) := by
  have HR := Lib.hid (hright_is hr)
  clear hr
  go_enter Try.func6, Try.ntmps6
  go_wp2_with fail
  refine (HR.out _).mono ?_
  rintro e w1 ⟨rfl, hb1⟩
  have hG : Below w.heap.size w w1 := bstep (by repeat' first | (with_reducible first | assumption | exact Below.refl _ _ | apply blast | apply Below.drew | apply below_setRow | apply Below.alloc | apply Below.setCell) | (first | with_reducible assumption | (simp; done) | (go_light; first | omega | (simp; omega)))) hb1 (by (first | with_reducible assumption | (simp; done) | (go_light; first | omega | (simp; omega))))
  have hz := hG.size
  have N_p : rowOf w1 (w.heap.size) = some #[.int .i64 f, .int .i64 k, .int .i64 t, .int .i64 a0, .int .i64 a1, .int .i64 a2, .int .i64 a3, .int .i64 b0, .int .i64 b1, .int .i64 b2, .int .i64 b3] := rowOf_below (by repeat' first | (with_reducible first | assumption | apply row_drew | apply row_drewN | apply row_set_same | apply row_cell_same | apply row_set_other | apply row_cell_other) | (with_reducible exact row_new (by (first | with_reducible assumption | (simp; done) | (go_light; first | omega | (simp; omega))))) | (with_reducible apply row_old) | (first | with_reducible assumption | (simp; done) | (go_light; first | omega | (simp; omega))) | rfl) hb1 (by (first | with_reducible assumption | (simp; done) | (go_light; first | omega | (simp; omega))))
  have N_q : rowOf w1 ((w.heap.size + 1)) = some #[.int .i64 d, .int .i64 c0, .int .i64 c1, .int .i64 c2, .int .i64 c3] := rowOf_below (by repeat' first | (with_reducible first | assumption | apply row_drew | apply row_drewN | apply row_set_same | apply row_cell_same | apply row_set_other | apply row_cell_other) | (with_reducible exact row_new (by (first | with_reducible assumption | (simp; done) | (go_light; first | omega | (simp; omega))))) | (with_reducible apply row_old) | (first | with_reducible assumption | (simp; done) | (go_light; first | omega | (simp; omega))) | rfl) hb1 (by (first | with_reducible assumption | (simp; done) | (go_light; first | omega | (simp; omega))))
  have N_r : rowOf w1 ((w.heap.size + 1 + 1)) = some #[.int .i64 0, .int .i64 0, .int .i64 0, .int .i64 0, .int .i64 0] := rowOf_below (by repeat' first | (with_reducible first | assumption | apply row_drew | apply row_drewN | apply row_set_same | apply row_cell_same | apply row_set_other | apply row_cell_other) | (with_reducible exact row_new (by (first | with_reducible assumption | (simp; done) | (go_light; first | omega | (simp; omega))))) | (with_reducible apply row_old) | (first | with_reducible assumption | (simp; done) | (go_light; first | omega | (simp; omega))) | rfl) hb1 (by (first | with_reducible assumption | (simp; done) | (go_light; first | omega | (simp; omega))))
  have hB := hG
  have L_p := rowOf_lt N_p
  have D_p := Nat.ne_of_lt L_p
  have L_q := rowOf_lt N_q
  have D_q := Nat.ne_of_lt L_q
  have L_r := rowOf_lt N_r
  have D_r := Nat.ne_of_lt L_r
  clear hb1 hG
  go_wp2
  exact bodyPost_ret (v := .tuple #[.agg #[.int .i64 0, .int .i64 0, .int .i64 0, .int .i64 0, .int .i64 0], .bool false]) (by simp [results, Try.results6, go_sem, N_r, L_r, D_r]) rfl ⟨rfl, by repeat' first | (with_reducible first | assumption | exact Below.refl _ _ | apply blast | apply Below.drew | apply below_setRow | apply Below.alloc | apply Below.setCell) | (first | with_reducible assumption | (simp; done) | (go_light; first | omega | (simp; omega)))⟩

set_option maxHeartbeats 2000000 in
theorem apply_no2 (f k t a0 a1 a2 a3 b0 b1 b2 b3 d c0 c1 c2 c3 : Int) (hr : HV.rightB ⟨f, k, t, a0, a1, a2, a3, b0, b1, b2, b3⟩ = true) (ht : rightB d c0 c1 c2 c3 = false) (w : World) : Calls Try.prog 6 #[.agg #[.int .i64 f, .int .i64 k, .int .i64 t, .int .i64 a0, .int .i64 a1, .int .i64 a2, .int .i64 a3, .int .i64 b0, .int .i64 b1, .int .i64 b2, .int .i64 b3], .agg #[.int .i64 d, .int .i64 c0, .int .i64 c1, .int .i64 c2, .int .i64 c3]] w (Ret (.tuple #[.agg #[.int .i64 0, .int .i64 0, .int .i64 0, .int .i64 0, .int .i64 0], .bool false]) w) := by
  have HR := Lib.hid (hright_is hr)
  have HT := Lib.hid (tright_is ht)
  clear hr ht
  go_enter Try.func6, Try.ntmps6
  go_wp2_with fail
  refine (HR.out _).mono ?_
  rintro e w1 ⟨rfl, hb1⟩
  have hG : Below w.heap.size w w1 := bstep (by repeat' first | (with_reducible first | assumption | exact Below.refl _ _ | apply blast | apply Below.drew | apply below_setRow | apply Below.alloc | apply Below.setCell) | (first | with_reducible assumption | (simp; done) | (go_light; first | omega | (simp; omega)))) hb1 (by (first | with_reducible assumption | (simp; done) | (go_light; first | omega | (simp; omega))))
  have hz := hG.size
  have N_p : rowOf w1 (w.heap.size) = some #[.int .i64 f, .int .i64 k, .int .i64 t, .int .i64 a0, .int .i64 a1, .int .i64 a2, .int .i64 a3, .int .i64 b0, .int .i64 b1, .int .i64 b2, .int .i64 b3] := rowOf_below (by repeat' first | (with_reducible first | assumption | apply row_drew | apply row_drewN | apply row_set_same | apply row_cell_same | apply row_set_other | apply row_cell_other) | (with_reducible exact row_new (by (first | with_reducible assumption | (simp; done) | (go_light; first | omega | (simp; omega))))) | (with_reducible apply row_old) | (first | with_reducible assumption | (simp; done) | (go_light; first | omega | (simp; omega))) | rfl) hb1 (by (first | with_reducible assumption | (simp; done) | (go_light; first | omega | (simp; omega))))
  have N_q : rowOf w1 ((w.heap.size + 1)) = some #[.int .i64 d, .int .i64 c0, .int .i64 c1, .int .i64 c2, .int .i64 c3] := rowOf_below (by repeat' first | (with_reducible first | assumption | apply row_drew | apply row_drewN | apply row_set_same | apply row_cell_same | apply row_set_other | apply row_cell_other) | (with_reducible exact row_new (by (first | with_reducible assumption | (simp; done) | (go_light; first | omega | (simp; omega))))) | (with_reducible apply row_old) | (first | with_reducible assumption | (simp; done) | (go_light; first | omega | (simp; omega))) | rfl) hb1 (by (first | with_reducible assumption | (simp; done) | (go_light; first | omega | (simp; omega))))
  have N_r : rowOf w1 ((w.heap.size + 1 + 1)) = some #[.int .i64 0, .int .i64 0, .int .i64 0, .int .i64 0, .int .i64 0] := rowOf_below (by repeat' first | (with_reducible first | assumption | apply row_drew | apply row_drewN | apply row_set_same | apply row_cell_same | apply row_set_other | apply row_cell_other) | (with_reducible exact row_new (by (first | with_reducible assumption | (simp; done) | (go_light; first | omega | (simp; omega))))) | (with_reducible apply row_old) | (first | with_reducible assumption | (simp; done) | (go_light; first | omega | (simp; omega))) | rfl) hb1 (by (first | with_reducible assumption | (simp; done) | (go_light; first | omega | (simp; omega))))
  have hB := hG
  have L_p := rowOf_lt N_p
  have D_p := Nat.ne_of_lt L_p
  have L_q := rowOf_lt N_q
  have D_q := Nat.ne_of_lt L_q
  have L_r := rowOf_lt N_r
  have D_r := Nat.ne_of_lt L_r
  clear hb1 hG
  go_wp2_with fail
  refine (HT.out _).mono ?_
  rintro e w2 ⟨rfl, hb2⟩
  have hG : Below w1.heap.size w1 w2 := bstep (by repeat' first | (with_reducible first | assumption | exact Below.refl _ _ | apply blast | apply Below.drew | apply below_setRow | apply Below.alloc | apply Below.setCell) | (first | with_reducible assumption | (simp; done) | (go_light; first | omega | (simp; omega)))) hb2 (by (first | with_reducible assumption | (simp; done) | (go_light; first | omega | (simp; omega))))
  have hz := hG.size
  replace N_p := rowOf_below N_p hG L_p
  replace N_q := rowOf_below N_q hG L_q
  replace N_r := rowOf_below N_r hG L_r
  replace hB := bstep hB hG hB.size
  clear D_p L_p
  have L_p := rowOf_lt N_p
  have D_p := Nat.ne_of_lt L_p
  clear D_q L_q
  have L_q := rowOf_lt N_q
  have D_q := Nat.ne_of_lt L_q
  clear D_r L_r
  have L_r := rowOf_lt N_r
  have D_r := Nat.ne_of_lt L_r
  clear hb2 hG
  go_wp2
  exact bodyPost_ret (v := .tuple #[.agg #[.int .i64 0, .int .i64 0, .int .i64 0, .int .i64 0, .int .i64 0], .bool false]) (by simp [results, Try.results6, go_sem, N_r, L_r, D_r]) rfl ⟨rfl, by repeat' first | (with_reducible first | assumption | exact Below.refl _ _ | apply blast | apply Below.drew | apply below_setRow | apply Below.alloc | apply Below.setCell) | (first | with_reducible assumption | (simp; done) | (go_light; first | omega | (simp; omega)))⟩

set_option maxHeartbeats 2000000 in
theorem apply_no3 (f k t a0 a1 a2 a3 b0 b1 b2 b3 d c0 c1 c2 c3 : Int) (hr : HV.rightB ⟨f, k, t, a0, a1, a2, a3, b0, b1, b2, b3⟩ = true) (ht : rightB d c0 c1 c2 c3 = true) (hd : (d == f) = false) (w : World) : Calls Try.prog 6 #[.agg #[.int .i64 f, .int .i64 k, .int .i64 t, .int .i64 a0, .int .i64 a1, .int .i64 a2, .int .i64 a3, .int .i64 b0, .int .i64 b1, .int .i64 b2, .int .i64 b3], .agg #[.int .i64 d, .int .i64 c0, .int .i64 c1, .int .i64 c2, .int .i64 c3]] w (Ret (.tuple #[.agg #[.int .i64 0, .int .i64 0, .int .i64 0, .int .i64 0, .int .i64 0], .bool false]) w) := by
  have HR := Lib.hid (hright_is hr)
  have HT := Lib.hid (tright_is ht)
  clear hr ht
  go_enter Try.func6, Try.ntmps6
  go_wp2_with fail
  refine (HR.out _).mono ?_
  rintro e w1 ⟨rfl, hb1⟩
  have hG : Below w.heap.size w w1 := bstep (by repeat' first | (with_reducible first | assumption | exact Below.refl _ _ | apply blast | apply Below.drew | apply below_setRow | apply Below.alloc | apply Below.setCell) | (first | with_reducible assumption | (simp; done) | (go_light; first | omega | (simp; omega)))) hb1 (by (first | with_reducible assumption | (simp; done) | (go_light; first | omega | (simp; omega))))
  have hz := hG.size
  have N_p : rowOf w1 (w.heap.size) = some #[.int .i64 f, .int .i64 k, .int .i64 t, .int .i64 a0, .int .i64 a1, .int .i64 a2, .int .i64 a3, .int .i64 b0, .int .i64 b1, .int .i64 b2, .int .i64 b3] := rowOf_below (by repeat' first | (with_reducible first | assumption | apply row_drew | apply row_drewN | apply row_set_same | apply row_cell_same | apply row_set_other | apply row_cell_other) | (with_reducible exact row_new (by (first | with_reducible assumption | (simp; done) | (go_light; first | omega | (simp; omega))))) | (with_reducible apply row_old) | (first | with_reducible assumption | (simp; done) | (go_light; first | omega | (simp; omega))) | rfl) hb1 (by (first | with_reducible assumption | (simp; done) | (go_light; first | omega | (simp; omega))))
  have N_q : rowOf w1 ((w.heap.size + 1)) = some #[.int .i64 d, .int .i64 c0, .int .i64 c1, .int .i64 c2, .int .i64 c3] := rowOf_below (by repeat' first | (with_reducible first | assumption | apply row_drew | apply row_drewN | apply row_set_same | apply row_cell_same | apply row_set_other | apply row_cell_other) | (with_reducible exact row_new (by (first | with_reducible assumption | (simp; done) | (go_light; first | omega | (simp; omega))))) | (with_reducible apply row_old) | (first | with_reducible assumption | (simp; done) | (go_light; first | omega | (simp; omega))) | rfl) hb1 (by (first | with_reducible assumption | (simp; done) | (go_light; first | omega | (simp; omega))))
  have N_r : rowOf w1 ((w.heap.size + 1 + 1)) = some #[.int .i64 0, .int .i64 0, .int .i64 0, .int .i64 0, .int .i64 0] := rowOf_below (by repeat' first | (with_reducible first | assumption | apply row_drew | apply row_drewN | apply row_set_same | apply row_cell_same | apply row_set_other | apply row_cell_other) | (with_reducible exact row_new (by (first | with_reducible assumption | (simp; done) | (go_light; first | omega | (simp; omega))))) | (with_reducible apply row_old) | (first | with_reducible assumption | (simp; done) | (go_light; first | omega | (simp; omega))) | rfl) hb1 (by (first | with_reducible assumption | (simp; done) | (go_light; first | omega | (simp; omega))))
  have hB := hG
  have L_p := rowOf_lt N_p
  have D_p := Nat.ne_of_lt L_p
  have L_q := rowOf_lt N_q
  have D_q := Nat.ne_of_lt L_q
  have L_r := rowOf_lt N_r
  have D_r := Nat.ne_of_lt L_r
  clear hb1 hG
  go_wp2_with fail
  refine (HT.out _).mono ?_
  rintro e w2 ⟨rfl, hb2⟩
  have hG : Below w1.heap.size w1 w2 := bstep (by repeat' first | (with_reducible first | assumption | exact Below.refl _ _ | apply blast | apply Below.drew | apply below_setRow | apply Below.alloc | apply Below.setCell) | (first | with_reducible assumption | (simp; done) | (go_light; first | omega | (simp; omega)))) hb2 (by (first | with_reducible assumption | (simp; done) | (go_light; first | omega | (simp; omega))))
  have hz := hG.size
  replace N_p := rowOf_below N_p hG L_p
  replace N_q := rowOf_below N_q hG L_q
  replace N_r := rowOf_below N_r hG L_r
  replace hB := bstep hB hG hB.size
  clear D_p L_p
  have L_p := rowOf_lt N_p
  have D_p := Nat.ne_of_lt L_p
  clear D_q L_q
  have L_q := rowOf_lt N_q
  have D_q := Nat.ne_of_lt L_q
  clear D_r L_r
  have L_r := rowOf_lt N_r
  have D_r := Nat.ne_of_lt L_r
  clear hb2 hG
  have p_0 : w2.cell? ⟨w.heap.size, 0, none⟩ = some (.int .i64 f) := rowOf_cell N_p 0
  have q_0 : w2.cell? ⟨(w.heap.size + 1), 0, none⟩ = some (.int .i64 d) := rowOf_cell N_q 0
  go_wp2
  exact bodyPost_ret (v := .tuple #[.agg #[.int .i64 0, .int .i64 0, .int .i64 0, .int .i64 0, .int .i64 0], .bool false]) (by simp [results, Try.results6, go_sem, N_r, L_r, D_r]) rfl ⟨rfl, by repeat' first | (with_reducible first | assumption | exact Below.refl _ _ | apply blast | apply Below.drew | apply below_setRow | apply Below.alloc | apply Below.setCell) | (first | with_reducible assumption | (simp; done) | (go_light; first | omega | (simp; omega)))⟩

end Go.Proofs.Ytimfpbmlbihlnaa
