import Derived.Test.YtjaahmgokiobjaaGreatG02
import Derived.Test.YtjaahmgokiobjaaGreatG04
namespace Go.Proofs.YtjaahmgokiobjaaGreat
open Go.RowKit
set_option linter.unusedVariables false
set_option linter.unusedSimpArgs false

/-- the cells of a box -/
abbrev HV.row (h : HV) : Array Value := #[.int .i64 h.f, .int .i64 h.k, .int .i64 h.t, .int .i64 h.a0, .int .i64 h.a1, .int .i64 h.a2, .int .i64 h.a3, .int .i64 h.b0, .int .i64 h.b1, .int .i64 h.b2, .int .i64 h.b3]
abbrev TV.row (t : TV) : Array Value := #[.int .i64 t.d, .int .i64 t.c0, .int .i64 t.c1, .int .i64 t.c2, .int .i64 t.c3]
attribute [local go_sem ↓] loadH loadT storeH storeT
attribute [local simp] size_setRow
attribute [local go_sem] HV.row TV.row
attribute [local go_sem] rowAt_head rowOf_alloc_at rowOf_alloc_past rowOf_drew rowOf_drewN rowOf_setRow_same rowOf_setRow_other rowOf_setCell_same rowOf_setCell_other size_setRow setRow_drew setRow_alloc_at setRow_alloc_past one_int one_bool cell_setRow_same cell_setRow_other frozen_setRow_same frozen_setRow_other

def sameH (d : Int) : HV := ⟨d, d, 0, 0, 0, 0, 0, 0, 0, 0, 0⟩
def enterH (d : Int) : HV := ⟨d, d, 1, 0, 0, 0, 0, 0, 0, 0, 0⟩
def leaveH (d : Int) : HV := ⟨d, d - 1, 0, 0, 0, 0, 0, 0, 0, 0, 0⟩
def nextH (d : Int) : HV := ⟨d, d, 0, if d = 1 then 1 else 0, if d = 2 then 1 else 0, if d = 3 then 1 else 0, if d = 4 then 1 else 0, 0, 0, 0, 0⟩
theorem gate_no (h : HV) : HV.gate false h = HV.zero := rfl
theorem gate_yes (h : HV) : HV.gate true h = h := rfl
theorem right_eq {h : HV} {b : Bool} (q : h.rightB = b) (W : World) : Calls Tryz.prog 59 #[h.val] W (Ret (hopV b h) W) := by have q' := ifRight_any h W; rw [q] at q'; exact q'
theorem same_right (d : Int) : (sameH d).rightB = decide (1 ≤ d ∧ d ≤ 4) := by
  unfold HV.rightB
  refine decide_eq_decide.2 ?_
  simp only [HV.right, HV.shape, fitsP, sameH]
  simp only [or_true, and_true]
  constructor <;> intro h <;> omega
theorem enter_right (d : Int) : (enterH d).rightB = decide (1 ≤ d ∧ d ≤ 3) := by
  unfold HV.rightB
  refine decide_eq_decide.2 ?_
  simp only [HV.right, HV.shape, fitsP, enterH]
  simp only [or_true, and_true]
  constructor <;> intro h <;> omega
theorem leave_right (d : Int) : (leaveH d).rightB = decide (2 ≤ d ∧ d ≤ 4) := by
  unfold HV.rightB
  refine decide_eq_decide.2 ?_
  simp only [HV.right, HV.shape, fitsP, leaveH]
  simp only [or_true, and_true]
  constructor <;> intro h <;> omega
theorem next_right (d : Int) : (nextH d).rightB = decide (1 ≤ d ∧ d ≤ 4) := by
  unfold HV.rightB
  refine decide_eq_decide.2 ?_
  simp only [HV.right, HV.shape, fitsP, nextH]
  constructor
  · intro h; omega
  · intro h
    have : d = 1 ∨ d = 2 ∨ d = 3 ∨ d = 4 := by omega
    rcases this with rfl | rfl | rfl | rfl <;> simp


set_option maxHeartbeats 1000000 in
theorem Same_h (d : Int)  (w : World) : Calls Tryz.prog 33 #[.int .i64 d] w (Ret (.tuple #[(HV.val (HV.gate (HV.rightB (sameH d)) (sameH d))), .bool (HV.rightB (sameH d))]) w) := by
  have HC : Hid (∀ W, Calls Tryz.prog 59 #[.agg #[.int .i64 d, .int .i64 d, .int .i64 0, .int .i64 0, .int .i64 0, .int .i64 0, .int .i64 0, .int .i64 0, .int .i64 0, .int .i64 0, .int .i64 0]] W (Ret (.tuple #[(HV.val (HV.gate (HV.rightB (sameH d)) (sameH d))), .bool (HV.rightB (sameH d))]) W)) := fun W => ifRight_any (sameH d) W
  go_enter Tryz.func33, Tryz.ntmps33
  go_wp2_with fail
  refine (HC.out _).mono ?_
  rintro e w1 ⟨rfl, hb1⟩
  have hG : Below w.heap.size w w1 := bstep (by repeat' first | (with_reducible first | assumption | exact Below.refl _ _ | apply blast | apply Below.drew | apply below_setRow | apply Below.alloc | apply Below.setCell) | (first | with_reducible assumption | (simp; done) | (go_light; first | omega | (simp; omega)))) hb1 (by (first | with_reducible assumption | (simp; done) | (go_light; first | omega | (simp; omega))))
  have hz := hG.size
  have N_r : rowOf w1 (w.heap.size) = some #[.int .i64 0, .int .i64 0, .int .i64 0, .int .i64 0, .int .i64 0, .int .i64 0, .int .i64 0, .int .i64 0, .int .i64 0, .int .i64 0, .int .i64 0] := rowOf_below (by repeat' first | (with_reducible first | assumption | apply row_drew | apply row_drewN | apply row_set_same | apply row_cell_same | apply row_set_other | apply row_cell_other) | (with_reducible exact row_new (by (first | with_reducible assumption | (simp; done) | (go_light; first | omega | (simp; omega))))) | (with_reducible apply row_old) | (first | with_reducible assumption | (simp; done) | (go_light; first | omega | (simp; omega))) | rfl) hb1 (by (first | with_reducible assumption | (simp; done) | (go_light; first | omega | (simp; omega))))
  have hB := hG
  have L_r := rowOf_lt N_r
  have D_r := Nat.ne_of_lt L_r
  clear hb1 hG
  go_wp2
  exact bodyPost_ret (v := .tuple #[(HV.val (HV.gate (HV.rightB (sameH d)) (sameH d))), .bool (HV.rightB (sameH d))]) (by simp [results, Tryz.results33, go_sem, N_r, L_r, D_r]) rfl ⟨rfl, by repeat' first | (with_reducible first | assumption | exact Below.refl _ _ | apply blast | apply Below.drew | apply below_setRow | apply Below.alloc | apply Below.setCell) | (first | with_reducible assumption | (simp; done) | (go_light; first | omega | (simp; omega)))⟩

set_option maxHeartbeats 1000000 in
theorem Enter_h (d : Int)  (w : World) : Calls Tryz.prog 87 #[.int .i64 d] w (Ret (.tuple #[(HV.val (HV.gate (HV.rightB (enterH d)) (enterH d))), .bool (HV.rightB (enterH d))]) w) := by
  have HC : Hid (∀ W, Calls Tryz.prog 59 #[.agg #[.int .i64 d, .int .i64 d, .int .i64 1, .int .i64 0, .int .i64 0, .int .i64 0, .int .i64 0, .int .i64 0, .int .i64 0, .int .i64 0, .int .i64 0]] W (Ret (.tuple #[(HV.val (HV.gate (HV.rightB (enterH d)) (enterH d))), .bool (HV.rightB (enterH d))]) W)) := fun W => ifRight_any (enterH d) W
  go_enter Tryz.func87, Tryz.ntmps87
  go_wp2_with fail
  refine (HC.out _).mono ?_
  rintro e w1 ⟨rfl, hb1⟩
  have hG : Below w.heap.size w w1 := bstep (by repeat' first | (with_reducible first | assumption | exact Below.refl _ _ | apply blast | apply Below.drew | apply below_setRow | apply Below.alloc | apply Below.setCell) | (first | with_reducible assumption | (simp; done) | (go_light; first | omega | (simp; omega)))) hb1 (by (first | with_reducible assumption | (simp; done) | (go_light; first | omega | (simp; omega))))
  have hz := hG.size
  have N_r : rowOf w1 (w.heap.size) = some #[.int .i64 0, .int .i64 0, .int .i64 0, .int .i64 0, .int .i64 0, .int .i64 0, .int .i64 0, .int .i64 0, .int .i64 0, .int .i64 0, .int .i64 0] := rowOf_below (by repeat' first | (with_reducible first | assumption | apply row_drew | apply row_drewN | apply row_set_same | apply row_cell_same | apply row_set_other | apply row_cell_other) | (with_reducible exact row_new (by (first | with_reducible assumption | (simp; done) | (go_light; first | omega | (simp; omega))))) | (with_reducible apply row_old) | (first | with_reducible assumption | (simp; done) | (go_light; first | omega | (simp; omega))) | rfl) hb1 (by (first | with_reducible assumption | (simp; done) | (go_light; first | omega | (simp; omega))))
  have hB := hG
  have L_r := rowOf_lt N_r
  have D_r := Nat.ne_of_lt L_r
  clear hb1 hG
  go_wp2
  exact bodyPost_ret (v := .tuple #[(HV.val (HV.gate (HV.rightB (enterH d)) (enterH d))), .bool (HV.rightB (enterH d))]) (by simp [results, Tryz.results87, go_sem, N_r, L_r, D_r]) rfl ⟨rfl, by repeat' first | (with_reducible first | assumption | exact Below.refl _ _ | apply blast | apply Below.drew | apply below_setRow | apply Below.alloc | apply Below.setCell) | (first | with_reducible assumption | (simp; done) | (go_light; first | omega | (simp; omega)))⟩

set_option maxHeartbeats 1000000 in
theorem Leave_h (d : Int) (h1 : 1 ≤ d) (h4 : d ≤ 4) (w : World) : Calls Tryz.prog 88 #[.int .i64 d] w (Ret (.tuple #[(HV.val (HV.gate (HV.rightB (leaveH d)) (leaveH d))), .bool (HV.rightB (leaveH d))]) w) := by
  have HC : Hid (∀ W, Calls Tryz.prog 59 #[.agg #[.int .i64 d, .int .i64 (d - 1), .int .i64 0, .int .i64 0, .int .i64 0, .int .i64 0, .int .i64 0, .int .i64 0, .int .i64 0, .int .i64 0, .int .i64 0]] W (Ret (.tuple #[(HV.val (HV.gate (HV.rightB (leaveH d)) (leaveH d))), .bool (HV.rightB (leaveH d))]) W)) := fun W => ifRight_any (leaveH d) W
  go_enter Tryz.func88, Tryz.ntmps88
  go_wp2_with fail
  refine (HC.out _).mono ?_
  rintro e w1 ⟨rfl, hb1⟩
  have hG : Below w.heap.size w w1 := bstep (by repeat' first | (with_reducible first | assumption | exact Below.refl _ _ | apply blast | apply Below.drew | apply below_setRow | apply Below.alloc | apply Below.setCell) | (first | with_reducible assumption | (simp; done) | (go_light; first | omega | (simp; omega)))) hb1 (by (first | with_reducible assumption | (simp; done) | (go_light; first | omega | (simp; omega))))
  have hz := hG.size
  have N_r : rowOf w1 (w.heap.size) = some #[.int .i64 0, .int .i64 0, .int .i64 0, .int .i64 0, .int .i64 0, .int .i64 0, .int .i64 0, .int .i64 0, .int .i64 0, .int .i64 0, .int .i64 0] := rowOf_below (by repeat' first | (with_reducible first | assumption | apply row_drew | apply row_drewN | apply row_set_same | apply row_cell_same | apply row_set_other | apply row_cell_other) | (with_reducible exact row_new (by (first | with_reducible assumption | (simp; done) | (go_light; first | omega | (simp; omega))))) | (with_reducible apply row_old) | (first | with_reducible assumption | (simp; done) | (go_light; first | omega | (simp; omega))) | rfl) hb1 (by (first | with_reducible assumption | (simp; done) | (go_light; first | omega | (simp; omega))))
  have hB := hG
  have L_r := rowOf_lt N_r
  have D_r := Nat.ne_of_lt L_r
  clear hb1 hG
  go_wp2
  exact bodyPost_ret (v := .tuple #[(HV.val (HV.gate (HV.rightB (leaveH d)) (leaveH d))), .bool (HV.rightB (leaveH d))]) (by simp [results, Tryz.results88, go_sem, N_r, L_r, D_r]) rfl ⟨rfl, by repeat' first | (with_reducible first | assumption | exact Below.refl _ _ | apply blast | apply Below.drew | apply below_setRow | apply Below.alloc | apply Below.setCell) | (first | with_reducible assumption | (simp; done) | (go_light; first | omega | (simp; omega)))⟩

set_option maxHeartbeats 1000000 in
theorem leave_no_h (d : Int) (hd : d < 1 ∨ 4 < d) (w : World) : Calls Tryz.prog 88 #[.int .i64 d] w (Ret (.tuple #[.agg #[.int .i64 0, .int .i64 0, .int .i64 0, .int .i64 0, .int .i64 0, .int .i64 0, .int .i64 0, .int .i64 0, .int .i64 0, .int .i64 0, .int .i64 0], .bool false]) w) := by
  have HC : Hid (∀ W, Calls Tryz.prog 59 #[.agg #[.int .i64 d, .int .i64 (wrap64 (d - 1)), .int .i64 0, .int .i64 0, .int .i64 0, .int .i64 0, .int .i64 0, .int .i64 0, .int .i64 0, .int .i64 0, .int .i64 0]] W (Ret (.tuple #[.agg #[.int .i64 0, .int .i64 0, .int .i64 0, .int .i64 0, .int .i64 0, .int .i64 0, .int .i64 0, .int .i64 0, .int .i64 0, .int .i64 0, .int .i64 0], .bool false]) W)) := fun W => right_eq (h := ⟨d, wrap64 (d - 1), 0, 0, 0, 0, 0, 0, 0, 0, 0⟩) (HV.not_right (fun r => by have h1 := r.1.1; have h2 := r.1.2.1; simp only at h1 h2; omega)) W
  clear hd
  go_enter Tryz.func88, Tryz.ntmps88
  go_wp2_with fail
  refine (HC.out _).mono ?_
  rintro e w1 ⟨rfl, hb1⟩
  have hG : Below w.heap.size w w1 := bstep (by repeat' first | (with_reducible first | assumption | exact Below.refl _ _ | apply blast | apply Below.drew | apply below_setRow | apply Below.alloc | apply Below.setCell) | (first | with_reducible assumption | (simp; done) | (go_light; first | omega | (simp; omega)))) hb1 (by (first | with_reducible assumption | (simp; done) | (go_light; first | omega | (simp; omega))))
  have hz := hG.size
  have N_r : rowOf w1 (w.heap.size) = some #[.int .i64 0, .int .i64 0, .int .i64 0, .int .i64 0, .int .i64 0, .int .i64 0, .int .i64 0, .int .i64 0, .int .i64 0, .int .i64 0, .int .i64 0] := rowOf_below (by repeat' first | (with_reducible first | assumption | apply row_drew | apply row_drewN | apply row_set_same | apply row_cell_same | apply row_set_other | apply row_cell_other) | (with_reducible exact row_new (by (first | with_reducible assumption | (simp; done) | (go_light; first | omega | (simp; omega))))) | (with_reducible apply row_old) | (first | with_reducible assumption | (simp; done) | (go_light; first | omega | (simp; omega))) | rfl) hb1 (by (first | with_reducible assumption | (simp; done) | (go_light; first | omega | (simp; omega))))
  have hB := hG
  have L_r := rowOf_lt N_r
  have D_r := Nat.ne_of_lt L_r
  clear hb1 hG
  go_wp2
  exact bodyPost_ret (v := .tuple #[.agg #[.int .i64 0, .int .i64 0, .int .i64 0, .int .i64 0, .int .i64 0, .int .i64 0, .int .i64 0, .int .i64 0, .int .i64 0, .int .i64 0, .int .i64 0], .bool false]) (by simp [results, Tryz.results88, go_sem, N_r, L_r, D_r]) rfl ⟨rfl, by repeat' first | (with_reducible first | assumption | exact Below.refl _ _ | apply blast | apply Below.drew | apply below_setRow | apply Below.alloc | apply Below.setCell) | (first | with_reducible assumption | (simp; done) | (go_light; first | omega | (simp; omega)))⟩

theorem leave_any_h (d : Int) (w : World) : Calls Tryz.prog 88 #[.int .i64 d] w (Ret (hopV (leaveH d).rightB (leaveH d)) w) := by
  by_cases h : 1 ≤ d ∧ d ≤ 4
  · exact Leave_h d h.1 h.2 w
  · have q := leave_no_h d (by omega) w
    have e : (leaveH d).rightB = false := by rw [leave_right]; exact decide_eq_false (by omega)
    rw [e]; exact q

set_option maxHeartbeats 1000000 in
theorem next_no_h (d : Int) (hd : ¬ (1 ≤ d ∧ d ≤ 4)) (w : World) : Calls Tryz.prog 89 #[.int .i64 d] w (Ret (.tuple #[.agg #[.int .i64 0, .int .i64 0, .int .i64 0, .int .i64 0, .int .i64 0, .int .i64 0, .int .i64 0, .int .i64 0, .int .i64 0, .int .i64 0, .int .i64 0], .bool false]) w) := by
  have HC : Hid (∀ W, Calls Tryz.prog 33 #[.int .i64 d] W (Ret (.tuple #[.agg #[.int .i64 0, .int .i64 0, .int .i64 0, .int .i64 0, .int .i64 0, .int .i64 0, .int .i64 0, .int .i64 0, .int .i64 0, .int .i64 0, .int .i64 0], .bool false]) W)) := fun W => by have q := Same_h d W; rw [same_right, decide_eq_false hd] at q; exact q
  clear hd
  go_enter Tryz.func89, Tryz.ntmps89
  go_wp2_with fail
  refine (HC.out _).mono ?_
  rintro e w1 ⟨rfl, hb1⟩
  have hG : Below w.heap.size w w1 := bstep (by repeat' first | (with_reducible first | assumption | exact Below.refl _ _ | apply blast | apply Below.drew | apply below_setRow | apply Below.alloc | apply Below.setCell) | (first | with_reducible assumption | (simp; done) | (go_light; first | omega | (simp; omega)))) hb1 (by (first | with_reducible assumption | (simp; done) | (go_light; first | omega | (simp; omega))))
  have hz := hG.size
  have N_r : rowOf w1 (w.heap.size) = some #[.int .i64 0, .int .i64 0, .int .i64 0, .int .i64 0, .int .i64 0, .int .i64 0, .int .i64 0, .int .i64 0, .int .i64 0, .int .i64 0, .int .i64 0] := rowOf_below (by repeat' first | (with_reducible first | assumption | apply row_drew | apply row_drewN | apply row_set_same | apply row_cell_same | apply row_set_other | apply row_cell_other) | (with_reducible exact row_new (by (first | with_reducible assumption | (simp; done) | (go_light; first | omega | (simp; omega))))) | (with_reducible apply row_old) | (first | with_reducible assumption | (simp; done) | (go_light; first | omega | (simp; omega))) | rfl) hb1 (by (first | with_reducible assumption | (simp; done) | (go_light; first | omega | (simp; omega))))
  have hB := hG
  have L_r := rowOf_lt N_r
  have D_r := Nat.ne_of_lt L_r
  clear hb1 hG
  go_wp2
  exact bodyPost_ret (v := .tuple #[.agg #[.int .i64 0, .int .i64 0, .int .i64 0, .int .i64 0, .int .i64 0, .int .i64 0, .int .i64 0, .int .i64 0, .int .i64 0, .int .i64 0, .int .i64 0], .bool false]) (by simp [results, Tryz.results89, go_sem, N_r, L_r, D_r]) rfl ⟨rfl, by repeat' first | (with_reducible first | assumption | exact Below.refl _ _ | apply blast | apply Below.drew | apply below_setRow | apply Below.alloc | apply Below.setCell) | (first | with_reducible assumption | (simp; done) | (go_light; first | omega | (simp; omega)))⟩

set_option maxHeartbeats 1000000 in
theorem next_1_h (w : World) : Calls Tryz.prog 89 #[.int .i64 1] w (Ret (.tuple #[.agg #[.int .i64 1, .int .i64 1, .int .i64 0, .int .i64 1, .int .i64 0, .int .i64 0, .int .i64 0, .int .i64 0, .int .i64 0, .int .i64 0, .int .i64 0], .bool true]) w) := by
  have HC : Hid (∀ W, Calls Tryz.prog 33 #[.int .i64 1] W (Ret (.tuple #[.agg #[.int .i64 1, .int .i64 1, .int .i64 0, .int .i64 0, .int .i64 0, .int .i64 0, .int .i64 0, .int .i64 0, .int .i64 0, .int .i64 0, .int .i64 0], .bool true]) W)) := fun W => by have q := Same_h 1 W; exact q
  go_enter Tryz.func89, Tryz.ntmps89
  go_wp2_with fail
  refine (HC.out _).mono ?_
  rintro e w1 ⟨rfl, hb1⟩
  have hG : Below w.heap.size w w1 := bstep (by repeat' first | (with_reducible first | assumption | exact Below.refl _ _ | apply blast | apply Below.drew | apply below_setRow | apply Below.alloc | apply Below.setCell) | (first | with_reducible assumption | (simp; done) | (go_light; first | omega | (simp; omega)))) hb1 (by (first | with_reducible assumption | (simp; done) | (go_light; first | omega | (simp; omega))))
  have hz := hG.size
  have N_r : rowOf w1 (w.heap.size) = some #[.int .i64 0, .int .i64 0, .int .i64 0, .int .i64 0, .int .i64 0, .int .i64 0, .int .i64 0, .int .i64 0, .int .i64 0, .int .i64 0, .int .i64 0] := rowOf_below (by repeat' first | (with_reducible first | assumption | apply row_drew | apply row_drewN | apply row_set_same | apply row_cell_same | apply row_set_other | apply row_cell_other) | (with_reducible exact row_new (by (first | with_reducible assumption | (simp; done) | (go_light; first | omega | (simp; omega))))) | (with_reducible apply row_old) | (first | with_reducible assumption | (simp; done) | (go_light; first | omega | (simp; omega))) | rfl) hb1 (by (first | with_reducible assumption | (simp; done) | (go_light; first | omega | (simp; omega))))
  have hB := hG
  have L_r := rowOf_lt N_r
  have D_r := Nat.ne_of_lt L_r
  clear hb1 hG
  go_wp2
  exact bodyPost_ret (v := .tuple #[.agg #[.int .i64 1, .int .i64 1, .int .i64 0, .int .i64 1, .int .i64 0, .int .i64 0, .int .i64 0, .int .i64 0, .int .i64 0, .int .i64 0, .int .i64 0], .bool true]) (by simp [results, Tryz.results89, go_sem, N_r, L_r, D_r]) rfl ⟨rfl, by repeat' first | (with_reducible first | assumption | exact Below.refl _ _ | apply blast | apply Below.drew | apply below_setRow | apply Below.alloc | apply Below.setCell) | (first | with_reducible assumption | (simp; done) | (go_light; first | omega | (simp; omega)))⟩

set_option maxHeartbeats 1000000 in
theorem next_2_h (w : World) : Calls Tryz.prog 89 #[.int .i64 2] w (Ret (.tuple #[.agg #[.int .i64 2, .int .i64 2, .int .i64 0, .int .i64 0, .int .i64 1, .int .i64 0, .int .i64 0, .int .i64 0, .int .i64 0, .int .i64 0, .int .i64 0], .bool true]) w) := by
  have HC : Hid (∀ W, Calls Tryz.prog 33 #[.int .i64 2] W (Ret (.tuple #[.agg #[.int .i64 2, .int .i64 2, .int .i64 0, .int .i64 0, .int .i64 0, .int .i64 0, .int .i64 0, .int .i64 0, .int .i64 0, .int .i64 0, .int .i64 0], .bool true]) W)) := fun W => by have q := Same_h 2 W; exact q
  go_enter Tryz.func89, Tryz.ntmps89
  go_wp2_with fail
  refine (HC.out _).mono ?_
  rintro e w1 ⟨rfl, hb1⟩
  have hG : Below w.heap.size w w1 := bstep (by repeat' first | (with_reducible first | assumption | exact Below.refl _ _ | apply blast | apply Below.drew | apply below_setRow | apply Below.alloc | apply Below.setCell) | (first | with_reducible assumption | (simp; done) | (go_light; first | omega | (simp; omega)))) hb1 (by (first | with_reducible assumption | (simp; done) | (go_light; first | omega | (simp; omega))))
  have hz := hG.size
  have N_r : rowOf w1 (w.heap.size) = some #[.int .i64 0, .int .i64 0, .int .i64 0, .int .i64 0, .int .i64 0, .int .i64 0, .int .i64 0, .int .i64 0, .int .i64 0, .int .i64 0, .int .i64 0] := rowOf_below (by repeat' first | (with_reducible first | assumption | apply row_drew | apply row_drewN | apply row_set_same | apply row_cell_same | apply row_set_other | apply row_cell_other) | (with_reducible exact row_new (by (first | with_reducible assumption | (simp; done) | (go_light; first | omega | (simp; omega))))) | (with_reducible apply row_old) | (first | with_reducible assumption | (simp; done) | (go_light; first | omega | (simp; omega))) | rfl) hb1 (by (first | with_reducible assumption | (simp; done) | (go_light; first | omega | (simp; omega))))
  have hB := hG
  have L_r := rowOf_lt N_r
  have D_r := Nat.ne_of_lt L_r
  clear hb1 hG
  go_wp2
  exact bodyPost_ret (v := .tuple #[.agg #[.int .i64 2, .int .i64 2, .int .i64 0, .int .i64 0, .int .i64 1, .int .i64 0, .int .i64 0, .int .i64 0, .int .i64 0, .int .i64 0, .int .i64 0], .bool true]) (by simp [results, Tryz.results89, go_sem, N_r, L_r, D_r]) rfl ⟨rfl, by repeat' first | (with_reducible first | assumption | exact Below.refl _ _ | apply blast | apply Below.drew | apply below_setRow | apply Below.alloc | apply Below.setCell) | (first | with_reducible assumption | (simp; done) | (go_light; first | omega | (simp; omega)))⟩

set_option maxHeartbeats 1000000 in
theorem next_3_h (w : World) : Calls Tryz.prog 89 #[.int .i64 3] w (Ret (.tuple #[.agg #[.int .i64 3, .int .i64 3, .int .i64 0, .int .i64 0, .int .i64 0, .int .i64 1, .int .i64 0, .int .i64 0, .int .i64 0, .int .i64 0, .int .i64 0], .bool true]) w) := by
  have HC : Hid (∀ W, Calls Tryz.prog 33 #[.int .i64 3] W (Ret (.tuple #[.agg #[.int .i64 3, .int .i64 3, .int .i64 0, .int .i64 0, .int .i64 0, .int .i64 0, .int .i64 0, .int .i64 0, .int .i64 0, .int .i64 0, .int .i64 0], .bool true]) W)) := fun W => by have q := Same_h 3 W; exact q
  go_enter Tryz.func89, Tryz.ntmps89
  go_wp2_with fail
  refine (HC.out _).mono ?_
  rintro e w1 ⟨rfl, hb1⟩
  have hG : Below w.heap.size w w1 := bstep (by repeat' first | (with_reducible first | assumption | exact Below.refl _ _ | apply blast | apply Below.drew | apply below_setRow | apply Below.alloc | apply Below.setCell) | (first | with_reducible assumption | (simp; done) | (go_light; first | omega | (simp; omega)))) hb1 (by (first | with_reducible assumption | (simp; done) | (go_light; first | omega | (simp; omega))))
  have hz := hG.size
  have N_r : rowOf w1 (w.heap.size) = some #[.int .i64 0, .int .i64 0, .int .i64 0, .int .i64 0, .int .i64 0, .int .i64 0, .int .i64 0, .int .i64 0, .int .i64 0, .int .i64 0, .int .i64 0] := rowOf_below (by repeat' first | (with_reducible first | assumption | apply row_drew | apply row_drewN | apply row_set_same | apply row_cell_same | apply row_set_other | apply row_cell_other) | (with_reducible exact row_new (by (first | with_reducible assumption | (simp; done) | (go_light; first | omega | (simp; omega))))) | (with_reducible apply row_old) | (first | with_reducible assumption | (simp; done) | (go_light; first | omega | (simp; omega))) | rfl) hb1 (by (first | with_reducible assumption | (simp; done) | (go_light; first | omega | (simp; omega))))
  have hB := hG
  have L_r := rowOf_lt N_r
  have D_r := Nat.ne_of_lt L_r
  clear hb1 hG
  go_wp2
  exact bodyPost_ret (v := .tuple #[.agg #[.int .i64 3, .int .i64 3, .int .i64 0, .int .i64 0, .int .i64 0, .int .i64 1, .int .i64 0, .int .i64 0, .int .i64 0, .int .i64 0, .int .i64 0], .bool true]) (by simp [results, Tryz.results89, go_sem, N_r, L_r, D_r]) rfl ⟨rfl, by repeat' first | (with_reducible first | assumption | exact Below.refl _ _ | apply blast | apply Below.drew | apply below_setRow | apply Below.alloc | apply Below.setCell) | (first | with_reducible assumption | (simp; done) | (go_light; first | omega | (simp; omega)))⟩

set_option maxHeartbeats 1000000 in
theorem next_4_h (w : World) : Calls Tryz.prog 89 #[.int .i64 4] w (Ret (.tuple #[.agg #[.int .i64 4, .int .i64 4, .int .i64 0, .int .i64 0, .int .i64 0, .int .i64 0, .int .i64 1, .int .i64 0, .int .i64 0, .int .i64 0, .int .i64 0], .bool true]) w) := by
  have HC : Hid (∀ W, Calls Tryz.prog 33 #[.int .i64 4] W (Ret (.tuple #[.agg #[.int .i64 4, .int .i64 4, .int .i64 0, .int .i64 0, .int .i64 0, .int .i64 0, .int .i64 0, .int .i64 0, .int .i64 0, .int .i64 0, .int .i64 0], .bool true]) W)) := fun W => by have q := Same_h 4 W; exact q
  go_enter Tryz.func89, Tryz.ntmps89
  go_wp2_with fail
  refine (HC.out _).mono ?_
  rintro e w1 ⟨rfl, hb1⟩
  have hG : Below w.heap.size w w1 := bstep (by repeat' first | (with_reducible first | assumption | exact Below.refl _ _ | apply blast | apply Below.drew | apply below_setRow | apply Below.alloc | apply Below.setCell) | (first | with_reducible assumption | (simp; done) | (go_light; first | omega | (simp; omega)))) hb1 (by (first | with_reducible assumption | (simp; done) | (go_light; first | omega | (simp; omega))))
  have hz := hG.size
  have N_r : rowOf w1 (w.heap.size) = some #[.int .i64 0, .int .i64 0, .int .i64 0, .int .i64 0, .int .i64 0, .int .i64 0, .int .i64 0, .int .i64 0, .int .i64 0, .int .i64 0, .int .i64 0] := rowOf_below (by repeat' first | (with_reducible first | assumption | apply row_drew | apply row_drewN | apply row_set_same | apply row_cell_same | apply row_set_other | apply row_cell_other) | (with_reducible exact row_new (by (first | with_reducible assumption | (simp; done) | (go_light; first | omega | (simp; omega))))) | (with_reducible apply row_old) | (first | with_reducible assumption | (simp; done) | (go_light; first | omega | (simp; omega))) | rfl) hb1 (by (first | with_reducible assumption | (simp; done) | (go_light; first | omega | (simp; omega))))
  have hB := hG
  have L_r := rowOf_lt N_r
  have D_r := Nat.ne_of_lt L_r
  clear hb1 hG
  go_wp2
  exact bodyPost_ret (v := .tuple #[.agg #[.int .i64 4, .int .i64 4, .int .i64 0, .int .i64 0, .int .i64 0, .int .i64 0, .int .i64 1, .int .i64 0, .int .i64 0, .int .i64 0, .int .i64 0], .bool true]) (by simp [results, Tryz.results89, go_sem, N_r, L_r, D_r]) rfl ⟨rfl, by repeat' first | (with_reducible first | assumption | exact Below.refl _ _ | apply blast | apply Below.drew | apply below_setRow | apply Below.alloc | apply Below.setCell) | (first | with_reducible assumption | (simp; done) | (go_light; first | omega | (simp; omega)))⟩

theorem Next_h (d : Int) (w : World) : Calls Tryz.prog 89 #[.int .i64 d] w (Ret (.tuple #[(HV.val (HV.gate (HV.rightB (nextH d)) (nextH d))), .bool (HV.rightB (nextH d))]) w) := by
  by_cases h : 1 ≤ d ∧ d ≤ 4
  · rw [next_right, decide_eq_true h]
    have h4 : d = 1 ∨ d = 2 ∨ d = 3 ∨ d = 4 := by omega
    rcases h4 with rfl | rfl | rfl | rfl
    · exact next_1_h w
    · exact next_2_h w
    · exact next_3_h w
    · exact next_4_h w
  · rw [next_right, decide_eq_false h]; exact next_no_h d h w
end Go.Proofs.YtjaahmgokiobjaaGreat
