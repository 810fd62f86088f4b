import Derived.Test.YtbjecaajeokdoaaBr
import Derived.Test.YtbjecaajeokdoaaBoxI
namespace Go.Proofs.Ytbjecaajeokdoaa
open Go.RowKit
set_option linter.unusedVariables false
set_option linter.unusedSimpArgs false
attribute [local go_sem ↓] loadI storeI
attribute [local simp] size_setRow
attribute [local go_sem] rowAt_head rowOf_alloc_at rowOf_alloc_past rowOf_drew rowOf_drewN rowOf_setRow_same rowOf_setRow_other rowOf_setCell_same rowOf_setCell_other size_setRow setRow_drew setRow_alloc_at setRow_alloc_past one_int one_bool cell_setRow_same cell_setRow_other frozen_setRow_same frozen_setRow_other
def moreI (c : IV) (n : Int) : IV := if fitsN (c.n + n) then ⟨c.t, c.n + n⟩ else c
set_option maxRecDepth 100000 in
set_option maxHeartbeats 4000000 in
theorem bmore_any (c : IV) (n : Int) (w : World) (h1 : -2147483648 ≤ c.n ∧ c.n ≤ 2147483648) (h2 : -2147483648 ≤ n ∧ n ≤ 2147483648) :
    Calls Try.prog 19 #[c.val, .int .i64 n] w (Ret (moreI c n).val w) := by
  obtain ⟨t, m⟩ := c
  simp only at h1
  obtain ⟨a1, a2⟩ := h1
  obtain ⟨b1, b2⟩ := h2
  have c1 : -9223372036854775808 ≤ m + n := by omega
  have c2 : m + n ≤ 9223372036854775807 := by omega
  have hF := fun W => bfits_any (m + n) W
  have hm : (moreI ⟨t, m⟩ n).val = (if fitsN (m + n) then IV.val ⟨t, m + n⟩ else IV.val ⟨t, m⟩) := by unfold moreI; simp only; split <;> rfl
  generalize fitsN (m + n) = q at hF hm
  have hT : q = true → (moreI ⟨t, m⟩ n).val = .agg #[.int .i64 t.k, .int .i64 t.v, .int .i64 (m + n)] := fun h => by rw [hm, h]; rfl
  have hN : q = false → (moreI ⟨t, m⟩ n).val = .agg #[.int .i64 t.k, .int .i64 t.v, .int .i64 m] := fun h => by rw [hm, h]; rfl
  generalize (moreI ⟨t, m⟩ n).val = res at hT hN ⊢
  have HF := Lib.hid hF; have HT := Lib.hid hT; have HN := Lib.hid hN
  clear hm hF hT hN
  show Calls _ _ #[.agg #[.int .i64 t.k, .int .i64 t.v, .int .i64 m], _] _ _
  go_enter Try.func19, Try.ntmps19
  cases q
  · go_wp2_with fail
    refine (HF.out _).mono ?_
    rintro e w1 ⟨rfl, hb1⟩
    have N_x : rowOf w1 w.heap.size = some #[.int .i64 t.k, .int .i64 t.v, .int .i64 m] := rowOf_below (row_old (row_new rfl)) hb1 (by simp; omega)
    have N_r : rowOf w1 (w.heap.size + 1) = some #[.int .i64 0, .int .i64 0, .int .i64 0] := rowOf_below (row_new (by simp)) hb1 (by simp)
    have hB : Below w.heap.size w w1 := bcall (by repeat' first | exact Below.refl _ _ | (apply Below.alloc) | (simp; done)) hb1 (by simp; omega)
    have hz := hB.size
    have L_x := rowOf_lt N_x
    have L_r := rowOf_lt N_r
    have D_x := Nat.ne_of_lt L_x
    have D_r := Nat.ne_of_lt L_r
    have E0 : rowOf (w1.setCell ⟨w.heap.size, 2, none⟩ (.int .i64 (m + n))) w.heap.size = some #[.int .i64 t.k, .int .i64 t.v, .int .i64 (m + n)] := row_cell_same N_x rfl
    have p2 : w1.cell? ⟨w.heap.size, 2, none⟩ = some (.int .i64 m) := rowOf_cell N_x 2
    have q2 := rowOf_frozen N_x 2
    clear hb1
    go_wp2
    rw [HN.out (by trivial)]
    exact bodyPost_ret (v := .agg #[.int .i64 t.k, .int .i64 t.v, .int .i64 m]) (by simp [results, Try.results19, go_sem, N_x, N_r, E0, L_x, L_r, D_x, D_r]) rfl ⟨rfl, by repeat' first | (with_reducible first | exact hB | exact Below.refl _ _ | apply blast | apply Below.drew | apply below_setRow | apply Below.alloc | apply Below.setCell) | (first | with_reducible assumption | (simp; done) | (go_light; first | omega | (simp; omega)))⟩
  · go_wp2_with fail
    refine (HF.out _).mono ?_
    rintro e w1 ⟨rfl, hb1⟩
    have N_x : rowOf w1 w.heap.size = some #[.int .i64 t.k, .int .i64 t.v, .int .i64 m] := rowOf_below (row_old (row_new rfl)) hb1 (by simp; omega)
    have N_r : rowOf w1 (w.heap.size + 1) = some #[.int .i64 0, .int .i64 0, .int .i64 0] := rowOf_below (row_new (by simp)) hb1 (by simp)
    have hB : Below w.heap.size w w1 := bcall (by repeat' first | exact Below.refl _ _ | (apply Below.alloc) | (simp; done)) hb1 (by simp; omega)
    have hz := hB.size
    have L_x := rowOf_lt N_x
    have L_r := rowOf_lt N_r
    have D_x := Nat.ne_of_lt L_x
    have D_r := Nat.ne_of_lt L_r
    have E0 : rowOf (w1.setCell ⟨w.heap.size, 2, none⟩ (.int .i64 (m + n))) w.heap.size = some #[.int .i64 t.k, .int .i64 t.v, .int .i64 (m + n)] := row_cell_same N_x rfl
    have p2 : w1.cell? ⟨w.heap.size, 2, none⟩ = some (.int .i64 m) := rowOf_cell N_x 2
    have q2 := rowOf_frozen N_x 2
    clear hb1
    go_wp2
    rw [HT.out (by trivial)]
    exact bodyPost_ret (v := .agg #[.int .i64 t.k, .int .i64 t.v, .int .i64 (m + n)]) (by simp [results, Try.results19, go_sem, N_x, N_r, E0, L_x, L_r, D_x, D_r]) rfl ⟨rfl, by repeat' first | (with_reducible first | exact hB | exact Below.refl _ _ | apply blast | apply Below.drew | apply below_setRow | apply Below.alloc | apply Below.setCell) | (first | with_reducible assumption | (simp; done) | (go_light; first | omega | (simp; omega)))⟩
end Go.Proofs.Ytbjecaajeokdoaa
