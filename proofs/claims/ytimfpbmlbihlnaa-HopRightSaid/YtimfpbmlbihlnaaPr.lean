/- the law HopRight -/
import Derived.Test.YtimfpbmlbihlnaaPq
import Derived.Test.YtimfpbmlbihlnaaPp
import Derived.Test.YtimfpbmlbihlnaaPc
import Derived.Test.YtimfpbmlbihlnaaH6
import Derived.Test.YtimfpbmlbihlnaaHaw
import Derived.Deep.Cut

namespace Go.Proofs.Ytimfpbmlbihlnaa
open Go.RowKit
set_option linter.unusedVariables false
set_option linter.unusedSimpArgs false
attribute [local go_sem ↓] loadH loadT storeH storeT
attribute [local simp] size_setRow
attribute [local go_sem] rowAt_head rowOf_alloc_at rowOf_alloc_past rowOf_drew rowOf_drewN rowOf_setRow_same rowOf_setRow_other rowOf_setCell_same rowOf_setCell_other size_setRow setRow_drew setRow_alloc_at setRow_alloc_past one_int one_bool cell_setRow_same cell_setRow_other frozen_setRow_same frozen_setRow_other
attribute [local go_sem] eqArr4

theorem docLe (a b : HV) (w : World) : Calls Try.prog 12 #[a.val, b.val] w (Ret (.bool (leH a b)) w) := by
  have q := rle_any a b w
  rw [rleB_is] at q
  exact q
set_option maxRecDepth 100000 in
set_option maxHeartbeats 8000000 in
theorem hopRight_walk (a b : HV) (t : TV) (w : World) : Calls Try.prog 3 #[a.val, b.val, t.val] w (Ret (.bool true) w) := by
  have h1 : ∀ W, Calls Try.prog 5 #[a.val] W (fun e w' => ∃ v, e = .returned (.tuple #[v, .bool a.rightB]) ∧ Below W.heap.size W w') := fun W => (parts_any a W).mono fun e w' h => by
    obtain ⟨v, e1, _, e3⟩ := h
    exact ⟨v, e1, e3⟩
  have h2 := fun W => apply_any a t W
  have h3 := fun W => rapply_any a t W
  have h4 := fun W => hopRight_any a W
  have h5 := fun W => then_any a b W
  have h6 := fun W => docThen a b W
  have h7 := fun W => leH_any a b W
  have h8 := fun W => docLe a b W
  have h0 := fun W => awake_any W
  generalize applyT a t = X at *
  generalize applyOk a t = ok at *
  generalize thenV a b = G at *
  generalize thenOk a b = o2 at *
  generalize leH a b = l2 at *
  generalize a.rightB = ra at *
  obtain ⟨d, c0, c1, c2, c3⟩ := t
  obtain ⟨f, k, t, a0, a1, a2, a3, b0, b1, b2, b3⟩ := a
  obtain ⟨g, l, u, d0, d1, d2, d3, e0, e1, e2, e3⟩ := b
  obtain ⟨x0, x1, x2, x3, x4⟩ := X
  obtain ⟨G0, G1, G2, G3, G4, G5, G6, G7, G8, G9, G10⟩ := G
  replace h1 : ∀ W, Calls Try.prog 5 #[.agg #[.int .i64 f, .int .i64 k, .int .i64 t, .int .i64 a0, .int .i64 a1, .int .i64 a2, .int .i64 a3, .int .i64 b0, .int .i64 b1, .int .i64 b2, .int .i64 b3]] W (fun e w' => ∃ v, e = .returned (.tuple #[v, .bool ra]) ∧ Below W.heap.size W w') := h1
  replace h2 : ∀ W, Calls Try.prog 6 #[.agg #[.int .i64 f, .int .i64 k, .int .i64 t, .int .i64 a0, .int .i64 a1, .int .i64 a2, .int .i64 a3, .int .i64 b0, .int .i64 b1, .int .i64 b2, .int .i64 b3], .agg #[.int .i64 d, .int .i64 c0, .int .i64 c1, .int .i64 c2, .int .i64 c3]] W (Ret (.tuple #[.agg #[.int .i64 x0, .int .i64 x1, .int .i64 x2, .int .i64 x3, .int .i64 x4], .bool ok]) W) := h2
  replace h3 : ∀ W, Calls Try.prog 7 #[.agg #[.int .i64 f, .int .i64 k, .int .i64 t, .int .i64 a0, .int .i64 a1, .int .i64 a2, .int .i64 a3, .int .i64 b0, .int .i64 b1, .int .i64 b2, .int .i64 b3], .agg #[.int .i64 d, .int .i64 c0, .int .i64 c1, .int .i64 c2, .int .i64 c3]] W (Ret (.tuple #[.agg #[.int .i64 x0, .int .i64 x1, .int .i64 x2, .int .i64 x3, .int .i64 x4], .bool ok]) W) := h3
  replace h4 : ∀ W, Calls Try.prog 8 #[.agg #[.int .i64 f, .int .i64 k, .int .i64 t, .int .i64 a0, .int .i64 a1, .int .i64 a2, .int .i64 a3, .int .i64 b0, .int .i64 b1, .int .i64 b2, .int .i64 b3]] W (Ret (.bool ra) W) := h4
  replace h5 : ∀ W, Calls Try.prog 9 #[.agg #[.int .i64 f, .int .i64 k, .int .i64 t, .int .i64 a0, .int .i64 a1, .int .i64 a2, .int .i64 a3, .int .i64 b0, .int .i64 b1, .int .i64 b2, .int .i64 b3], .agg #[.int .i64 g, .int .i64 l, .int .i64 u, .int .i64 d0, .int .i64 d1, .int .i64 d2, .int .i64 d3, .int .i64 e0, .int .i64 e1, .int .i64 e2, .int .i64 e3]] W (Ret (.tuple #[.agg #[.int .i64 G0, .int .i64 G1, .int .i64 G2, .int .i64 G3, .int .i64 G4, .int .i64 G5, .int .i64 G6, .int .i64 G7, .int .i64 G8, .int .i64 G9, .int .i64 G10], .bool o2]) W) := h5
  replace h6 : ∀ W, Calls Try.prog 10 #[.agg #[.int .i64 f, .int .i64 k, .int .i64 t, .int .i64 a0, .int .i64 a1, .int .i64 a2, .int .i64 a3, .int .i64 b0, .int .i64 b1, .int .i64 b2, .int .i64 b3], .agg #[.int .i64 g, .int .i64 l, .int .i64 u, .int .i64 d0, .int .i64 d1, .int .i64 d2, .int .i64 d3, .int .i64 e0, .int .i64 e1, .int .i64 e2, .int .i64 e3]] W (Ret (.tuple #[.agg #[.int .i64 G0, .int .i64 G1, .int .i64 G2, .int .i64 G3, .int .i64 G4, .int .i64 G5, .int .i64 G6, .int .i64 G7, .int .i64 G8, .int .i64 G9, .int .i64 G10], .bool o2]) W) := h6
  replace h7 : ∀ W, Calls Try.prog 11 #[.agg #[.int .i64 f, .int .i64 k, .int .i64 t, .int .i64 a0, .int .i64 a1, .int .i64 a2, .int .i64 a3, .int .i64 b0, .int .i64 b1, .int .i64 b2, .int .i64 b3], .agg #[.int .i64 g, .int .i64 l, .int .i64 u, .int .i64 d0, .int .i64 d1, .int .i64 d2, .int .i64 d3, .int .i64 e0, .int .i64 e1, .int .i64 e2, .int .i64 e3]] W (Ret (.bool l2) W) := h7
  replace h8 : ∀ W, Calls Try.prog 12 #[.agg #[.int .i64 f, .int .i64 k, .int .i64 t, .int .i64 a0, .int .i64 a1, .int .i64 a2, .int .i64 a3, .int .i64 b0, .int .i64 b1, .int .i64 b2, .int .i64 b3], .agg #[.int .i64 g, .int .i64 l, .int .i64 u, .int .i64 d0, .int .i64 d1, .int .i64 d2, .int .i64 d3, .int .i64 e0, .int .i64 e1, .int .i64 e2, .int .i64 e3]] W (Ret (.bool l2) W) := h8
  have H0 := Lib.hid h0; have H1 := Lib.hid h1; have H2 := Lib.hid h2; have H3 := Lib.hid h3; have H4 := Lib.hid h4; have H5 := Lib.hid h5; have H6 := Lib.hid h6; have H7 := Lib.hid h7; have H8 := Lib.hid h8
  clear h0 h1 h2 h3 h4 h5 h6 h7 h8
  have q1 : (ra != ra) = false := by simp
  have q2 : (ok != ok) = false := by simp
  have q3 : (o2 == o2) = true := by simp
  have q4 : (l2 == l2) = true := by simp
  have N_a0 : rowOf (((w.alloc (.cells #[.int .i64 f, .int .i64 k, .int .i64 t, .int .i64 a0, .int .i64 a1, .int .i64 a2, .int .i64 a3, .int .i64 b0, .int .i64 b1, .int .i64 b2, .int .i64 b3] 24)).alloc (.cells #[.int .i64 g, .int .i64 l, .int .i64 u, .int .i64 d0, .int .i64 d1, .int .i64 d2, .int .i64 d3, .int .i64 e0, .int .i64 e1, .int .i64 e2, .int .i64 e3] 24)).alloc (.cells #[.int .i64 d, .int .i64 c0, .int .i64 c1, .int .i64 c2, .int .i64 c3] 26)) w.heap.size = some #[.int .i64 f, .int .i64 k, .int .i64 t, .int .i64 a0, .int .i64 a1, .int .i64 a2, .int .i64 a3, .int .i64 b0, .int .i64 b1, .int .i64 b2, .int .i64 b3] := by rw [rowOf_alloc_past _ _ (by first | (simp; done) | (simp; omega)), rowOf_alloc_past _ _ (by first | (simp; done) | (simp; omega))]; exact rowOf_alloc_at _ _ _ rfl
  have N_b0 : rowOf (((w.alloc (.cells #[.int .i64 f, .int .i64 k, .int .i64 t, .int .i64 a0, .int .i64 a1, .int .i64 a2, .int .i64 a3, .int .i64 b0, .int .i64 b1, .int .i64 b2, .int .i64 b3] 24)).alloc (.cells #[.int .i64 g, .int .i64 l, .int .i64 u, .int .i64 d0, .int .i64 d1, .int .i64 d2, .int .i64 d3, .int .i64 e0, .int .i64 e1, .int .i64 e2, .int .i64 e3] 24)).alloc (.cells #[.int .i64 d, .int .i64 c0, .int .i64 c1, .int .i64 c2, .int .i64 c3] 26)) (w.heap.size + 1) = some #[.int .i64 g, .int .i64 l, .int .i64 u, .int .i64 d0, .int .i64 d1, .int .i64 d2, .int .i64 d3, .int .i64 e0, .int .i64 e1, .int .i64 e2, .int .i64 e3] := by rw [rowOf_alloc_past _ _ (by first | (simp; done) | (simp; omega))]; exact rowOf_alloc_at _ _ _ (by first | (simp; done) | (simp; omega))
  have N_t0 : rowOf (((w.alloc (.cells #[.int .i64 f, .int .i64 k, .int .i64 t, .int .i64 a0, .int .i64 a1, .int .i64 a2, .int .i64 a3, .int .i64 b0, .int .i64 b1, .int .i64 b2, .int .i64 b3] 24)).alloc (.cells #[.int .i64 g, .int .i64 l, .int .i64 u, .int .i64 d0, .int .i64 d1, .int .i64 d2, .int .i64 d3, .int .i64 e0, .int .i64 e1, .int .i64 e2, .int .i64 e3] 24)).alloc (.cells #[.int .i64 d, .int .i64 c0, .int .i64 c1, .int .i64 c2, .int .i64 c3] 26)) (w.heap.size + 1 + 1) = some #[.int .i64 d, .int .i64 c0, .int .i64 c1, .int .i64 c2, .int .i64 c3] := rowOf_alloc_at _ _ _ (by first | (simp; done) | (simp; omega))
  have hb0 := (((Below.refl w.heap.size w).alloc (Nat.le_refl _) (.cells #[.int .i64 f, .int .i64 k, .int .i64 t, .int .i64 a0, .int .i64 a1, .int .i64 a2, .int .i64 a3, .int .i64 b0, .int .i64 b1, .int .i64 b2, .int .i64 b3] 24)).alloc (by first | (simp; done) | (simp; omega)) (.cells #[.int .i64 g, .int .i64 l, .int .i64 u, .int .i64 d0, .int .i64 d1, .int .i64 d2, .int .i64 d3, .int .i64 e0, .int .i64 e1, .int .i64 e2, .int .i64 e3] 24)).alloc (by first | (simp; done) | (simp; omega)) (.cells #[.int .i64 d, .int .i64 c0, .int .i64 c1, .int .i64 c2, .int .i64 c3] 26)
  have HNa := Lib.hid N_a0; have HNb := Lib.hid N_b0; have HNt := Lib.hid N_t0; have HB0 := Lib.hid hb0
  clear N_a0 N_b0 N_t0 hb0
  go_enter Try.func3, Try.ntmps3
  go_wp2_with fail
  refine (H0.out _).mono ?_
  rintro e w1 ⟨rfl, hb1⟩
  have N_a := rowOf_below HNa.out hb1 (by first | (simp; done) | (simp; omega))
  have N_b := rowOf_below HNb.out hb1 (by first | (simp; done) | (simp; omega))
  have N_t := rowOf_below HNt.out hb1 (by first | (simp; done) | (simp; omega))
  have HB := Lib.hid (HB0.out.trans (hb1.mono HB0.out.size))
  clear hb1 HNa HNb HNt HB0 H0
  have L_a := rowOf_lt N_a
  have L_b := rowOf_lt N_b
  have L_t := rowOf_lt N_t
  go_wp2_with fail
  refine (H1.out _).mono ?_
  rintro e w2 ⟨v1, rfl, hbn⟩
  replace N_a := rowOf_below N_a hbn L_a
  replace N_b := rowOf_below N_b hbn L_b
  replace N_t := rowOf_below N_t hbn L_t
  replace HB := Lib.hid (HB.out.trans (hbn.mono HB.out.size))
  clear L_a L_b L_t hbn
  have L_a := rowOf_lt N_a
  have L_b := rowOf_lt N_b
  have L_t := rowOf_lt N_t
  go_wp2_with fail
  refine (H2.out _).mono ?_
  rintro e w3 ⟨rfl, hbn⟩
  replace N_a := rowOf_below N_a hbn L_a
  replace N_b := rowOf_below N_b hbn L_b
  replace N_t := rowOf_below N_t hbn L_t
  replace HB := Lib.hid (HB.out.trans (hbn.mono HB.out.size))
  clear L_a L_b L_t hbn
  have L_a := rowOf_lt N_a
  have L_b := rowOf_lt N_b
  have L_t := rowOf_lt N_t
  go_wp2_with fail
  refine (H3.out _).mono ?_
  rintro e w4 ⟨rfl, hbn⟩
  replace N_a := rowOf_below ((rowOf_alloc_past _ _ L_a).trans N_a) hbn (Nat.lt_trans L_a (by first | (simp; done) | (simp; omega)))
  replace N_b := rowOf_below ((rowOf_alloc_past _ _ L_b).trans N_b) hbn (Nat.lt_trans L_b (by first | (simp; done) | (simp; omega)))
  replace N_t := rowOf_below ((rowOf_alloc_past _ _ L_t).trans N_t) hbn (Nat.lt_trans L_t (by first | (simp; done) | (simp; omega)))
  have N_x := rowOf_below (rowOf_alloc_at #[.int .i64 x0, .int .i64 x1, .int .i64 x2, .int .i64 x3, .int .i64 x4] 26 w3.heap.size rfl) hbn (by first | (simp; done) | (simp; omega))
  replace HB := Lib.hid ((HB.out.alloc HB.out.size (.cells #[.int .i64 x0, .int .i64 x1, .int .i64 x2, .int .i64 x3, .int .i64 x4] 26)).trans (hbn.mono (Nat.le_trans HB.out.size (by first | (simp; done) | (simp; omega)))))
  clear L_a L_b L_t hbn
  have L_a := rowOf_lt N_a
  have L_b := rowOf_lt N_b
  have L_t := rowOf_lt N_t
  have L_x := rowOf_lt N_x
  go_wp2_with fail
  refine (H4.out _).mono ?_
  rintro e w5 ⟨rfl, hbn⟩
  replace N_a := rowOf_below ((rowOf_alloc_past _ _ L_a).trans N_a) hbn (Nat.lt_trans L_a (by first | (simp; done) | (simp; omega)))
  replace N_b := rowOf_below ((rowOf_alloc_past _ _ L_b).trans N_b) hbn (Nat.lt_trans L_b (by first | (simp; done) | (simp; omega)))
  replace N_t := rowOf_below ((rowOf_alloc_past _ _ L_t).trans N_t) hbn (Nat.lt_trans L_t (by first | (simp; done) | (simp; omega)))
  replace N_x := rowOf_below ((rowOf_alloc_past _ _ L_x).trans N_x) hbn (Nat.lt_trans L_x (by first | (simp; done) | (simp; omega)))
  have N_y := rowOf_below (rowOf_alloc_at #[.int .i64 x0, .int .i64 x1, .int .i64 x2, .int .i64 x3, .int .i64 x4] 26 w4.heap.size rfl) hbn (by first | (simp; done) | (simp; omega))
  replace HB := Lib.hid ((HB.out.alloc HB.out.size (.cells #[.int .i64 x0, .int .i64 x1, .int .i64 x2, .int .i64 x3, .int .i64 x4] 26)).trans (hbn.mono (Nat.le_trans HB.out.size (by first | (simp; done) | (simp; omega)))))
  clear L_a L_b L_t L_x hbn
  have L_a := rowOf_lt N_a
  have L_b := rowOf_lt N_b
  have L_t := rowOf_lt N_t
  have L_x := rowOf_lt N_x
  have L_y := rowOf_lt N_y
  go_wp2_with fail
  refine (H5.out _).mono ?_
  rintro e w6 ⟨rfl, hbn⟩
  replace N_a := rowOf_below N_a hbn L_a
  replace N_b := rowOf_below N_b hbn L_b
  replace N_t := rowOf_below N_t hbn L_t
  replace N_x := rowOf_below N_x hbn L_x
  replace N_y := rowOf_below N_y hbn L_y
  replace HB := Lib.hid (HB.out.trans (hbn.mono HB.out.size))
  clear L_a L_b L_t L_x L_y hbn
  have L_a := rowOf_lt N_a
  have L_b := rowOf_lt N_b
  have L_t := rowOf_lt N_t
  have L_x := rowOf_lt N_x
  have L_y := rowOf_lt N_y
  go_wp2_with fail
  refine (H6.out _).mono ?_
  rintro e w7 ⟨rfl, hbn⟩
  replace N_a := rowOf_below ((rowOf_alloc_past _ _ L_a).trans N_a) hbn (Nat.lt_trans L_a (by first | (simp; done) | (simp; omega)))
  replace N_b := rowOf_below ((rowOf_alloc_past _ _ L_b).trans N_b) hbn (Nat.lt_trans L_b (by first | (simp; done) | (simp; omega)))
  replace N_t := rowOf_below ((rowOf_alloc_past _ _ L_t).trans N_t) hbn (Nat.lt_trans L_t (by first | (simp; done) | (simp; omega)))
  replace N_x := rowOf_below ((rowOf_alloc_past _ _ L_x).trans N_x) hbn (Nat.lt_trans L_x (by first | (simp; done) | (simp; omega)))
  replace N_y := rowOf_below ((rowOf_alloc_past _ _ L_y).trans N_y) hbn (Nat.lt_trans L_y (by first | (simp; done) | (simp; omega)))
  have N_g := rowOf_below (rowOf_alloc_at #[.int .i64 G0, .int .i64 G1, .int .i64 G2, .int .i64 G3, .int .i64 G4, .int .i64 G5, .int .i64 G6, .int .i64 G7, .int .i64 G8, .int .i64 G9, .int .i64 G10] 24 w6.heap.size rfl) hbn (by first | (simp; done) | (simp; omega))
  replace HB := Lib.hid ((HB.out.alloc HB.out.size (.cells #[.int .i64 G0, .int .i64 G1, .int .i64 G2, .int .i64 G3, .int .i64 G4, .int .i64 G5, .int .i64 G6, .int .i64 G7, .int .i64 G8, .int .i64 G9, .int .i64 G10] 24)).trans (hbn.mono (Nat.le_trans HB.out.size (by first | (simp; done) | (simp; omega)))))
  clear L_a L_b L_t L_x L_y hbn
  have L_a := rowOf_lt N_a
  have L_b := rowOf_lt N_b
  have L_t := rowOf_lt N_t
  have L_x := rowOf_lt N_x
  have L_y := rowOf_lt N_y
  have L_g := rowOf_lt N_g
  clear N_x N_y N_t L_x L_y L_t
  go_upto_region 10 with (fail)
  refine gen_world (fun W => rowOf W w.heap.size = some #[.int .i64 f, .int .i64 k, .int .i64 t, .int .i64 a0, .int .i64 a1, .int .i64 a2, .int .i64 a3, .int .i64 b0, .int .i64 b1, .int .i64 b2, .int .i64 b3] ∧ rowOf W (w.heap.size + 1) = some #[.int .i64 g, .int .i64 l, .int .i64 u, .int .i64 d0, .int .i64 d1, .int .i64 d2, .int .i64 d3, .int .i64 e0, .int .i64 e1, .int .i64 e2, .int .i64 e3] ∧ rowOf W w6.heap.size = some #[.int .i64 G0, .int .i64 G1, .int .i64 G2, .int .i64 G3, .int .i64 G4, .int .i64 G5, .int .i64 G6, .int .i64 G7, .int .i64 G8, .int .i64 G9, .int .i64 G10] ∧ rowOf W w7.heap.size = some #[.int .i64 G0, .int .i64 G1, .int .i64 G2, .int .i64 G3, .int .i64 G4, .int .i64 G5, .int .i64 G6, .int .i64 G7, .int .i64 G8, .int .i64 G9, .int .i64 G10] ∧ Below w.heap.size w W) ⟨(rowOf_alloc_past _ _ L_a).trans N_a, (rowOf_alloc_past _ _ L_b).trans N_b, (rowOf_alloc_past _ _ L_g).trans N_g, rowOf_alloc_at #[.int .i64 G0, .int .i64 G1, .int .i64 G2, .int .i64 G3, .int .i64 G4, .int .i64 G5, .int .i64 G6, .int .i64 G7, .int .i64 G8, .int .i64 G9, .int .i64 G10] 24 w7.heap.size rfl, HB.out.alloc HB.out.size _⟩ ?_
  clear N_a N_b N_g L_a L_b L_g HB
  rintro W ⟨N_a, N_b, N_g, N_h, hB⟩
  have HB := Lib.hid hB
  clear hB
  generalize w6.heap.size = bg at *
  generalize w7.heap.size = bh at *
  have a_b0 := fun p : Beh W => beh_cell (show W.cell? ⟨w.heap.size, 0, none⟩ = some (.int .i64 f) from rowOf_cell N_a 0) p
  have a_b1 := fun p : Beh W => beh_cell (show W.cell? ⟨w.heap.size, 1, none⟩ = some (.int .i64 k) from rowOf_cell N_a 1) p
  have a_b2 := fun p : Beh W => beh_cell (show W.cell? ⟨w.heap.size, 2, none⟩ = some (.int .i64 t) from rowOf_cell N_a 2) p
  have a_b3 := fun p : Beh W => beh_cell (show W.cell? ⟨w.heap.size, 3, none⟩ = some (.int .i64 a0) from rowOf_cell N_a 3) p
  have a_b4 := fun p : Beh W => beh_cell (show W.cell? ⟨w.heap.size, 4, none⟩ = some (.int .i64 a1) from rowOf_cell N_a 4) p
  have a_b5 := fun p : Beh W => beh_cell (show W.cell? ⟨w.heap.size, 5, none⟩ = some (.int .i64 a2) from rowOf_cell N_a 5) p
  have a_b6 := fun p : Beh W => beh_cell (show W.cell? ⟨w.heap.size, 6, none⟩ = some (.int .i64 a3) from rowOf_cell N_a 6) p
  have a_b7 := fun p : Beh W => beh_cell (show W.cell? ⟨w.heap.size, 7, none⟩ = some (.int .i64 b0) from rowOf_cell N_a 7) p
  have a_b8 := fun p : Beh W => beh_cell (show W.cell? ⟨w.heap.size, 8, none⟩ = some (.int .i64 b1) from rowOf_cell N_a 8) p
  have a_b9 := fun p : Beh W => beh_cell (show W.cell? ⟨w.heap.size, 9, none⟩ = some (.int .i64 b2) from rowOf_cell N_a 9) p
  have a_b10 := fun p : Beh W => beh_cell (show W.cell? ⟨w.heap.size, 10, none⟩ = some (.int .i64 b3) from rowOf_cell N_a 10) p
  have b_b0 := fun p : Beh W => beh_cell (show W.cell? ⟨(w.heap.size + 1), 0, none⟩ = some (.int .i64 g) from rowOf_cell N_b 0) p
  have b_b1 := fun p : Beh W => beh_cell (show W.cell? ⟨(w.heap.size + 1), 1, none⟩ = some (.int .i64 l) from rowOf_cell N_b 1) p
  have b_b2 := fun p : Beh W => beh_cell (show W.cell? ⟨(w.heap.size + 1), 2, none⟩ = some (.int .i64 u) from rowOf_cell N_b 2) p
  have b_b3 := fun p : Beh W => beh_cell (show W.cell? ⟨(w.heap.size + 1), 3, none⟩ = some (.int .i64 d0) from rowOf_cell N_b 3) p
  have b_b4 := fun p : Beh W => beh_cell (show W.cell? ⟨(w.heap.size + 1), 4, none⟩ = some (.int .i64 d1) from rowOf_cell N_b 4) p
  have b_b5 := fun p : Beh W => beh_cell (show W.cell? ⟨(w.heap.size + 1), 5, none⟩ = some (.int .i64 d2) from rowOf_cell N_b 5) p
  have b_b6 := fun p : Beh W => beh_cell (show W.cell? ⟨(w.heap.size + 1), 6, none⟩ = some (.int .i64 d3) from rowOf_cell N_b 6) p
  have b_b7 := fun p : Beh W => beh_cell (show W.cell? ⟨(w.heap.size + 1), 7, none⟩ = some (.int .i64 e0) from rowOf_cell N_b 7) p
  have b_b8 := fun p : Beh W => beh_cell (show W.cell? ⟨(w.heap.size + 1), 8, none⟩ = some (.int .i64 e1) from rowOf_cell N_b 8) p
  have b_b9 := fun p : Beh W => beh_cell (show W.cell? ⟨(w.heap.size + 1), 9, none⟩ = some (.int .i64 e2) from rowOf_cell N_b 9) p
  have b_b10 := fun p : Beh W => beh_cell (show W.cell? ⟨(w.heap.size + 1), 10, none⟩ = some (.int .i64 e3) from rowOf_cell N_b 10) p
  have g_b0 := fun p : Beh W => beh_cell (show W.cell? ⟨bg, 0, none⟩ = some (.int .i64 G0) from rowOf_cell N_g 0) p
  have g_b1 := fun p : Beh W => beh_cell (show W.cell? ⟨bg, 1, none⟩ = some (.int .i64 G1) from rowOf_cell N_g 1) p
  have g_b2 := fun p : Beh W => beh_cell (show W.cell? ⟨bg, 2, none⟩ = some (.int .i64 G2) from rowOf_cell N_g 2) p
  have g_b3 := fun p : Beh W => beh_cell (show W.cell? ⟨bg, 3, none⟩ = some (.int .i64 G3) from rowOf_cell N_g 3) p
  have g_b4 := fun p : Beh W => beh_cell (show W.cell? ⟨bg, 4, none⟩ = some (.int .i64 G4) from rowOf_cell N_g 4) p
  have g_b5 := fun p : Beh W => beh_cell (show W.cell? ⟨bg, 5, none⟩ = some (.int .i64 G5) from rowOf_cell N_g 5) p
  have g_b6 := fun p : Beh W => beh_cell (show W.cell? ⟨bg, 6, none⟩ = some (.int .i64 G6) from rowOf_cell N_g 6) p
  have g_b7 := fun p : Beh W => beh_cell (show W.cell? ⟨bg, 7, none⟩ = some (.int .i64 G7) from rowOf_cell N_g 7) p
  have g_b8 := fun p : Beh W => beh_cell (show W.cell? ⟨bg, 8, none⟩ = some (.int .i64 G8) from rowOf_cell N_g 8) p
  have g_b9 := fun p : Beh W => beh_cell (show W.cell? ⟨bg, 9, none⟩ = some (.int .i64 G9) from rowOf_cell N_g 9) p
  have g_b10 := fun p : Beh W => beh_cell (show W.cell? ⟨bg, 10, none⟩ = some (.int .i64 G10) from rowOf_cell N_g 10) p
  have h_b0 := fun p : Beh W => beh_cell (show W.cell? ⟨bh, 0, none⟩ = some (.int .i64 G0) from rowOf_cell N_h 0) p
  have h_b1 := fun p : Beh W => beh_cell (show W.cell? ⟨bh, 1, none⟩ = some (.int .i64 G1) from rowOf_cell N_h 1) p
  have h_b2 := fun p : Beh W => beh_cell (show W.cell? ⟨bh, 2, none⟩ = some (.int .i64 G2) from rowOf_cell N_h 2) p
  have h_b3 := fun p : Beh W => beh_cell (show W.cell? ⟨bh, 3, none⟩ = some (.int .i64 G3) from rowOf_cell N_h 3) p
  have h_b4 := fun p : Beh W => beh_cell (show W.cell? ⟨bh, 4, none⟩ = some (.int .i64 G4) from rowOf_cell N_h 4) p
  have h_b5 := fun p : Beh W => beh_cell (show W.cell? ⟨bh, 5, none⟩ = some (.int .i64 G5) from rowOf_cell N_h 5) p
  have h_b6 := fun p : Beh W => beh_cell (show W.cell? ⟨bh, 6, none⟩ = some (.int .i64 G6) from rowOf_cell N_h 6) p
  have h_b7 := fun p : Beh W => beh_cell (show W.cell? ⟨bh, 7, none⟩ = some (.int .i64 G7) from rowOf_cell N_h 7) p
  have h_b8 := fun p : Beh W => beh_cell (show W.cell? ⟨bh, 8, none⟩ = some (.int .i64 G8) from rowOf_cell N_h 8) p
  have h_b9 := fun p : Beh W => beh_cell (show W.cell? ⟨bh, 9, none⟩ = some (.int .i64 G9) from rowOf_cell N_h 9) p
  have h_b10 := fun p : Beh W => beh_cell (show W.cell? ⟨bh, 10, none⟩ = some (.int .i64 G10) from rowOf_cell N_h 10) p
  clear N_a N_b N_g N_h
  refine wp_region_beh (by kernel_rfl) (by kernel_rfl) ?_
  repeat (first | go_big_quiet_step (first | (with_reducible exact Calls.beh (H7.out _)) | (with_reducible exact Calls.beh (H8.out _))) | quiet_step (first | (with_reducible exact Calls.beh (H7.out _)) | (with_reducible exact Calls.beh (H8.out _))))
  refine wpQuiet_nil ?_
  intro _ hw'
  obtain ⟨p, hw''⟩ := hw'
  subst hw''
  have HX := Lib.hid (HB.out.trans (p.h.mono HB.out.size))
  clear a_b0 a_b1 a_b2 a_b3 a_b4 a_b5 a_b6 a_b7 a_b8 a_b9 a_b10 b_b0 b_b1 b_b2 b_b3 b_b4 b_b5 b_b6 b_b7 b_b8 b_b9 b_b10 g_b0 g_b1 g_b2 g_b3 g_b4 g_b5 g_b6 g_b7 g_b8 g_b9 g_b10 h_b0 h_b1 h_b2 h_b3 h_b4 h_b5 h_b6 h_b7 h_b8 h_b9 h_b10
  go_wp2
  go_returns
  exact ⟨ret_bool rfl, HX.out⟩
end Go.Proofs.Ytimfpbmlbihlnaa
