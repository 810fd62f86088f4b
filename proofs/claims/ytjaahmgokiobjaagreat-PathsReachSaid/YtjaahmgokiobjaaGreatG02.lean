import Derived.Test.YtjaahmgokiobjaaGreatG01
namespace Go.Proofs.YtjaahmgokiobjaaGreat
open Go.RowKit
set_option linter.unusedVariables false
set_option linter.unusedSimpArgs false

structure Own11 (w : World) (b : Nat) (h : HV) : Prop where
  l0 : w.cell? ⟨b, 0, none⟩ = some (.int .i64 h.f)
  l1 : w.cell? ⟨b, 1, none⟩ = some (.int .i64 h.k)
  l2 : w.cell? ⟨b, 2, none⟩ = some (.int .i64 h.t)
  l3 : w.cell? ⟨b, 3, none⟩ = some (.int .i64 h.a0)
  l4 : w.cell? ⟨b, 4, none⟩ = some (.int .i64 h.a1)
  l5 : w.cell? ⟨b, 5, none⟩ = some (.int .i64 h.a2)
  l6 : w.cell? ⟨b, 6, none⟩ = some (.int .i64 h.a3)
  l7 : w.cell? ⟨b, 7, none⟩ = some (.int .i64 h.b0)
  l8 : w.cell? ⟨b, 8, none⟩ = some (.int .i64 h.b1)
  l9 : w.cell? ⟨b, 9, none⟩ = some (.int .i64 h.b2)
  l10 : w.cell? ⟨b, 10, none⟩ = some (.int .i64 h.b3)
  q0 : w.frozen? ⟨b, 0, none⟩ = false
  q1 : w.frozen? ⟨b, 1, none⟩ = false
  q2 : w.frozen? ⟨b, 2, none⟩ = false
  q3 : w.frozen? ⟨b, 3, none⟩ = false
  q4 : w.frozen? ⟨b, 4, none⟩ = false
  q5 : w.frozen? ⟨b, 5, none⟩ = false
  q6 : w.frozen? ⟨b, 6, none⟩ = false
  q7 : w.frozen? ⟨b, 7, none⟩ = false
  q8 : w.frozen? ⟨b, 8, none⟩ = false
  q9 : w.frozen? ⟨b, 9, none⟩ = false
  q10 : w.frozen? ⟨b, 10, none⟩ = false
theorem Own11.below {W w1 : World} {B b : Nat} {h : HV} (g : Own11 W b h) (hb : Below B W w1) (hl : b < B) : Own11 w1 b h :=
  ⟨(hb.cell (p := ⟨b, 0, none⟩) hl).trans g.l0, (hb.cell (p := ⟨b, 1, none⟩) hl).trans g.l1, (hb.cell (p := ⟨b, 2, none⟩) hl).trans g.l2, (hb.cell (p := ⟨b, 3, none⟩) hl).trans g.l3, (hb.cell (p := ⟨b, 4, none⟩) hl).trans g.l4, (hb.cell (p := ⟨b, 5, none⟩) hl).trans g.l5, (hb.cell (p := ⟨b, 6, none⟩) hl).trans g.l6, (hb.cell (p := ⟨b, 7, none⟩) hl).trans g.l7, (hb.cell (p := ⟨b, 8, none⟩) hl).trans g.l8, (hb.cell (p := ⟨b, 9, none⟩) hl).trans g.l9, (hb.cell (p := ⟨b, 10, none⟩) hl).trans g.l10, (hb.frozen (p := ⟨b, 0, none⟩) hl).trans g.q0, (hb.frozen (p := ⟨b, 1, none⟩) hl).trans g.q1, (hb.frozen (p := ⟨b, 2, none⟩) hl).trans g.q2, (hb.frozen (p := ⟨b, 3, none⟩) hl).trans g.q3, (hb.frozen (p := ⟨b, 4, none⟩) hl).trans g.q4, (hb.frozen (p := ⟨b, 5, none⟩) hl).trans g.q5, (hb.frozen (p := ⟨b, 6, none⟩) hl).trans g.q6, (hb.frozen (p := ⟨b, 7, none⟩) hl).trans g.q7, (hb.frozen (p := ⟨b, 8, none⟩) hl).trans g.q8, (hb.frozen (p := ⟨b, 9, none⟩) hl).trans g.q9, (hb.frozen (p := ⟨b, 10, none⟩) hl).trans g.q10⟩
structure OwnT (w : World) (b : Nat) (h : TV) : Prop where
  l0 : w.cell? ⟨b, 0, none⟩ = some (.int .i64 h.d)
  l1 : w.cell? ⟨b, 1, none⟩ = some (.int .i64 h.c0)
  l2 : w.cell? ⟨b, 2, none⟩ = some (.int .i64 h.c1)
  l3 : w.cell? ⟨b, 3, none⟩ = some (.int .i64 h.c2)
  l4 : w.cell? ⟨b, 4, none⟩ = some (.int .i64 h.c3)
  q0 : w.frozen? ⟨b, 0, none⟩ = false
  q1 : w.frozen? ⟨b, 1, none⟩ = false
  q2 : w.frozen? ⟨b, 2, none⟩ = false
  q3 : w.frozen? ⟨b, 3, none⟩ = false
  q4 : w.frozen? ⟨b, 4, none⟩ = false
theorem OwnT.below {W w1 : World} {B b : Nat} {h : TV} (g : OwnT W b h) (hb : Below B W w1) (hl : b < B) : OwnT w1 b h :=
  ⟨(hb.cell (p := ⟨b, 0, none⟩) hl).trans g.l0, (hb.cell (p := ⟨b, 1, none⟩) hl).trans g.l1, (hb.cell (p := ⟨b, 2, none⟩) hl).trans g.l2, (hb.cell (p := ⟨b, 3, none⟩) hl).trans g.l3, (hb.cell (p := ⟨b, 4, none⟩) hl).trans g.l4, (hb.frozen (p := ⟨b, 0, none⟩) hl).trans g.q0, (hb.frozen (p := ⟨b, 1, none⟩) hl).trans g.q1, (hb.frozen (p := ⟨b, 2, none⟩) hl).trans g.q2, (hb.frozen (p := ⟨b, 3, none⟩) hl).trans g.q3, (hb.frozen (p := ⟨b, 4, none⟩) hl).trans g.q4⟩

def HV.shape (h : HV) : Prop := 1 ≤ h.f ∧ h.f ≤ 4 ∧ 0 ≤ h.k ∧ h.k ≤ h.f ∧ 0 ≤ h.t ∧ h.t ≤ 4
def HV.right (h : HV) : Prop := h.shape ∧ 1 ≤ h.k + h.t ∧ h.k + h.t ≤ 4 ∧ fitsP h.a0 h.a1 h.a2 h.a3 h.k ∧ fitsP h.b0 h.b1 h.b2 h.b3 h.t
instance (h : HV) : Decidable h.shape := by unfold HV.shape; infer_instance
instance (h : HV) : Decidable h.right := by unfold HV.right; infer_instance
def HV.rightB (h : HV) : Bool := decide h.right
theorem HV.not_right {h : HV} (n : ¬ h.right) : h.rightB = false := decide_eq_false n

set_option maxHeartbeats 4000000 in
theorem hopRight_no (h : HV) (hs : ¬ h.shape) (w : World) : Calls Tryz.prog 40 #[h.val] w (Ret (.bool false) w) := by
  obtain ⟨f, k, t, a0, a1, a2, a3, b0, b1, b2, b3⟩ := h
  have hc : f < 1 ∨ (1 ≤ f ∧ 4 < f) ∨ (1 ≤ f ∧ f ≤ 4 ∧ k < 0) ∨ (1 ≤ f ∧ f ≤ 4 ∧ 0 ≤ k ∧ f < k) ∨ (1 ≤ f ∧ f ≤ 4 ∧ 0 ≤ k ∧ k ≤ f ∧ t < 0) ∨ (1 ≤ f ∧ f ≤ 4 ∧ 0 ≤ k ∧ k ≤ f ∧ 0 ≤ t ∧ 4 < t) := by
    simp only [HV.shape] at hs; omega
  clear hs
  rcases hc with h1 | ⟨h1, h2⟩ | ⟨h1, h2, h3⟩ | ⟨h1, h2, h3, h4⟩ | ⟨h1, h2, h3, h4, h5⟩ | ⟨h1, h2, h3, h4, h5, h6⟩
  all_goals
    go_enter Tryz.func40, Tryz.ntmps40
    go_wp2
    go_returns
    exact ⟨rfl, by go_grown⟩

set_option maxHeartbeats 4000000 in
theorem hopRight_low (h : HV) (hs : h.shape) (hg : h.k + h.t < 1) (w : World) : Calls Tryz.prog 40 #[h.val] w (Ret (.bool false) w) := by
  have HG := Lib.hid (gives_any h hs.2.2.1 (by have := hs.2.1; have := hs.2.2.2.1; omega) hs.2.2.2.2.1 hs.2.2.2.2.2)
  obtain ⟨h1, h2, h3, h4, h5, h6⟩ := hs
  go_enter Tryz.func40, Tryz.ntmps40
  go_wp2_with fail
  refine (HG.out _).mono ?_
  rintro e w1 ⟨rfl, hb1⟩
  have hG : Below w.heap.size w w1 := bcall (by repeat' (first | (with_reducible refine below_drewN ?_ _) | go_grown)) hb1 (by first | go_size | (simp; omega))
  have hz := hG.size
  have N_h : Own11 w1 w.heap.size h := Own11.below (by constructor <;> go_cell) hb1 (by first | go_size | (simp; omega))
  have hB := hG
  have L_h : w.heap.size < w1.heap.size := World.block_lt_of_cell? _ _ N_h.l0
  have D_h : w.heap.size ≠ w1.heap.size := Nat.ne_of_lt L_h
  clear hb1 hG
  go_wp2
  go_returns
  exact ⟨rfl, by repeat' (first | (with_reducible refine below_drewN ?_ _) | go_grown)⟩

set_option maxHeartbeats 4000000 in
theorem hopRight_high (h : HV) (hs : h.shape) (hg : 4 < h.k + h.t) (w : World) : Calls Tryz.prog 40 #[h.val] w (Ret (.bool false) w) := by
  have HG := Lib.hid (gives_any h hs.2.2.1 (by have := hs.2.1; have := hs.2.2.2.1; omega) hs.2.2.2.2.1 hs.2.2.2.2.2)
  obtain ⟨h1, h2, h3, h4, h5, h6⟩ := hs
  go_enter Tryz.func40, Tryz.ntmps40
  go_wp2_with fail
  refine (HG.out _).mono ?_
  rintro e w1 ⟨rfl, hb1⟩
  have hG : Below w.heap.size w w1 := bcall (by repeat' (first | (with_reducible refine below_drewN ?_ _) | go_grown)) hb1 (by first | go_size | (simp; omega))
  have hz := hG.size
  have N_h : Own11 w1 w.heap.size h := Own11.below (by constructor <;> go_cell) hb1 (by first | go_size | (simp; omega))
  have hB := hG
  have L_h : w.heap.size < w1.heap.size := World.block_lt_of_cell? _ _ N_h.l0
  have D_h : w.heap.size ≠ w1.heap.size := Nat.ne_of_lt L_h
  clear hb1 hG
  have h_0 := N_h.l0; have h_1 := N_h.l1; have h_2 := N_h.l2; have h_3 := N_h.l3; have h_4 := N_h.l4; have h_5 := N_h.l5; have h_6 := N_h.l6; have h_7 := N_h.l7; have h_8 := N_h.l8; have h_9 := N_h.l9; have h_10 := N_h.l10
  go_wp2_with fail
  refine (HG.out _).mono ?_
  rintro e w2 ⟨rfl, hb2⟩
  have hG : Below w1.heap.size w1 w2 := bcall (by repeat' (first | (with_reducible refine below_drewN ?_ _) | go_grown)) hb2 (by first | go_size | (simp; omega))
  have hz := hG.size
  replace N_h := N_h.below hG L_h
  clear h_0 h_1 h_2 h_3 h_4 h_5 h_6 h_7 h_8 h_9 h_10
  replace hB := bcall hB hG hB.size
  clear D_h L_h
  have L_h : w.heap.size < w2.heap.size := World.block_lt_of_cell? _ _ N_h.l0
  have D_h : w.heap.size ≠ w2.heap.size := Nat.ne_of_lt L_h
  clear hb2 hG
  go_wp2
  go_returns
  exact ⟨rfl, by repeat' (first | (with_reducible refine below_drewN ?_ _) | go_grown)⟩

set_option maxHeartbeats 4000000 in
theorem hopRight_a (h : HV) (hs : h.shape) (hg1 : 1 ≤ h.k + h.t) (hg4 : h.k + h.t ≤ 4) (hA : fitsB h.a0 h.a1 h.a2 h.a3 h.k = false) (w : World) : Calls Tryz.prog 40 #[h.val] w (Ret (.bool false) w) := by
  have HG := Lib.hid (gives_any h hs.2.2.1 (by have := hs.2.1; have := hs.2.2.2.1; omega) hs.2.2.2.2.1 hs.2.2.2.2.2)
  have HA : Hid (∀ W, Calls Tryz.prog 73 #[.agg #[.int .i64 h.a0, .int .i64 h.a1, .int .i64 h.a2, .int .i64 h.a3], .int .i64 h.k] W (Ret (.bool false) W)) := fun W => by have q := fits_any h.a0 h.a1 h.a2 h.a3 h.k W; rw [show fitsB h.a0 h.a1 h.a2 h.a3 h.k = false from hA] at q; exact q
  obtain ⟨h1, h2, h3, h4, h5, h6⟩ := hs
  go_enter Tryz.func40, Tryz.ntmps40
  go_wp2_with fail
  refine (HG.out _).mono ?_
  rintro e w1 ⟨rfl, hb1⟩
  have hG : Below w.heap.size w w1 := bcall (by repeat' (first | (with_reducible refine below_drewN ?_ _) | go_grown)) hb1 (by first | go_size | (simp; omega))
  have hz := hG.size
  have N_h : Own11 w1 w.heap.size h := Own11.below (by constructor <;> go_cell) hb1 (by first | go_size | (simp; omega))
  have hB := hG
  have L_h : w.heap.size < w1.heap.size := World.block_lt_of_cell? _ _ N_h.l0
  have D_h : w.heap.size ≠ w1.heap.size := Nat.ne_of_lt L_h
  clear hb1 hG
  have h_0 := N_h.l0; have h_1 := N_h.l1; have h_2 := N_h.l2; have h_3 := N_h.l3; have h_4 := N_h.l4; have h_5 := N_h.l5; have h_6 := N_h.l6; have h_7 := N_h.l7; have h_8 := N_h.l8; have h_9 := N_h.l9; have h_10 := N_h.l10
  go_wp2_with fail
  refine (HG.out _).mono ?_
  rintro e w2 ⟨rfl, hb2⟩
  have hG : Below w1.heap.size w1 w2 := bcall (by repeat' (first | (with_reducible refine below_drewN ?_ _) | go_grown)) hb2 (by first | go_size | (simp; omega))
  have hz := hG.size
  replace N_h := N_h.below hG L_h
  clear h_0 h_1 h_2 h_3 h_4 h_5 h_6 h_7 h_8 h_9 h_10
  replace hB := bcall hB hG hB.size
  clear D_h L_h
  have L_h : w.heap.size < w2.heap.size := World.block_lt_of_cell? _ _ N_h.l0
  have D_h : w.heap.size ≠ w2.heap.size := Nat.ne_of_lt L_h
  clear hb2 hG
  have h_0 := N_h.l0; have h_1 := N_h.l1; have h_2 := N_h.l2; have h_3 := N_h.l3; have h_4 := N_h.l4; have h_5 := N_h.l5; have h_6 := N_h.l6; have h_7 := N_h.l7; have h_8 := N_h.l8; have h_9 := N_h.l9; have h_10 := N_h.l10
  go_wp2_with fail
  refine (HA.out _).mono ?_
  rintro e w3 ⟨rfl, hb3⟩
  have hG : Below w2.heap.size w2 w3 := bcall (by repeat' (first | (with_reducible refine below_drewN ?_ _) | go_grown)) hb3 (by first | go_size | (simp; omega))
  have hz := hG.size
  replace N_h := N_h.below hG L_h
  clear h_0 h_1 h_2 h_3 h_4 h_5 h_6 h_7 h_8 h_9 h_10
  replace hB := bcall hB hG hB.size
  clear D_h L_h
  have L_h : w.heap.size < w3.heap.size := World.block_lt_of_cell? _ _ N_h.l0
  have D_h : w.heap.size ≠ w3.heap.size := Nat.ne_of_lt L_h
  clear hb3 hG
  go_wp2
  go_returns
  exact ⟨rfl, by repeat' (first | (with_reducible refine below_drewN ?_ _) | go_grown)⟩

set_option maxHeartbeats 4000000 in
theorem hopRight_t (h : HV) (hs : h.shape) (hg1 : 1 ≤ h.k + h.t) (hg4 : h.k + h.t ≤ 4) (hA : fitsB h.a0 h.a1 h.a2 h.a3 h.k = true) (hT : fitsB h.b0 h.b1 h.b2 h.b3 h.t = false) (w : World) : Calls Tryz.prog 40 #[h.val] w (Ret (.bool false) w) := by
  have HG := Lib.hid (gives_any h hs.2.2.1 (by have := hs.2.1; have := hs.2.2.2.1; omega) hs.2.2.2.2.1 hs.2.2.2.2.2)
  have HA : Hid (∀ W, Calls Tryz.prog 73 #[.agg #[.int .i64 h.a0, .int .i64 h.a1, .int .i64 h.a2, .int .i64 h.a3], .int .i64 h.k] W (Ret (.bool true) W)) := fun W => by have q := fits_any h.a0 h.a1 h.a2 h.a3 h.k W; rw [show fitsB h.a0 h.a1 h.a2 h.a3 h.k = true from hA] at q; exact q
  have HT : Hid (∀ W, Calls Tryz.prog 73 #[.agg #[.int .i64 h.b0, .int .i64 h.b1, .int .i64 h.b2, .int .i64 h.b3], .int .i64 h.t] W (Ret (.bool false) W)) := fun W => by have q := fits_any h.b0 h.b1 h.b2 h.b3 h.t W; rw [show fitsB h.b0 h.b1 h.b2 h.b3 h.t = false from hT] at q; exact q
  obtain ⟨h1, h2, h3, h4, h5, h6⟩ := hs
  go_enter Tryz.func40, Tryz.ntmps40
  go_wp2_with fail
  refine (HG.out _).mono ?_
  rintro e w1 ⟨rfl, hb1⟩
  have hG : Below w.heap.size w w1 := bcall (by repeat' (first | (with_reducible refine below_drewN ?_ _) | go_grown)) hb1 (by first | go_size | (simp; omega))
  have hz := hG.size
  have N_h : Own11 w1 w.heap.size h := Own11.below (by constructor <;> go_cell) hb1 (by first | go_size | (simp; omega))
  have hB := hG
  have L_h : w.heap.size < w1.heap.size := World.block_lt_of_cell? _ _ N_h.l0
  have D_h : w.heap.size ≠ w1.heap.size := Nat.ne_of_lt L_h
  clear hb1 hG
  have h_0 := N_h.l0; have h_1 := N_h.l1; have h_2 := N_h.l2; have h_3 := N_h.l3; have h_4 := N_h.l4; have h_5 := N_h.l5; have h_6 := N_h.l6; have h_7 := N_h.l7; have h_8 := N_h.l8; have h_9 := N_h.l9; have h_10 := N_h.l10
  go_wp2_with fail
  refine (HG.out _).mono ?_
  rintro e w2 ⟨rfl, hb2⟩
  have hG : Below w1.heap.size w1 w2 := bcall (by repeat' (first | (with_reducible refine below_drewN ?_ _) | go_grown)) hb2 (by first | go_size | (simp; omega))
  have hz := hG.size
  replace N_h := N_h.below hG L_h
  clear h_0 h_1 h_2 h_3 h_4 h_5 h_6 h_7 h_8 h_9 h_10
  replace hB := bcall hB hG hB.size
  clear D_h L_h
  have L_h : w.heap.size < w2.heap.size := World.block_lt_of_cell? _ _ N_h.l0
  have D_h : w.heap.size ≠ w2.heap.size := Nat.ne_of_lt L_h
  clear hb2 hG
  have h_0 := N_h.l0; have h_1 := N_h.l1; have h_2 := N_h.l2; have h_3 := N_h.l3; have h_4 := N_h.l4; have h_5 := N_h.l5; have h_6 := N_h.l6; have h_7 := N_h.l7; have h_8 := N_h.l8; have h_9 := N_h.l9; have h_10 := N_h.l10
  go_wp2_with fail
  refine (HA.out _).mono ?_
  rintro e w3 ⟨rfl, hb3⟩
  have hG : Below w2.heap.size w2 w3 := bcall (by repeat' (first | (with_reducible refine below_drewN ?_ _) | go_grown)) hb3 (by first | go_size | (simp; omega))
  have hz := hG.size
  replace N_h := N_h.below hG L_h
  clear h_0 h_1 h_2 h_3 h_4 h_5 h_6 h_7 h_8 h_9 h_10
  replace hB := bcall hB hG hB.size
  clear D_h L_h
  have L_h : w.heap.size < w3.heap.size := World.block_lt_of_cell? _ _ N_h.l0
  have D_h : w.heap.size ≠ w3.heap.size := Nat.ne_of_lt L_h
  clear hb3 hG
  have h_0 := N_h.l0; have h_1 := N_h.l1; have h_2 := N_h.l2; have h_3 := N_h.l3; have h_4 := N_h.l4; have h_5 := N_h.l5; have h_6 := N_h.l6; have h_7 := N_h.l7; have h_8 := N_h.l8; have h_9 := N_h.l9; have h_10 := N_h.l10
  go_wp2_with fail
  refine (HT.out _).mono ?_
  rintro e w4 ⟨rfl, hb4⟩
  have hG : Below w3.heap.size w3 w4 := bcall (by repeat' (first | (with_reducible refine below_drewN ?_ _) | go_grown)) hb4 (by first | go_size | (simp; omega))
  have hz := hG.size
  replace N_h := N_h.below hG L_h
  clear h_0 h_1 h_2 h_3 h_4 h_5 h_6 h_7 h_8 h_9 h_10
  replace hB := bcall hB hG hB.size
  clear D_h L_h
  have L_h : w.heap.size < w4.heap.size := World.block_lt_of_cell? _ _ N_h.l0
  have D_h : w.heap.size ≠ w4.heap.size := Nat.ne_of_lt L_h
  clear hb4 hG
  go_wp2
  go_returns
  exact ⟨rfl, by repeat' (first | (with_reducible refine below_drewN ?_ _) | go_grown)⟩

set_option maxHeartbeats 4000000 in
theorem hopRight_yes (h : HV) (hs : h.shape) (hg1 : 1 ≤ h.k + h.t) (hg4 : h.k + h.t ≤ 4) (hA : fitsB h.a0 h.a1 h.a2 h.a3 h.k = true) (hT : fitsB h.b0 h.b1 h.b2 h.b3 h.t = true) (w : World) : Calls Tryz.prog 40 #[h.val] w (Ret (.bool true) w) := by
  have HG := Lib.hid (gives_any h hs.2.2.1 (by have := hs.2.1; have := hs.2.2.2.1; omega) hs.2.2.2.2.1 hs.2.2.2.2.2)
  have HA : Hid (∀ W, Calls Tryz.prog 73 #[.agg #[.int .i64 h.a0, .int .i64 h.a1, .int .i64 h.a2, .int .i64 h.a3], .int .i64 h.k] W (Ret (.bool true) W)) := fun W => by have q := fits_any h.a0 h.a1 h.a2 h.a3 h.k W; rw [show fitsB h.a0 h.a1 h.a2 h.a3 h.k = true from hA] at q; exact q
  have HT : Hid (∀ W, Calls Tryz.prog 73 #[.agg #[.int .i64 h.b0, .int .i64 h.b1, .int .i64 h.b2, .int .i64 h.b3], .int .i64 h.t] W (Ret (.bool true) W)) := fun W => by have q := fits_any h.b0 h.b1 h.b2 h.b3 h.t W; rw [show fitsB h.b0 h.b1 h.b2 h.b3 h.t = true from hT] at q; exact q
  obtain ⟨h1, h2, h3, h4, h5, h6⟩ := hs
  go_enter Tryz.func40, Tryz.ntmps40
  go_wp2_with fail
  refine (HG.out _).mono ?_
  rintro e w1 ⟨rfl, hb1⟩
  have hG : Below w.heap.size w w1 := bcall (by repeat' (first | (with_reducible refine below_drewN ?_ _) | go_grown)) hb1 (by first | go_size | (simp; omega))
  have hz := hG.size
  have N_h : Own11 w1 w.heap.size h := Own11.below (by constructor <;> go_cell) hb1 (by first | go_size | (simp; omega))
  have hB := hG
  have L_h : w.heap.size < w1.heap.size := World.block_lt_of_cell? _ _ N_h.l0
  have D_h : w.heap.size ≠ w1.heap.size := Nat.ne_of_lt L_h
  clear hb1 hG
  have h_0 := N_h.l0; have h_1 := N_h.l1; have h_2 := N_h.l2; have h_3 := N_h.l3; have h_4 := N_h.l4; have h_5 := N_h.l5; have h_6 := N_h.l6; have h_7 := N_h.l7; have h_8 := N_h.l8; have h_9 := N_h.l9; have h_10 := N_h.l10
  go_wp2_with fail
  refine (HG.out _).mono ?_
  rintro e w2 ⟨rfl, hb2⟩
  have hG : Below w1.heap.size w1 w2 := bcall (by repeat' (first | (with_reducible refine below_drewN ?_ _) | go_grown)) hb2 (by first | go_size | (simp; omega))
  have hz := hG.size
  replace N_h := N_h.below hG L_h
  clear h_0 h_1 h_2 h_3 h_4 h_5 h_6 h_7 h_8 h_9 h_10
  replace hB := bcall hB hG hB.size
  clear D_h L_h
  have L_h : w.heap.size < w2.heap.size := World.block_lt_of_cell? _ _ N_h.l0
  have D_h : w.heap.size ≠ w2.heap.size := Nat.ne_of_lt L_h
  clear hb2 hG
  have h_0 := N_h.l0; have h_1 := N_h.l1; have h_2 := N_h.l2; have h_3 := N_h.l3; have h_4 := N_h.l4; have h_5 := N_h.l5; have h_6 := N_h.l6; have h_7 := N_h.l7; have h_8 := N_h.l8; have h_9 := N_h.l9; have h_10 := N_h.l10
  go_wp2_with fail
  refine (HA.out _).mono ?_
  rintro e w3 ⟨rfl, hb3⟩
  have hG : Below w2.heap.size w2 w3 := bcall (by repeat' (first | (with_reducible refine below_drewN ?_ _) | go_grown)) hb3 (by first | go_size | (simp; omega))
  have hz := hG.size
  replace N_h := N_h.below hG L_h
  clear h_0 h_1 h_2 h_3 h_4 h_5 h_6 h_7 h_8 h_9 h_10
  replace hB := bcall hB hG hB.size
  clear D_h L_h
  have L_h : w.heap.size < w3.heap.size := World.block_lt_of_cell? _ _ N_h.l0
  have D_h : w.heap.size ≠ w3.heap.size := Nat.ne_of_lt L_h
  clear hb3 hG
  have h_0 := N_h.l0; have h_1 := N_h.l1; have h_2 := N_h.l2; have h_3 := N_h.l3; have h_4 := N_h.l4; have h_5 := N_h.l5; have h_6 := N_h.l6; have h_7 := N_h.l7; have h_8 := N_h.l8; have h_9 := N_h.l9; have h_10 := N_h.l10
  go_wp2_with fail
  refine (HT.out _).mono ?_
  rintro e w4 ⟨rfl, hb4⟩
  have hG : Below w3.heap.size w3 w4 := bcall (by repeat' (first | (with_reducible refine below_drewN ?_ _) | go_grown)) hb4 (by first | go_size | (simp; omega))
  have hz := hG.size
  replace N_h := N_h.below hG L_h
  clear h_0 h_1 h_2 h_3 h_4 h_5 h_6 h_7 h_8 h_9 h_10
  replace hB := bcall hB hG hB.size
  clear D_h L_h
  have L_h : w.heap.size < w4.heap.size := World.block_lt_of_cell? _ _ N_h.l0
  have D_h : w.heap.size ≠ w4.heap.size := Nat.ne_of_lt L_h
  clear hb4 hG
  go_wp2
  go_returns
  exact ⟨rfl, by repeat' (first | (with_reducible refine below_drewN ?_ _) | go_grown)⟩

theorem hopRight_any (h : HV) (w : World) : Calls Tryz.prog 40 #[h.val] w (Ret (.bool h.rightB) w) := by
  by_cases hs : h.shape
  · by_cases h1 : h.k + h.t < 1
    · rw [HV.not_right (fun r => by have := r.2.1; omega)]; exact hopRight_low h hs h1 w
    · by_cases h4 : 4 < h.k + h.t
      · rw [HV.not_right (fun r => by have := r.2.2.1; omega)]; exact hopRight_high h hs h4 w
      · cases hA : fitsB h.a0 h.a1 h.a2 h.a3 h.k
        · rw [HV.not_right (fun r => of_decide_eq_false hA r.2.2.2.1)]; exact hopRight_a h hs (by omega) (by omega) hA w
        · cases hT : fitsB h.b0 h.b1 h.b2 h.b3 h.t
          · rw [HV.not_right (fun r => of_decide_eq_false hT r.2.2.2.2)]; exact hopRight_t h hs (by omega) (by omega) hA hT w
          · rw [show h.rightB = true from decide_eq_true ⟨hs, by omega, by omega, of_decide_eq_true hA, of_decide_eq_true hT⟩]; exact hopRight_yes h hs (by omega) (by omega) hA hT w
  · rw [HV.not_right (fun r => hs r.1)]; exact hopRight_no h hs w

def HV.gate (ok : Bool) (h : HV) : HV := if ok then h else HV.zero
abbrev hopV (ok : Bool) (h : HV) : Value := .tuple #[(HV.gate ok h).val, .bool ok]
set_option maxHeartbeats 4000000 in
theorem ifRight_false (h : HV) (hr : h.rightB = false) (w : World) : Calls Tryz.prog 59 #[h.val] w (Ret (hopV false h) w) := by
  have HR : Hid (∀ W, Calls Tryz.prog 40 #[h.val] W (Ret (.bool false) W)) := fun W => by have q := hopRight_any h W; rw [hr] at q; exact q
  clear hr
  go_enter Tryz.func59, Tryz.ntmps59
  go_wp2_with fail
  refine (HR.out _).mono ?_
  rintro e w1 ⟨rfl, hb1⟩
  have hG : Below w.heap.size w w1 := bcall (by repeat' (first | (with_reducible refine below_drewN ?_ _) | go_grown)) hb1 (by first | go_size | (simp; omega))
  have hz := hG.size
  have N_h : Own11 w1 w.heap.size h := Own11.below (by constructor <;> go_cell) hb1 (by first | go_size | (simp; omega))
  have N_r : Own11 w1 (w.heap.size + 1) (HV.mk 0 0 0 0 0 0 0 0 0 0 0) := Own11.below (by constructor <;> go_cell) hb1 (by first | go_size | (simp; omega))
  have hB := hG
  have L_h : w.heap.size < w1.heap.size := World.block_lt_of_cell? _ _ N_h.l0
  have D_h : w.heap.size ≠ w1.heap.size := Nat.ne_of_lt L_h
  have L_r : (w.heap.size + 1) < w1.heap.size := World.block_lt_of_cell? _ _ N_r.l0
  have D_r : (w.heap.size + 1) ≠ w1.heap.size := Nat.ne_of_lt L_r
  clear hb1 hG
  have h_0 := N_h.l0; have h_1 := N_h.l1; have h_2 := N_h.l2; have h_3 := N_h.l3; have h_4 := N_h.l4; have h_5 := N_h.l5; have h_6 := N_h.l6; have h_7 := N_h.l7; have h_8 := N_h.l8; have h_9 := N_h.l9; have h_10 := N_h.l10
  have h_f0 := N_h.q0; have h_f1 := N_h.q1; have h_f2 := N_h.q2; have h_f3 := N_h.q3; have h_f4 := N_h.q4; have h_f5 := N_h.q5; have h_f6 := N_h.q6; have h_f7 := N_h.q7; have h_f8 := N_h.q8; have h_f9 := N_h.q9; have h_f10 := N_h.q10
  have r_0 := N_r.l0; have r_1 := N_r.l1; have r_2 := N_r.l2; have r_3 := N_r.l3; have r_4 := N_r.l4; have r_5 := N_r.l5; have r_6 := N_r.l6; have r_7 := N_r.l7; have r_8 := N_r.l8; have r_9 := N_r.l9; have r_10 := N_r.l10
  have r_f0 := N_r.q0; have r_f1 := N_r.q1; have r_f2 := N_r.q2; have r_f3 := N_r.q3; have r_f4 := N_r.q4; have r_f5 := N_r.q5; have r_f6 := N_r.q6; have r_f7 := N_r.q7; have r_f8 := N_r.q8; have r_f9 := N_r.q9; have r_f10 := N_r.q10
  go_wp2
  exact bodyPost_ret (v := hopV false h) (by simp [results, Tryz.results59, go_sem, r_0, r_1, r_2, r_3, r_4, r_5, r_6, r_7, r_8, r_9, r_10]; first | rfl | exact ⟨rfl, rfl, rfl, rfl, rfl, rfl, rfl, rfl, rfl, rfl, rfl⟩) rfl ⟨rfl, by repeat' (first | (with_reducible refine below_drewN ?_ _) | go_grown)⟩

set_option maxHeartbeats 4000000 in
theorem ifRight_true (h : HV) (hr : h.rightB = true) (w : World) : Calls Tryz.prog 59 #[h.val] w (Ret (hopV true h) w) := by
  have HR : Hid (∀ W, Calls Tryz.prog 40 #[h.val] W (Ret (.bool true) W)) := fun W => by have q := hopRight_any h W; rw [hr] at q; exact q
  clear hr
  go_enter Tryz.func59, Tryz.ntmps59
  go_wp2_with fail
  refine (HR.out _).mono ?_
  rintro e w1 ⟨rfl, hb1⟩
  have hG : Below w.heap.size w w1 := bcall (by repeat' (first | (with_reducible refine below_drewN ?_ _) | go_grown)) hb1 (by first | go_size | (simp; omega))
  have hz := hG.size
  have N_h : Own11 w1 w.heap.size h := Own11.below (by constructor <;> go_cell) hb1 (by first | go_size | (simp; omega))
  have N_r : Own11 w1 (w.heap.size + 1) (HV.mk 0 0 0 0 0 0 0 0 0 0 0) := Own11.below (by constructor <;> go_cell) hb1 (by first | go_size | (simp; omega))
  have hB := hG
  have L_h : w.heap.size < w1.heap.size := World.block_lt_of_cell? _ _ N_h.l0
  have D_h : w.heap.size ≠ w1.heap.size := Nat.ne_of_lt L_h
  have L_r : (w.heap.size + 1) < w1.heap.size := World.block_lt_of_cell? _ _ N_r.l0
  have D_r : (w.heap.size + 1) ≠ w1.heap.size := Nat.ne_of_lt L_r
  clear hb1 hG
  have h_0 := N_h.l0; have h_1 := N_h.l1; have h_2 := N_h.l2; have h_3 := N_h.l3; have h_4 := N_h.l4; have h_5 := N_h.l5; have h_6 := N_h.l6; have h_7 := N_h.l7; have h_8 := N_h.l8; have h_9 := N_h.l9; have h_10 := N_h.l10
  have h_f0 := N_h.q0; have h_f1 := N_h.q1; have h_f2 := N_h.q2; have h_f3 := N_h.q3; have h_f4 := N_h.q4; have h_f5 := N_h.q5; have h_f6 := N_h.q6; have h_f7 := N_h.q7; have h_f8 := N_h.q8; have h_f9 := N_h.q9; have h_f10 := N_h.q10
  have r_0 := N_r.l0; have r_1 := N_r.l1; have r_2 := N_r.l2; have r_3 := N_r.l3; have r_4 := N_r.l4; have r_5 := N_r.l5; have r_6 := N_r.l6; have r_7 := N_r.l7; have r_8 := N_r.l8; have r_9 := N_r.l9; have r_10 := N_r.l10
  have r_f0 := N_r.q0; have r_f1 := N_r.q1; have r_f2 := N_r.q2; have r_f3 := N_r.q3; have r_f4 := N_r.q4; have r_f5 := N_r.q5; have r_f6 := N_r.q6; have r_f7 := N_r.q7; have r_f8 := N_r.q8; have r_f9 := N_r.q9; have r_f10 := N_r.q10
  go_wp2
  exact bodyPost_ret (v := hopV true h) (by simp [results, Tryz.results59, go_sem, r_0, r_1, r_2, r_3, r_4, r_5, r_6, r_7, r_8, r_9, r_10]; first | rfl | exact ⟨rfl, rfl, rfl, rfl, rfl, rfl, rfl, rfl, rfl, rfl, rfl⟩) rfl ⟨rfl, by repeat' (first | (with_reducible refine below_drewN ?_ _) | go_grown)⟩

theorem ifRight_any (h : HV) (w : World) : Calls Tryz.prog 59 #[h.val] w (Ret (hopV h.rightB h) w) := by
  cases hr : h.rightB
  · exact ifRight_false h hr w
  · exact ifRight_true h hr w
end Go.Proofs.YtjaahmgokiobjaaGreat
