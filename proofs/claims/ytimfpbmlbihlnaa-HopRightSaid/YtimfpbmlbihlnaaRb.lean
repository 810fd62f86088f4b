import Derived.Test.YtimfpbmlbihlnaaRa
namespace Go.Proofs.Ytimfpbmlbihlnaa
open Go.RowKit
set_option linter.unusedVariables false
set_option linter.unusedSimpArgs false

def coords (d c0 c1 c2 c3 : Int) : List Int := [c0, c1, c2, c3].take d.toNat
def ListPost (d c0 c1 c2 c3 : Int) (w : World) (e : Ending) (w' : World) : Prop :=
  (rightB d c0 c1 c2 c3 = true ∧ ∃ v, e = .returned (.tuple #[v, .bool true]) ∧ OwnI (w.heap.size + 1) w' v (coords d c0 c1 c2 c3) ∧ Below w.heap.size w w') ∨
  (rightB d c0 c1 c2 c3 = false ∧ e = .returned (.tuple #[.slice none 0 0, .bool false]) ∧ Below w.heap.size w w')
theorem right_no {d c0 c1 c2 c3 : Int} (h : ¬ rightP d c0 c1 c2 c3) : rightB d c0 c1 c2 c3 = false := decide_eq_false h

set_option maxHeartbeats 4000000 in
theorem list_1 (c0 c1 c2 c3 : Int) (w : World) : Calls Try.prog 18 #[.agg #[.int .i64 1, .int .i64 c0, .int .i64 c1, .int .i64 c2, .int .i64 c3]] w (ListPost 1 c0 c1 c2 c3 w) := by
  go_enter Try.func18, Try.ntmps18
  go_wp2
  refine gen_world (Gath w w.heap.size (w.heap.size + 1) 1 c0 c1 c2 c3 (.slice none 0 0) []) ⟨by repeat' (first | (with_reducible refine below_drewN ?_ _) | go_grown), Own5.new _ _ _ _ _ _ _, World.ownsRow_nil _ _ _ _, Nat.le_refl _, by omega, by simp⟩ ?_
  intro wr G
  refine wp_loop_rounds 5 ?_
  obtain ⟨p0, p1, p2, p3, p4, q0, q1, q2, q3, q4⟩ := G.box
  by_cases hl0 : c0 < 0
  · rw [rounds_succ]; go_wp2
    go_returns
    exact Or.inr ⟨right_no (fun h => by simp [rightP, greatestS] at h; omega), rfl, G.below⟩
  by_cases hu0 : 1048576 < c0
  · rw [rounds_succ]; go_wp2
    go_returns
    exact Or.inr ⟨right_no (fun h => by simp [rightP, greatestS] at h; omega), rfl, G.below⟩
  rw [rounds_succ]
  go_wp2_with (at_builtin; refine Gath.append G rfl _ _ rfl rfl c0 _ rfl (by simp) ?_; intro v0 w0 G0)
  clear p0 p1 p2 p3 p4 q0 q1 q2 q3 q4
  obtain ⟨p0, p1, p2, p3, p4, q0, q1, q2, q3, q4⟩ := G0.box
  by_cases hz1 : (c1 != 0) = true
  · rw [rounds_succ]; go_wp2
    go_returns
    exact Or.inr ⟨right_no (fun h => by simp [rightP, greatestS] at h hz1; omega), rfl, G0.below⟩
  replace hz1 : (c1 != 0) = false := by simpa using hz1
  rw [rounds_succ]; go_wp2
  clear p0 p1 p2 p3 p4 q0 q1 q2 q3 q4
  obtain ⟨p0, p1, p2, p3, p4, q0, q1, q2, q3, q4⟩ := G0.box
  by_cases hz2 : (c2 != 0) = true
  · rw [rounds_succ]; go_wp2
    go_returns
    exact Or.inr ⟨right_no (fun h => by simp [rightP, greatestS] at h hz2; omega), rfl, G0.below⟩
  replace hz2 : (c2 != 0) = false := by simpa using hz2
  rw [rounds_succ]; go_wp2
  clear p0 p1 p2 p3 p4 q0 q1 q2 q3 q4
  obtain ⟨p0, p1, p2, p3, p4, q0, q1, q2, q3, q4⟩ := G0.box
  by_cases hz3 : (c3 != 0) = true
  · rw [rounds_succ]; go_wp2
    go_returns
    exact Or.inr ⟨right_no (fun h => by simp [rightP, greatestS] at h hz3; omega), rfl, G0.below⟩
  replace hz3 : (c3 != 0) = false := by simpa using hz3
  rw [rounds_succ]; go_wp2
  clear p0 p1 p2 p3 p4 q0 q1 q2 q3 q4
  rw [rounds_succ]; go_wp2
  go_returns
  have y1 : c1 = 0 := by simpa using hz1
  have y2 : c2 = 0 := by simpa using hz2
  have y3 : c3 = 0 := by simpa using hz3
  exact Or.inl ⟨decide_eq_true (by simp [rightP, greatestS]; omega), _, rfl, by simpa [coords] using G0.own, G0.below⟩

set_option maxHeartbeats 4000000 in
theorem list_2 (c0 c1 c2 c3 : Int) (w : World) : Calls Try.prog 18 #[.agg #[.int .i64 2, .int .i64 c0, .int .i64 c1, .int .i64 c2, .int .i64 c3]] w (ListPost 2 c0 c1 c2 c3 w) := by
  go_enter Try.func18, Try.ntmps18
  go_wp2
  refine gen_world (Gath w w.heap.size (w.heap.size + 1) 2 c0 c1 c2 c3 (.slice none 0 0) []) ⟨by repeat' (first | (with_reducible refine below_drewN ?_ _) | go_grown), Own5.new _ _ _ _ _ _ _, World.ownsRow_nil _ _ _ _, Nat.le_refl _, by omega, by simp⟩ ?_
  intro wr G
  refine wp_loop_rounds 5 ?_
  obtain ⟨p0, p1, p2, p3, p4, q0, q1, q2, q3, q4⟩ := G.box
  by_cases hl0 : c0 < 0
  · rw [rounds_succ]; go_wp2
    go_returns
    exact Or.inr ⟨right_no (fun h => by simp [rightP, greatestS] at h; omega), rfl, G.below⟩
  by_cases hu0 : 1048576 < c0
  · rw [rounds_succ]; go_wp2
    go_returns
    exact Or.inr ⟨right_no (fun h => by simp [rightP, greatestS] at h; omega), rfl, G.below⟩
  rw [rounds_succ]
  go_wp2_with (at_builtin; refine Gath.append G rfl _ _ rfl rfl c0 _ rfl (by simp) ?_; intro v0 w0 G0)
  clear p0 p1 p2 p3 p4 q0 q1 q2 q3 q4
  obtain ⟨p0, p1, p2, p3, p4, q0, q1, q2, q3, q4⟩ := G0.box
  by_cases hl1 : c1 < 0
  · rw [rounds_succ]; go_wp2
    go_returns
    exact Or.inr ⟨right_no (fun h => by simp [rightP, greatestS] at h; omega), rfl, G0.below⟩
  by_cases hu1 : 64 < c1
  · rw [rounds_succ]; go_wp2
    go_returns
    exact Or.inr ⟨right_no (fun h => by simp [rightP, greatestS] at h; omega), rfl, G0.below⟩
  rw [rounds_succ]
  go_wp2_with (at_builtin; refine Gath.append G0 rfl _ _ rfl rfl c1 _ rfl (by simp) ?_; intro v1 w1 G1)
  clear p0 p1 p2 p3 p4 q0 q1 q2 q3 q4
  obtain ⟨p0, p1, p2, p3, p4, q0, q1, q2, q3, q4⟩ := G1.box
  by_cases hz2 : (c2 != 0) = true
  · rw [rounds_succ]; go_wp2
    go_returns
    exact Or.inr ⟨right_no (fun h => by simp [rightP, greatestS] at h hz2; omega), rfl, G1.below⟩
  replace hz2 : (c2 != 0) = false := by simpa using hz2
  rw [rounds_succ]; go_wp2
  clear p0 p1 p2 p3 p4 q0 q1 q2 q3 q4
  obtain ⟨p0, p1, p2, p3, p4, q0, q1, q2, q3, q4⟩ := G1.box
  by_cases hz3 : (c3 != 0) = true
  · rw [rounds_succ]; go_wp2
    go_returns
    exact Or.inr ⟨right_no (fun h => by simp [rightP, greatestS] at h hz3; omega), rfl, G1.below⟩
  replace hz3 : (c3 != 0) = false := by simpa using hz3
  rw [rounds_succ]; go_wp2
  clear p0 p1 p2 p3 p4 q0 q1 q2 q3 q4
  rw [rounds_succ]; go_wp2
  go_returns
  have y2 : c2 = 0 := by simpa using hz2
  have y3 : c3 = 0 := by simpa using hz3
  exact Or.inl ⟨decide_eq_true (by simp [rightP, greatestS]; omega), _, rfl, by simpa [coords] using G1.own, G1.below⟩

set_option maxHeartbeats 4000000 in
theorem list_3 (c0 c1 c2 c3 : Int) (w : World) : Calls Try.prog 18 #[.agg #[.int .i64 3, .int .i64 c0, .int .i64 c1, .int .i64 c2, .int .i64 c3]] w (ListPost 3 c0 c1 c2 c3 w) := by
  go_enter Try.func18, Try.ntmps18
  go_wp2
  refine gen_world (Gath w w.heap.size (w.heap.size + 1) 3 c0 c1 c2 c3 (.slice none 0 0) []) ⟨by repeat' (first | (with_reducible refine below_drewN ?_ _) | go_grown), Own5.new _ _ _ _ _ _ _, World.ownsRow_nil _ _ _ _, Nat.le_refl _, by omega, by simp⟩ ?_
  intro wr G
  refine wp_loop_rounds 5 ?_
  obtain ⟨p0, p1, p2, p3, p4, q0, q1, q2, q3, q4⟩ := G.box
  by_cases hl0 : c0 < 0
  · rw [rounds_succ]; go_wp2
    go_returns
    exact Or.inr ⟨right_no (fun h => by simp [rightP, greatestS] at h; omega), rfl, G.below⟩
  by_cases hu0 : 1048576 < c0
  · rw [rounds_succ]; go_wp2
    go_returns
    exact Or.inr ⟨right_no (fun h => by simp [rightP, greatestS] at h; omega), rfl, G.below⟩
  rw [rounds_succ]
  go_wp2_with (at_builtin; refine Gath.append G rfl _ _ rfl rfl c0 _ rfl (by simp) ?_; intro v0 w0 G0)
  clear p0 p1 p2 p3 p4 q0 q1 q2 q3 q4
  obtain ⟨p0, p1, p2, p3, p4, q0, q1, q2, q3, q4⟩ := G0.box
  by_cases hl1 : c1 < 0
  · rw [rounds_succ]; go_wp2
    go_returns
    exact Or.inr ⟨right_no (fun h => by simp [rightP, greatestS] at h; omega), rfl, G0.below⟩
  by_cases hu1 : 64 < c1
  · rw [rounds_succ]; go_wp2
    go_returns
    exact Or.inr ⟨right_no (fun h => by simp [rightP, greatestS] at h; omega), rfl, G0.below⟩
  rw [rounds_succ]
  go_wp2_with (at_builtin; refine Gath.append G0 rfl _ _ rfl rfl c1 _ rfl (by simp) ?_; intro v1 w1 G1)
  clear p0 p1 p2 p3 p4 q0 q1 q2 q3 q4
  obtain ⟨p0, p1, p2, p3, p4, q0, q1, q2, q3, q4⟩ := G1.box
  by_cases hl2 : c2 < 0
  · rw [rounds_succ]; go_wp2
    go_returns
    exact Or.inr ⟨right_no (fun h => by simp [rightP, greatestS] at h; omega), rfl, G1.below⟩
  by_cases hu2 : 64 < c2
  · rw [rounds_succ]; go_wp2
    go_returns
    exact Or.inr ⟨right_no (fun h => by simp [rightP, greatestS] at h; omega), rfl, G1.below⟩
  rw [rounds_succ]
  go_wp2_with (at_builtin; refine Gath.append G1 rfl _ _ rfl rfl c2 _ rfl (by simp) ?_; intro v2 w2 G2)
  clear p0 p1 p2 p3 p4 q0 q1 q2 q3 q4
  obtain ⟨p0, p1, p2, p3, p4, q0, q1, q2, q3, q4⟩ := G2.box
  by_cases hz3 : (c3 != 0) = true
  · rw [rounds_succ]; go_wp2
    go_returns
    exact Or.inr ⟨right_no (fun h => by simp [rightP, greatestS] at h hz3; omega), rfl, G2.below⟩
  replace hz3 : (c3 != 0) = false := by simpa using hz3
  rw [rounds_succ]; go_wp2
  clear p0 p1 p2 p3 p4 q0 q1 q2 q3 q4
  rw [rounds_succ]; go_wp2
  go_returns
  have y3 : c3 = 0 := by simpa using hz3
  exact Or.inl ⟨decide_eq_true (by simp [rightP, greatestS]; omega), _, rfl, by simpa [coords] using G2.own, G2.below⟩

set_option maxHeartbeats 4000000 in
theorem list_4 (c0 c1 c2 c3 : Int) (w : World) : Calls Try.prog 18 #[.agg #[.int .i64 4, .int .i64 c0, .int .i64 c1, .int .i64 c2, .int .i64 c3]] w (ListPost 4 c0 c1 c2 c3 w) := by
  go_enter Try.func18, Try.ntmps18
  go_wp2
  refine gen_world (Gath w w.heap.size (w.heap.size + 1) 4 c0 c1 c2 c3 (.slice none 0 0) []) ⟨by repeat' (first | (with_reducible refine below_drewN ?_ _) | go_grown), Own5.new _ _ _ _ _ _ _, World.ownsRow_nil _ _ _ _, Nat.le_refl _, by omega, by simp⟩ ?_
  intro wr G
  refine wp_loop_rounds 5 ?_
  obtain ⟨p0, p1, p2, p3, p4, q0, q1, q2, q3, q4⟩ := G.box
  by_cases hl0 : c0 < 0
  · rw [rounds_succ]; go_wp2
    go_returns
    exact Or.inr ⟨right_no (fun h => by simp [rightP, greatestS] at h; omega), rfl, G.below⟩
  by_cases hu0 : 1048576 < c0
  · rw [rounds_succ]; go_wp2
    go_returns
    exact Or.inr ⟨right_no (fun h => by simp [rightP, greatestS] at h; omega), rfl, G.below⟩
  rw [rounds_succ]
  go_wp2_with (at_builtin; refine Gath.append G rfl _ _ rfl rfl c0 _ rfl (by simp) ?_; intro v0 w0 G0)
  clear p0 p1 p2 p3 p4 q0 q1 q2 q3 q4
  obtain ⟨p0, p1, p2, p3, p4, q0, q1, q2, q3, q4⟩ := G0.box
  by_cases hl1 : c1 < 0
  · rw [rounds_succ]; go_wp2
    go_returns
    exact Or.inr ⟨right_no (fun h => by simp [rightP, greatestS] at h; omega), rfl, G0.below⟩
  by_cases hu1 : 64 < c1
  · rw [rounds_succ]; go_wp2
    go_returns
    exact Or.inr ⟨right_no (fun h => by simp [rightP, greatestS] at h; omega), rfl, G0.below⟩
  rw [rounds_succ]
  go_wp2_with (at_builtin; refine Gath.append G0 rfl _ _ rfl rfl c1 _ rfl (by simp) ?_; intro v1 w1 G1)
  clear p0 p1 p2 p3 p4 q0 q1 q2 q3 q4
  obtain ⟨p0, p1, p2, p3, p4, q0, q1, q2, q3, q4⟩ := G1.box
  by_cases hl2 : c2 < 0
  · rw [rounds_succ]; go_wp2
    go_returns
    exact Or.inr ⟨right_no (fun h => by simp [rightP, greatestS] at h; omega), rfl, G1.below⟩
  by_cases hu2 : 64 < c2
  · rw [rounds_succ]; go_wp2
    go_returns
    exact Or.inr ⟨right_no (fun h => by simp [rightP, greatestS] at h; omega), rfl, G1.below⟩
  rw [rounds_succ]
  go_wp2_with (at_builtin; refine Gath.append G1 rfl _ _ rfl rfl c2 _ rfl (by simp) ?_; intro v2 w2 G2)
  clear p0 p1 p2 p3 p4 q0 q1 q2 q3 q4
  obtain ⟨p0, p1, p2, p3, p4, q0, q1, q2, q3, q4⟩ := G2.box
  by_cases hl3 : c3 < 0
  · rw [rounds_succ]; go_wp2
    go_returns
    exact Or.inr ⟨right_no (fun h => by simp [rightP, greatestS] at h; omega), rfl, G2.below⟩
  by_cases hu3 : 64 < c3
  · rw [rounds_succ]; go_wp2
    go_returns
    exact Or.inr ⟨right_no (fun h => by simp [rightP, greatestS] at h; omega), rfl, G2.below⟩
  rw [rounds_succ]
  go_wp2_with (at_builtin; refine Gath.append G2 rfl _ _ rfl rfl c3 _ rfl (by simp) ?_; intro v3 w3 G3)
  clear p0 p1 p2 p3 p4 q0 q1 q2 q3 q4
  rw [rounds_succ]; go_wp2
  go_returns
  exact Or.inl ⟨decide_eq_true (by simp [rightP, greatestS]; omega), _, rfl, by simpa [coords] using G3.own, G3.below⟩

set_option maxHeartbeats 400000 in
theorem list_any (d c0 c1 c2 c3 : Int) (w : World) : Calls Try.prog 18 #[.agg #[.int .i64 d, .int .i64 c0, .int .i64 c1, .int .i64 c2, .int .i64 c3]] w (ListPost d c0 c1 c2 c3 w) := by
  by_cases h1 : d < 1
  · go_enter Try.func18, Try.ntmps18
    go_wp2
    go_returns
    exact Or.inr ⟨right_no (fun h => by have := h.1; omega), rfl, by repeat' (first | (with_reducible refine below_drewN ?_ _) | go_grown)⟩
  · by_cases h4 : 4 < d
    · go_enter Try.func18, Try.ntmps18
      go_wp2
      go_returns
      exact Or.inr ⟨right_no (fun h => by have := h.2.1; omega), rfl, by repeat' (first | (with_reducible refine below_drewN ?_ _) | go_grown)⟩
    · have : d = 1 ∨ d = 2 ∨ d = 3 ∨ d = 4 := by omega
      rcases this with rfl | rfl | rfl | rfl
      · exact list_1 c0 c1 c2 c3 w
      · exact list_2 c0 c1 c2 c3 w
      · exact list_3 c0 c1 c2 c3 w
      · exact list_4 c0 c1 c2 c3 w
end Go.Proofs.Ytimfpbmlbihlnaa
