import Derived.Test.YtigiinbgnpohmaaTs3
namespace Go.Proofs.Ytigiinbgnpohmaa
open Go.RowKit
set_option linter.unusedVariables false
set_option linter.unusedSimpArgs false
attribute [local go_sem] ix4_0 ix4_1 ix4_2 ix4_3
attribute [local go_sem ↓] run_imax run_imin

set_option maxHeartbeats 4000000 in
theorem join_any (d c0 c1 c2 c3 e0 x0 x1 x2 x3 : Int) (w : World) :
    Calls Try.prog 9 #[.agg #[.int .i64 d, .int .i64 c0, .int .i64 c1, .int .i64 c2, .int .i64 c3], .agg #[.int .i64 e0, .int .i64 x0, .int .i64 x1, .int .i64 x2, .int .i64 x3]] w
      (Ret (bothV true d c0 c1 c2 c3 e0 x0 x1 x2 x3 (pairedB d c0 c1 c2 c3 e0 x0 x1 x2 x3)) w) := by
  cases hp : pairedB d c0 c1 c2 c3 e0 x0 x1 x2 x3
  · go_enter Try.func9, Try.ntmps9
    go_wp2_with fail
    refine (paired_any _ _ _ _ _ _ _ _ _ _ _).mono ?_
    rintro e w1 ⟨rfl, hb1⟩
    obtain ⟨hc1, hf1⟩ := bcell hb1
    have hz := hb1.size
    have hB := bcall (B := w.heap.size) (a := w) (by go_grown) hb1 (by go_size)
    go_wp2
    exact bodyPost_ret (v := bothV true d c0 c1 c2 c3 e0 x0 x1 x2 x3 false) (by simp [results, Try.results9, go_sem, hc1]; rfl) rfl ⟨rfl, by go_grown⟩
  · go_enter Try.func9, Try.ntmps9
    go_wp2_with fail
    refine (paired_any _ _ _ _ _ _ _ _ _ _ _).mono ?_
    rintro e w1 ⟨rfl, hb1⟩
    obtain ⟨hc1, hf1⟩ := bcell hb1
    have hz := hb1.size
    have hB := bcall (B := w.heap.size) (a := w) (by go_grown) hb1 (by go_size)
    obtain ⟨p0, p1, p2, p3, p4, q0, q1, q2, q3, q4⟩ := (((Own5.new w (.int .i64 d) (.int .i64 c0) (.int .i64 c1) (.int .i64 c2) (.int .i64 c3) 24).alloc _ (by go_size)).alloc _ (by go_size)).below hb1 (by go_size)
    obtain ⟨a0, a1, a2, a3, a4, b0, b1, b2, b3, b4⟩ := ((Own5.new _ (.int .i64 e0) (.int .i64 x0) (.int .i64 x1) (.int .i64 x2) (.int .i64 x3) 24).alloc _ (by go_size)).below hb1 (by go_size)
    obtain ⟨r0, r1, r2, r3, r4, s0, s1, s2, s3, s4⟩ := (Own5.new _ (.int .i64 0) (.int .i64 0) (.int .i64 0) (.int .i64 0) (.int .i64 0) 24).below hb1 (by go_size)
    clear hc1 hf1
    simp only [World.size_alloc] at *
    go_wp2
    refine wp_loop_rounds 5 ?_
    rw [rounds_succ]; go_wp2
    rw [rounds_succ]; go_wp2
    rw [rounds_succ]; go_wp2
    rw [rounds_succ]; go_wp2
    rw [rounds_succ]; go_upto_region 8 with (fail)
    refine gen_world (fun w2 => Below w.heap.size w w2 ∧ Own5 w2 w.heap.size (.int .i64 d) (.int .i64 (imax c0 x0)) (.int .i64 (imax c1 x1)) (.int .i64 (imax c2 x2)) (.int .i64 (imax c3 x3)) ∧ Own5 w2 (w.heap.size + 1 + 1) (.int .i64 0) (.int .i64 0) (.int .i64 0) (.int .i64 0) (.int .i64 0)) ⟨by go_grown, by constructor <;> go_cell, by constructor <;> go_cell⟩ ?_
    clear p0 p1 p2 p3 p4 q0 q1 q2 q3 q4 r0 r1 r2 r3 r4 s0 s1 s2 s3 s4 a0 a1 a2 a3 a4 b0 b1 b2 b3 b4 hB hb1 hz
    rintro w2 ⟨hB, ⟨p0, p1, p2, p3, p4, q0, q1, q2, q3, q4⟩, ⟨r0, r1, r2, r3, r4, s0, s1, s2, s3, s4⟩⟩
    go_wp2
    exact bodyPost_ret (v := bothV true d c0 c1 c2 c3 e0 x0 x1 x2 x3 true) (by simp [results, Try.results9, go_sem, r0, r1, r2, r3, r4]; rfl) rfl ⟨rfl, by go_grown⟩

set_option maxHeartbeats 4000000 in
theorem meet_any (d c0 c1 c2 c3 e0 x0 x1 x2 x3 : Int) (w : World) :
    Calls Try.prog 12 #[.agg #[.int .i64 d, .int .i64 c0, .int .i64 c1, .int .i64 c2, .int .i64 c3], .agg #[.int .i64 e0, .int .i64 x0, .int .i64 x1, .int .i64 x2, .int .i64 x3]] w
      (Ret (bothV false d c0 c1 c2 c3 e0 x0 x1 x2 x3 (pairedB d c0 c1 c2 c3 e0 x0 x1 x2 x3)) w) := by
  cases hp : pairedB d c0 c1 c2 c3 e0 x0 x1 x2 x3
  · go_enter Try.func12, Try.ntmps12
    go_wp2_with fail
    refine (paired_any _ _ _ _ _ _ _ _ _ _ _).mono ?_
    rintro e w1 ⟨rfl, hb1⟩
    obtain ⟨hc1, hf1⟩ := bcell hb1
    have hz := hb1.size
    have hB := bcall (B := w.heap.size) (a := w) (by go_grown) hb1 (by go_size)
    go_wp2
    exact bodyPost_ret (v := bothV false d c0 c1 c2 c3 e0 x0 x1 x2 x3 false) (by simp [results, Try.results12, go_sem, hc1]; rfl) rfl ⟨rfl, by go_grown⟩
  · go_enter Try.func12, Try.ntmps12
    go_wp2_with fail
    refine (paired_any _ _ _ _ _ _ _ _ _ _ _).mono ?_
    rintro e w1 ⟨rfl, hb1⟩
    obtain ⟨hc1, hf1⟩ := bcell hb1
    have hz := hb1.size
    have hB := bcall (B := w.heap.size) (a := w) (by go_grown) hb1 (by go_size)
    obtain ⟨p0, p1, p2, p3, p4, q0, q1, q2, q3, q4⟩ := (((Own5.new w (.int .i64 d) (.int .i64 c0) (.int .i64 c1) (.int .i64 c2) (.int .i64 c3) 24).alloc _ (by go_size)).alloc _ (by go_size)).below hb1 (by go_size)
    obtain ⟨a0, a1, a2, a3, a4, b0, b1, b2, b3, b4⟩ := ((Own5.new _ (.int .i64 e0) (.int .i64 x0) (.int .i64 x1) (.int .i64 x2) (.int .i64 x3) 24).alloc _ (by go_size)).below hb1 (by go_size)
    obtain ⟨r0, r1, r2, r3, r4, s0, s1, s2, s3, s4⟩ := (Own5.new _ (.int .i64 0) (.int .i64 0) (.int .i64 0) (.int .i64 0) (.int .i64 0) 24).below hb1 (by go_size)
    clear hc1 hf1
    simp only [World.size_alloc] at *
    go_wp2
    refine wp_loop_rounds 5 ?_
    rw [rounds_succ]; go_wp2
    rw [rounds_succ]; go_wp2
    rw [rounds_succ]; go_wp2
    rw [rounds_succ]; go_wp2
    rw [rounds_succ]; go_upto_region 8 with (fail)
    refine gen_world (fun w2 => Below w.heap.size w w2 ∧ Own5 w2 w.heap.size (.int .i64 d) (.int .i64 (imin c0 x0)) (.int .i64 (imin c1 x1)) (.int .i64 (imin c2 x2)) (.int .i64 (imin c3 x3)) ∧ Own5 w2 (w.heap.size + 1 + 1) (.int .i64 0) (.int .i64 0) (.int .i64 0) (.int .i64 0) (.int .i64 0)) ⟨by go_grown, by constructor <;> go_cell, by constructor <;> go_cell⟩ ?_
    clear p0 p1 p2 p3 p4 q0 q1 q2 q3 q4 r0 r1 r2 r3 r4 s0 s1 s2 s3 s4 a0 a1 a2 a3 a4 b0 b1 b2 b3 b4 hB hb1 hz
    rintro w2 ⟨hB, ⟨p0, p1, p2, p3, p4, q0, q1, q2, q3, q4⟩, ⟨r0, r1, r2, r3, r4, s0, s1, s2, s3, s4⟩⟩
    go_wp2
    exact bodyPost_ret (v := bothV false d c0 c1 c2 c3 e0 x0 x1 x2 x3 true) (by simp [results, Try.results12, go_sem, r0, r1, r2, r3, r4]; rfl) rfl ⟨rfl, by go_grown⟩

end Go.Proofs.Ytigiinbgnpohmaa
