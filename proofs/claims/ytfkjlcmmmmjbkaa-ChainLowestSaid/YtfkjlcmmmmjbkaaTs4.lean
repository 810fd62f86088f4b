import Derived.Test.YtfkjlcmmmmjbkaaTs3
namespace Go.Proofs.Ytfkjlcmmmmjbkaa
open Go.RowKit
set_option linter.unusedVariables false
set_option linter.unusedSimpArgs false
attribute [local go_sem] ix4_0 ix4_1 ix4_2 ix4_3
attribute [local go_sem ↓] run_imax run_imin

def stepV (ok : Bool) (d c0 c1 c2 c3 : Int) : Value :=
  .tuple #[.agg #[.int .i64 (gate ok d), .int .i64 (gate ok c0), .int .i64 (gate ok c1), .int .i64 (gate ok c2), .int .i64 (gate ok c3)], .bool ok]
/-- of a right timestamp: its coordinates' numbers -/
theorem right_of {d c0 c1 c2 c3 : Int} (h : rightB d c0 c1 c2 c3 = true) : rightP d c0 c1 c2 c3 := of_decide_eq_true h
def enterB (d c0 c1 c2 c3 : Int) : Bool := rightB d c0 c1 c2 c3 && !(d == 4)
def leaveB (d c0 c1 c2 c3 : Int) : Bool := rightB d c0 c1 c2 c3 && !(d == 1)
/-- the number of the last coordinate -/
def lastOf (d c0 c1 c2 c3 : Int) : Int := if d = 1 then c0 else if d = 2 then c1 else if d = 3 then c2 else c3
def nextB (d c0 c1 c2 c3 : Int) : Bool := rightB d c0 c1 c2 c3 && !(lastOf d c0 c1 c2 c3 == greatestS d (d - 1))
def leftV (d c0 c1 c2 c3 : Int) : Value := stepV (leaveB d c0 c1 c2 c3) (d - 1) (if d = 1 then 0 else c0) (if d = 2 then 0 else c1) (if d = 3 then 0 else c2) (if d = 4 then 0 else c3)
def nextV (d c0 c1 c2 c3 : Int) : Value := stepV (nextB d c0 c1 c2 c3) d (if d = 1 then c0 + 1 else c0) (if d = 2 then c1 + 1 else c1) (if d = 3 then c2 + 1 else c2) (if d = 4 then c3 + 1 else c3)

set_option maxHeartbeats 2000000 in
theorem enter_any (d c0 c1 c2 c3 : Int) (w : World) :
    Calls Try.prog 23 #[.agg #[.int .i64 d, .int .i64 c0, .int .i64 c1, .int .i64 c2, .int .i64 c3]] w
      (Ret (stepV (enterB d c0 c1 c2 c3) (d + 1) c0 c1 c2 c3) w) := by
  cases hp : rightB d c0 c1 c2 c3
  · have he : stepV (enterB d c0 c1 c2 c3) (d + 1) c0 c1 c2 c3 = stepV false 0 0 0 0 0 := by simp [enterB, hp, stepV, gate]
    rw [he]; clear he
    go_enter Try.func23, Try.ntmps23
    go_wp2_with fail
    refine (right_any _ _ _ _ _ _).mono ?_
    rintro e w1 ⟨rfl, hb1⟩
    have hz := hb1.size
    have hB := bcall (B := w.heap.size) (a := w) (by go_grown) hb1 (by go_size)
    obtain ⟨p0, p1, p2, p3, p4, q0, q1, q2, q3, q4⟩ := ((Own5.new w (.int .i64 d) (.int .i64 c0) (.int .i64 c1) (.int .i64 c2) (.int .i64 c3) 26).alloc _ (by go_size)).below hb1 (by go_size)
    obtain ⟨r0, r1, r2, r3, r4, s0, s1, s2, s3, s4⟩ := (Own5.new _ (.int .i64 0) (.int .i64 0) (.int .i64 0) (.int .i64 0) (.int .i64 0) 26).below hb1 (by go_size)
    simp only [World.size_alloc] at *
    clear hb1
    go_wp2
    exact bodyPost_ret (v := stepV false 0 0 0 0 0) (by simp [results, Try.results23, go_sem, r0, r1, r2, r3, r4]; rfl) rfl ⟨rfl, by repeat' (first | (with_reducible refine below_drewN ?_ _) | go_grown)⟩
  · have hR := Lib.hid (right_of hp)
    cases h4 : (d == 4)
    · have he : enterB d c0 c1 c2 c3 = true := by simp [enterB, hp, h4]
      rw [he]; clear he
      have hd : d ≤ 3 := by have := hR.out.2.1; have := beq_eq_false_iff_ne.1 h4; omega
      have hd1 : 1 ≤ d := hR.out.1
      go_enter Try.func23, Try.ntmps23
      go_wp2_with fail
      refine (right_any _ _ _ _ _ _).mono ?_
      rintro e w1 ⟨rfl, hb1⟩
      have hz := hb1.size
      have hB := bcall (B := w.heap.size) (a := w) (by go_grown) hb1 (by go_size)
      obtain ⟨p0, p1, p2, p3, p4, q0, q1, q2, q3, q4⟩ := ((Own5.new w (.int .i64 d) (.int .i64 c0) (.int .i64 c1) (.int .i64 c2) (.int .i64 c3) 26).alloc _ (by go_size)).below hb1 (by go_size)
      obtain ⟨r0, r1, r2, r3, r4, s0, s1, s2, s3, s4⟩ := (Own5.new _ (.int .i64 0) (.int .i64 0) (.int .i64 0) (.int .i64 0) (.int .i64 0) 26).below hb1 (by go_size)
      simp only [World.size_alloc] at *
      clear hb1
      go_wp2
      exact bodyPost_ret (v := stepV true (d + 1) c0 c1 c2 c3) (by simp [results, Try.results23, go_sem, r0, r1, r2, r3, r4]; rfl) rfl ⟨rfl, by repeat' (first | (with_reducible refine below_drewN ?_ _) | go_grown)⟩
    · have he : stepV (enterB d c0 c1 c2 c3) (d + 1) c0 c1 c2 c3 = stepV false 0 0 0 0 0 := by simp [enterB, h4, stepV, gate]
      rw [he]; clear he
      go_enter Try.func23, Try.ntmps23
      go_wp2_with fail
      refine (right_any _ _ _ _ _ _).mono ?_
      rintro e w1 ⟨rfl, hb1⟩
      have hz := hb1.size
      have hB := bcall (B := w.heap.size) (a := w) (by go_grown) hb1 (by go_size)
      obtain ⟨p0, p1, p2, p3, p4, q0, q1, q2, q3, q4⟩ := ((Own5.new w (.int .i64 d) (.int .i64 c0) (.int .i64 c1) (.int .i64 c2) (.int .i64 c3) 26).alloc _ (by go_size)).below hb1 (by go_size)
      obtain ⟨r0, r1, r2, r3, r4, s0, s1, s2, s3, s4⟩ := (Own5.new _ (.int .i64 0) (.int .i64 0) (.int .i64 0) (.int .i64 0) (.int .i64 0) 26).below hb1 (by go_size)
      simp only [World.size_alloc] at *
      clear hb1
      go_wp2
      exact bodyPost_ret (v := stepV false 0 0 0 0 0) (by simp [results, Try.results23, go_sem, r0, r1, r2, r3, r4]; rfl) rfl ⟨rfl, by repeat' (first | (with_reducible refine below_drewN ?_ _) | go_grown)⟩

set_option maxHeartbeats 2000000 in
theorem leave_any (d c0 c1 c2 c3 : Int) (w : World) :
    Calls Try.prog 25 #[.agg #[.int .i64 d, .int .i64 c0, .int .i64 c1, .int .i64 c2, .int .i64 c3]] w
      (Ret (leftV d c0 c1 c2 c3) w) := by
  cases hp : rightB d c0 c1 c2 c3
  · have he : leftV d c0 c1 c2 c3 = stepV false 0 0 0 0 0 := by simp [leftV, leaveB, hp, stepV, gate]
    rw [he]; clear he
    go_enter Try.func25, Try.ntmps25
    go_wp2_with fail
    refine (right_any _ _ _ _ _ _).mono ?_
    rintro e w1 ⟨rfl, hb1⟩
    have hz := hb1.size
    have hB := bcall (B := w.heap.size) (a := w) (by go_grown) hb1 (by go_size)
    obtain ⟨p0, p1, p2, p3, p4, q0, q1, q2, q3, q4⟩ := ((Own5.new w (.int .i64 d) (.int .i64 c0) (.int .i64 c1) (.int .i64 c2) (.int .i64 c3) 26).alloc _ (by go_size)).below hb1 (by go_size)
    obtain ⟨r0, r1, r2, r3, r4, s0, s1, s2, s3, s4⟩ := (Own5.new _ (.int .i64 0) (.int .i64 0) (.int .i64 0) (.int .i64 0) (.int .i64 0) 26).below hb1 (by go_size)
    simp only [World.size_alloc] at *
    clear hb1
    go_wp2
    exact bodyPost_ret (v := stepV false 0 0 0 0 0) (by simp [results, Try.results25, go_sem, r0, r1, r2, r3, r4]; rfl) rfl ⟨rfl, by repeat' (first | (with_reducible refine below_drewN ?_ _) | go_grown)⟩
  · have hR := Lib.hid (right_of hp)
    have hcase : d = 1 ∨ d = 2 ∨ d = 3 ∨ d = 4 := by have := hR.out.2.1; have := hR.out.1; omega
    rcases hcase with rfl | rfl | rfl | rfl
    · have he : leftV 1 c0 c1 c2 c3 = stepV false 0 0 0 0 0 := by simp [leftV, leaveB, stepV, gate]
      rw [he]; clear he
      go_enter Try.func25, Try.ntmps25
      go_wp2_with fail
      refine (right_any _ _ _ _ _ _).mono ?_
      rintro e w1 ⟨rfl, hb1⟩
      have hz := hb1.size
      have hB := bcall (B := w.heap.size) (a := w) (by go_grown) hb1 (by go_size)
      obtain ⟨p0, p1, p2, p3, p4, q0, q1, q2, q3, q4⟩ := ((Own5.new w (.int .i64 1) (.int .i64 c0) (.int .i64 c1) (.int .i64 c2) (.int .i64 c3) 26).alloc _ (by go_size)).below hb1 (by go_size)
      obtain ⟨r0, r1, r2, r3, r4, s0, s1, s2, s3, s4⟩ := (Own5.new _ (.int .i64 0) (.int .i64 0) (.int .i64 0) (.int .i64 0) (.int .i64 0) 26).below hb1 (by go_size)
      simp only [World.size_alloc] at *
      clear hb1
      go_wp2
      exact bodyPost_ret (v := stepV false 0 0 0 0 0) (by simp [results, Try.results25, go_sem, r0, r1, r2, r3, r4]; rfl) rfl ⟨rfl, by repeat' (first | (with_reducible refine below_drewN ?_ _) | go_grown)⟩
    · have he : leftV 2 c0 c1 c2 c3 = stepV true 1 c0 0 c2 c3 := by simp [leftV, leaveB, hp]
      rw [he]; clear he
      go_enter Try.func25, Try.ntmps25
      go_wp2_with fail
      refine (right_any _ _ _ _ _ _).mono ?_
      rintro e w1 ⟨rfl, hb1⟩
      have hz := hb1.size
      have hB := bcall (B := w.heap.size) (a := w) (by go_grown) hb1 (by go_size)
      obtain ⟨p0, p1, p2, p3, p4, q0, q1, q2, q3, q4⟩ := ((Own5.new w (.int .i64 2) (.int .i64 c0) (.int .i64 c1) (.int .i64 c2) (.int .i64 c3) 26).alloc _ (by go_size)).below hb1 (by go_size)
      obtain ⟨r0, r1, r2, r3, r4, s0, s1, s2, s3, s4⟩ := (Own5.new _ (.int .i64 0) (.int .i64 0) (.int .i64 0) (.int .i64 0) (.int .i64 0) 26).below hb1 (by go_size)
      simp only [World.size_alloc] at *
      clear hb1
      go_wp2
      exact bodyPost_ret (v := stepV true 1 c0 0 c2 c3) (by simp [results, Try.results25, go_sem, r0, r1, r2, r3, r4]; rfl) rfl ⟨rfl, by repeat' (first | (with_reducible refine below_drewN ?_ _) | go_grown)⟩
    · have he : leftV 3 c0 c1 c2 c3 = stepV true 2 c0 c1 0 c3 := by simp [leftV, leaveB, hp]
      rw [he]; clear he
      go_enter Try.func25, Try.ntmps25
      go_wp2_with fail
      refine (right_any _ _ _ _ _ _).mono ?_
      rintro e w1 ⟨rfl, hb1⟩
      have hz := hb1.size
      have hB := bcall (B := w.heap.size) (a := w) (by go_grown) hb1 (by go_size)
      obtain ⟨p0, p1, p2, p3, p4, q0, q1, q2, q3, q4⟩ := ((Own5.new w (.int .i64 3) (.int .i64 c0) (.int .i64 c1) (.int .i64 c2) (.int .i64 c3) 26).alloc _ (by go_size)).below hb1 (by go_size)
      obtain ⟨r0, r1, r2, r3, r4, s0, s1, s2, s3, s4⟩ := (Own5.new _ (.int .i64 0) (.int .i64 0) (.int .i64 0) (.int .i64 0) (.int .i64 0) 26).below hb1 (by go_size)
      simp only [World.size_alloc] at *
      clear hb1
      go_wp2
      exact bodyPost_ret (v := stepV true 2 c0 c1 0 c3) (by simp [results, Try.results25, go_sem, r0, r1, r2, r3, r4]; rfl) rfl ⟨rfl, by repeat' (first | (with_reducible refine below_drewN ?_ _) | go_grown)⟩
    · have he : leftV 4 c0 c1 c2 c3 = stepV true 3 c0 c1 c2 0 := by simp [leftV, leaveB, hp]
      rw [he]; clear he
      go_enter Try.func25, Try.ntmps25
      go_wp2_with fail
      refine (right_any _ _ _ _ _ _).mono ?_
      rintro e w1 ⟨rfl, hb1⟩
      have hz := hb1.size
      have hB := bcall (B := w.heap.size) (a := w) (by go_grown) hb1 (by go_size)
      obtain ⟨p0, p1, p2, p3, p4, q0, q1, q2, q3, q4⟩ := ((Own5.new w (.int .i64 4) (.int .i64 c0) (.int .i64 c1) (.int .i64 c2) (.int .i64 c3) 26).alloc _ (by go_size)).below hb1 (by go_size)
      obtain ⟨r0, r1, r2, r3, r4, s0, s1, s2, s3, s4⟩ := (Own5.new _ (.int .i64 0) (.int .i64 0) (.int .i64 0) (.int .i64 0) (.int .i64 0) 26).below hb1 (by go_size)
      simp only [World.size_alloc] at *
      clear hb1
      go_wp2
      exact bodyPost_ret (v := stepV true 3 c0 c1 c2 0) (by simp [results, Try.results25, go_sem, r0, r1, r2, r3, r4]; rfl) rfl ⟨rfl, by repeat' (first | (with_reducible refine below_drewN ?_ _) | go_grown)⟩

set_option maxHeartbeats 2000000 in
theorem next_any (d c0 c1 c2 c3 : Int) (w : World) :
    Calls Try.prog 27 #[.agg #[.int .i64 d, .int .i64 c0, .int .i64 c1, .int .i64 c2, .int .i64 c3]] w
      (Ret (nextV d c0 c1 c2 c3) w) := by
  cases hp : rightB d c0 c1 c2 c3
  · have he : nextV d c0 c1 c2 c3 = stepV false 0 0 0 0 0 := by simp [nextV, nextB, hp, stepV, gate]
    rw [he]; clear he
    go_enter Try.func27, Try.ntmps27
    go_wp2_with fail
    refine (right_any _ _ _ _ _ _).mono ?_
    rintro e w1 ⟨rfl, hb1⟩
    have hz := hb1.size
    have hB := bcall (B := w.heap.size) (a := w) (by go_grown) hb1 (by go_size)
    obtain ⟨p0, p1, p2, p3, p4, q0, q1, q2, q3, q4⟩ := ((Own5.new w (.int .i64 d) (.int .i64 c0) (.int .i64 c1) (.int .i64 c2) (.int .i64 c3) 26).alloc _ (by go_size)).below hb1 (by go_size)
    obtain ⟨r0, r1, r2, r3, r4, s0, s1, s2, s3, s4⟩ := (Own5.new _ (.int .i64 0) (.int .i64 0) (.int .i64 0) (.int .i64 0) (.int .i64 0) 26).below hb1 (by go_size)
    simp only [World.size_alloc] at *
    clear hb1
    go_wp2
    exact bodyPost_ret (v := stepV false 0 0 0 0 0) (by simp [results, Try.results27, go_sem, r0, r1, r2, r3, r4]; rfl) rfl ⟨rfl, by repeat' (first | (with_reducible refine below_drewN ?_ _) | go_grown)⟩
  · have hR := Lib.hid (right_of hp)
    have hcase : d = 1 ∨ d = 2 ∨ d = 3 ∨ d = 4 := by have := hR.out.2.1; have := hR.out.1; omega
    rcases hcase with rfl | rfl | rfl | rfl
    · have hu : c0 ≤ 1048576 := by have := hR.out; simp [rightP, greatestS] at this; omega
      have hl : 0 ≤ c0 := by have := hR.out; simp [rightP, greatestS] at this; omega
      have hg := Lib.hid (show greatestS 1 0 = 1048576 from rfl)
      cases hn : (c0 == 1048576)
      · have he : nextV 1 c0 c1 c2 c3 = stepV true 1 (c0 + 1) c1 c2 c3 := by simp [nextV, nextB, hp, lastOf, greatestS, hn]
        rw [he]; clear he
        go_enter Try.func27, Try.ntmps27
        go_wp2_with fail
        refine (right_any _ _ _ _ _ _).mono ?_
        rintro e w1 ⟨rfl, hb1⟩
        have hz := hb1.size
        have hB := bcall (B := w.heap.size) (a := w) (by go_grown) hb1 (by go_size)
        obtain ⟨p0, p1, p2, p3, p4, q0, q1, q2, q3, q4⟩ := ((Own5.new w (.int .i64 1) (.int .i64 c0) (.int .i64 c1) (.int .i64 c2) (.int .i64 c3) 26).alloc _ (by go_size)).below hb1 (by go_size)
        obtain ⟨r0, r1, r2, r3, r4, s0, s1, s2, s3, s4⟩ := (Own5.new _ (.int .i64 0) (.int .i64 0) (.int .i64 0) (.int .i64 0) (.int .i64 0) 26).below hb1 (by go_size)
        simp only [World.size_alloc] at *
        clear hb1
        go_wp2
        go_quiet ((go_at_call 47; exact quiet_left (greatest_any _ _ _)))
        rw [hg.out]
        go_wp2
        exact bodyPost_ret (v := stepV true 1 (c0 + 1) c1 c2 c3) (by simp [results, Try.results27, go_sem, r0, r1, r2, r3, r4]; rfl) rfl ⟨rfl, by repeat' (first | (with_reducible refine below_drewN ?_ _) | go_grown)⟩
      · have he : nextV 1 c0 c1 c2 c3 = stepV false 0 0 0 0 0 := by simp [nextV, nextB, hp, lastOf, greatestS, hn, stepV, gate]
        rw [he]; clear he
        go_enter Try.func27, Try.ntmps27
        go_wp2_with fail
        refine (right_any _ _ _ _ _ _).mono ?_
        rintro e w1 ⟨rfl, hb1⟩
        have hz := hb1.size
        have hB := bcall (B := w.heap.size) (a := w) (by go_grown) hb1 (by go_size)
        obtain ⟨p0, p1, p2, p3, p4, q0, q1, q2, q3, q4⟩ := ((Own5.new w (.int .i64 1) (.int .i64 c0) (.int .i64 c1) (.int .i64 c2) (.int .i64 c3) 26).alloc _ (by go_size)).below hb1 (by go_size)
        obtain ⟨r0, r1, r2, r3, r4, s0, s1, s2, s3, s4⟩ := (Own5.new _ (.int .i64 0) (.int .i64 0) (.int .i64 0) (.int .i64 0) (.int .i64 0) 26).below hb1 (by go_size)
        simp only [World.size_alloc] at *
        clear hb1
        go_wp2
        go_quiet ((go_at_call 47; exact quiet_left (greatest_any _ _ _)))
        rw [hg.out]
        go_wp2
        exact bodyPost_ret (v := stepV false 0 0 0 0 0) (by simp [results, Try.results27, go_sem, r0, r1, r2, r3, r4]; rfl) rfl ⟨rfl, by repeat' (first | (with_reducible refine below_drewN ?_ _) | go_grown)⟩
    · have hu : c1 ≤ 64 := by have := hR.out; simp [rightP, greatestS] at this; omega
      have hl : 0 ≤ c1 := by have := hR.out; simp [rightP, greatestS] at this; omega
      have hg := Lib.hid (show greatestS 2 1 = 64 from rfl)
      cases hn : (c1 == 64)
      · have he : nextV 2 c0 c1 c2 c3 = stepV true 2 c0 (c1 + 1) c2 c3 := by simp [nextV, nextB, hp, lastOf, greatestS, hn]
        rw [he]; clear he
        go_enter Try.func27, Try.ntmps27
        go_wp2_with fail
        refine (right_any _ _ _ _ _ _).mono ?_
        rintro e w1 ⟨rfl, hb1⟩
        have hz := hb1.size
        have hB := bcall (B := w.heap.size) (a := w) (by go_grown) hb1 (by go_size)
        obtain ⟨p0, p1, p2, p3, p4, q0, q1, q2, q3, q4⟩ := ((Own5.new w (.int .i64 2) (.int .i64 c0) (.int .i64 c1) (.int .i64 c2) (.int .i64 c3) 26).alloc _ (by go_size)).below hb1 (by go_size)
        obtain ⟨r0, r1, r2, r3, r4, s0, s1, s2, s3, s4⟩ := (Own5.new _ (.int .i64 0) (.int .i64 0) (.int .i64 0) (.int .i64 0) (.int .i64 0) 26).below hb1 (by go_size)
        simp only [World.size_alloc] at *
        clear hb1
        go_wp2
        go_quiet ((go_at_call 47; exact quiet_left (greatest_any _ _ _)))
        rw [hg.out]
        go_wp2
        exact bodyPost_ret (v := stepV true 2 c0 (c1 + 1) c2 c3) (by simp [results, Try.results27, go_sem, r0, r1, r2, r3, r4]; rfl) rfl ⟨rfl, by repeat' (first | (with_reducible refine below_drewN ?_ _) | go_grown)⟩
      · have he : nextV 2 c0 c1 c2 c3 = stepV false 0 0 0 0 0 := by simp [nextV, nextB, hp, lastOf, greatestS, hn, stepV, gate]
        rw [he]; clear he
        go_enter Try.func27, Try.ntmps27
        go_wp2_with fail
        refine (right_any _ _ _ _ _ _).mono ?_
        rintro e w1 ⟨rfl, hb1⟩
        have hz := hb1.size
        have hB := bcall (B := w.heap.size) (a := w) (by go_grown) hb1 (by go_size)
        obtain ⟨p0, p1, p2, p3, p4, q0, q1, q2, q3, q4⟩ := ((Own5.new w (.int .i64 2) (.int .i64 c0) (.int .i64 c1) (.int .i64 c2) (.int .i64 c3) 26).alloc _ (by go_size)).below hb1 (by go_size)
        obtain ⟨r0, r1, r2, r3, r4, s0, s1, s2, s3, s4⟩ := (Own5.new _ (.int .i64 0) (.int .i64 0) (.int .i64 0) (.int .i64 0) (.int .i64 0) 26).below hb1 (by go_size)
        simp only [World.size_alloc] at *
        clear hb1
        go_wp2
        go_quiet ((go_at_call 47; exact quiet_left (greatest_any _ _ _)))
        rw [hg.out]
        go_wp2
        exact bodyPost_ret (v := stepV false 0 0 0 0 0) (by simp [results, Try.results27, go_sem, r0, r1, r2, r3, r4]; rfl) rfl ⟨rfl, by repeat' (first | (with_reducible refine below_drewN ?_ _) | go_grown)⟩
    · have hu : c2 ≤ 64 := by have := hR.out; simp [rightP, greatestS] at this; omega
      have hl : 0 ≤ c2 := by have := hR.out; simp [rightP, greatestS] at this; omega
      have hg := Lib.hid (show greatestS 3 2 = 64 from rfl)
      cases hn : (c2 == 64)
      · have he : nextV 3 c0 c1 c2 c3 = stepV true 3 c0 c1 (c2 + 1) c3 := by simp [nextV, nextB, hp, lastOf, greatestS, hn]
        rw [he]; clear he
        go_enter Try.func27, Try.ntmps27
        go_wp2_with fail
        refine (right_any _ _ _ _ _ _).mono ?_
        rintro e w1 ⟨rfl, hb1⟩
        have hz := hb1.size
        have hB := bcall (B := w.heap.size) (a := w) (by go_grown) hb1 (by go_size)
        obtain ⟨p0, p1, p2, p3, p4, q0, q1, q2, q3, q4⟩ := ((Own5.new w (.int .i64 3) (.int .i64 c0) (.int .i64 c1) (.int .i64 c2) (.int .i64 c3) 26).alloc _ (by go_size)).below hb1 (by go_size)
        obtain ⟨r0, r1, r2, r3, r4, s0, s1, s2, s3, s4⟩ := (Own5.new _ (.int .i64 0) (.int .i64 0) (.int .i64 0) (.int .i64 0) (.int .i64 0) 26).below hb1 (by go_size)
        simp only [World.size_alloc] at *
        clear hb1
        go_wp2
        go_quiet ((go_at_call 47; exact quiet_left (greatest_any _ _ _)))
        rw [hg.out]
        go_wp2
        exact bodyPost_ret (v := stepV true 3 c0 c1 (c2 + 1) c3) (by simp [results, Try.results27, go_sem, r0, r1, r2, r3, r4]; rfl) rfl ⟨rfl, by repeat' (first | (with_reducible refine below_drewN ?_ _) | go_grown)⟩
      · have he : nextV 3 c0 c1 c2 c3 = stepV false 0 0 0 0 0 := by simp [nextV, nextB, hp, lastOf, greatestS, hn, stepV, gate]
        rw [he]; clear he
        go_enter Try.func27, Try.ntmps27
        go_wp2_with fail
        refine (right_any _ _ _ _ _ _).mono ?_
        rintro e w1 ⟨rfl, hb1⟩
        have hz := hb1.size
        have hB := bcall (B := w.heap.size) (a := w) (by go_grown) hb1 (by go_size)
        obtain ⟨p0, p1, p2, p3, p4, q0, q1, q2, q3, q4⟩ := ((Own5.new w (.int .i64 3) (.int .i64 c0) (.int .i64 c1) (.int .i64 c2) (.int .i64 c3) 26).alloc _ (by go_size)).below hb1 (by go_size)
        obtain ⟨r0, r1, r2, r3, r4, s0, s1, s2, s3, s4⟩ := (Own5.new _ (.int .i64 0) (.int .i64 0) (.int .i64 0) (.int .i64 0) (.int .i64 0) 26).below hb1 (by go_size)
        simp only [World.size_alloc] at *
        clear hb1
        go_wp2
        go_quiet ((go_at_call 47; exact quiet_left (greatest_any _ _ _)))
        rw [hg.out]
        go_wp2
        exact bodyPost_ret (v := stepV false 0 0 0 0 0) (by simp [results, Try.results27, go_sem, r0, r1, r2, r3, r4]; rfl) rfl ⟨rfl, by repeat' (first | (with_reducible refine below_drewN ?_ _) | go_grown)⟩
    · have hu : c3 ≤ 64 := by have := hR.out; simp [rightP, greatestS] at this; omega
      have hl : 0 ≤ c3 := by have := hR.out; simp [rightP, greatestS] at this; omega
      have hg := Lib.hid (show greatestS 4 3 = 64 from rfl)
      cases hn : (c3 == 64)
      · have he : nextV 4 c0 c1 c2 c3 = stepV true 4 c0 c1 c2 (c3 + 1) := by simp [nextV, nextB, hp, lastOf, greatestS, hn]
        rw [he]; clear he
        go_enter Try.func27, Try.ntmps27
        go_wp2_with fail
        refine (right_any _ _ _ _ _ _).mono ?_
        rintro e w1 ⟨rfl, hb1⟩
        have hz := hb1.size
        have hB := bcall (B := w.heap.size) (a := w) (by go_grown) hb1 (by go_size)
        obtain ⟨p0, p1, p2, p3, p4, q0, q1, q2, q3, q4⟩ := ((Own5.new w (.int .i64 4) (.int .i64 c0) (.int .i64 c1) (.int .i64 c2) (.int .i64 c3) 26).alloc _ (by go_size)).below hb1 (by go_size)
        obtain ⟨r0, r1, r2, r3, r4, s0, s1, s2, s3, s4⟩ := (Own5.new _ (.int .i64 0) (.int .i64 0) (.int .i64 0) (.int .i64 0) (.int .i64 0) 26).below hb1 (by go_size)
        simp only [World.size_alloc] at *
        clear hb1
        go_wp2
        go_quiet ((go_at_call 47; exact quiet_left (greatest_any _ _ _)))
        rw [hg.out]
        go_wp2
        exact bodyPost_ret (v := stepV true 4 c0 c1 c2 (c3 + 1)) (by simp [results, Try.results27, go_sem, r0, r1, r2, r3, r4]; rfl) rfl ⟨rfl, by repeat' (first | (with_reducible refine below_drewN ?_ _) | go_grown)⟩
      · have he : nextV 4 c0 c1 c2 c3 = stepV false 0 0 0 0 0 := by simp [nextV, nextB, hp, lastOf, greatestS, hn, stepV, gate]
        rw [he]; clear he
        go_enter Try.func27, Try.ntmps27
        go_wp2_with fail
        refine (right_any _ _ _ _ _ _).mono ?_
        rintro e w1 ⟨rfl, hb1⟩
        have hz := hb1.size
        have hB := bcall (B := w.heap.size) (a := w) (by go_grown) hb1 (by go_size)
        obtain ⟨p0, p1, p2, p3, p4, q0, q1, q2, q3, q4⟩ := ((Own5.new w (.int .i64 4) (.int .i64 c0) (.int .i64 c1) (.int .i64 c2) (.int .i64 c3) 26).alloc _ (by go_size)).below hb1 (by go_size)
        obtain ⟨r0, r1, r2, r3, r4, s0, s1, s2, s3, s4⟩ := (Own5.new _ (.int .i64 0) (.int .i64 0) (.int .i64 0) (.int .i64 0) (.int .i64 0) 26).below hb1 (by go_size)
        simp only [World.size_alloc] at *
        clear hb1
        go_wp2
        go_quiet ((go_at_call 47; exact quiet_left (greatest_any _ _ _)))
        rw [hg.out]
        go_wp2
        exact bodyPost_ret (v := stepV false 0 0 0 0 0) (by simp [results, Try.results27, go_sem, r0, r1, r2, r3, r4]; rfl) rfl ⟨rfl, by repeat' (first | (with_reducible refine below_drewN ?_ _) | go_grown)⟩
end Go.Proofs.Ytfkjlcmmmmjbkaa
