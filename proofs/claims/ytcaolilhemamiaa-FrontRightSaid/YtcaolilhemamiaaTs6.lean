import Derived.Test.YtcaolilhemamiaaTs4a
namespace Go.Proofs.Ytcaolilhemamiaa
open Go.RowKit
set_option linter.unusedVariables false
set_option linter.unusedSimpArgs false
attribute [local go_sem ↓] run_imax run_imin

def lexB (d c0 c1 c2 c3 e0 x0 x1 x2 x3 : Int) : Bool :=
  if 0 < imin d e0 ∧ c0 ≠ x0 then decide (c0 < x0) else if 1 < imin d e0 ∧ c1 ≠ x1 then decide (c1 < x1) else if 2 < imin d e0 ∧ c2 ≠ x2 then decide (c2 < x2) else if 3 < imin d e0 ∧ c3 ≠ x3 then decide (c3 < x3) else decide (d < e0)
def lessB (d c0 c1 c2 c3 e0 x0 x1 x2 x3 : Int) : Bool := rightB d c0 c1 c2 c3 && rightB e0 x0 x1 x2 x3 && lexB d c0 c1 c2 c3 e0 x0 x1 x2 x3
theorem imin_le (d e : Int) (h : d ≤ 4) : imin d e ≤ 4 := by unfold imin; split <;> omega

set_option maxHeartbeats 4000000 in
theorem less_any (d c0 c1 c2 c3 e0 x0 x1 x2 x3 : Int) (w : World) :
    Calls Try.prog 57 #[.agg #[.int .i64 d, .int .i64 c0, .int .i64 c1, .int .i64 c2, .int .i64 c3], .agg #[.int .i64 e0, .int .i64 x0, .int .i64 x1, .int .i64 x2, .int .i64 x3]] w (Ret (.bool (lessB d c0 c1 c2 c3 e0 x0 x1 x2 x3)) w) := by
  cases hp : rightB d c0 c1 c2 c3
  · have he : lessB d c0 c1 c2 c3 e0 x0 x1 x2 x3 = false := by simp [lessB, hp]
    rw [he]; clear he
    go_enter Try.func57, Try.ntmps57
    go_wp2_with fail
    refine (right_any _ _ _ _ _ _).mono ?_
    rintro e w1 ⟨rfl, hb1⟩
    have hz := hb1.size
    have hB := bcall (B := w.heap.size) (a := w) (by go_grown) hb1 (by go_size)
    have hP := ((Own5.new w (.int .i64 d) (.int .i64 c0) (.int .i64 c1) (.int .i64 c2) (.int .i64 c3) 26).alloc _ (by go_size)).below hb1 (by go_size)
    have hA := (Own5.new _ (.int .i64 e0) (.int .i64 x0) (.int .i64 x1) (.int .i64 x2) (.int .i64 x3) 26).below hb1 (by go_size)
    obtain ⟨p0, p1, p2, p3, p4, q0, q1, q2, q3, q4⟩ := hP
    obtain ⟨a0, a1, a2, a3, a4, b0, b1, b2, b3, b4⟩ := hA
    simp only [World.size_alloc] at *
    clear hb1
    go_wp2
    go_returns
    exact ⟨rfl, by repeat' (first | (with_reducible refine below_drewN ?_ _) | go_grown)⟩
  · cases hp2 : rightB e0 x0 x1 x2 x3
    · have he : lessB d c0 c1 c2 c3 e0 x0 x1 x2 x3 = false := by simp [lessB, hp2]
      rw [he]; clear he
      go_enter Try.func57, Try.ntmps57
      go_wp2_with fail
      refine (right_any _ _ _ _ _ _).mono ?_
      rintro e w1 ⟨rfl, hb1⟩
      have hz := hb1.size
      have hB := bcall (B := w.heap.size) (a := w) (by go_grown) hb1 (by go_size)
      have hP := ((Own5.new w (.int .i64 d) (.int .i64 c0) (.int .i64 c1) (.int .i64 c2) (.int .i64 c3) 26).alloc _ (by go_size)).below hb1 (by go_size)
      have hA := (Own5.new _ (.int .i64 e0) (.int .i64 x0) (.int .i64 x1) (.int .i64 x2) (.int .i64 x3) 26).below hb1 (by go_size)
      obtain ⟨p0, p1, p2, p3, p4, q0, q1, q2, q3, q4⟩ := hP
      obtain ⟨a0, a1, a2, a3, a4, b0, b1, b2, b3, b4⟩ := hA
      simp only [World.size_alloc] at *
      clear hb1
      go_wp2_with fail
      refine (right_any _ _ _ _ _ _).mono ?_
      rintro e w2 ⟨rfl, hb2⟩
      have hB2 := bcall hB hb2 hB.size
      have hP2 := (Own5.mk p0 p1 p2 p3 p4 q0 q1 q2 q3 q4).below hb2 (by omega)
      have hA2 := (Own5.mk a0 a1 a2 a3 a4 b0 b1 b2 b3 b4).below hb2 (by omega)
      clear p0 p1 p2 p3 p4 q0 q1 q2 q3 q4 a0 a1 a2 a3 a4 b0 b1 b2 b3 b4 hb2 hB hz
      obtain ⟨p0, p1, p2, p3, p4, q0, q1, q2, q3, q4⟩ := hP2
      obtain ⟨a0, a1, a2, a3, a4, b0, b1, b2, b3, b4⟩ := hA2
      go_wp2
      go_returns
      exact ⟨rfl, by repeat' (first | (with_reducible refine below_drewN ?_ _) | go_grown)⟩
    · have he : lessB d c0 c1 c2 c3 e0 x0 x1 x2 x3 = lexB d c0 c1 c2 c3 e0 x0 x1 x2 x3 := by simp [lessB, hp2, hp]
      rw [he]; clear he
      have hm : imin d e0 ≤ 4 := imin_le d e0 (right_of hp).2.1
      go_enter Try.func57, Try.ntmps57
      go_wp2_with fail
      refine (right_any _ _ _ _ _ _).mono ?_
      rintro e w1 ⟨rfl, hb1⟩
      have hz := hb1.size
      have hB := bcall (B := w.heap.size) (a := w) (by go_grown) hb1 (by go_size)
      have hP := ((Own5.new w (.int .i64 d) (.int .i64 c0) (.int .i64 c1) (.int .i64 c2) (.int .i64 c3) 26).alloc _ (by go_size)).below hb1 (by go_size)
      have hA := (Own5.new _ (.int .i64 e0) (.int .i64 x0) (.int .i64 x1) (.int .i64 x2) (.int .i64 x3) 26).below hb1 (by go_size)
      obtain ⟨p0, p1, p2, p3, p4, q0, q1, q2, q3, q4⟩ := hP
      obtain ⟨a0, a1, a2, a3, a4, b0, b1, b2, b3, b4⟩ := hA
      simp only [World.size_alloc] at *
      clear hb1
      go_wp2_with fail
      refine (right_any _ _ _ _ _ _).mono ?_
      rintro e w2 ⟨rfl, hb2⟩
      have hB2 := bcall hB hb2 hB.size
      have hP2 := (Own5.mk p0 p1 p2 p3 p4 q0 q1 q2 q3 q4).below hb2 (by omega)
      have hA2 := (Own5.mk a0 a1 a2 a3 a4 b0 b1 b2 b3 b4).below hb2 (by omega)
      clear p0 p1 p2 p3 p4 q0 q1 q2 q3 q4 a0 a1 a2 a3 a4 b0 b1 b2 b3 b4 hb2 hB hz
      obtain ⟨p0, p1, p2, p3, p4, q0, q1, q2, q3, q4⟩ := hP2
      obtain ⟨a0, a1, a2, a3, a4, b0, b1, b2, b3, b4⟩ := hA2
      go_wp2
      refine wp_loop_rounds 5 ?_
      by_cases hk0 : 0 < imin d e0
      · by_cases he0 : c0 = x0
        · have hn0 : (c0 != x0) = false := by simp [he0]
          have He0 := Lib.hid he0; clear he0
          rw [rounds_succ]; go_wp2
          go_quiet (fail)
          go_wp2
          by_cases hk1 : 1 < imin d e0
          · by_cases he1 : c1 = x1
            · have hn1 : (c1 != x1) = false := by simp [he1]
              have He1 := Lib.hid he1; clear he1
              rw [rounds_succ]; go_wp2
              go_quiet (fail)
              go_wp2
              by_cases hk2 : 2 < imin d e0
              · by_cases he2 : c2 = x2
                · have hn2 : (c2 != x2) = false := by simp [he2]
                  have He2 := Lib.hid he2; clear he2
                  rw [rounds_succ]; go_wp2
                  go_quiet (fail)
                  go_wp2
                  by_cases hk3 : 3 < imin d e0
                  · by_cases he3 : c3 = x3
                    · have hn3 : (c3 != x3) = false := by simp [he3]
                      have He3 := Lib.hid he3; clear he3
                      rw [rounds_succ]; go_wp2
                      go_quiet (fail)
                      go_wp2
                      rw [rounds_succ]; go_wp2
                      go_returns
                      exact ⟨ret_bool (by unfold lexB; rw [if_neg (fun h => h.2 (by simpa using hn0)), if_neg (fun h => h.2 (by simpa using hn1)), if_neg (fun h => h.2 (by simpa using hn2)), if_neg (fun h => h.2 (by simpa using hn3))]), by repeat' (first | (with_reducible refine below_drewN ?_ _) | go_grown)⟩
                    · have hn3 : (c3 != x3) = true := by simp [he3]
                      rw [rounds_succ]; go_wp2
                      go_quiet (fail)
                      go_wp2
                      go_quiet (fail)
                      go_wp2
                      go_returns
                      exact ⟨ret_bool (by unfold lexB; rw [if_neg (fun h => h.2 (by simpa using hn0)), if_neg (fun h => h.2 (by simpa using hn1)), if_neg (fun h => h.2 (by simpa using hn2)), if_pos ⟨hk3, by simpa using hn3⟩]), by repeat' (first | (with_reducible refine below_drewN ?_ _) | go_grown)⟩
                  · rw [rounds_succ]; go_wp2
                    go_returns
                    exact ⟨ret_bool (by unfold lexB; rw [if_neg (fun h => h.2 (by simpa using hn0)), if_neg (fun h => h.2 (by simpa using hn1)), if_neg (fun h => h.2 (by simpa using hn2)), if_neg (fun h => absurd h.1 (by omega))]), by repeat' (first | (with_reducible refine below_drewN ?_ _) | go_grown)⟩
                · have hn2 : (c2 != x2) = true := by simp [he2]
                  rw [rounds_succ]; go_wp2
                  go_quiet (fail)
                  go_wp2
                  go_quiet (fail)
                  go_wp2
                  go_returns
                  exact ⟨ret_bool (by unfold lexB; rw [if_neg (fun h => h.2 (by simpa using hn0)), if_neg (fun h => h.2 (by simpa using hn1)), if_pos ⟨hk2, by simpa using hn2⟩]), by repeat' (first | (with_reducible refine below_drewN ?_ _) | go_grown)⟩
              · rw [rounds_succ]; go_wp2
                go_returns
                exact ⟨ret_bool (by unfold lexB; rw [if_neg (fun h => h.2 (by simpa using hn0)), if_neg (fun h => h.2 (by simpa using hn1)), if_neg (fun h => absurd h.1 (by omega)), if_neg (fun h => absurd h.1 (by omega))]), by repeat' (first | (with_reducible refine below_drewN ?_ _) | go_grown)⟩
            · have hn1 : (c1 != x1) = true := by simp [he1]
              rw [rounds_succ]; go_wp2
              go_quiet (fail)
              go_wp2
              go_quiet (fail)
              go_wp2
              go_returns
              exact ⟨ret_bool (by unfold lexB; rw [if_neg (fun h => h.2 (by simpa using hn0)), if_pos ⟨hk1, by simpa using hn1⟩]), by repeat' (first | (with_reducible refine below_drewN ?_ _) | go_grown)⟩
          · rw [rounds_succ]; go_wp2
            go_returns
            exact ⟨ret_bool (by unfold lexB; rw [if_neg (fun h => h.2 (by simpa using hn0)), if_neg (fun h => absurd h.1 (by omega)), if_neg (fun h => absurd h.1 (by omega)), if_neg (fun h => absurd h.1 (by omega))]), by repeat' (first | (with_reducible refine below_drewN ?_ _) | go_grown)⟩
        · have hn0 : (c0 != x0) = true := by simp [he0]
          rw [rounds_succ]; go_wp2
          go_quiet (fail)
          go_wp2
          go_quiet (fail)
          go_wp2
          go_returns
          exact ⟨ret_bool (by unfold lexB; rw [if_pos ⟨hk0, by simpa using hn0⟩]), by repeat' (first | (with_reducible refine below_drewN ?_ _) | go_grown)⟩
      · rw [rounds_succ]; go_wp2
        go_returns
        exact ⟨ret_bool (by unfold lexB; rw [if_neg (fun h => absurd h.1 (by omega)), if_neg (fun h => absurd h.1 (by omega)), if_neg (fun h => absurd h.1 (by omega)), if_neg (fun h => absurd h.1 (by omega))]), by repeat' (first | (with_reducible refine below_drewN ?_ _) | go_grown)⟩
end Go.Proofs.Ytcaolilhemamiaa
