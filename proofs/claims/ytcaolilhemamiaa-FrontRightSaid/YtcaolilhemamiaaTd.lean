import Derived.Test.YtcaolilhemamiaaTs6
import Derived.Test.YtcaolilhemamiaaRx
namespace Go.Proofs.Ytcaolilhemamiaa
open Go.RowKit
set_option linter.unusedVariables false
set_option linter.unusedSimpArgs false
attribute [local go_sem ↓] run_imax run_imin

/-- the call returns the value v, old memory is as it was, and draws are not taken back -/
def RetD (v : Value) (w : World) (e : Ending) (w' : World) : Prop := e = .returned v ∧ Below w.heap.size w w' ∧ w.drawn ≤ w'.drawn
theorem RetD.ret {v : Value} {w : World} {e : Ending} {w' : World} (h : RetD v w e w') : Ret v w e w' := ⟨h.1, h.2.1⟩
theorem drawn_alloc (w : World) (o : Obj) : (w.alloc o).drawn = w.drawn := rfl
theorem drawn_drew (w : World) : w.drew.drawn = w.drawn + 1 := rfl
theorem drawn_drewN (w : World) (n : Nat) : (w.drewN n).drawn = w.drawn + n := rfl
theorem drawn_setCell (w : World) (a : Addr) (v : Value) : (w.setCell a v).drawn = w.drawn := rfl
theorem ret_boolD {a b : Bool} {w w' : World} (h : a = b) (hb : Below w.heap.size w w') (hd : w.drawn ≤ w'.drawn) : RetD (.bool b) w (.returned (.bool a)) w' := ⟨by rw [h], hb, hd⟩

set_option maxHeartbeats 4000000 in
theorem less_drawn (d c0 c1 c2 c3 e0 x0 x1 x2 x3 : Int) (w : World) :
    Calls Try.prog 57 #[.agg #[.int .i64 d, .int .i64 c0, .int .i64 c1, .int .i64 c2, .int .i64 c3], .agg #[.int .i64 e0, .int .i64 x0, .int .i64 x1, .int .i64 x2, .int .i64 x3]] w (RetD (.bool (lessB d c0 c1 c2 c3 e0 x0 x1 x2 x3)) w) := by
  cases hp : rightB d c0 c1 c2 c3
  · have he : lessB d c0 c1 c2 c3 e0 x0 x1 x2 x3 = false := by simp [lessB, hp]
    rw [he]; clear he
    go_enter Try.func57, Try.ntmps57
    go_wp2_with fail
    refine (right_exact _ _ _ _ _ _).mono ?_
    rintro e w1 ⟨rfl, rfl⟩
    go_wp2
    go_returns
    exact ret_boolD rfl (by repeat' (first | (with_reducible refine below_drewN ?_ _) | go_grown)) (by simp only [drawn_alloc, drawn_drew, drawn_drewN]; omega)
  · cases hp2 : rightB e0 x0 x1 x2 x3
    · have he : lessB d c0 c1 c2 c3 e0 x0 x1 x2 x3 = false := by simp [lessB, hp2]
      rw [he]; clear he
      go_enter Try.func57, Try.ntmps57
      go_wp2_with fail
      refine (right_exact _ _ _ _ _ _).mono ?_
      rintro e w1 ⟨rfl, rfl⟩
      go_wp2_with fail
      refine (right_exact _ _ _ _ _ _).mono ?_
      rintro e w2 ⟨rfl, rfl⟩
      go_wp2
      go_returns
      exact ret_boolD rfl (by repeat' (first | (with_reducible refine below_drewN ?_ _) | go_grown)) (by simp only [drawn_alloc, drawn_drew, drawn_drewN]; omega)
    · have he : lessB d c0 c1 c2 c3 e0 x0 x1 x2 x3 = lexB d c0 c1 c2 c3 e0 x0 x1 x2 x3 := by simp [lessB, hp2, hp]
      rw [he]; clear he
      have hm : imin d e0 ≤ 4 := imin_le d e0 (right_of hp).2.1
      go_enter Try.func57, Try.ntmps57
      go_wp2_with fail
      refine (right_exact _ _ _ _ _ _).mono ?_
      rintro e w1 ⟨rfl, rfl⟩
      go_wp2_with fail
      refine (right_exact _ _ _ _ _ _).mono ?_
      rintro e w2 ⟨rfl, rfl⟩
      go_wp2
      refine wp_loop_rounds 5 ?_
      by_cases hk0 : 0 < imin d e0
      · by_cases he0 : c0 = x0
        · have hn0 : (c0 != x0) = false := by simp [he0]
          have He0 := Lib.hid he0; clear he0
          rw [rounds_succ]; go_wp2
          go_quiet (fail)
          go_wp2
          by_cases hk1 : 1 < imin d e0
          · by_cases he1 : c1 = x1
            · have hn1 : (c1 != x1) = false := by simp [he1]
              have He1 := Lib.hid he1; clear he1
              rw [rounds_succ]; go_wp2
              go_quiet (fail)
              go_wp2
              by_cases hk2 : 2 < imin d e0
              · by_cases he2 : c2 = x2
                · have hn2 : (c2 != x2) = false := by simp [he2]
                  have He2 := Lib.hid he2; clear he2
                  rw [rounds_succ]; go_wp2
                  go_quiet (fail)
                  go_wp2
                  by_cases hk3 : 3 < imin d e0
                  · by_cases he3 : c3 = x3
                    · have hn3 : (c3 != x3) = false := by simp [he3]
                      have He3 := Lib.hid he3; clear he3
                      rw [rounds_succ]; go_wp2
                      go_quiet (fail)
                      go_wp2
                      rw [rounds_succ]; go_wp2
                      go_returns
                      exact ret_boolD (by unfold lexB; rw [if_neg (fun h => h.2 (by simpa using hn0)), if_neg (fun h => h.2 (by simpa using hn1)), if_neg (fun h => h.2 (by simpa using hn2)), if_neg (fun h => h.2 (by simpa using hn3))]) (by repeat' (first | (with_reducible refine below_drewN ?_ _) | go_grown)) (by simp only [drawn_alloc, drawn_drew, drawn_drewN]; omega)
                    · have hn3 : (c3 != x3) = true := by simp [he3]
                      rw [rounds_succ]; go_wp2
                      go_quiet (fail)
                      go_wp2
                      go_quiet (fail)
                      go_wp2
                      go_returns
                      exact ret_boolD (by unfold lexB; rw [if_neg (fun h => h.2 (by simpa using hn0)), if_neg (fun h => h.2 (by simpa using hn1)), if_neg (fun h => h.2 (by simpa using hn2)), if_pos ⟨hk3, by simpa using hn3⟩]) (by repeat' (first | (with_reducible refine below_drewN ?_ _) | go_grown)) (by simp only [drawn_alloc, drawn_drew, drawn_drewN]; omega)
                  · rw [rounds_succ]; go_wp2
                    go_returns
                    exact ret_boolD (by unfold lexB; rw [if_neg (fun h => h.2 (by simpa using hn0)), if_neg (fun h => h.2 (by simpa using hn1)), if_neg (fun h => h.2 (by simpa using hn2)), if_neg (fun h => absurd h.1 (by omega))]) (by repeat' (first | (with_reducible refine below_drewN ?_ _) | go_grown)) (by simp only [drawn_alloc, drawn_drew, drawn_drewN]; omega)
                · have hn2 : (c2 != x2) = true := by simp [he2]
                  rw [rounds_succ]; go_wp2
                  go_quiet (fail)
                  go_wp2
                  go_quiet (fail)
                  go_wp2
                  go_returns
                  exact ret_boolD (by unfold lexB; rw [if_neg (fun h => h.2 (by simpa using hn0)), if_neg (fun h => h.2 (by simpa using hn1)), if_pos ⟨hk2, by simpa using hn2⟩]) (by repeat' (first | (with_reducible refine below_drewN ?_ _) | go_grown)) (by simp only [drawn_alloc, drawn_drew, drawn_drewN]; omega)
              · rw [rounds_succ]; go_wp2
                go_returns
                exact ret_boolD (by unfold lexB; rw [if_neg (fun h => h.2 (by simpa using hn0)), if_neg (fun h => h.2 (by simpa using hn1)), if_neg (fun h => absurd h.1 (by omega)), if_neg (fun h => absurd h.1 (by omega))]) (by repeat' (first | (with_reducible refine below_drewN ?_ _) | go_grown)) (by simp only [drawn_alloc, drawn_drew, drawn_drewN]; omega)
            · have hn1 : (c1 != x1) = true := by simp [he1]
              rw [rounds_succ]; go_wp2
              go_quiet (fail)
              go_wp2
              go_quiet (fail)
              go_wp2
              go_returns
              exact ret_boolD (by unfold lexB; rw [if_neg (fun h => h.2 (by simpa using hn0)), if_pos ⟨hk1, by simpa using hn1⟩]) (by repeat' (first | (with_reducible refine below_drewN ?_ _) | go_grown)) (by simp only [drawn_alloc, drawn_drew, drawn_drewN]; omega)
          · rw [rounds_succ]; go_wp2
            go_returns
            exact ret_boolD (by unfold lexB; rw [if_neg (fun h => h.2 (by simpa using hn0)), if_neg (fun h => absurd h.1 (by omega)), if_neg (fun h => absurd h.1 (by omega)), if_neg (fun h => absurd h.1 (by omega))]) (by repeat' (first | (with_reducible refine below_drewN ?_ _) | go_grown)) (by simp only [drawn_alloc, drawn_drew, drawn_drewN]; omega)
        · have hn0 : (c0 != x0) = true := by simp [he0]
          rw [rounds_succ]; go_wp2
          go_quiet (fail)
          go_wp2
          go_quiet (fail)
          go_wp2
          go_returns
          exact ret_boolD (by unfold lexB; rw [if_pos ⟨hk0, by simpa using hn0⟩]) (by repeat' (first | (with_reducible refine below_drewN ?_ _) | go_grown)) (by simp only [drawn_alloc, drawn_drew, drawn_drewN]; omega)
      · rw [rounds_succ]; go_wp2
        go_returns
        exact ret_boolD (by unfold lexB; rw [if_neg (fun h => absurd h.1 (by omega)), if_neg (fun h => absurd h.1 (by omega)), if_neg (fun h => absurd h.1 (by omega)), if_neg (fun h => absurd h.1 (by omega))]) (by repeat' (first | (with_reducible refine below_drewN ?_ _) | go_grown)) (by simp only [drawn_alloc, drawn_drew, drawn_drewN]; omega)
end Go.Proofs.Ytcaolilhemamiaa
