/- the program's own reckon -/
import Derived.Test.YtcflfakffeglgaaQk
namespace Go.Proofs.Ytcflfakffeglgaa
open Go.RowKit
set_option linter.unusedVariables false
set_option linter.unusedSimpArgs false

set_option maxHeartbeats 8000000 in
theorem preckon4 (a b : Int) (ha : inR a) (hb : inR b) (w : World) : Calls Try.prog 26 #[.int .i64 4, .int .i64 a, .int .i64 b] w (RetN (ofV2 (ofN 4 a b)) w) := by
  have hV : ofN 4 a b = roomN (a + b) := rfl
  rw [hV]
  clear hV
  have HC : Hid (∀ W, Calls Try.prog 27 #[.int .i64 a, .int .i64 b] W (RetN (wV (a + b)) W)) := fun W => (psum_any a b ha hb W).mono fun _ _ h => h.n
  by_cases hr : inR (a + b)
  · rw [roomN_in hr]
    unfold wV at HC
    rw [wrap_in hr, decide_eq_true hr] at HC
    clear hr ha hb
    cases hb0 : (b == 0)
    all_goals
      go_enter Try.func26, Try.ntmps26
      go_wp2_with fail
      refine (HC.out _).mono ?_
      rintro e w1 ⟨rfl, nd, rfl⟩
      go_wp2
      all_goals go_returns
      all_goals exact ⟨rfl, _, rfl⟩
  · rw [roomN_out hr]
    unfold wV at HC
    rw [decide_eq_false hr] at HC
    generalize wrap64 (a + b) = z at *
    clear hr ha hb
    cases hb0 : (b == 0)
    all_goals
      go_enter Try.func26, Try.ntmps26
      go_wp2_with fail
      refine (HC.out _).mono ?_
      rintro e w1 ⟨rfl, nd, rfl⟩
      go_wp2
      all_goals go_returns
      all_goals exact ⟨rfl, _, rfl⟩
set_option maxHeartbeats 8000000 in
theorem preckon5 (a b : Int) (ha : inR a) (hb : inR b) (w : World) : Calls Try.prog 26 #[.int .i64 5, .int .i64 a, .int .i64 b] w (RetN (ofV2 (ofN 5 a b)) w) := by
  have hV : ofN 5 a b = roomN (a - b) := rfl
  rw [hV]
  clear hV
  have HC : Hid (∀ W, Calls Try.prog 28 #[.int .i64 a, .int .i64 b] W (RetN (wV (a - b)) W)) := fun W => (pdifference_any a b ha hb W).mono fun _ _ h => h.n
  by_cases hr : inR (a - b)
  · rw [roomN_in hr]
    unfold wV at HC
    rw [wrap_in hr, decide_eq_true hr] at HC
    clear hr ha hb
    cases hb0 : (b == 0)
    all_goals
      go_enter Try.func26, Try.ntmps26
      go_wp2_with fail
      refine (HC.out _).mono ?_
      rintro e w1 ⟨rfl, nd, rfl⟩
      go_wp2
      all_goals go_returns
      all_goals exact ⟨rfl, _, rfl⟩
  · rw [roomN_out hr]
    unfold wV at HC
    rw [decide_eq_false hr] at HC
    generalize wrap64 (a - b) = z at *
    clear hr ha hb
    cases hb0 : (b == 0)
    all_goals
      go_enter Try.func26, Try.ntmps26
      go_wp2_with fail
      refine (HC.out _).mono ?_
      rintro e w1 ⟨rfl, nd, rfl⟩
      go_wp2
      all_goals go_returns
      all_goals exact ⟨rfl, _, rfl⟩
set_option maxHeartbeats 8000000 in
theorem preckon6 (a b : Int) (ha : inR a) (hb : inR b) (w : World) : Calls Try.prog 26 #[.int .i64 6, .int .i64 a, .int .i64 b] w (RetN (ofV2 (ofN 6 a b)) w) := by
  have hV : ofN 6 a b = roomN (a * b) := rfl
  rw [hV]
  clear hV
  have HC : Hid (∀ W, Calls Try.prog 29 #[.int .i64 a, .int .i64 b] W (RetN (wV (a * b)) W)) := fun W => pproduct_any a b ha hb W
  by_cases hr : inR (a * b)
  · rw [roomN_in hr]
    unfold wV at HC
    rw [wrap_in hr, decide_eq_true hr] at HC
    clear hr ha hb
    cases hb0 : (b == 0)
    all_goals
      go_enter Try.func26, Try.ntmps26
      go_wp2_with fail
      refine (HC.out _).mono ?_
      rintro e w1 ⟨rfl, nd, rfl⟩
      go_wp2
      all_goals go_returns
      all_goals exact ⟨rfl, _, rfl⟩
  · rw [roomN_out hr]
    unfold wV at HC
    rw [decide_eq_false hr] at HC
    generalize wrap64 (a * b) = z at *
    clear hr ha hb
    cases hb0 : (b == 0)
    all_goals
      go_enter Try.func26, Try.ntmps26
      go_wp2_with fail
      refine (HC.out _).mono ?_
      rintro e w1 ⟨rfl, nd, rfl⟩
      go_wp2
      all_goals go_returns
      all_goals exact ⟨rfl, _, rfl⟩
set_option maxHeartbeats 8000000 in
theorem preckon7 (a b : Int) (ha : inR a) (hb : inR b) (w : World) : Calls Try.prog 26 #[.int .i64 7, .int .i64 a, .int .i64 b] w (RetN (ofV2 (ofN 7 a b)) w) := by
  have hV : ofN 7 a b = if b = 0 then (0, 3) else roomN (a.tdiv b) := rfl
  rw [hV]
  clear hV
  by_cases hz : b = 0
  · subst hz
    rw [if_pos rfl]
    clear ha hb
    go_enter Try.func26, Try.ntmps26
    go_wp2
    all_goals go_returns
    all_goals exact ⟨rfl, 0, rfl⟩
  · rw [if_neg hz]
    have h0 := hz
    have hzb : (b == 0) = false := by simpa using hz
    have HC : Hid (∀ W, Calls Try.prog 30 #[.int .i64 a, .int .i64 b] W (RetN (wV (a.tdiv b)) W)) := fun W => (pquotient_any a b ha hb h0 W).mono fun _ _ h => h.n
    by_cases hr : inR (a.tdiv b)
    · rw [roomN_in hr]
      unfold wV at HC
      rw [wrap_in hr, decide_eq_true hr] at HC
      clear hr ha hb h0 hz
      skip
      all_goals
        go_enter Try.func26, Try.ntmps26
        go_wp2_with fail
        refine (HC.out _).mono ?_
        rintro e w1 ⟨rfl, nd, rfl⟩
        go_wp2
        all_goals go_returns
        all_goals exact ⟨rfl, _, rfl⟩
    · rw [roomN_out hr]
      unfold wV at HC
      rw [decide_eq_false hr] at HC
      generalize wrap64 (a.tdiv b) = z at *
      clear hr ha hb h0 hz
      skip
      all_goals
        go_enter Try.func26, Try.ntmps26
        go_wp2_with fail
        refine (HC.out _).mono ?_
        rintro e w1 ⟨rfl, nd, rfl⟩
        go_wp2
        all_goals go_returns
        all_goals exact ⟨rfl, _, rfl⟩
set_option maxHeartbeats 8000000 in
theorem preckon8 (a b : Int) (ha : inR a) (hb : inR b) (w : World) : Calls Try.prog 26 #[.int .i64 8, .int .i64 a, .int .i64 b] w (RetN (ofV2 (ofN 8 a b)) w) := by
  have hV : ofN 8 a b = if b = 0 then (0, 3) else (a.tmod b, 0) := rfl
  rw [hV]
  clear hV
  by_cases hz : b = 0
  · subst hz
    rw [if_pos rfl]
    clear ha hb
    go_enter Try.func26, Try.ntmps26
    go_wp2
    all_goals go_returns
    all_goals exact ⟨rfl, 0, rfl⟩
  · rw [if_neg hz]
    have hzb : (b == 0) = false := by simpa using hz
    have hw : wrap64 (a.tmod b) = a.tmod b := wrap_in (tmod_in ha hz)
    have HW := Lib.hid hw
    go_enter Try.func26, Try.ntmps26
    by_cases hb1 : b = -1
    · subst hb1
      rw [show a.tmod (-1) = 0 by rw [Int.tmod_neg, Int.tmod_one]]
      clear hw ha hb hz HW
      go_wp2
      all_goals go_returns
      all_goals exact ⟨rfl, 0, rfl⟩
    · have hbb : (b != -1) = true := by simpa using hb1
      have hbc : (b == -1) = false := by simpa using hb1
      clear hw ha hb
      go_wp2
      all_goals go_returns
      all_goals exact ⟨ret2i (by first | rfl | exact HW.out) rfl, 0, rfl⟩
set_option maxHeartbeats 8000000 in
theorem preckon9 (a b : Int) (ha : inR a) (hb : inR b) (w : World) : Calls Try.prog 26 #[.int .i64 9, .int .i64 a, .int .i64 b] w (RetN (ofV2 (ofN 9 a b)) w) := by
  have HC : Hid (∀ c W, Calls Try.prog 31 #[.bool c] W (RetW (.int .i64 (if c = true then 1 else 0)) W)) := fun c W => pnumber_any c W
  have hV : ofN 9 a b = ((if a < b then 1 else 0), 0) := rfl
  rw [hV]
  clear hV ha hb
  by_cases hlt : a < b
  · rw [if_pos hlt]
    have hd : decide (a < b) = true := decide_eq_true hlt
    clear hlt
    cases hb0 : (b == 0)
    all_goals
      go_enter Try.func26, Try.ntmps26
      go_wp2_with fail
      refine (HC.out _ _).mono ?_
      rintro e w1 ⟨rfl, rfl⟩
      go_wp2
      all_goals go_returns
      all_goals exact ⟨rfl, 0, rfl⟩
  · rw [if_neg hlt]
    have hd : decide (a < b) = false := decide_eq_false hlt
    clear hlt
    cases hb0 : (b == 0)
    all_goals
      go_enter Try.func26, Try.ntmps26
      go_wp2_with fail
      refine (HC.out _ _).mono ?_
      rintro e w1 ⟨rfl, rfl⟩
      go_wp2
      all_goals go_returns
      all_goals exact ⟨rfl, 0, rfl⟩
set_option maxHeartbeats 8000000 in
theorem preckon10 (a b : Int) (ha : inR a) (hb : inR b) (w : World) : Calls Try.prog 26 #[.int .i64 10, .int .i64 a, .int .i64 b] w (RetN (ofV2 (ofN 10 a b)) w) := by
  have HC : Hid (∀ c W, Calls Try.prog 31 #[.bool c] W (RetW (.int .i64 (if c = true then 1 else 0)) W)) := fun c W => pnumber_any c W
  have hV : ofN 10 a b = ((if a = b then 1 else 0), 0) := rfl
  rw [hV]
  clear hV ha hb
  by_cases hlt : a = b
  · rw [if_pos hlt]
    have hd : (a == b) = true := by simpa using hlt
    clear hlt
    cases hb0 : (b == 0)
    all_goals
      go_enter Try.func26, Try.ntmps26
      go_wp2_with fail
      refine (HC.out _ _).mono ?_
      rintro e w1 ⟨rfl, rfl⟩
      go_wp2
      all_goals go_returns
      all_goals exact ⟨rfl, 0, rfl⟩
  · rw [if_neg hlt]
    have hd : (a == b) = false := by simpa using hlt
    clear hlt
    cases hb0 : (b == 0)
    all_goals
      go_enter Try.func26, Try.ntmps26
      go_wp2_with fail
      refine (HC.out _ _).mono ?_
      rintro e w1 ⟨rfl, rfl⟩
      go_wp2
      all_goals go_returns
      all_goals exact ⟨rfl, 0, rfl⟩
theorem preckon_any (op a b : Int) (h4 : 4 ≤ op) (h10 : op ≤ 10) (ha : inR a) (hb : inR b) (w : World) : Calls Try.prog 26 #[.int .i64 op, .int .i64 a, .int .i64 b] w (RetN (ofV2 (ofN op a b)) w) := by
  rcases (by omega : op = 4 ∨ op = 5 ∨ op = 6 ∨ op = 7 ∨ op = 8 ∨ op = 9 ∨ op = 10) with rfl | rfl | rfl | rfl | rfl | rfl | rfl
  · exact preckon4 a b ha hb w
  · exact preckon5 a b ha hb w
  · exact preckon6 a b ha hb w
  · exact preckon7 a b ha hb w
  · exact preckon8 a b ha hb w
  · exact preckon9 a b ha hb w
  · exact preckon10 a b ha hb w
end Go.Proofs.Ytcflfakffeglgaa
